/- A line's first word, and the numbers behind it (drive.parse). -/
import Derived.Deep.DeepCutAuto
import Derived.Deep.RegionHeld3
import Derived.BigQuiet
import Derived.Test.YtikhedkhgpjaaacGreatDoorW24
import Derived.Test.YtikhedkhgpjaaacGreatDoorW01

namespace Go.Proofs.YtikhedkhgpjaaacGreatDoor
set_option linter.unusedVariables false
namespace form
open Go.RowKit
set_option maxRecDepth 100000
attribute [local go_sem ↓] Go.wp_at_zero Go.wp_at_succ
attribute [local go_sem] str_size str_list ByteArray.toList_mk
theorem infU32D : (Tryz.prog.info? 60).map (fun i => (i.zero, i.size, i.bytes)) = some (some (.int .u32 0), 1, 4) := by kernel_rfl
def NumsRow (base : Nat) (l : List Nat) (v : Value) (w : World) : Prop := w.ownsRow base 60 1 v l.length (l.map (fun x : Nat => Value.int .u32 (x : Int)))
def ParseP (s : List UInt8) (w : World) (e : Ending) (w' : World) : Prop :=
  (∃ (wd : List UInt8) (nv : Value) (kn : Bool), e = .returned (.tuple #[.string (str wd), nv, .bool kn]) ∧
    (kn = true → ∃ l, numsOf (splitL 32 s).tail = some l ∧ wd = (splitL 32 s).getD 0 [] ∧ mayL wd l.length = true ∧ NumsRow w.heap.size l nv w') ∧
    (kn = false → numsOf (splitL 32 s).tail = none ∨ ∃ l, numsOf (splitL 32 s).tail = some l ∧ mayL ((splitL 32 s).getD 0 []) l.length = false)) ∧ Below w.heap.size w w'
def RestL (more : Bool) (rest : List UInt8) : List (List UInt8) := if more = true then splitL 32 rest else []
theorem RestL_yes (rest : List UInt8) : RestL true rest = (cutL 32 rest).1 :: RestL (cutL 32 rest).2.2 (cutL 32 rest).2.1 := by
  unfold RestL
  rw [if_pos rfl, splitL_cut]
set_option maxHeartbeats 800000 in
theorem parseO (s : List UInt8) (hs : s.length ≤ 3000000) (w : World) (hv : VarOk w) : Calls Tryz.prog 14 #[.string (str s)] w fun e w' => ParseP s w e w' := by
  have HV : Hid (VarOk w) := hv
  have HS : Hid (splitL 32 s = (cutL 32 s).1 :: RestL (cutL 32 s).2.2 (cutL 32 s).2.1) := splitL_cut 32 s
  have HSL : Hid ((splitL 32 s).length ≤ s.length + 1) := splitL_len 32 s
  have hcl := cutL_len 32 s
  have HC0 : Hid (∀ w, Calls Tryz.prog 5 #[.string (str s), .string ⟨#[32]⟩] w fun e w' => e = .returned (.tuple #[.string (str (cutL 32 s).1), .string (str (cutL 32 s).2.1), .bool (cutL 32 s).2.2]) ∧ ∃ n, w' = w.drewN n) := fun w => cutO 32 s (by omega) w
  obtain ⟨wd, hwd⟩ : ∃ x, x = (cutL 32 s).1 := ⟨_, rfl⟩
  obtain ⟨r0, hr0⟩ : ∃ x, x = (cutL 32 s).2.1 := ⟨_, rfl⟩
  obtain ⟨m0, hm0⟩ : ∃ x, x = (cutL 32 s).2.2 := ⟨_, rfl⟩
  rw [← hwd, ← hr0, ← hm0] at HC0 HS
  rw [← hr0] at hcl
  have hr0l : r0.length ≤ 3000000 := by omega
  have HT : Hid ((splitL 32 s).tail = RestL m0 r0) := (by rw [HS.out]; rfl : (splitL 32 s).tail = RestL m0 r0)
  have HW0 : Hid ((splitL 32 s).getD 0 [] = wd) := (by rw [HS.out]; rfl : (splitL 32 s).getD 0 [] = wd)
  obtain ⟨T, hT⟩ : ∃ T, T = (splitL 32 s).tail := ⟨_, rfl⟩
  have HTL : Hid (T.length ≤ 3000000) := (by
    have := HSL.out
    rw [hT, List.length_tail]
    omega : T.length ≤ 3000000)
  have HTT : Hid (T = (splitL 32 s).tail) := hT
  rw [← hT] at HT
  clear hv hwd hr0 hm0 hcl HS HSL hT
  go_enter Tryz.func14, Tryz.ntmps14
  go_upto_region 2 with (go_at_call 5; refine (HC0.out _).mono ?_; rintro e w0 ⟨rfl, n0, hw0⟩; have HB0 : Hid (Below w.heap.size w w0) := hw0 ▸ drewN_belowD w n0; clear hw0)
  go_wp2
  go_loopg [2, 3, 4, 5, 6, 7, 8, 9] (r0.length + 2) (fun gg v2 v3 v4 v5 v6 v7 v8 v9 wr => ∃ (done : List (List UInt8)) (l : List Nat) (rest : List UInt8) (more : Bool), v2 = .string (str wd) ∧ v5 = .string (str rest) ∧ v6 = .bool more ∧ rest.length ≤ 3000000 ∧ (more = true → rest.length + 1 < gg) ∧ 0 < gg ∧ T = done ++ RestL more rest ∧ numsOf done = some l ∧ NumsRow w.heap.size l v3 wr ∧ Below w.heap.size w wr)
  case atStart => exact ⟨[], [], r0, m0, rfl, rfl, rfl, hr0l, fun _ => by omega, by omega, HT.out, rfl, World.ownsRow_nil _ _ _ _, HB0.out⟩
  case round =>
    obtain ⟨done, l, rest, more, rfl, rfl, rfl, hrl, hgg, hg0, hT, hnum, hrow, hbr⟩ := hrel
    have HGG : Hid (more = true → rest.length + 1 < gk) := hgg
    have HT2 : Hid (T = done ++ RestL more rest) := hT
    have HNUM : Hid (numsOf done = some l) := hnum
    have HROW : Hid (NumsRow w.heap.size l u3 wr) := hrow
    have HBR : Hid (Below w.heap.size w wr) := hbr
    have hwz := hbr.size
    have hll : l.length ≤ 3000000 := by
      have h1 := (numsOf_lt done l hnum).2
      have h2 := HTL.out
      rw [hT, List.length_append] at h2
      omega
    clear hgg hT hnum hrow hbr
    cases more with
    | false =>
      have HM : Hid (∀ w, Calls Tryz.prog 29 #[.string (str wd), .int .i64 (l.length : Int)] w fun e w' => e = .returned (.bool (mayL wd l.length)) ∧ w' = w) := fun w => mayFollowO wd l.length w
      obtain ⟨kn, hkn⟩ : ∃ z, z = mayL wd l.length := ⟨_, rfl⟩
      rw [← hkn] at HM
      have HKN : Hid (kn = mayL wd l.length) := hkn
      obtain ⟨ao, cap, rfl, hcap, -⟩ := row_form HROW.out
      clear hkn
      go_wp2_with (go_at_call 29; refine (HM.out _).mono ?_; rintro e w' ⟨rfl, rfl⟩)
      go_ret3
      have hTd : T = done := by rw [HT2.out]; simp [RestL]
      refine ⟨⟨wd, _, kn, rfl, fun h => ⟨l, ?_, HW0.out.symm, ?_, HROW.out⟩, fun h => Or.inr ⟨l, ?_, ?_⟩⟩, HBR.out⟩
      · rw [← HTT.out, hTd]; exact HNUM.out
      · rw [← HKN.out]; exact h
      · rw [← HTT.out, hTd]; exact HNUM.out
      · rw [HW0.out, ← HKN.out]; exact h
    | true =>
      have hgg := HGG.out rfl
      have HC : Hid (∀ w, Calls Tryz.prog 5 #[.string (str rest), .string ⟨#[32]⟩] w fun e w' => e = .returned (.tuple #[.string (str (cutL 32 rest).1), .string (str (cutL 32 rest).2.1), .bool (cutL 32 rest).2.2]) ∧ ∃ n, w' = w.drewN n) := fun w => cutO 32 rest (by omega) w
      have hcl := cutL_len 32 rest
      have hcs := cutL_short 32 rest
      have HR := RestL_yes rest
      obtain ⟨tx, htx⟩ : ∃ x, x = (cutL 32 rest).1 := ⟨_, rfl⟩
      obtain ⟨r1, hr1⟩ : ∃ x, x = (cutL 32 rest).2.1 := ⟨_, rfl⟩
      obtain ⟨m1, hm1⟩ : ∃ x, x = (cutL 32 rest).2.2 := ⟨_, rfl⟩
      rw [← htx, ← hr1, ← hm1] at HC HR
      rw [← htx, ← hr1] at hcl
      rw [← hr1, ← hm1] at hcs
      have hr1l : r1.length ≤ 3000000 := by omega
      have HCS : Hid (m1 = true → r1.length < rest.length) := hcs
      have HT3 : Hid (T = (done ++ [tx]) ++ RestL m1 r1) := (by rw [HT2.out, HR]; simp : T = (done ++ [tx]) ++ RestL m1 r1)
      have HN : Hid (∀ w, VarOk w → Calls Tryz.prog 28 #[.string (str tx)] w fun e w' => NumbP tx w e w') := fun w hv => numberO tx (by omega) w hv
      have hgs : r1.length + 1 ≤ rest.length + 1 := by omega
      clear htx hr1 hm1 hcl hcs HR HGG
      go_upto_region 6 with (first
        | (go_at_call 5; refine (HC.out _).mono ?_; rintro e w1 ⟨rfl, n1, hw1⟩; have HB1 : Hid (Below wr.heap.size wr w1) := hw1 ▸ drewN_belowD wr n1; clear hw1)
        | (go_at_call 28; refine (HN.out _ (HV.out.on (step_below HB1.out HBR.out))).mono ?_; rintro e w2 ⟨⟨x, ok, rfl, hx, hxk⟩, hb2⟩; have HB2 : Hid (Below wr.heap.size wr w2) := step_below hb2 HB1.out; have HXK : Hid (if ok = true then numL tx = some x else numL tx = none) := hxk; clear hb2 hxk))
      cases ok with
      | false =>
        go_wp2
        go_ret3
        refine ⟨⟨[], _, false, rfl, fun h => (by cases h), fun _ => Or.inl ?_⟩, step_below HB2.out HBR.out⟩
        have h1 : numL tx = none := HXK.out
        rw [← HTT.out, HT3.out, List.append_assoc]
        exact numsOf_bad done tx _ h1
      | true =>
        have h1 : numL tx = some x := HXK.out
        have HNX : Hid (numsOf (done ++ [tx]) = some (l ++ [x])) := numsOf_snoc done tx l x HNUM.out h1
        have hw2z := HB2.out.size
        have HR2 : Hid (NumsRow w.heap.size l u3 w2) := rowStr_below HROW.out HB2.out
        obtain ⟨t0', hi0, hy0, hy1, hy2⟩ := info_parts infU32D
        clear h1
        go_upto_region 2 with (at_builtin; refine wpList_append_lies _ rfl _ _ 28 rfl w.heap.size 60 t0' (.int .u32 0) 1 4 Tryz.underlying28 hi0 hy0 hy1 hy2 rfl (by decide) u3 l.length (l.map (fun x : Nat => Value.int .u32 (x : Int))) rfl (World.ownsRow.alloc HR2.out _) ⟨w2.heap.size, 0, none⟩ 1 1 [.int .u32 (x : Int)] rfl rfl (by intro j u hu; cases j with | zero => (simp at hu; subst hu; simp [go_sem, Addr.add]) | succ j => simp at hu) (by simp [Value.oneCell']) (by decide) ?c3 ?c4 ?c5 _ rfl ?_)
        case c3 => unfold maxLen; omega
        case c4 => omega
        case c5 => first | omega | (simp; omega)
        intro g9 cap9 w9 hown hgrow hat hlt9
        have HR9 : Hid (NumsRow w.heap.size (l ++ [x]) (.slice (some ⟨g9, 0, none⟩) (l.length + 1) cap9) w9) := (by unfold NumsRow; simpa using hown : NumsRow w.heap.size (l ++ [x]) (.slice (some ⟨g9, 0, none⟩) (l.length + 1) cap9) w9)
        have HB9 : Hid (Below w.heap.size w w9) := ((step_below HB2.out HBR.out).alloc (by omega) _).grown hgrow (by rw [size_alloc]; omega) (fun k e => (World.ownsRow.lt HR2.out k e).1)
        clear hown hgrow hat
        go_wp2
        go_roundg (rest.length + 1)
        case measure => omega
        case rel =>
          exact ⟨done ++ [tx], l ++ [x], r1, m1, rfl, rfl, rfl, hr1l, fun h => by have := HCS.out h; omega, by omega, HT3.out, HNX.out, HR9.out, HB9.out⟩
end form
/- A player in memory: what an answer leaves as it was (drive: addTemp). -/
namespace form
open Go.RowKit
set_option maxRecDepth 100000
attribute [local go_sem ↓] Go.wp_at_zero Go.wp_at_succ
attribute [local go_sem] str_size str_list ByteArray.toList_mk
structure OffP (q : Nat) (wv cv : Value) (w w' : World) : Prop where
  os : w'.os = w.os
  tape : w'.tape = w.tape
  output : w'.output = w.output
  size : w.heap.size ≤ w'.heap.size
  block : ∀ k, k < w.heap.size → k ≠ q → wv.ownBlock ≠ some k → cv.ownBlock ≠ some k → w'.heap[k]? = w.heap[k]?
theorem OffP.of_below {q : Nat} {wv cv : Value} {w w' : World} (h : Below w.heap.size w w') : OffP q wv cv w w' := ⟨h.os, h.tape, h.output, h.size, fun k hk _ _ _ => h.block k hk⟩
theorem OffP.later {q : Nat} {wv cv : Value} {w w1 w2 : World} (h : OffP q wv cv w w1) (hb : Below w1.heap.size w1 w2) : OffP q wv cv w w2 :=
  ⟨hb.os.trans h.os, hb.tape.trans h.tape, hb.output.trans h.output, Nat.le_trans h.size hb.size, fun k hk h1 h2 h3 => (hb.block k (Nat.lt_of_lt_of_le hk h.size)).trans (h.block k hk h1 h2 h3)⟩
theorem OffP.ahead {q : Nat} {wv cv : Value} {w w1 w2 : World} (hb : Below w.heap.size w w1) (h : OffP q wv cv w1 w2) : OffP q wv cv w w2 :=
  ⟨h.os.trans hb.os, h.tape.trans hb.tape, h.output.trans hb.output, Nat.le_trans hb.size h.size, fun k hk h1 h2 h3 => (h.block k (Nat.lt_of_lt_of_le hk hb.size) h1 h2 h3).trans (hb.block k hk)⟩
def PlT (q : Nat) (w : World) : Prop := ∃ cs fz, w.heap[q]? = some (.cells cs 30 fz)
theorem PlT.of {q : Nat} {w w' : World} (h : PlT q w) (he : w'.heap[q]? = w.heap[q]?) : PlT q w' := by
  obtain ⟨cs, fz, h⟩ := h
  exact ⟨cs, fz, by rw [he]; exact h⟩
theorem PlT.set {q : Nat} {w : World} (h : PlT q w) (j : Nat) (u : Value) : PlT q (w.setCell ⟨q, j, none⟩ u) := by
  obtain ⟨cs, fz, h⟩ := h
  exact ⟨cs.setIfInBounds j u, fz, by simp [World.setCell, Array.getElem?_modify, h]⟩
section
variable {base q : Nat} {g : PL} {wv cv iv : Value} {w w' : World}
theorem PlS.base_le (h : PlS base q g wv cv iv w) : base ≤ w.heap.size := by have := h.lo; have := h.lt; omega
theorem OffP.below (hP : PlS base q g wv cv iv w) (h : OffP q wv cv w w') : Below base w w' := by
  have hlt := hP.base_le
  refine ⟨h.os, h.tape, h.output, h.size, fun k hk => h.block k (by omega) ?_ (fun e => ?_) (fun e => ?_)⟩
  · have := hP.lo; omega
  · have := (World.ownsRow.lt hP.wide k e).1; omega
  · have := (World.ownsRow.lt hP.code k e).1; omega
end
def DrvAns (base q : Nat) (wv cv : Value) (r : PL × List UInt8) (w : World) (e : Ending) (w' : World) : Prop :=
  ∃ v xs wv' cv' iv', e = .returned v ∧ WordsAt w.heap.size xs v w' ∧ xs ≠ [] ∧ xs.length ≤ 2000000 ∧ joinW xs = r.2 ∧ PlS base q r.1 wv' cv' iv' w' ∧ OffP q wv cv w w' ∧ PlT q w'
theorem words_ok (n : Nat) : joinW [sOk, digitsL n] = saidL sOk [n] := by
  have := joinW_said [n] sOk []
  rw [joinW_one] at this
  exact this
theorem words_bad (n : Nat) : joinW [sBad, digitsL n] = saidL sBad [n] := by
  have := joinW_said [n] sBad []
  rw [joinW_one] at this
  exact this
theorem DrvAns.same {base q : Nat} {g : PL} {wv cv iv v : Value} {w w' : World} {xs : List (List UInt8)} {t : List UInt8} (hP : PlS base q g wv cv iv w) (hT : PlT q w) (hw : WordsAt w.heap.size xs v w') (hx : xs ≠ []) (hl : xs.length ≤ 2000000) (hj : joinW xs = t) (hb : Below w.heap.size w w') : DrvAns base q wv cv (g, t) w (.returned v) w' :=
  ⟨v, xs, wv, cv, iv, rfl, hw, hx, hl, hj, hP.below hb, OffP.of_below hb, hT.of (hb.block q hP.lt)⟩
theorem WordsAt.down {b0 b1 : Nat} {xs : List (List UInt8)} {v : Value} {w : World} (h : WordsAt b1 xs v w) (hb : b0 ≤ b1) : WordsAt b0 xs v w := row_mono h hb
theorem infBoolD : (Tryz.prog.info? 4).map (fun i => (i.zero, i.size, i.bytes)) = some (some (.bool false), 1, 1) := by kernel_rfl
set_option maxHeartbeats 1600000 in
theorem addTempO {base q : Nat} {g : PL} {wv cv iv : Value} {w : World} (hP : PlS base q g wv cv iv w) (hT : PlT q w) (hv : VarAt base w) (wd : Bool) (r : PL × List UInt8) (hr : r = if 12 ≤ g.wide.length then (g, sNo) else (⟨g.wide ++ [wd], g.code, g.ins⟩, saidL sOk [g.wide.length + 1])) :
    Calls Tryz.prog 16 #[.pointer (some ⟨q, 0, none⟩), .bool wd] w fun e w' => DrvAns base q wv cv r w e w' := by
  have HP : Hid (PlS base q g wv cv iv w) := hP
  have HT : Hid (PlT q w) := hT
  have HV : Hid (VarAt base w) := hv
  have hbase := hP.base_le
  have hqr := hP.lt
  have q0 := hP.c0
  have hbw := hP.bw
  have HRO : Hid (w.ownsRow base 4 1 wv g.wide.length (g.wide.map Value.bool)) := hP.wide
  obtain ⟨aW, kW, rfl, hkW, -⟩ := row_form hP.wide
  clear hP hT hv
  by_cases h12 : 12 ≤ g.wide.length
  · have hz : ((g.wide.length : Int) == 12) = true := by
      have : g.wide.length = 12 := by omega
      rw [this]; rfl
    have HA : Hid (r = (g, sNo)) := hr.trans (if_pos h12)
    have HR := refusalO w
    clear h12 hr
    go_enter Tryz.func16, Tryz.ntmps16
    go_wp2_with (go_at_call 15; refine HR.mono ?_; rintro e w1 ⟨v1, rfl, hw1, hb1⟩; have HW1 : Hid (WordsAt w.heap.size [sNo] v1 w1) := hw1; have HB1 : Hid (Below w.heap.size w w1) := hb1; clear hw1 hb1)
    go_ret
    rw [HA.out]
    exact (DrvAns.same HP.out HT.out HW1.out (by simp) (by simp) (joinW_one _) HB1.out)
  · have hz : ((g.wide.length : Int) == 12) = false := by
      have : ¬ (g.wide.length : Int) = 12 := by omega
      simp [this]
    have hlw : g.wide.length < 12 := by omega
    have HA : Hid (r = (⟨g.wide ++ [wd], g.code, g.ins⟩, saidL sOk [g.wide.length + 1])) := hr.trans (if_neg h12)
    have fz := HP.out.f0
    obtain ⟨t0', hi0, hy0, hy1, hy2⟩ := info_parts infBoolD
    clear h12 hr
    go_enter Tryz.func16, Tryz.ntmps16
    go_wp2_with (at_builtin; refine wpList_append_lies _ rfl _ _ 24 rfl base 4 t0' (.bool false) 1 1 Tryz.underlying24 hi0 hy0 hy1 hy2 rfl (by decide) (.slice aW g.wide.length kW) g.wide.length (g.wide.map Value.bool) rfl (World.ownsRow.alloc HRO.out _) ⟨w.heap.size, 0, none⟩ 1 1 [.bool wd] rfl rfl (World.news_of_block (cs := #[.bool wd]) (t := 4) (fr := (0, 0)) (by have := heap_alloc_new w (.cells #[.bool wd] 4); simpa using this)) (by simp [Value.oneCell']) (by decide) (by unfold maxLen; omega) (by omega) (by first | omega | (simp; omega)) _ rfl ?_)
    intro g9 cap9 w9 hown hgrow hat hlt9
    have hal := HP.out.below ((Below.refl _ _).alloc (Nat.le_refl _) (.cells #[.bool wd] 4))
    have hat2 : (Value.slice aW g.wide.length kW).ownBlock = some g9 ∨ g9 = (w.alloc (.cells #[.bool wd] 4)).heap.size := by simpa using hat
    have hset := hal.setW hlw hown hgrow hat2
    have HSET : Hid (PlS base q ⟨g.wide ++ [wd], g.code, g.ins⟩ (.slice (some ⟨g9, 0, none⟩) (g.wide.length + 1) cap9) cv iv (w9.setCell ⟨q, 0, none⟩ (.slice (some ⟨g9, 0, none⟩) (g.wide.length + 1) cap9))) := hset
    have d9 : w9.cell? ⟨q, 0, none⟩ = some (.slice aW g.wide.length kW) := by rw [hgrow.cell_far _ (by exact hal.lt) hal.neW]; exact hal.c0
    have z9 : w9.frozen? ⟨q, 0, none⟩ = false := by rw [World.frozen?_of_block (w := w.alloc (.cells #[.bool wd] 4)) (hgrow.block q hal.lt hal.neW)]; exact hal.f0
    have HO9 : Hid (OffP q (.slice aW g.wide.length kW) cv w (w9.setCell ⟨q, 0, none⟩ (.slice (some ⟨g9, 0, none⟩) (g.wide.length + 1) cap9))) :=
      ⟨hgrow.os, hgrow.tape, hgrow.output, by have := hgrow.size; rw [size_alloc] at this; simp [World.setCell]; omega, fun k hk h1 h2 h3 => by
        rw [Below.heap_setCell _ _ _ _ h1, hgrow.block k (by rw [size_alloc]; omega) (fun e => h2 e.symm)]
        exact ((Below.refl _ _).alloc (Nat.le_refl _) _ : Below w.heap.size w (w.alloc (.cells #[.bool wd] 4))).block k hk⟩
    have HT9 : Hid (PlT q (w9.setCell ⟨q, 0, none⟩ (.slice (some ⟨g9, 0, none⟩) (g.wide.length + 1) cap9))) :=
      ((HT.out.of (((Below.refl _ _).alloc (Nat.le_refl _) _ : Below w.heap.size w (w.alloc (.cells #[.bool wd] 4))).block q hqr)).of (hgrow.block q hal.lt hal.neW)).set 0 _
    have hq9 := Nat.lt_of_lt_of_le hal.lt hgrow.size
    clear hal hset hown hgrow hat hat2
    go_upto_region 4 with fail
    obtain ⟨w10, hw10⟩ : ∃ x, x = w9.setCell ⟨q, 0, none⟩ (.slice (some ⟨g9, 0, none⟩) (g.wide.length + 1) cap9) := ⟨_, rfl⟩
    rw [← hw10] at HSET HO9 HT9 ⊢
    have c10 := HSET.out.c0
    have hq10 := HSET.out.lt
    have HOK : Hid (Calls Tryz.prog 18 #[.int .i64 ((g.wide.length : Int) + 1)] w10 fun e w' => ∃ v', e = .returned v' ∧ WordsAt w10.heap.size [sOk, digitsL (g.wide.length + 1)] v' w' ∧ Below w10.heap.size w10 w') := by
      have h := okO (g.wide.length + 1) (by omega) w10 (HV.out.on (HO9.out.below HP.out)).here
      exact h
    clear hw10 d9 z9 q0
    go_wp2_with (go_at_call 18; refine HOK.out.mono ?_; rintro e w11 ⟨v11, rfl, hw11, hb11⟩; have HW11 : Hid (WordsAt w10.heap.size [sOk, digitsL (g.wide.length + 1)] v11 w11) := hw11; have HB11 : Hid (Below w10.heap.size w10 w11) := hb11; clear hw11 hb11)
    go_ret
    rw [HA.out]
    exact ⟨_, _, _, _, _, rfl, HW11.out.down HO9.out.size, by simp, by simp, words_ok _, HSET.out.below HB11.out, HO9.out.later HB11.out, HT9.out.of (HB11.out.block q hq10)⟩
end form
/- What either way of running answers (drive: shown). -/
namespace form
open Go.RowKit
set_option maxRecDepth 100000
attribute [local go_sem ↓] Go.wp_at_zero Go.wp_at_succ
attribute [local go_sem] str_size str_list ByteArray.toList_mk
def ShwP (t : List UInt8) (w : World) (e : Ending) (w' : World) : Prop := ∃ v xs, e = .returned v ∧ WordsAt w.heap.size xs v w' ∧ xs ≠ [] ∧ xs.length ≤ 2000000 ∧ joinW xs = t ∧ Below w.heap.size w w'
theorem words_shown (a b : Nat) (l : List Nat) : joinW ([digitsL a, digitsL b] ++ l.map digitsL) = saidL (saidL (digitsL a) [b]) l := by
  have h1 := joinW_said l (digitsL a) [digitsL b]
  have h2 := joinW_said [b] (digitsL a) []
  rw [joinW_one] at h2
  have h3 : joinW [digitsL a, digitsL b] = saidL (digitsL a) [b] := h2
  rw [h3] at h1
  exact h1
set_option maxHeartbeats 3200000 in
theorem shownO (rr : RunR) (hok : RunOk rr) (sv : Value) (w : World) (hs : ShownIs w sv rr.state rr.out rr.steps) (hv : VarOk w) :
    Calls Tryz.prog 19 #[sv, .int .i64 rr.err] w fun e w' => ShwP (shownL rr) w e w' := by
  obtain ⟨ov, rfl, ao, cap, rfl, hl, hc⟩ := hs
  have HV : Hid (VarOk w) := hv
  have HSH : Hid (shownL rr = if rr.err = 0 then saidL (saidL (digitsL rr.state.toNat) [rr.steps.toNat]) (rr.out.map Int.toNat) else saidL sBad [rr.err.toNat]) := rfl
  obtain ⟨sl, hsl⟩ : ∃ z, z = shownL rr := ⟨_, rfl⟩
  rw [← hsl] at HSH ⊢
  obtain ⟨er, her⟩ : ∃ n : Nat, rr.err = n := ⟨rr.err.toNat, by have := hok.e0; omega⟩
  obtain ⟨st, hst⟩ : ∃ n : Nat, rr.state = n := ⟨rr.state.toNat, by have := hok.s0; omega⟩
  obtain ⟨k, hk⟩ : ∃ n : Nat, rr.steps = n := ⟨rr.steps.toNat, by have := hok.k0; omega⟩
  have her1 : er < 9223372036854775808 := by have := hok.e1; omega
  have hst1 : st < 9223372036854775808 := by have := hok.s1; omega
  have hk1 : k < 9223372036854775808 := by have := hok.k1; omega
  rw [her, hst, hk] at HSH
  rw [her, hst, hk]
  simp only [Int.toNat_natCast] at HSH
  have HO : Hid (∀ x, x ∈ rr.out → 0 ≤ x ∧ x < 4294967296) := hok.o
  obtain ⟨out, hout⟩ : ∃ z, z = rr.out := ⟨_, rfl⟩
  rw [← hout] at HSH HO hl hc ⊢
  obtain ⟨wB, hwB⟩ : ∃ z, z = w.alloc (.cells #[.int .i64 (st : Int), .slice ao out.length cap, .int .i64 (k : Int)] 56) := ⟨_, rfl⟩
  have hbB : Below w.heap.size w wB := by rw [hwB]; exact (Below.refl _ _).alloc (Nat.le_refl _) _
  have HBB : Hid (Below w.heap.size w wB) := hbB
  have HWB : Hid (wB = w.alloc (.cells #[.int .i64 (st : Int), .slice ao out.length cap, .int .i64 (k : Int)] 56)) := hwB
  have z0 : wB.cell? ⟨w.heap.size, 0, none⟩ = some (.int .i64 (st : Int)) := by rw [hwB]; simp [go_sem]
  have z1 : wB.cell? ⟨w.heap.size, 1, none⟩ = some (.slice ao out.length cap) := by rw [hwB]; simp [go_sem]
  have z2 : wB.cell? ⟨w.heap.size, 2, none⟩ = some (.int .i64 (k : Int)) := by rw [hwB]; simp [go_sem]
  have hsB : w.heap.size < wB.heap.size := World.block_lt_of_cell? wB _ z0
  clear hsl her hst hk hok hout hv hwB
  by_cases he : er = 0
  case neg =>
    have hez : ((er : Int) != 0) = true := by
      have : ¬ (er : Int) = 0 := by omega
      simpa using this
    have HB := badO er her1 wB (HV.out.on hbB)
    have HE : Hid (sl = saidL sBad [er]) := HSH.out.trans (if_neg (by omega))
    clear he hbB HSH hc
    go_enter Tryz.func19, Tryz.ntmps19
    go_wp2_with (rw [← HWB.out]; go_at_call 31; refine HB.mono ?_; rintro e w1 ⟨v1, rfl, hw1, hb1⟩; have HW1 : Hid (WordsAt wB.heap.size [sBad, digitsL er] v1 w1) := hw1; have HB1 : Hid (Below w.heap.size w w1) := step_below hb1 HBB.out; clear hw1 hb1)
    go_ret
    refine ⟨_, _, rfl, HW1.out.down HBB.out.size, by simp, by simp, ?_, HB1.out⟩
    rw [HE.out]
    exact words_bad er
  have hez : ((er : Int) != 0) = false := by subst he; rfl
  have HE : Hid (sl = saidL (saidL (digitsL st) [k]) (out.map Int.toNat)) := HSH.out.trans (if_pos (by omega))
  have HC : Hid (0 < out.length → ∃ b o, ao = some ⟨b, o, none⟩ ∧ b < w.heap.size ∧ ∀ j, j < out.length → w.cell? ⟨b, o + j, none⟩ = some (.int .u32 (out.getD j 0))) := hc
  have HT1 : Hid (∀ wx : World, VarOk wx → ∀ b : Nat, b < wx.heap.size → wx.cell? ⟨b, 0, none⟩ = some (.int .i64 (st : Int)) → wx.cell? ⟨b, 1, none⟩ = some (.int .i64 (k : Int)) → Calls Tryz.prog 30 #[.slice none 0 0, .slice (some ⟨b, 0, none⟩) 2 2] wx fun e w' => ∃ v', e = .returned v' ∧ WordsAt wx.heap.size [digitsL st, digitsL k] v' w' ∧ Below wx.heap.size wx w') := fun wx hv b hb h0 h1 => by
    have H := tellI wx.heap.size [st, k] [] (.slice none 0 0) (some ⟨b, 0, none⟩) 2 wx hv.at (Nat.le_refl _) (words_none wx _) (by simp) (by simp) (fun x hx => by
      rcases List.mem_cons.1 hx with h | h
      · rw [h]; exact hst1
      · rw [List.mem_singleton.1 h]; exact hk1) (fun _ => ⟨b, 0, rfl, hb, by simp [Value.ownBlock], fun j hj => by
      rcases j with _ | _ | j
      · exact h0
      · exact h1
      · simp at hj; omega⟩)
    refine Calls.mono H ?_
    rintro e w' ⟨v', rfl, hw, hg⟩
    exact ⟨v', rfl, hw, grown_below hg (Nat.le_refl _) (fun k e => by simp [Value.ownBlock] at e)⟩
  have HT2 : Hid (∀ (wx : World) (B : Nat) (vx : Value), VarAt B wx → w.heap.size ≤ B → B ≤ wx.heap.size → Below w.heap.size w wx → WordsAt B [digitsL st, digitsL k] vx wx → Calls Tryz.prog 32 #[vx, .slice ao out.length cap] wx fun e w' => ∃ v', e = .returned v' ∧ WordsAt B ([digitsL st, digitsL k] ++ (out.map Int.toNat).map digitsL) v' w' ∧ Below B wx w') := fun wx B vx hv hwB hBx hb hw => by
    have H := tellU B (out.map Int.toNat) [digitsL st, digitsL k] vx ao cap wx hv hBx hw (by simp) (by simp; omega) (fun x hx => by
      obtain ⟨y, hy, rfl⟩ := List.mem_map.1 hx
      have := HO.out y hy
      omega) (fun h0 => by
      rw [List.length_map] at h0
      obtain ⟨b, o, e1, e2, e3⟩ := HC.out h0
      refine ⟨b, o, e1, Nat.lt_of_lt_of_le e2 hb.size, fun e => ?_, fun j hj => ?_⟩
      · have := hw.lo b e; omega
      · rw [List.length_map] at hj
        have := step_cell hb (e3 j hj)
        rw [this]
        have hy : out.getD j 0 ∈ out := by simp [List.getD, hj]
        have := HO.out _ hy
        have e4 : (out.map Int.toNat).getD j 0 = (out.getD j 0).toNat := by simp [List.getD, hj]
        rw [e4, Int.toNat_of_nonneg this.1])
    rw [List.length_map] at H
    refine Calls.mono H ?_
    rintro e w' ⟨v', rfl, hw2, hg⟩
    exact ⟨v', rfl, hw2, grown_below hg hBx hw.lo⟩
  have hlz : (out.length : Int) ≤ 1000000 := by omega
  clear he hbB HSH hc HC
  go_enter Tryz.func19, Tryz.ntmps19
  go_upto_region 3 with fail
  rw [← HWB.out]
  clear HWB
  refine wp_region_held_drew (S := (fun w' => Below wB.heap.size wB w')) (by rfl) ?_ (fun hHeld => ?_)
  · (exact (Below.refl _ _).drew)
  refine wpAnyH_take (i := 0) (v := ?_) rfl (by kernel_rfl) (by kernel_rfl) (by kernel_rfl) (fun _ _ _ h => h) (Or.inl ⟨by rfl, ?_⟩) (by assumption) ?_
  case refine_2 => (intro w hSw; (try dsimp only at hSw); go_simp; try with_reducible rfl)
  show wpAnyH _ _ _ _ _ _ _ (Act.put _ (some 9) _) _
  simp only [pz]
  refine wpAnyH_take (i := 1) (v := ?_) rfl (by kernel_rfl) (by kernel_rfl) (by kernel_rfl) (fun _ _ _ h => h) (Or.inl ⟨by rfl, ?_⟩) (by assumption) ?_
  case refine_2 => (intro w5 hSw; (try dsimp only at hSw); have sz0 := step_cell hSw z0; go_simp; try with_reducible rfl)
  show wpAnyH _ _ _ _ _ _ _ (Act.put _ (some 10) _) _
  simp only [pz]
  refine wpAnyH_take (i := 2) (v := ?_) rfl (by kernel_rfl) (by kernel_rfl) (by kernel_rfl) (fun _ _ _ h => h) (Or.inl ⟨by rfl, ?_⟩) (by assumption) ?_
  case refine_2 => (intro w hSw; (try dsimp only at hSw); go_simp; try with_reducible rfl)
  show wpAnyH _ _ _ _ _ _ _ (Act.put _ (some 11) _) _
  simp only [pz]
  refine wpAnyH_take (i := 3) (v := ?_) rfl (by kernel_rfl) (by kernel_rfl) (by kernel_rfl) (fun _ _ _ h => h) (Or.inl ⟨by rfl, ?_⟩) (by assumption) ?_
  case refine_2 => (intro w5 hSw; (try dsimp only at hSw); have sz2 := step_cell hSw z2; go_simp; try with_reducible rfl)
  show wpAnyH _ _ _ _ _ _ _ (Act.put _ (some 12) _) _
  simp only [pz]
  refine wpAnyH_take (i := 6) (v := ?_) rfl (by kernel_rfl) (by kernel_rfl) (by kernel_rfl) (fun _ _ _ h => h) (Or.inl ⟨by rfl, ?_⟩) (by assumption) ?_
  case refine_2 => (intro w hSw; (try dsimp only at hSw); go_simp; try with_reducible rfl)
  show wpAnyH _ _ _ _ _ _ _ (Act.put _ (some 15) _) _
  simp only [pz]
  refine wpAnyH_take (i := 7) (v := ?_) rfl (by kernel_rfl) (by kernel_rfl) (by kernel_rfl) (fun _ _ _ h => h) (Or.inl ⟨by rfl, ?_⟩) (by assumption) ?_
  case refine_2 => (intro w5 hSw; (try dsimp only at hSw); have sz1 := step_cell hSw z1; go_simp; try with_reducible rfl)
  show wpAnyH _ _ _ _ _ _ _ (Act.put _ (some 16) _) _
  simp only [pz]
  have h7 := hHeld
  refine wpAnyH_ready (rs := [4]) (by kernel_rfl) (by simp) ?_
  refine (AllReadyH.cons rfl (fun K hK => ?_) AllReadyH.nil)
  go_simp
  refine hK.out _ _ ?_ (fun hHeld => ?_)
  · (exact step_below ((Below.refl _ _).alloc (Nat.le_refl _) _) h7)
  clear hK K
  try simp only [pz]
  obtain ⟨w4, hw4⟩ : ∃ x, x = (wB.alloc (.cells #[.int .i64 (st : Int), .int .i64 (k : Int)] 3)).drew := ⟨_, rfl⟩
  rw [← hw4] at hHeld ⊢
  have m0 : w4.cell? ⟨wB.heap.size, 0, none⟩ = some (.int .i64 (st : Int)) := by rw [hw4]; simp [go_sem]
  have m1 : w4.cell? ⟨wB.heap.size, 1, none⟩ = some (.int .i64 (k : Int)) := by rw [hw4]; simp [go_sem]
  have hlt4 : wB.heap.size < w4.heap.size := World.block_lt_of_cell? w4 _ m0
  have hV4 : VarOk w4 := HV.out.on (step_below hHeld HBB.out)
  have c1 := HT1.out w4 hV4 wB.heap.size hlt4 m0 m1
  have h8 := hHeld
  clear hw4
  refine wpAnyH_ready (rs := [5]) (by kernel_rfl) (by simp) ?_
  refine (AllReadyH.cons rfl (fun K hK => ?_) AllReadyH.nil)
  go_simp
  go_at_call 30
  refine c1.mono ?_
  rintro e w5 ⟨v5, rfl, hw5, hb5⟩
  go_wp2_with fail
  refine hK.out _ _ ?_ (fun hHeld => ?_)
  · (exact step_below hb5 h8)
  clear hK K
  try simp only [pz]
  have h9 := hHeld
  have c2 := HT2.out w5 w4.heap.size v5 (hV4.at.on hb5) (by omega) hb5.size (step_below h9 HBB.out) hw5
  refine wpAnyH_ready (rs := [8]) (by kernel_rfl) (by simp) ?_
  refine (AllReadyH.cons rfl (fun K hK => ?_) AllReadyH.nil)
  go_simp
  go_at_call 32
  refine c2.mono ?_
  rintro e w6 ⟨v6, rfl, hw6, hb6⟩
  have hb46 : Below w4.heap.size w4 w6 := hb5.trans hb6
  have HW6 : Hid (WordsAt w4.heap.size ([digitsL st, digitsL k] ++ (out.map Int.toNat).map digitsL) v6 w6) := hw6
  have HB6 : Hid (Below w.heap.size w w6) := step_below (step_below hb46 h8) HBB.out
  go_wp2_with fail
  refine hK.out _ _ ?_ (fun hHeld => ?_)
  · (exact step_below hb46 h8)
  clear hK K
  try simp only [pz]
  refine wpAnyH_ready (rs := [9]) (by kernel_rfl) (by simp) ?_
  refine (AllReadyH.cons rfl (fun K hK => ?_) AllReadyH.nil)
  go_simp
  refine hK.out _ _ ?_ (fun hHeld => ?_)
  · (exact step_below hb46 h8)
  clear hK K
  try simp only [pz]
  refine wpAnyH_done (by kernel_rfl) ?_ _
  clear hHeld
  go_wp2
  go_ret
  refine ⟨_, _, rfl, HW6.out.down (by omega), by simp, by simp; omega, ?_, HB6.out⟩
  rw [HE.out]
  exact words_shown st k _
end form
/- How many bytes (drive: bytes). -/
namespace form
open Go.RowKit
set_option maxRecDepth 100000
attribute [local go_sem ↓] Go.wp_at_zero Go.wp_at_succ
attribute [local go_sem] str_size str_list ByteArray.toList_mk
theorem oneO (n : Nat) (hn : n < 9223372036854775808) (w : World) (hv : VarOk w) : Calls Tryz.prog 30 #[.slice none 0 0, .slice (some ⟨w.heap.size, 0, none⟩) 1 1] (w.alloc (.cells #[.int .i64 (n : Int)] 3)) fun e w' => ∃ v', e = .returned v' ∧ WordsAt w.heap.size [digitsL n] v' w' ∧ Below w.heap.size w w' := by
  obtain ⟨w2, hw2⟩ : ∃ w2, w2 = w.alloc (.cells #[.int .i64 (n : Int)] 3) := ⟨_, rfl⟩
  rw [← hw2]
  have s2 : w2.heap.size = w.heap.size + 1 := by rw [hw2]; exact size_alloc _ _
  have b2 : Below w.heap.size w w2 := by rw [hw2]; exact (Below.refl _ _).alloc (Nat.le_refl _) _
  have hc : NumsAt .i64 (some ⟨w.heap.size, 0, none⟩) [n] (.slice none 0 0) w2 := fun _ => ⟨w.heap.size, 0, rfl, by omega, by simp [Value.ownBlock], fun j hj => by
    have : j = 0 := by simpa using hj
    subst this
    rw [hw2]
    simp [go_sem]⟩
  refine Calls.mono (tellI w.heap.size [n] [] (.slice none 0 0) (some ⟨w.heap.size, 0, none⟩) 1 w2 (hv.at.on b2) (by omega) (words_none _ _) (by simp) (by simp) (fun x hx => by rw [List.mem_singleton.1 hx]; exact hn) hc) ?_
  rintro e w' ⟨v', rfl, hw, hg⟩
  exact ⟨v', rfl, hw, b2.trans (grown_below hg (by omega) (fun k e => by simp [Value.ownBlock] at e))⟩
set_option maxHeartbeats 3200000 in
theorem bytesO {base q : Nat} {g : PL} {wv cv iv : Value} {w : World} (L : Lay) (hL : LayIs L) (hP : PlS base q g wv cv iv w) (hv : VarOk w) (x : Nat) :
    Calls Tryz.prog 24 #[.pointer (some ⟨q, 0, none⟩), .agg #[.int .i64 (x : Int)]] w fun e w' => ShwP (countL (L.bytes g.wide g.code x)) w e w' := by
  have HL : Hid (LayIs L) := hL
  have HP : Hid (PlS base q g wv cv iv w) := hP
  have HV : Hid (VarOk w) := hv
  have hqr := hP.lt
  obtain ⟨aW, kW, rfl, -, -⟩ := row_form hP.wide
  obtain ⟨aC, kC, rfl, -, -⟩ := row_form hP.code
  obtain ⟨aI, kI, rfl, -, -⟩ := row_form hP.ins
  obtain ⟨by', hby⟩ : ∃ z, z = L.bytes g.wide g.code x := ⟨_, rfl⟩
  have HBY : Hid (by' = L.bytes g.wide g.code x) := hby
  rw [← hby]
  obtain ⟨an, han⟩ : ∃ z, z = countL by' := ⟨_, rfl⟩
  have HAN : Hid (an = countL by') := han
  rw [← han]
  clear hby han
  obtain ⟨wt, hwt⟩ : ∃ z, z = w.alloc (.cells #[.int .i64 (x : Int)] 63) := ⟨_, rfl⟩
  have t0 : wt.cell? ⟨w.heap.size, 0, none⟩ = some (.int .i64 (x : Int)) := by rw [hwt]; simp [go_sem]
  have hbt : Below w.heap.size w wt := by rw [hwt]; exact (Below.refl _ _).alloc (Nat.le_refl _) _
  have HWT : Hid (wt = w.alloc (.cells #[.int .i64 (x : Int)] 63)) := hwt
  have HBT : Hid (Below w.heap.size w wt) := hbt
  have htl := World.block_lt_of_cell? wt _ t0
  have q0 := step_cell hbt hP.c0
  have q1 := step_cell hbt hP.c1
  have q2 := step_cell hbt hP.c2
  have HPT : Hid (PlS base q g (.slice aW g.wide.length kW) (.slice aC g.code.length kC) (.slice aI g.ins.length kI) wt) := hP.below hbt
  have HBC : Hid (∀ wx : World, Below wt.heap.size wt wx → Calls Tryz.prog 39 #[.agg #[.slice aW g.wide.length kW, .slice aC g.code.length kC], .agg #[.int .i64 (x : Int)]] wx fun e w' => BuildIs L g.wide g.code x wx e w') := fun wx hb => HL.out.build _ g.wide g.code x wx (HPT.out.below hb).prog
  clear hwt hbt hP hL hv
  go_enter Tryz.func24, Tryz.ntmps24
  go_upto_region 1 with fail
  rw [← HWT.out]
  clear HWT
  go_cut [5, 6] (fun s7 s8 wq => PbR L g.wide g.code x wt s7 s8 wq)
  case first => as_aux_lemma =>
    refine wp_region_held_drew (S := (fun w' => Below wt.heap.size wt w')) (by rfl) ?_ (fun hHeld => ?_)
    · (exact (Below.refl _ _).drew)
    refine wpAnyH_take (i := 0) (v := ?_) rfl (by kernel_rfl) (by kernel_rfl) (by kernel_rfl) (fun _ _ _ h => h) (Or.inl ⟨by rfl, ?_⟩) (by assumption) ?_
    case refine_2 => (intro w hSw; (try dsimp only at hSw); go_simp; try with_reducible rfl)
    show wpAnyH _ _ _ _ _ _ _ (Act.put _ (some 9) _) _
    simp only [pz]
    refine wpAnyH_take (i := 1) (v := ?_) rfl (by kernel_rfl) (by kernel_rfl) (by kernel_rfl) (fun _ _ _ h => h) (Or.inl ⟨by rfl, ?_⟩) (by assumption) ?_
    case refine_2 => (intro w hSw; (try dsimp only at hSw); go_simp; try with_reducible rfl)
    show wpAnyH _ _ _ _ _ _ _ (Act.put _ (some 10) _) _
    simp only [pz]
    refine wpAnyH_take (i := 2) (v := ?_) rfl (by kernel_rfl) (by kernel_rfl) (by kernel_rfl) (fun _ _ _ h => h) (Or.inl ⟨by rfl, ?_⟩) (by assumption) ?_
    case refine_2 => (intro w hSw; (try dsimp only at hSw); go_simp; try with_reducible rfl)
    show wpAnyH _ _ _ _ _ _ _ (Act.put _ (some 11) _) _
    simp only [pz]
    refine wpAnyH_take (i := 3) (v := ?_) rfl (by kernel_rfl) (by kernel_rfl) (by kernel_rfl) (fun _ _ _ h => h) (Or.inl ⟨by rfl, ?_⟩) (by assumption) ?_
    case refine_2 => (intro w5 hSw; (try dsimp only at hSw); have sq0 := step_cell hSw q0; have sq1 := step_cell hSw q1; go_simp; try with_reducible rfl)
    show wpAnyH _ _ _ _ _ _ _ (Act.put _ (some 12) _) _
    simp only [pz]
    refine wpAnyH_take (i := 4) (v := ?_) rfl (by kernel_rfl) (by kernel_rfl) (by kernel_rfl) (fun _ _ _ h => h) (Or.inl ⟨by rfl, ?_⟩) (by assumption) ?_
    case refine_2 => (intro w5 hSw; (try dsimp only at hSw); have st0 := step_cell hSw t0; go_simp; try with_reducible rfl)
    show wpAnyH _ _ _ _ _ _ _ (Act.put _ (some 13) _) _
    simp only [pz]
    refine wpAnyH_ready (rs := [5, 9]) (by kernel_rfl) (by simp) ?_
    refine (AllReadyH.cons rfl (fun K hK => ?_) (AllReadyH.cons rfl (fun K hK => ?_) AllReadyH.nil))
    · skip
      have h8 := hHeld
      go_simp
      go_at_call 39
      refine (HBC.out _ h8).mono ?_
      rintro e w5 ⟨⟨sl, ao, n, c, er, rfl, hpo⟩, hb5⟩
      go_wp2_with fail
      refine hK.out _ _ ?_ (fun hHeld => ?_)
      · (exact step_below hb5 h8)
      clear hK K
      try simp only [pz]
      refine wpAnyH_take (i := 6) (v := ?_) rfl (by kernel_rfl) (by kernel_rfl) (by kernel_rfl) (fun _ _ _ h => h) (Or.inl ⟨by rfl, ?_⟩) (by assumption) ?_
      case refine_2 => (intro w hSw; (try dsimp only at hSw); go_simp; try with_reducible rfl)
      show wpAnyH _ _ _ _ _ _ _ (Act.put _ (some 8) _) _
      simp only [pz]
      refine wpAnyH_take (i := 7) (v := ?_) rfl (by kernel_rfl) (by kernel_rfl) (by kernel_rfl) (fun _ _ _ h => h) (Or.inl ⟨by rfl, ?_⟩) (by assumption) ?_
      case refine_2 => (intro w hSw; (try dsimp only at hSw); go_simp; try with_reducible rfl)
      show wpAnyH _ _ _ _ _ _ _ (Act.put _ (some 15) _) _
      simp only [pz]
      refine wpAnyH_take (i := 8) (v := ?_) rfl (by kernel_rfl) (by kernel_rfl) (by kernel_rfl) (fun _ _ _ h => h) (Or.inl ⟨by rfl, ?_⟩) (by assumption) ?_
      case refine_2 => (intro w hSw; (try dsimp only at hSw); go_simp; try with_reducible rfl)
      show wpAnyH _ _ _ _ _ _ _ (Act.put _ (some 16) _) _
      simp only [pz]
      have h9 := hHeld
      refine wpAnyH_ready (rs := [9]) (by kernel_rfl) (by simp) ?_
      refine (AllReadyH.cons rfl (fun K hK => ?_) AllReadyH.nil)
      go_simp
      refine hK.out _ _ ?_ (fun hHeld => ?_)
      · (exact step_below ((Below.refl _ _).alloc (Nat.le_refl _) _) h9)
      clear hK K
      try simp only [pz]
      refine wpAnyH_ready (rs := [10]) (by kernel_rfl) (by simp) ?_
      refine (AllReadyH.cons rfl (fun K hK => ?_) AllReadyH.nil)
      go_simp
      refine hK.out _ _ ?_ (fun hHeld => ?_)
      · (exact step_below ((Below.refl _ _).alloc (Nat.le_refl _) _) h9)
      clear hK K
      try simp only [pz]
      refine wpAnyH_ready (rs := [11]) (by kernel_rfl) (by simp) ?_
      refine (AllReadyH.cons rfl (fun K hK => ?_) AllReadyH.nil)
      go_simp
      refine hK.out _ _ ?_ (fun hHeld => ?_)
      · (exact step_below ((Below.refl _ _).alloc (Nat.le_refl _) _) h9)
      clear hK K
      try simp only [pz]
      refine wpAnyH_done (by kernel_rfl) ?_ _
      clear hHeld
      go_wp2_with fail
      go_meet
      case rel => exact PbR.mk1 hpo h9 rfl
    · skip
      have h7 := hHeld
      go_simp
      refine hK.out _ _ ?_ (fun hHeld => ?_)
      · (exact step_below ((Below.refl _ _).alloc (Nat.le_refl _) _) h7)
      clear hK K
      try simp only [pz]
      obtain ⟨w4, hw4⟩ : ∃ x, x = (wt.alloc (.cells #[.int .i64 0, .slice none 0 0] 98)).drew := ⟨_, rfl⟩
      rw [← hw4] at hHeld ⊢
      have m0 : w4.cell? ⟨wt.heap.size, 0, none⟩ = some (.int .i64 0) := by rw [hw4]; simp [go_sem]
      have f0 : w4.frozen? ⟨wt.heap.size, 0, none⟩ = false := by rw [hw4]; simp [go_sem]
      have m1 : w4.cell? ⟨wt.heap.size, 1, none⟩ = some (.slice none 0 0) := by rw [hw4]; simp [go_sem]
      have f1 : w4.frozen? ⟨wt.heap.size, 1, none⟩ = false := by rw [hw4]; simp [go_sem]
      have mm : ∀ j, 2 ≤ j → w4.cell? ⟨wt.heap.size, j, none⟩ = none := fun j hj => by rw [hw4]; simp [go_sem, hj]
      have hlt4 : wt.heap.size < w4.heap.size := World.block_lt_of_cell? w4 _ m0
      clear hw4
      refine wpAnyH_ready (rs := [5]) (by kernel_rfl) (by simp) ?_
      refine (AllReadyH.cons rfl (fun K hK => ?_) AllReadyH.nil)
      have h8 := hHeld
      go_simp
      go_at_call 39
      refine (HBC.out _ h8).mono ?_
      rintro e w5 ⟨⟨sl, ao, n, c, er, rfl, hpo⟩, hb5⟩
      go_wp2_with fail
      refine hK.out _ _ ?_ (fun hHeld => ?_)
      · (exact step_below hb5 h8)
      clear hK K
      try simp only [pz]
      refine wpAnyH_take (i := 6) (v := ?_) rfl (by kernel_rfl) (by kernel_rfl) (by kernel_rfl) (fun _ _ _ h => h) (Or.inl ⟨by rfl, ?_⟩) (by assumption) ?_
      case refine_2 => (intro w hSw; (try dsimp only at hSw); go_simp; try with_reducible rfl)
      show wpAnyH _ _ _ _ _ _ _ (Act.put _ (some 8) _) _
      simp only [pz]
      refine wpAnyH_take (i := 7) (v := ?_) rfl (by kernel_rfl) (by kernel_rfl) (by kernel_rfl) (fun _ _ _ h => h) (Or.inl ⟨by rfl, ?_⟩) (by assumption) ?_
      case refine_2 => (intro w hSw; (try dsimp only at hSw); go_simp; try with_reducible rfl)
      show wpAnyH _ _ _ _ _ _ _ (Act.put _ (some 15) _) _
      simp only [pz]
      refine wpAnyH_take (i := 8) (v := ?_) rfl (by kernel_rfl) (by kernel_rfl) (by kernel_rfl) (fun _ _ _ h => h) (Or.inl ⟨by rfl, ?_⟩) (by assumption) ?_
      case refine_2 => (intro w hSw; (try dsimp only at hSw); go_simp; try with_reducible rfl)
      show wpAnyH _ _ _ _ _ _ _ (Act.put _ (some 16) _) _
      simp only [pz]
      have hb9 : Below w4.heap.size w4 w5 := hb5
      have n0 := step_cell hb9 m0
      have o0 := frozenK hb9 hlt4 f0
      have n1 := step_cell hb9 m1
      have o1 := frozenK hb9 hlt4 f1
      have hlt5 : wt.heap.size < w5.heap.size := World.block_lt_of_cell? w5 _ n0
      have h9 := hHeld
      refine wpAnyH_ready (rs := [10]) (by kernel_rfl) (by simp) ?_
      refine (AllReadyH.cons rfl (fun K hK => ?_) AllReadyH.nil)
      go_simp
      refine hK.out _ _ ?_ (fun hHeld => ?_)
      · (exact (h9.setCell (Nat.le_refl _) _).setCell (Nat.le_refl _) _)
      clear hK K
      try simp only [pz]
      refine wpAnyH_ready (rs := [11]) (by kernel_rfl) (by simp) ?_
      refine (AllReadyH.cons rfl (fun K hK => ?_) AllReadyH.nil)
      go_simp
      refine hK.out _ _ ?_ (fun hHeld => ?_)
      · (exact (h9.setCell (Nat.le_refl _) _).setCell (Nat.le_refl _) _)
      clear hK K
      try simp only [pz]
      refine wpAnyH_done (by kernel_rfl) ?_ _
      clear hHeld
      go_wp2_with fail
      go_meet
      case rel => exact PbR.mk2 (Nat.le_refl _) m0 m1 mm hb9 hpo h9 rfl
  case rest =>
    obtain ⟨bx, sl, ao, n, c, er, hs20, hs21, z0, z1, hpo, hbq⟩ := hcut
    subst hs20
    subst hs21
    obtain ⟨wd, hwd⟩ : ∃ wd, wd = wc := ⟨_, rfl⟩
    rw [← hwd] at hbq hpo z0 z1 ⊢
    have HBQ : Hid (Below wt.heap.size wt wd) := hbq
    have HBQR : Hid (Below w.heap.size w wd) := step_below hbq HBT.out
    have HPO : Hid (PlacesOk L g.wide g.code x (.agg #[.int .i64 sl, .slice ao n c]) er wd) := hpo
    have hbxl := World.block_lt_of_cell? wd _ z0
    have t0 := step_cell hbq t0
    have q0 := step_cell hbq q0
    have q1 := step_cell hbq q1
    have q2 := step_cell hbq q2
    have hqd := World.block_lt_of_cell? wd _ q0
    have htd := World.block_lt_of_cell? wd _ t0
    have HVD : Hid (VarOk wd) := HV.out.on HBQR.out
    clear hwd hbq hpo HBC
    obtain ⟨en, hen⟩ : ∃ n : Nat, er = n := ⟨er.toNat, by have := HPO.out.1; omega⟩
    have hen1 : en < 9223372036854775808 := by have := HPO.out.2.1; omega
    subst hen
    by_cases he : en = 0
    case neg =>
      have hez : ((en : Int) != 0) = true := by
        have : ¬ (en : Int) = 0 := by omega
        simpa using this
      have HBD := badO en hen1 wd HVD.out
      have HE : Hid (an = saidL sBad [en]) := (by
        have h1 : by' = ((en : Int), 0) := by rw [HBY.out]; exact (HPO.out.2.2.1 (by omega)).1
        rw [HAN.out, h1]
        unfold countL
        rw [if_neg (by omega), Int.toNat_natCast] : an = saidL sBad [en])
      clear he t0 q0 q1 q2 z0 z1
      go_wp2_with (go_at_call 31; refine HBD.mono ?_; rintro e w11 ⟨v11, rfl, hw11, hb11⟩; have HW11 : Hid (WordsAt wd.heap.size [sBad, digitsL en] v11 w11) := hw11; have HB11 : Hid (Below w.heap.size w w11) := step_below hb11 HBQR.out; clear hw11 hb11)
      go_ret
      refine ⟨_, _, rfl, HW11.out.down HBQR.out.size, by simp, by simp, ?_, HB11.out⟩
      rw [HE.out]
      exact words_bad en
    have hez : ((en : Int) != 0) = false := by subst he; rfl
    have hez0 : ((en : Nat) : Int) = 0 := by omega
    obtain ⟨slots, RR, hpl, -, hput⟩ := HPO.out.2.2.2 hez0
    have cp := hput wd hpl
    rw [← HBY.out] at cp
    clear he hpl hput
    go_upto_region 5 with (go_at_call 42; refine cp.mono ?_; rintro e w6 ⟨⟨ao2, n2, c2, rfl, hp0, hp1, hpn⟩, hb6⟩; have HB6 : Hid (Below w.heap.size w w6) := step_below hb6 HBQR.out; have HPN : Hid (by'.1 = 0 → n2 = by'.2 ∧ n2 < 9223372036854775808) := hpn; clear hb6 hpn)
    obtain ⟨e2, he2⟩ : ∃ n : Nat, by'.1 = n := ⟨by'.1.toNat, by omega⟩
    have he21 : e2 < 9223372036854775808 := by omega
    have HV6 : Hid (VarOk w6) := HV.out.on HB6.out
    have hw6 := HB6.out.size
    rw [he2] at HPN ⊢
    have HE2 : Hid (by'.1 = (e2 : Int)) := he2
    clear he2 hp0 hp1 cp t0 q0 q1 q2 z0 z1
    by_cases hz : e2 = 0
    case neg =>
      have hez2 : ((e2 : Int) != 0) = true := by
        have : ¬ (e2 : Int) = 0 := by omega
        simpa using this
      have HBD := badO e2 he21 w6 HV6.out
      have HE : Hid (an = saidL sBad [e2]) := (by
        rw [HAN.out]
        unfold countL
        rw [HE2.out, if_neg (by omega), Int.toNat_natCast] : an = saidL sBad [e2])
      clear hz
      go_wp2_with (go_at_call 31; refine HBD.mono ?_; rintro e w11 ⟨v11, rfl, hw11, hb11⟩; have HW11 : Hid (WordsAt w6.heap.size [sBad, digitsL e2] v11 w11) := hw11; have HB11 : Hid (Below w.heap.size w w11) := step_below hb11 HB6.out; clear hw11 hb11)
      go_ret
      refine ⟨_, _, rfl, HW11.out.down HB6.out.size, by simp, by simp, ?_, HB11.out⟩
      rw [HE.out]
      exact words_bad e2
    have hez2 : ((e2 : Int) != 0) = false := by subst hz; rfl
    obtain ⟨hn2, hn2l⟩ := HPN.out (by omega)
    have HE : Hid (an = digitsL n2) := (by
      rw [HAN.out]
      unfold countL
      rw [HE2.out, if_pos (by omega), ← hn2] : an = digitsL n2)
    have HT := oneO n2 hn2l w6 HV6.out
    clear hz hn2 HPN
    go_wp2_with (go_at_call 30; refine HT.mono ?_; rintro e w11 ⟨v11, rfl, hw11, hb11⟩; have HW11 : Hid (WordsAt w6.heap.size [digitsL n2] v11 w11) := hw11; have HB11 : Hid (Below w.heap.size w w11) := step_below hb11 HB6.out; clear hw11 hb11)
    go_ret
    refine ⟨_, _, rfl, HW11.out.down HB6.out.size, by simp, by simp, ?_, HB11.out⟩
    rw [HE.out]
    exact joinW_one _
end form
end Go.Proofs.YtikhedkhgpjaaacGreatDoor
