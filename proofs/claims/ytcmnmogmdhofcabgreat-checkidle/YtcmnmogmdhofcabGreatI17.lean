/- What is known behind an instruction that gives (world.give). -/
import Derived.Test.YtcmnmogmdhofcabGreatI16
import Derived.Test.YtcmnmogmdhofcabGreatI03
import Derived.Test.YtcmnmogmdhofcabGreatI01
import Derived.Test.YtcmnmogmdhofcabGreatI09

namespace Go.Proofs.YtcmnmogmdhofcabGreat.form
open Go.RowKit Go.Maps
set_option linter.unusedVariables false
set_option maxRecDepth 100000
attribute [local go_sem ↓] Go.wp_at_zero Go.wp_at_succ

def stepH (sm : Bits → Bits → Bool) (d : Nat) (x y : Bits) : Bits := if sm x y = true then x ||| only d else x &&& ~~~ only d
open Classical in
noncomputable def doneH (A : List LPlace) (j : Nat) (sm : Bits → Bits → Bool) (d : Nat) (gh gi : LPlace → Bits) : LPlace → Bits := fun p => if p ∈ A.take j then stepH sm d (gh p) (gi p) else gh p
section
variable {A : List LPlace} {j : Nat} {sm : Bits → Bits → Bool} {d : Nat} {gh gi : LPlace → Bits}
theorem doneH_zero : doneH A 0 sm d gh gi = gh := by
  funext p
  simp [doneH]
theorem doneH_here (hnd : A.Nodup) (hj : j < A.length) : doneH A j sm d gh gi (A.getD j .zero) = gh (A.getD j .zero) := by
  unfold doneH
  rw [if_neg]
  have e : A.getD j .zero = A[j] := by simp [List.getD, hj]
  rw [e, List.mem_iff_getElem]
  rintro ⟨k, hk, h⟩
  rw [List.getElem_take] at h
  have hk2 : k < j := by simp at hk; omega
  have := (List.getElem_inj (h₀ := by omega) (h₁ := hj) hnd).1 h
  omega
theorem updP_self (g : LPlace → Bits) (p : LPlace) : updP g p (g p) = g := by
  funext u
  unfold updP
  split
  · rename_i h; rw [samePl_eq h]
  · rfl
theorem samePl_self (p : LPlace) : samePl p p = true := by simp [samePl]
theorem doneH_step (hj : j < A.length) : updP (doneH A j sm d gh gi) (A.getD j .zero) (stepH sm d (gh (A.getD j .zero)) (gi (A.getD j .zero))) = doneH A (j + 1) sm d gh gi := by
  funext u
  have e : A.take (j + 1) = A.take j ++ [A.getD j .zero] := by rw [List.take_succ_eq_append_getElem hj]; simp [List.getD, hj]
  unfold updP doneH
  rw [e]
  by_cases h : samePl u (A.getD j .zero) = true
  · rw [if_pos h]
    have := samePl_eq h
    rw [if_pos (by rw [this]; simp), this]
  · rw [if_neg h]
    have hne : u ≠ A.getD j .zero := fun e2 => h (by rw [e2]; exact samePl_self _)
    by_cases h2 : u ∈ A.take j
    · rw [if_pos h2, if_pos (by simp [h2])]
    · rw [if_neg h2, if_neg]
      rw [List.mem_append]
      rintro (h3 | h3)
      · exact h2 h3
      · exact hne (by simpa using h3)
end

theorem doneH_all {A : List LPlace} {sm : Bits → Bits → Bool} {d : Nat} {gh gi : LPlace → Bits} {s slots : Int} (h : ∀ p, p ∈ A ↔ isB s slots p = true) : doneH A A.length sm d gh gi = fun p => if isB s slots p = true then (if sm (gh p) (gi p) = true then gh p ||| only d else gh p &&& ~~~ only d) else gh p := by
  funext p
  unfold doneH stepH
  rw [List.take_length]
  by_cases hp : isB s slots p = true
  · rw [if_pos ((h p).2 hp), if_pos hp]
  · rw [if_neg (fun e => hp ((h p).1 e)), if_neg hp]
theorem giveRound {w7 w9 : World} {q mp mt : Nat} {A : List LPlace} {T : List Int} {j d : Nat} {sm : Bits → Bits → Bool} {gh gi : LPlace → Bits} {tm : Int → Bits} {a : LPlace} {xh yi z : Bits} (hF : FMAt w7 q mp mt A T ⟨doneH A j sm d gh gi, gi, tm⟩) (hb : But mp mp w7 w9) (hp : PMap w9 mp A (updP (doneH A j sm d gh gi) a z) (updP gi a yi)) (hj : j < A.length) (ha : a = A.getD j .zero) (hx : xh = gh a) (hy : yi = gi a) (hz : stepH sm d xh yi = z) : FMAt w9 q mp mt A T ⟨doneH A (j + 1) sm d gh gi, gi, tm⟩ := by
  refine ⟨hb.cellOf hF.c0 hF.n1 hF.n1, hb.cellOf hF.c1 hF.n1 hF.n1, ?_, hF.tm.of_block (hb.block mt hF.tm.lt (Ne.symm hF.n3) (Ne.symm hF.n3)), hF.n1, hF.n2, hF.n3⟩
  have e1 : updP (doneH A j sm d gh gi) a z = doneH A (j + 1) sm d gh gi := by
    rw [← hz, hx, hy, ha]; exact doneH_step hj
  have e2 : updP gi a yi = gi := by rw [hy]; exact updP_self _ _
  rw [e1, e2] at hp
  exact hp

set_option maxHeartbeats 1600000 in
theorem giveW {w : World} {lim : Nat} {g : WB} {B : List Bool} {C : List LIns} {R : List LRow} {A : List LPlace} {N : List Int} {s slots : Nat} (hW : WorldAt w lim g B C R A N) (hD : Dims B C s slots A N) (hnd : A.Nodup) (q mp mt : Nat) (T : List Int) (hT : ∀ t, t ∈ T ↔ 0 ≤ t ∧ t < B.length) (hTl : T.length ≤ 12) (m : FM) (hF : FMAt w q mp mt A T m) (hq : lim ≤ q) (hmp : lim ≤ mp) (hmt : lim ≤ mt) (i : LIns) (L : LPlace) (hi : GiveOk B s slots i L) :
    Calls Tryz.prog 102 #[.pointer (some ⟨g.q, 0, none⟩), .pointer (some ⟨q, 0, none⟩), i.val, L.val] w fun e w' => e = .returned (.tuple #[]) ∧ ∃ gh gi sm, GotI s slots N m i L gh gi sm ∧ FMAt w' q mp mt A T (giveF s slots m i.dest.toNat L gh gi sm) ∧ But mp mt w w' := by
  have hb12 := hD.b12
  have hd0 := hi.d0
  have hd1 := hi.d1
  obtain ⟨d, hdd⟩ : ∃ d : Nat, i.dest = d := ⟨i.dest.toNat, by omega⟩
  have h64 : d < 64 := by omega
  have HDD : Hid (i.dest = (d : Int)) := hdd
  have HDL : Hid (d < B.length) := (by omega : d < B.length)
  have HW : Hid (WorldAt w lim g B C R A N) := hW
  have HD : Hid (Dims B C s slots A N) := hD
  have HF : Hid (FMAt w q mp mt A T m) := hF
  have HI : Hid (GiveOk B s slots i L) := hi
  have HND : Hid (A.Nodup) := hnd
  have HT : Hid (∀ t, t ∈ T ↔ 0 ≤ t ∧ t < B.length) := hT
  have hL : isB s slots L = true := hi.is
  have HL : Hid (isB s slots L = true) := hL
  have hlm := hF.lt
  have hle := hW.le
  have hql := hlm.1
  have hb2 : Below w.heap.size w ((w.alloc (.cells #[.int .i64 i.op, .int .i64 i.dest, .int .i64 i.a, .int .i64 i.b, .int .i64 i.c, .int .u32 i.n] 35)).alloc (.cells #[.int .i64 L.kind, .int .i64 L.n] 37)) := ((Below.refl _ _).alloc (Nat.le_refl _) _).alloc (by simp) _
  have c := givenW (hW.below hb2) hD q mp mt T m (hF.below hb2) i (fun h => ⟨hi.a0 h, hi.a1 h⟩)
  have HB2 : Hid (Below w.heap.size w ((w.alloc (.cells #[.int .i64 i.op, .int .i64 i.dest, .int .i64 i.a, .int .i64 i.b, .int .i64 i.c, .int .u32 i.n] 35)).alloc (.cells #[.int .i64 L.kind, .int .i64 L.n] 37))) := hb2
  clear hW hD hF hi hnd hT hb2 hd0 hd1 hdd hL
  unfold LIns.val at c ⊢
  unfold LPlace.val
  go_enter Tryz.func102, Tryz.ntmps102
  go_upto_region 2 with (go_at_call 138; refine c.mono ?_; rintro e w3 ⟨gh, gi, F, caps, sm, rfl, hsame, hgs, hb3⟩; have HSM : Hid (SameIs w3 mp F caps sm) := hsame; have HGS : Hid (GivenS B N m i gh gi sm) := hgs; have HB3 : Hid (Below w.heap.size w w3) := step_below hb3 HB2.out; have k0 : w3.cell? ⟨w.heap.size + 1, 0, none⟩ = some (.int .i64 L.kind) := step_cell hb3 (by simp [go_sem]); have k1 : w3.cell? ⟨w.heap.size + 1, 1, none⟩ = some (.int .i64 L.n) := step_cell hb3 (by simp [go_sem]); have k2 : w3.cell? ⟨w.heap.size, 1, none⟩ = some (.int .i64 (d : Int)) := step_cell hb3 (by simp [go_sem]; exact HDD.out); clear hb3 hsame hgs; unfold knownV)
  obtain ⟨w4, hw4⟩ : ∃ w4, w4 = w3.alloc (.cells #[.int .u64 (bn gh), .int .u64 (bn gi)] 108) := ⟨_, rfl⟩
  have hb34 : Below w3.heap.size w3 w4 := by rw [hw4]; exact (Below.refl _ _).alloc (Nat.le_refl _) _
  have g0 : w4.cell? ⟨w3.heap.size, 0, none⟩ = some (.int .u64 (bn gh)) := by rw [hw4]; simp [go_sem]
  have g1 : w4.cell? ⟨w3.heap.size, 1, none⟩ = some (.int .u64 (bn gi)) := by rw [hw4]; simp [go_sem]
  have hz34 : w4.heap.size = w3.heap.size + 1 := by rw [hw4]; simp
  rw [← hw4]
  clear hw4 c
  replace k0 := step_cell hb34 k0
  replace k1 := step_cell hb34 k1
  replace k2 := step_cell hb34 k2
  have HB34 : Hid (Below w3.heap.size w3 w4) := hb34
  have HZ34 : Hid (w4.heap.size = w3.heap.size + 1) := hz34
  have HB4 : Hid (Below w.heap.size w w4) := step_below hb34 HB3.out
  have hwl := cell_lt k2
  have hwl1 := cell_lt k0
  have hwg := cell_lt g0
  have HLO : Hid (w.heap.size < w3.heap.size) := (by have h1 := HB3.out.size; have h2 := hwl1; omega : w.heap.size < w3.heap.size ∨ w.heap.size = w3.heap.size).elim id (fun h => by have := hwl1; omega)
  have hne : w4.heap.size ≠ mp := by have := (HF.out.below HB4.out).pm.lt; omega
  have hba : Below w4.heap.size w4 (w4.alloc (.cells #[.int .i64 L.kind, .int .i64 L.n] 37)) := (Below.refl _ _).alloc (Nat.le_refl _) _
  have c := keepF q mp mt 141 (.pointer (some ⟨w4.heap.size, 0, none⟩)) A T m (farB L) _ ((HF.out.below HB4.out).below hba) (staysApart L w4.heap.size mp _ (by simp [go_sem]) (by simp [go_sem]) hne)
  have HBA : Hid (Below w4.heap.size w4 (w4.alloc (.cells #[.int .i64 L.kind, .int .i64 L.n] 37))) := hba
  clear hba hb34 hz34
  go_upto_region 3 with (first
    | (go_at_call 110; refine (apartFromO L _).mono ?_; rintro e w5 ⟨rfl, hw5⟩; subst hw5)
    | (go_at_call 109; refine c.mono ?_; rintro e w6 ⟨rfl, hf6, hb6⟩; have HF6 : Hid (FMAt w6 q mp mt A T ⟨fun p => if farB L p = true then m.has p else 0, fun p => if farB L p = true then m.is p else 0, m.tmp⟩) := hf6; have HB6 : Hid (But mp mp w4 w6) := hb6.mono HBA.out; clear hf6 hb6))
  clear c
  have hgb : w3.heap.size ≠ mp := by have := (HF.out.below HB3.out).pm.lt; omega
  replace k0 := HB6.out.cellOf k0 (by omega) (by omega)
  replace k1 := HB6.out.cellOf k1 (by omega) (by omega)
  replace k2 := HB6.out.cellOf k2 (by omega) (by omega)
  replace g0 := HB6.out.cellOf g0 hgb hgb
  replace g1 := HB6.out.cellOf g1 hgb hgb
  have HW6 : Hid (WorldAt w6 lim g B C R A N) := (HW.out.below HB4.out).but HB6.out hmp hmp
  have y3 := HW6.out.stat.p3
  have hgq := cell_lt y3
  have ha36 : (A.length : Int) ≤ 36 := by have := HD.out.a36; omega
  have HFK : Hid (FMAt w6 q mp mt A T ⟨doneH A 0 sm d (keepP m.has L) (keepP m.is L), keepP m.is L, m.tmp⟩) := by
    have h := HF6.out
    have e1 : (fun p => if farB L p = true then m.has p else 0) = keepP m.has L := far_keep _ _
    have e2 : (fun p => if farB L p = true then m.is p else 0) = keepP m.is L := far_keep _ _
    simp only [e1, e2] at h
    rw [doneH_zero]
    exact h
  go_wp2
  go_loopg [11, 12, 29] (A.length + 1) (fun gg v11 v12 v wr => ∃ (j : Nat), v = .int .i64 j ∧ j ≤ A.length ∧ gg = A.length + 1 - j ∧ FMAt wr q mp mt A T ⟨doneH A j sm d (keepP m.has L) (keepP m.is L), keepP m.is L, m.tmp⟩ ∧ But mp mp w6 wr)
  case atStart => exact ⟨0, rfl, by omega, by omega, HFK.out, But.of_below (Below.refl _ _)⟩
  case round =>
    obtain ⟨j, rfl, hj, hgk, hfr, hbr⟩ := hrel
    have HGK : Hid (gk = A.length + 1 - j) := hgk
    have HFR : Hid (FMAt wr q mp mt A T ⟨doneH A j sm d (keepP m.has L) (keepP m.is L), keepP m.is L, m.tmp⟩) := hfr
    have HBR : Hid (But mp mp w6 wr) := hbr
    have HWR : Hid (WorldAt wr lim g B C R A N) := HW6.out.but hbr hmp hmp
    have e3 : w.heap.size ≠ mp := by omega
    have z2 := hbr.cellOf k2 e3 e3
    have e0 : q ≠ mp := hfr.n1
    have hwr := hfr.lt
    clear hgk hfr hbr
    by_cases hjl : j < A.length
    · have hjz : (j : Int) < (A.length : Int) := by omega
      obtain ⟨a, ha⟩ : ∃ a, a = A.getD j .zero := ⟨_, rfl⟩
      obtain ⟨y0, y1⟩ := HWR.out.stat.plc j hjl
      rw [← ha] at y0 y1
      have hbl := cell_lt y0
      have ham : a ∈ A := by rw [ha]; simp [List.getD, hjl]
      have hwf : PlWf a := HD.out.wf ((HD.out.all _).1 ham)
      have HWF : Hid (PlWf a) := hwf
      have HAM : Hid (a ∈ A) := ham
      have HA : Hid (a = A.getD j .zero) := ha
      clear ha ham
      obtain ⟨xh, hxh⟩ : ∃ xh, xh = keepP m.has L a := ⟨_, rfl⟩
      obtain ⟨yi, hyi⟩ : ∃ yi, yi = keepP m.is L a := ⟨_, rfl⟩
      have HXH : Hid (xh = keepP m.has L a) := hxh
      have HYI : Hid (yi = keepP m.is L a) := hyi
      have hhe : doneH A j sm d (keepP m.has L) (keepP m.is L) a = xh := by
        rw [HA.out, doneH_here HND.out hjl, hxh, HA.out]
      have HHE : Hid (doneH A j sm d (keepP m.has L) (keepP m.is L) a = xh) := hhe
      clear hxh hyi hwf hhe
      go_upto_region 6 with fail
      obtain ⟨wx, hwx⟩ : ∃ wx, wx = wr.alloc (.cells #[.int .i64 a.kind, .int .i64 a.n] 37) := ⟨_, rfl⟩
      have hbx : Below wr.heap.size wr wx := by rw [hwx]; exact (Below.refl _ _).alloc (Nat.le_refl _) _
      have x1 : wx.cell? ⟨wr.heap.size, 0, none⟩ = some (.int .i64 a.kind) := by rw [hwx]; simp [go_sem]
      have x2 : wx.cell? ⟨wr.heap.size, 1, none⟩ = some (.int .i64 a.n) := by rw [hwx]; simp [go_sem]
      have hzx : wx.heap.size = wr.heap.size + 1 := by rw [hwx]; simp
      have hfx := HFR.out.below hbx
      have x0 : wx.cell? ⟨q, 0, none⟩ = some (.map (some mp)) := hfx.c0
      have HLK : Hid (∀ w5, Below wx.heap.size wx w5 → (Instr.lookup 109 (.map (some mp)) (.agg #[.int .i64 a.kind, .int .i64 a.n]) false).run Tryz.prog w5 = .ok (.agg #[.int .u64 (bn xh), .int .u64 (bn yi)]) w5) := fun w5 hb => by
        have h := PMap.look (hfx.pm.below hb) HWF.out
        rw [show (⟨doneH A j sm d (keepP m.has L) (keepP m.is L), keepP m.is L, m.tmp⟩ : FM).has a = xh from HHE.out, show (⟨doneH A j sm d (keepP m.has L) (keepP m.is L), keepP m.is L, m.tmp⟩ : FM).is a = yi from HYI.out.symm] at h
        exact h
      have HBX : Hid (Below wr.heap.size wr wx) := hbx
      have HZX : Hid (wx.heap.size = wr.heap.size + 1) := hzx
      have z3 := step_cell hbx z2
      rw [← hwx]
      clear hwx hbx hzx hfx z2 y0 y1
      refine wp_region_held_drew (S := (fun w' => Below wx.heap.size wx w' ∧ w'.cell? ⟨q, 0, none⟩ = some (.map (some mp)) ∧ w'.cell? ⟨wr.heap.size, 0, none⟩ = some (.int .i64 a.kind) ∧ w'.cell? ⟨wr.heap.size, 1, none⟩ = some (.int .i64 a.n))) (by rfl) ?_ (fun hHeld => ?_)
      · (exact ⟨(Below.refl _ _).drew, x0, x1, x2⟩)
      refine wpAnyH_take (i := 0) (v := ?_) rfl (by kernel_rfl) (by kernel_rfl) (by kernel_rfl) (fun _ _ _ h => h) (Or.inl ⟨by rfl, ?_⟩) (by assumption) ?_
      case refine_2 => (intro w hSw; (try dsimp only at hSw); go_simp; first | done | (with_reducible rfl))
      show wpAnyH _ _ _ _ _ _ _ (Act.put _ (some 33) _) _
      simp only [Act.put, List.setIfInBounds_toArray, List.set_cons_zero, List.set_cons_succ]
      refine wpAnyH_take (i := 1) (v := ?_) rfl (by kernel_rfl) (by kernel_rfl) (by kernel_rfl) (fun _ _ _ h => h) (Or.inl ⟨by rfl, ?_⟩) (by assumption) ?_
      case refine_2 => (intro w hSw; (try dsimp only at hSw); go_simp; first | done | (with_reducible rfl))
      show wpAnyH _ _ _ _ _ _ _ (Act.put _ (some 34) _) _
      simp only [Act.put, List.setIfInBounds_toArray, List.set_cons_zero, List.set_cons_succ]
      refine wpAnyH_take (i := 2) (v := ?_) rfl (by kernel_rfl) (by kernel_rfl) (by kernel_rfl) (fun _ _ _ h => h) (Or.inl ⟨by rfl, ?_⟩) (by assumption) ?_
      case refine_2 => (intro w hSw; (try dsimp only at hSw); go_simp; first | done | (with_reducible rfl))
      show wpAnyH _ _ _ _ _ _ _ (Act.put _ (some 35) _) _
      simp only [Act.put, List.setIfInBounds_toArray, List.set_cons_zero, List.set_cons_succ]
      refine wpAnyH_take (i := 3) (v := ?_) rfl (by kernel_rfl) (by kernel_rfl) (by kernel_rfl) (fun _ _ _ h => h) (Or.inl ⟨by rfl, ?_⟩) (by assumption) ?_
      case refine_2 => (intro w hSw; (try dsimp only at hSw); go_simp; first | done | (with_reducible rfl))
      show wpAnyH _ _ _ _ _ _ _ (Act.put _ (some 36) _) _
      simp only [Act.put, List.setIfInBounds_toArray, List.set_cons_zero, List.set_cons_succ]
      refine wpAnyH_take (i := 4) (v := ?_) rfl (by kernel_rfl) (by kernel_rfl) (by kernel_rfl) (fun _ _ _ h => h) (Or.inl ⟨by rfl, ?_⟩) (by assumption) ?_
      case refine_2 => (intro w hSw; (try dsimp only at hSw); go_simp; first | done | (with_reducible rfl))
      show wpAnyH _ _ _ _ _ _ _ (Act.put _ (some 37) _) _
      simp only [Act.put, List.setIfInBounds_toArray, List.set_cons_zero, List.set_cons_succ]
      refine wpAnyH_take (i := 5) (v := ?_) rfl (by kernel_rfl) (by kernel_rfl) (by kernel_rfl) (fun _ _ _ h => h) (Or.inl ⟨by rfl, ?_⟩) (by assumption) ?_
      case refine_2 => (intro w5 hSw; (try dsimp only at hSw); have hl := HLK.out w5 hSw.1; go_simp; first | done | (with_reducible rfl))
      show wpAnyH _ _ _ _ _ _ _ (Act.put _ (some 38) _) _
      simp only [Act.put, List.setIfInBounds_toArray, List.set_cons_zero, List.set_cons_succ]
      refine wpAnyH_ready (rs := [6]) (by kernel_rfl) (by simp) ?_
      refine (AllReadyH.cons rfl (fun K hK => ?_) AllReadyH.nil)
      have h8 := hHeld
      go_simp
      refine hK.out _ _ ?_ (fun hHeld => ?_)
      · (exact ⟨step_below ((Below.refl _ _).alloc (Nat.le_refl _) _) hHeld.1, step_cell ((Below.refl _ _).alloc (Nat.le_refl _) _) hHeld.2.1, step_cell ((Below.refl _ _).alloc (Nat.le_refl _) _) hHeld.2.2.1, step_cell ((Below.refl _ _).alloc (Nat.le_refl _) _) hHeld.2.2.2⟩)
      clear hK K
      try simp only [Act.put, List.setIfInBounds_toArray, List.set_cons_zero, List.set_cons_succ]
      refine wpAnyH_ready (rs := [7]) (by kernel_rfl) (by simp) ?_
      refine (AllReadyH.cons rfl (fun K hK => ?_) AllReadyH.nil)
      go_simp
      refine hK.out _ _ ?_ (fun hHeld => ?_)
      · (exact ⟨step_below ((Below.refl _ _).alloc (Nat.le_refl _) _) h8.1, step_cell ((Below.refl _ _).alloc (Nat.le_refl _) _) h8.2.1, step_cell ((Below.refl _ _).alloc (Nat.le_refl _) _) h8.2.2.1, step_cell ((Below.refl _ _).alloc (Nat.le_refl _) _) h8.2.2.2⟩)
      clear hK K
      try simp only [Act.put, List.setIfInBounds_toArray, List.set_cons_zero, List.set_cons_succ]
      refine wpAnyH_done (by kernel_rfl) ?_ _
      clear hHeld
      obtain ⟨wy, hwy⟩ : ∃ wy, wy = (wx.alloc (.cells #[.int .u64 (bn xh), .int .u64 (bn yi)] 108)).drew := ⟨_, rfl⟩
      have hbxy : Below wx.heap.size wx wy := by rw [hwy]; exact ((Below.refl _ _).alloc (Nat.le_refl _) _).drew
      have v3 : wy.cell? ⟨wx.heap.size, 0, none⟩ = some (.int .u64 (bn xh)) := by rw [hwy]; simp [go_sem]
      have v4 : wy.cell? ⟨wx.heap.size, 1, none⟩ = some (.int .u64 (bn yi)) := by rw [hwy]; simp [go_sem]
      rw [← hwy]
      clear hwy
      have v0 := step_cell hbxy x0
      have v1 := step_cell hbxy x1
      have v2 := step_cell hbxy x2
      have v5 := step_cell hbxy z3
      have HBY : Hid (Below wr.heap.size wr wy) := step_below hbxy HBX.out
      obtain ⟨cc, hcc⟩ : ∃ cc, cc = sm xh yi := ⟨_, rfl⟩
      have HCC : Hid (cc = sm xh yi) := hcc
      have hcall := HSM.out.2 xh yi wy (((But.of_below HB34.out).trans HB6.out).trans (HBR.out.trans (But.of_below HBY.out)))
      have hent := HSM.out.1
      rw [← hcc] at hcall
      have e1 : wr.heap.size ≠ mp := by omega
      have e2 : wx.heap.size ≠ mp := by have := HZX.out; omega
      clear x0 x1 x2 z3 hbxy hcc
      unfold knownV at hcall
      have hn36 : A.length < maxLen := by have := HD.out.a36; unfold maxLen; omega
      rcases Bool.eq_false_or_eq_true cc with hc | hc
      · subst hc
        go_upto_region 8 with (refine hcall.mono ?_; rintro e w7 ⟨rfl, hb7⟩; have HB7 : Hid (Below wy.heap.size wy w7) := hb7; have x0 := step_cell hb7 v0; have x1 := step_cell hb7 v1; have x2 := step_cell hb7 v2; have x3 := step_cell hb7 v3; have x4 := step_cell hb7 v4; have x5 := step_cell hb7 v5; clear hb7 hcall)
        clear v0 v1 v2 v3 v4 v5
        have hF7 := HFR.out.below (step_below HB7.out HBY.out)
        obtain ⟨w9, hrun, hp9, hg9⟩ := (hF7.pm.of_block (w' := w7.drew) rfl).put hn36 HWF.out HAM.out (xh ||| only d) yi
        unfold LPlace.val knownV at hrun
        have HF7 : Hid (FMAt w7 q mp mt A T ⟨doneH A j sm d (keepP m.has L) (keepP m.is L), keepP m.is L, m.tmp⟩) := hF7
        have HP9 : Hid (PMap w9 mp A (updP (doneH A j sm d (keepP m.has L) (keepP m.is L)) a (xh ||| only d)) (updP (keepP m.is L) a yi)) := hp9
        have HG9 : Hid (But mp mp w7.drew w9) := grown_but hg9
        have hor := or_is xh (only d)
        clear hp9 hg9 hF7
        refine wp_region_held_drew (S := (fun w' => But mp mp w7 w' ∧ w'.cell? ⟨q, 0, none⟩ = some (.map (some mp)) ∧ w'.cell? ⟨wr.heap.size, 0, none⟩ = some (.int .i64 a.kind) ∧ w'.cell? ⟨wr.heap.size, 1, none⟩ = some (.int .i64 a.n) ∧ w'.cell? ⟨wx.heap.size, 0, none⟩ = some (.int .u64 (bn xh)) ∧ w'.cell? ⟨wx.heap.size, 1, none⟩ = some (.int .u64 (bn yi)) ∧ w'.cell? ⟨w.heap.size, 1, none⟩ = some (.int .i64 (d : Int)))) (by rfl) ?_ (fun hHeld => ?_)
        · (exact ⟨But.of_below (Below.refl _ _).drew, x0, x1, x2, x3, x4, x5⟩)
        refine wpAnyH_take (i := 0) (v := ?_) rfl (by kernel_rfl) (by kernel_rfl) (by kernel_rfl) (fun _ _ _ h => h) (Or.inl ⟨by rfl, ?_⟩) (by assumption) ?_
        case refine_2 => (intro w hSw; (try dsimp only at hSw); go_simp; first | done | (with_reducible rfl))
        show wpAnyH _ _ _ _ _ _ _ (Act.put _ (some 42) _) _
        simp only [Act.put, List.setIfInBounds_toArray, List.set_cons_zero, List.set_cons_succ]
        refine wpAnyH_take (i := 1) (v := ?_) rfl (by kernel_rfl) (by kernel_rfl) (by kernel_rfl) (fun _ _ _ h => h) (Or.inl ⟨by rfl, ?_⟩) (by assumption) ?_
        case refine_2 => (intro w hSw; (try dsimp only at hSw); go_simp; first | done | (with_reducible rfl))
        show wpAnyH _ _ _ _ _ _ _ (Act.put _ (some 43) _) _
        simp only [Act.put, List.setIfInBounds_toArray, List.set_cons_zero, List.set_cons_succ]
        refine wpAnyH_take (i := 2) (v := ?_) rfl (by kernel_rfl) (by kernel_rfl) (by kernel_rfl) (fun _ _ _ h => h) (Or.inl ⟨by rfl, ?_⟩) (by assumption) ?_
        case refine_2 => (intro w hSw; (try dsimp only at hSw); go_simp; first | done | (with_reducible rfl))
        show wpAnyH _ _ _ _ _ _ _ (Act.put _ (some 44) _) _
        simp only [Act.put, List.setIfInBounds_toArray, List.set_cons_zero, List.set_cons_succ]
        refine wpAnyH_take (i := 3) (v := ?_) rfl (by kernel_rfl) (by kernel_rfl) (by kernel_rfl) (fun _ _ _ h => h) (Or.inl ⟨by rfl, ?_⟩) (by assumption) ?_
        case refine_2 => (intro w hSw; (try dsimp only at hSw); go_simp; first | done | (with_reducible rfl))
        show wpAnyH _ _ _ _ _ _ _ (Act.put _ (some 45) _) _
        simp only [Act.put, List.setIfInBounds_toArray, List.set_cons_zero, List.set_cons_succ]
        refine wpAnyH_take (i := 4) (v := ?_) rfl (by kernel_rfl) (by kernel_rfl) (by kernel_rfl) (fun _ _ _ h => h) (Or.inl ⟨by rfl, ?_⟩) (by assumption) ?_
        case refine_2 => (intro w hSw; (try dsimp only at hSw); go_simp; first | done | (with_reducible rfl))
        show wpAnyH _ _ _ _ _ _ _ (Act.put _ (some 46) _) _
        simp only [Act.put, List.setIfInBounds_toArray, List.set_cons_zero, List.set_cons_succ]
        refine wpAnyH_take (i := 5) (v := ?_) rfl (by kernel_rfl) (by kernel_rfl) (by kernel_rfl) (fun _ _ _ h => h) (Or.inl ⟨by rfl, ?_⟩) (by assumption) ?_
        case refine_2 => (intro w hSw; (try dsimp only at hSw); go_simp; first | done | (with_reducible rfl))
        show wpAnyH _ _ _ _ _ _ _ (Act.put _ (some 47) _) _
        simp only [Act.put, List.setIfInBounds_toArray, List.set_cons_zero, List.set_cons_succ]
        refine wpAnyH_take (i := 6) (v := ?_) rfl (by kernel_rfl) (by kernel_rfl) (by kernel_rfl) (fun _ _ _ h => h) (Or.inl ⟨by rfl, ?_⟩) (by assumption) ?_
        case refine_2 => (intro w hSw; (try dsimp only at hSw); go_simp; first | done | (with_reducible rfl))
        show wpAnyH _ _ _ _ _ _ _ (Act.put _ (some 48) _) _
        simp only [Act.put, List.setIfInBounds_toArray, List.set_cons_zero, List.set_cons_succ]
        refine wpAnyH_take (i := 7) (v := ?_) rfl (by kernel_rfl) (by kernel_rfl) (by kernel_rfl) (fun _ _ _ h => h) (Or.inl ⟨by rfl, ?_⟩) (by assumption) ?_
        case refine_2 => (intro w hSw; (try dsimp only at hSw); go_simp; first | done | (with_reducible rfl))
        show wpAnyH _ _ _ _ _ _ _ (Act.put _ (some 49) _) _
        simp only [Act.put, List.setIfInBounds_toArray, List.set_cons_zero, List.set_cons_succ]
        refine wpAnyH_take (i := 8) (v := ?_) rfl (by kernel_rfl) (by kernel_rfl) (by kernel_rfl) (fun _ _ _ h => h) (Or.inl ⟨by rfl, ?_⟩) (by assumption) ?_
        case refine_2 => (intro w hSw; (try dsimp only at hSw); go_simp; first | done | (with_reducible rfl))
        show wpAnyH _ _ _ _ _ _ _ (Act.put _ (some 50) _) _
        simp only [Act.put, List.setIfInBounds_toArray, List.set_cons_zero, List.set_cons_succ]
        refine wpAnyH_take (i := 11) (v := ?_) rfl (by kernel_rfl) (by kernel_rfl) (by kernel_rfl) (fun _ _ _ h => h) (Or.inl ⟨by rfl, ?_⟩) (by assumption) ?_
        case refine_2 => (intro w hSw; (try dsimp only at hSw); go_simp; first | done | (with_reducible rfl))
        show wpAnyH _ _ _ _ _ _ _ (Act.put _ (some 53) _) _
        simp only [Act.put, List.setIfInBounds_toArray, List.set_cons_zero, List.set_cons_succ]
        refine wpAnyH_take (i := 12) (v := ?_) rfl (by kernel_rfl) (by kernel_rfl) (by kernel_rfl) (fun _ _ _ h => h) (Or.inl ⟨by rfl, ?_⟩) (by assumption) ?_
        case refine_2 => (intro w hSw; (try dsimp only at hSw); go_simp; first | done | (with_reducible rfl))
        show wpAnyH _ _ _ _ _ _ _ (Act.put _ (some 54) _) _
        simp only [Act.put, List.setIfInBounds_toArray, List.set_cons_zero, List.set_cons_succ]
        refine wpAnyH_ready (rs := [9]) (by kernel_rfl) (by simp) ?_
        refine (AllReadyH.cons rfl (fun K hK => ?_) AllReadyH.nil)
        go_simp
        go_at_call 77
        refine (onlyO d h64 _).mono ?_
        rintro e w1 ⟨rfl, hw1⟩
        obtain rfl := hw1.symm
        go_wp2_with fail
        refine hK.out _ _ ?_ (fun hHeld => ?_)
        · (exact hHeld)
        clear hK K
        try simp only [Act.put, List.setIfInBounds_toArray, List.set_cons_zero, List.set_cons_succ]
        refine wpAnyH_take (i := 10) (v := ?_) rfl (by kernel_rfl) (by kernel_rfl) (by kernel_rfl) (fun _ _ _ h => h) (Or.inl ⟨by rfl, ?_⟩) (by assumption) ?_
        case refine_2 => (intro w hSw; (try dsimp only at hSw); go_simp; first | done | (with_reducible rfl))
        show wpAnyH _ _ _ _ _ _ _ (Act.put _ (some 52) _) _
        simp only [Act.put, List.setIfInBounds_toArray, List.set_cons_zero, List.set_cons_succ]
        refine wpAnyH_take (i := 13) (v := ?_) rfl (by kernel_rfl) (by kernel_rfl) (by kernel_rfl) (fun _ _ _ h => h) (Or.inl ⟨by rfl, ?_⟩) (by assumption) ?_
        case refine_2 => (intro w hSw; (try dsimp only at hSw); go_simp; first | done | (with_reducible rfl))
        show wpAnyH _ _ _ _ _ _ _ (Act.put _ (some 55) _) _
        simp only [Act.put, List.setIfInBounds_toArray, List.set_cons_zero, List.set_cons_succ]
        refine wpAnyH_ready (rs := [14]) (by kernel_rfl) (by simp) ?_
        refine (AllReadyH.cons rfl (fun K hK => ?_) AllReadyH.nil)
        go_simp
        refine hK.out _ _ ?_ (fun hHeld => ?_)
        · (exact ⟨hHeld.1.trans HG9.out, HG9.out.cellOf hHeld.2.1 e0 e0, HG9.out.cellOf hHeld.2.2.1 e1 e1, HG9.out.cellOf hHeld.2.2.2.1 e1 e1, HG9.out.cellOf hHeld.2.2.2.2.1 e2 e2, HG9.out.cellOf hHeld.2.2.2.2.2.1 e2 e2, HG9.out.cellOf hHeld.2.2.2.2.2.2 e3 e3⟩)
        clear hK K
        try simp only [Act.put, List.setIfInBounds_toArray, List.set_cons_zero, List.set_cons_succ]
        refine wpAnyH_done (by kernel_rfl) ?_ _
        clear hHeld
        have hgk := HGK.out
        have hb9 : But mp mp w7 w9 := (But.of_below (Below.refl _ _).drew).trans HG9.out
        go_wp2_with fail
        go_roundg (gk - 1)
        case measure => omega
        case rel => exact ⟨j + 1, by go_num, by omega, by omega, giveRound HF7.out hb9 HP9.out hjl HA.out HXH.out HYI.out (by unfold stepH; rw [← HCC.out]; simp), HBR.out.trans ((But.of_below (step_below HB7.out HBY.out)).trans hb9)⟩
      · subst hc
        go_upto_region 9 with (refine hcall.mono ?_; rintro e w7 ⟨rfl, hb7⟩; have HB7 : Hid (Below wy.heap.size wy w7) := hb7; have x0 := step_cell hb7 v0; have x1 := step_cell hb7 v1; have x2 := step_cell hb7 v2; have x3 := step_cell hb7 v3; have x4 := step_cell hb7 v4; have x5 := step_cell hb7 v5; clear hb7 hcall)
        clear v0 v1 v2 v3 v4 v5
        have hF7 := HFR.out.below (step_below HB7.out HBY.out)
        obtain ⟨w9, hrun, hp9, hg9⟩ := (hF7.pm.of_block (w' := w7.drew) rfl).put hn36 HWF.out HAM.out (xh &&& ~~~ only d) yi
        unfold LPlace.val knownV at hrun
        have HF7 : Hid (FMAt w7 q mp mt A T ⟨doneH A j sm d (keepP m.has L) (keepP m.is L), keepP m.is L, m.tmp⟩) := hF7
        have HP9 : Hid (PMap w9 mp A (updP (doneH A j sm d (keepP m.has L) (keepP m.is L)) a (xh &&& ~~~ only d)) (updP (keepP m.is L) a yi)) := hp9
        have HG9 : Hid (But mp mp w7.drew w9) := grown_but hg9
        have hor := andNot_is xh (only d)
        clear hp9 hg9 hF7
        refine wp_region_held_drew (S := (fun w' => But mp mp w7 w' ∧ w'.cell? ⟨q, 0, none⟩ = some (.map (some mp)) ∧ w'.cell? ⟨wr.heap.size, 0, none⟩ = some (.int .i64 a.kind) ∧ w'.cell? ⟨wr.heap.size, 1, none⟩ = some (.int .i64 a.n) ∧ w'.cell? ⟨wx.heap.size, 0, none⟩ = some (.int .u64 (bn xh)) ∧ w'.cell? ⟨wx.heap.size, 1, none⟩ = some (.int .u64 (bn yi)) ∧ w'.cell? ⟨w.heap.size, 1, none⟩ = some (.int .i64 (d : Int)))) (by rfl) ?_ (fun hHeld => ?_)
        · (exact ⟨But.of_below (Below.refl _ _).drew, x0, x1, x2, x3, x4, x5⟩)
        refine wpAnyH_take (i := 0) (v := ?_) rfl (by kernel_rfl) (by kernel_rfl) (by kernel_rfl) (fun _ _ _ h => h) (Or.inl ⟨by rfl, ?_⟩) (by assumption) ?_
        case refine_2 => (intro w hSw; (try dsimp only at hSw); go_simp; first | done | (with_reducible rfl))
        show wpAnyH _ _ _ _ _ _ _ (Act.put _ (some 56) _) _
        simp only [Act.put, List.setIfInBounds_toArray, List.set_cons_zero, List.set_cons_succ]
        refine wpAnyH_take (i := 1) (v := ?_) rfl (by kernel_rfl) (by kernel_rfl) (by kernel_rfl) (fun _ _ _ h => h) (Or.inl ⟨by rfl, ?_⟩) (by assumption) ?_
        case refine_2 => (intro w hSw; (try dsimp only at hSw); go_simp; first | done | (with_reducible rfl))
        show wpAnyH _ _ _ _ _ _ _ (Act.put _ (some 57) _) _
        simp only [Act.put, List.setIfInBounds_toArray, List.set_cons_zero, List.set_cons_succ]
        refine wpAnyH_take (i := 2) (v := ?_) rfl (by kernel_rfl) (by kernel_rfl) (by kernel_rfl) (fun _ _ _ h => h) (Or.inl ⟨by rfl, ?_⟩) (by assumption) ?_
        case refine_2 => (intro w hSw; (try dsimp only at hSw); go_simp; first | done | (with_reducible rfl))
        show wpAnyH _ _ _ _ _ _ _ (Act.put _ (some 58) _) _
        simp only [Act.put, List.setIfInBounds_toArray, List.set_cons_zero, List.set_cons_succ]
        refine wpAnyH_take (i := 3) (v := ?_) rfl (by kernel_rfl) (by kernel_rfl) (by kernel_rfl) (fun _ _ _ h => h) (Or.inl ⟨by rfl, ?_⟩) (by assumption) ?_
        case refine_2 => (intro w hSw; (try dsimp only at hSw); go_simp; first | done | (with_reducible rfl))
        show wpAnyH _ _ _ _ _ _ _ (Act.put _ (some 59) _) _
        simp only [Act.put, List.setIfInBounds_toArray, List.set_cons_zero, List.set_cons_succ]
        refine wpAnyH_take (i := 4) (v := ?_) rfl (by kernel_rfl) (by kernel_rfl) (by kernel_rfl) (fun _ _ _ h => h) (Or.inl ⟨by rfl, ?_⟩) (by assumption) ?_
        case refine_2 => (intro w hSw; (try dsimp only at hSw); go_simp; first | done | (with_reducible rfl))
        show wpAnyH _ _ _ _ _ _ _ (Act.put _ (some 60) _) _
        simp only [Act.put, List.setIfInBounds_toArray, List.set_cons_zero, List.set_cons_succ]
        refine wpAnyH_take (i := 5) (v := ?_) rfl (by kernel_rfl) (by kernel_rfl) (by kernel_rfl) (fun _ _ _ h => h) (Or.inl ⟨by rfl, ?_⟩) (by assumption) ?_
        case refine_2 => (intro w hSw; (try dsimp only at hSw); go_simp; first | done | (with_reducible rfl))
        show wpAnyH _ _ _ _ _ _ _ (Act.put _ (some 61) _) _
        simp only [Act.put, List.setIfInBounds_toArray, List.set_cons_zero, List.set_cons_succ]
        refine wpAnyH_take (i := 6) (v := ?_) rfl (by kernel_rfl) (by kernel_rfl) (by kernel_rfl) (fun _ _ _ h => h) (Or.inl ⟨by rfl, ?_⟩) (by assumption) ?_
        case refine_2 => (intro w hSw; (try dsimp only at hSw); go_simp; first | done | (with_reducible rfl))
        show wpAnyH _ _ _ _ _ _ _ (Act.put _ (some 62) _) _
        simp only [Act.put, List.setIfInBounds_toArray, List.set_cons_zero, List.set_cons_succ]
        refine wpAnyH_take (i := 7) (v := ?_) rfl (by kernel_rfl) (by kernel_rfl) (by kernel_rfl) (fun _ _ _ h => h) (Or.inl ⟨by rfl, ?_⟩) (by assumption) ?_
        case refine_2 => (intro w hSw; (try dsimp only at hSw); go_simp; first | done | (with_reducible rfl))
        show wpAnyH _ _ _ _ _ _ _ (Act.put _ (some 63) _) _
        simp only [Act.put, List.setIfInBounds_toArray, List.set_cons_zero, List.set_cons_succ]
        refine wpAnyH_take (i := 8) (v := ?_) rfl (by kernel_rfl) (by kernel_rfl) (by kernel_rfl) (fun _ _ _ h => h) (Or.inl ⟨by rfl, ?_⟩) (by assumption) ?_
        case refine_2 => (intro w hSw; (try dsimp only at hSw); go_simp; first | done | (with_reducible rfl))
        show wpAnyH _ _ _ _ _ _ _ (Act.put _ (some 64) _) _
        simp only [Act.put, List.setIfInBounds_toArray, List.set_cons_zero, List.set_cons_succ]
        refine wpAnyH_take (i := 11) (v := ?_) rfl (by kernel_rfl) (by kernel_rfl) (by kernel_rfl) (fun _ _ _ h => h) (Or.inl ⟨by rfl, ?_⟩) (by assumption) ?_
        case refine_2 => (intro w hSw; (try dsimp only at hSw); go_simp; first | done | (with_reducible rfl))
        show wpAnyH _ _ _ _ _ _ _ (Act.put _ (some 67) _) _
        simp only [Act.put, List.setIfInBounds_toArray, List.set_cons_zero, List.set_cons_succ]
        refine wpAnyH_take (i := 12) (v := ?_) rfl (by kernel_rfl) (by kernel_rfl) (by kernel_rfl) (fun _ _ _ h => h) (Or.inl ⟨by rfl, ?_⟩) (by assumption) ?_
        case refine_2 => (intro w hSw; (try dsimp only at hSw); go_simp; first | done | (with_reducible rfl))
        show wpAnyH _ _ _ _ _ _ _ (Act.put _ (some 68) _) _
        simp only [Act.put, List.setIfInBounds_toArray, List.set_cons_zero, List.set_cons_succ]
        refine wpAnyH_ready (rs := [9]) (by kernel_rfl) (by simp) ?_
        refine (AllReadyH.cons rfl (fun K hK => ?_) AllReadyH.nil)
        go_simp
        go_at_call 77
        refine (onlyO d h64 _).mono ?_
        rintro e w1 ⟨rfl, hw1⟩
        obtain rfl := hw1.symm
        go_wp2_with fail
        refine hK.out _ _ ?_ (fun hHeld => ?_)
        · (exact hHeld)
        clear hK K
        try simp only [Act.put, List.setIfInBounds_toArray, List.set_cons_zero, List.set_cons_succ]
        refine wpAnyH_take (i := 10) (v := ?_) rfl (by kernel_rfl) (by kernel_rfl) (by kernel_rfl) (fun _ _ _ h => h) (Or.inl ⟨by rfl, ?_⟩) (by assumption) ?_
        case refine_2 => (intro w hSw; (try dsimp only at hSw); go_simp; first | done | (with_reducible rfl))
        show wpAnyH _ _ _ _ _ _ _ (Act.put _ (some 66) _) _
        simp only [Act.put, List.setIfInBounds_toArray, List.set_cons_zero, List.set_cons_succ]
        refine wpAnyH_take (i := 13) (v := ?_) rfl (by kernel_rfl) (by kernel_rfl) (by kernel_rfl) (fun _ _ _ h => h) (Or.inl ⟨by rfl, ?_⟩) (by assumption) ?_
        case refine_2 => (intro w hSw; (try dsimp only at hSw); go_simp; first | done | (with_reducible rfl))
        show wpAnyH _ _ _ _ _ _ _ (Act.put _ (some 69) _) _
        simp only [Act.put, List.setIfInBounds_toArray, List.set_cons_zero, List.set_cons_succ]
        refine wpAnyH_ready (rs := [14]) (by kernel_rfl) (by simp) ?_
        refine (AllReadyH.cons rfl (fun K hK => ?_) AllReadyH.nil)
        go_simp
        refine hK.out _ _ ?_ (fun hHeld => ?_)
        · (exact ⟨hHeld.1.trans HG9.out, HG9.out.cellOf hHeld.2.1 e0 e0, HG9.out.cellOf hHeld.2.2.1 e1 e1, HG9.out.cellOf hHeld.2.2.2.1 e1 e1, HG9.out.cellOf hHeld.2.2.2.2.1 e2 e2, HG9.out.cellOf hHeld.2.2.2.2.2.1 e2 e2, HG9.out.cellOf hHeld.2.2.2.2.2.2 e3 e3⟩)
        clear hK K
        try simp only [Act.put, List.setIfInBounds_toArray, List.set_cons_zero, List.set_cons_succ]
        refine wpAnyH_done (by kernel_rfl) ?_ _
        clear hHeld
        have hgk := HGK.out
        have hb9 : But mp mp w7 w9 := (But.of_below (Below.refl _ _).drew).trans HG9.out
        go_wp2_with fail
        go_roundg (gk - 1)
        case measure => omega
        case rel => exact ⟨j + 1, by go_num, by omega, by omega, giveRound HF7.out hb9 HP9.out hjl HA.out HXH.out HYI.out (by unfold stepH; rw [← HCC.out]; simp), HBR.out.trans ((But.of_below (step_below HB7.out HBY.out)).trans hb9)⟩
    · obtain rfl : j = A.length := by omega
      have hjz : ¬ (A.length : Int) < (A.length : Int) := by omega
      have HDN : Hid (doneH A A.length sm d (keepP m.has L) (keepP m.is L) = fun p => if isB s slots p = true then (if sm (keepP m.has L p) (keepP m.is L p) = true then keepP m.has L p ||| only d else keepP m.has L p &&& ~~~ only d) else keepP m.has L p) := doneH_all HD.out.all
      have hFr := HFR.out
      have x0 := hFr.c1
      have x1 := HBR.out.cellOf g1 hgb hgb
      have hn12 : T.length < maxLen := by unfold maxLen; omega
      have hdT : TWf (d : Int) := ⟨by omega, by omega⟩
      have hdm : (d : Int) ∈ T := (HT.out _).2 (by have := HDL.out; omega)
      obtain ⟨w9, hrun, hp9, hg9⟩ := (hFr.tm.of_block (w' := wr.drew) rfl).put hn12 hdT hdm gi
      have HP9 : Hid (TMap w9 mt T (updT m.tmp d gi)) := hp9
      have HG9 : Hid (But mt mt wr.drew w9) := grown_but hg9
      have e5 : w.heap.size ≠ mt := by omega
      have e6 : w3.heap.size ≠ mt := by have := (HF.out.below HB3.out).tm.lt; omega
      have e7 : q ≠ mt := hFr.n2
      have hwlr := cell_lt z2
      clear hp9 hg9 hFr hdT hdm
      go_upto_region 11 with fail
      refine wp_region_held_drew (S := (fun w' => But mt mt wr w' ∧ w'.cell? ⟨q, 1, none⟩ = some (.map (some mt)) ∧ w'.cell? ⟨w.heap.size, 1, none⟩ = some (.int .i64 (d : Int)) ∧ w'.cell? ⟨w3.heap.size, 1, none⟩ = some (.int .u64 (bn gi)))) (by rfl) ?_ (fun hHeld => ?_)
      · (exact ⟨But.of_below (Below.refl _ _).drew, x0, z2, x1⟩)
      refine wpAnyH_take (i := 0) (v := ?_) rfl (by kernel_rfl) (by kernel_rfl) (by kernel_rfl) (fun _ _ _ h => h) (Or.inl ⟨by rfl, ?_⟩) (by assumption) ?_
      case refine_2 => (intro w hSw; (try dsimp only at hSw); go_simp; first | done | (with_reducible rfl))
      show wpAnyH _ _ _ _ _ _ _ (Act.put _ (some 71) _) _
      simp only [Act.put, List.setIfInBounds_toArray, List.set_cons_zero, List.set_cons_succ]
      refine wpAnyH_take (i := 1) (v := ?_) rfl (by kernel_rfl) (by kernel_rfl) (by kernel_rfl) (fun _ _ _ h => h) (Or.inl ⟨by rfl, ?_⟩) (by assumption) ?_
      case refine_2 => (intro w hSw; (try dsimp only at hSw); go_simp; first | done | (with_reducible rfl))
      show wpAnyH _ _ _ _ _ _ _ (Act.put _ (some 72) _) _
      simp only [Act.put, List.setIfInBounds_toArray, List.set_cons_zero, List.set_cons_succ]
      refine wpAnyH_take (i := 2) (v := ?_) rfl (by kernel_rfl) (by kernel_rfl) (by kernel_rfl) (fun _ _ _ h => h) (Or.inl ⟨by rfl, ?_⟩) (by assumption) ?_
      case refine_2 => (intro w hSw; (try dsimp only at hSw); go_simp; first | done | (with_reducible rfl))
      show wpAnyH _ _ _ _ _ _ _ (Act.put _ (some 73) _) _
      simp only [Act.put, List.setIfInBounds_toArray, List.set_cons_zero, List.set_cons_succ]
      refine wpAnyH_take (i := 3) (v := ?_) rfl (by kernel_rfl) (by kernel_rfl) (by kernel_rfl) (fun _ _ _ h => h) (Or.inl ⟨by rfl, ?_⟩) (by assumption) ?_
      case refine_2 => (intro w hSw; (try dsimp only at hSw); go_simp; first | done | (with_reducible rfl))
      show wpAnyH _ _ _ _ _ _ _ (Act.put _ (some 74) _) _
      simp only [Act.put, List.setIfInBounds_toArray, List.set_cons_zero, List.set_cons_succ]
      refine wpAnyH_take (i := 4) (v := ?_) rfl (by kernel_rfl) (by kernel_rfl) (by kernel_rfl) (fun _ _ _ h => h) (Or.inl ⟨by rfl, ?_⟩) (by assumption) ?_
      case refine_2 => (intro w hSw; (try dsimp only at hSw); go_simp; first | done | (with_reducible rfl))
      show wpAnyH _ _ _ _ _ _ _ (Act.put _ (some 75) _) _
      simp only [Act.put, List.setIfInBounds_toArray, List.set_cons_zero, List.set_cons_succ]
      refine wpAnyH_take (i := 5) (v := ?_) rfl (by kernel_rfl) (by kernel_rfl) (by kernel_rfl) (fun _ _ _ h => h) (Or.inl ⟨by rfl, ?_⟩) (by assumption) ?_
      case refine_2 => (intro w hSw; (try dsimp only at hSw); go_simp; first | done | (with_reducible rfl))
      show wpAnyH _ _ _ _ _ _ _ (Act.put _ (some 76) _) _
      simp only [Act.put, List.setIfInBounds_toArray, List.set_cons_zero, List.set_cons_succ]
      refine wpAnyH_take (i := 6) (v := ?_) rfl (by kernel_rfl) (by kernel_rfl) (by kernel_rfl) (fun _ _ _ h => h) (Or.inl ⟨by rfl, ?_⟩) (by assumption) ?_
      case refine_2 => (intro w hSw; (try dsimp only at hSw); go_simp; first | done | (with_reducible rfl))
      show wpAnyH _ _ _ _ _ _ _ (Act.put _ (some 77) _) _
      simp only [Act.put, List.setIfInBounds_toArray, List.set_cons_zero, List.set_cons_succ]
      refine wpAnyH_take (i := 7) (v := ?_) rfl (by kernel_rfl) (by kernel_rfl) (by kernel_rfl) (fun _ _ _ h => h) (Or.inl ⟨by rfl, ?_⟩) (by assumption) ?_
      case refine_2 => (intro w hSw; (try dsimp only at hSw); go_simp; first | done | (with_reducible rfl))
      show wpAnyH _ _ _ _ _ _ _ (Act.put _ (some 78) _) _
      simp only [Act.put, List.setIfInBounds_toArray, List.set_cons_zero, List.set_cons_succ]
      refine wpAnyH_ready (rs := [8]) (by kernel_rfl) (by simp) ?_
      refine (AllReadyH.cons rfl (fun K hK => ?_) AllReadyH.nil)
      go_simp
      refine hK.out _ _ ?_ (fun hHeld => ?_)
      · (exact ⟨hHeld.1.trans HG9.out, HG9.out.cellOf hHeld.2.1 e7 e7, HG9.out.cellOf hHeld.2.2.1 e5 e5, HG9.out.cellOf hHeld.2.2.2 e6 e6⟩)
      clear hK K
      try simp only [Act.put, List.setIfInBounds_toArray, List.set_cons_zero, List.set_cons_succ]
      refine wpAnyH_done (by kernel_rfl) ?_ _
      clear hHeld
      have hb9 : But mt mt wr w9 := (But.of_below (Below.refl _ _).drew).trans HG9.out
      have HB9 : Hid (But mt mt wr w9) := hb9
      have HF9 : Hid (FMAt w9 q mp mt A T ⟨doneH A A.length sm d (keepP m.has L) (keepP m.is L), keepP m.is L, updT m.tmp d gi⟩) := ⟨hb9.cellOf HFR.out.c0 e7 e7, hb9.cellOf HFR.out.c1 e7 e7, HFR.out.pm.of_block (hb9.block mp HFR.out.pm.lt HFR.out.n3 HFR.out.n3), HP9.out, HFR.out.n1, HFR.out.n2, HFR.out.n3⟩
      have e1 : w.heap.size + 1 ≠ mp := by omega
      have e8 : w.heap.size + 1 ≠ mt := by omega
      have f0 := hb9.cellOf HFR.out.c0 e7 e7
      have f1 := hb9.cellOf (HBR.out.cellOf k0 e1 e1) e8 e8
      have f2 := hb9.cellOf (HBR.out.cellOf k1 e1 e1) e8 e8
      have f3 := hb9.cellOf (HBR.out.cellOf g0 hgb hgb) e6 e6
      have f4 := hb9.cellOf x1 e6 e6
      have f5 := hb9.cellOf z2 e5 e5
      clear x0 x1 z2 hrun hb9
      have x0 := f0
      have x1 := f1
      have x2 := f2
      have x3 := f3
      have x4 := f4
      have x5 := f5
      clear f0 f1 f2 f3 f4 f5 k0 k1 k2 g0 g1
      have hn36 : A.length < maxLen := by have := HD.out.a36; unfold maxLen; omega
      go_upto_region 12 with fail
      obtain ⟨wa, hrun, hpa, hga⟩ := (HF9.out.pm.of_block (w' := w9.drew) rfl).put hn36 (HD.out.wf HL.out) ((HD.out.all _).2 HL.out) (gh ||| only d) gi
      unfold LPlace.val knownV at hrun
      have HPA : Hid (PMap wa mp A (updP (doneH A A.length sm d (keepP m.has L) (keepP m.is L)) L (gh ||| only d)) (updP (keepP m.is L) L gi)) := hpa
      have HG9 : Hid (But mp mp w9.drew wa) := grown_but hga
      have hor := or_is gh (only d)
      have e2 := hgb
      clear hpa hga
      refine wp_region_held_drew (S := (fun w' => But mp mp w9 w' ∧ w'.cell? ⟨q, 0, none⟩ = some (.map (some mp)) ∧ w'.cell? ⟨w.heap.size + 1, 0, none⟩ = some (.int .i64 L.kind) ∧ w'.cell? ⟨w.heap.size + 1, 1, none⟩ = some (.int .i64 L.n) ∧ w'.cell? ⟨w3.heap.size, 0, none⟩ = some (.int .u64 (bn gh)) ∧ w'.cell? ⟨w3.heap.size, 1, none⟩ = some (.int .u64 (bn gi)) ∧ w'.cell? ⟨w.heap.size, 1, none⟩ = some (.int .i64 (d : Int)))) (by rfl) ?_ (fun hHeld => ?_)
      · (exact ⟨But.of_below (Below.refl _ _).drew, x0, x1, x2, x3, x4, x5⟩)
      refine wpAnyH_take (i := 0) (v := ?_) rfl (by kernel_rfl) (by kernel_rfl) (by kernel_rfl) (fun _ _ _ h => h) (Or.inl ⟨by rfl, ?_⟩) (by assumption) ?_
      case refine_2 => (intro w hSw; (try dsimp only at hSw); go_simp; first | done | (with_reducible rfl))
      show wpAnyH _ _ _ _ _ _ _ (Act.put _ (some 79) _) _
      simp only [Act.put, List.setIfInBounds_toArray, List.set_cons_zero, List.set_cons_succ]
      refine wpAnyH_take (i := 1) (v := ?_) rfl (by kernel_rfl) (by kernel_rfl) (by kernel_rfl) (fun _ _ _ h => h) (Or.inl ⟨by rfl, ?_⟩) (by assumption) ?_
      case refine_2 => (intro w hSw; (try dsimp only at hSw); go_simp; first | done | (with_reducible rfl))
      show wpAnyH _ _ _ _ _ _ _ (Act.put _ (some 80) _) _
      simp only [Act.put, List.setIfInBounds_toArray, List.set_cons_zero, List.set_cons_succ]
      refine wpAnyH_take (i := 2) (v := ?_) rfl (by kernel_rfl) (by kernel_rfl) (by kernel_rfl) (fun _ _ _ h => h) (Or.inl ⟨by rfl, ?_⟩) (by assumption) ?_
      case refine_2 => (intro w hSw; (try dsimp only at hSw); go_simp; first | done | (with_reducible rfl))
      show wpAnyH _ _ _ _ _ _ _ (Act.put _ (some 81) _) _
      simp only [Act.put, List.setIfInBounds_toArray, List.set_cons_zero, List.set_cons_succ]
      refine wpAnyH_take (i := 3) (v := ?_) rfl (by kernel_rfl) (by kernel_rfl) (by kernel_rfl) (fun _ _ _ h => h) (Or.inl ⟨by rfl, ?_⟩) (by assumption) ?_
      case refine_2 => (intro w hSw; (try dsimp only at hSw); go_simp; first | done | (with_reducible rfl))
      show wpAnyH _ _ _ _ _ _ _ (Act.put _ (some 82) _) _
      simp only [Act.put, List.setIfInBounds_toArray, List.set_cons_zero, List.set_cons_succ]
      refine wpAnyH_take (i := 4) (v := ?_) rfl (by kernel_rfl) (by kernel_rfl) (by kernel_rfl) (fun _ _ _ h => h) (Or.inl ⟨by rfl, ?_⟩) (by assumption) ?_
      case refine_2 => (intro w hSw; (try dsimp only at hSw); go_simp; first | done | (with_reducible rfl))
      show wpAnyH _ _ _ _ _ _ _ (Act.put _ (some 83) _) _
      simp only [Act.put, List.setIfInBounds_toArray, List.set_cons_zero, List.set_cons_succ]
      refine wpAnyH_take (i := 5) (v := ?_) rfl (by kernel_rfl) (by kernel_rfl) (by kernel_rfl) (fun _ _ _ h => h) (Or.inl ⟨by rfl, ?_⟩) (by assumption) ?_
      case refine_2 => (intro w hSw; (try dsimp only at hSw); go_simp; first | done | (with_reducible rfl))
      show wpAnyH _ _ _ _ _ _ _ (Act.put _ (some 84) _) _
      simp only [Act.put, List.setIfInBounds_toArray, List.set_cons_zero, List.set_cons_succ]
      refine wpAnyH_take (i := 6) (v := ?_) rfl (by kernel_rfl) (by kernel_rfl) (by kernel_rfl) (fun _ _ _ h => h) (Or.inl ⟨by rfl, ?_⟩) (by assumption) ?_
      case refine_2 => (intro w hSw; (try dsimp only at hSw); go_simp; first | done | (with_reducible rfl))
      show wpAnyH _ _ _ _ _ _ _ (Act.put _ (some 85) _) _
      simp only [Act.put, List.setIfInBounds_toArray, List.set_cons_zero, List.set_cons_succ]
      refine wpAnyH_take (i := 7) (v := ?_) rfl (by kernel_rfl) (by kernel_rfl) (by kernel_rfl) (fun _ _ _ h => h) (Or.inl ⟨by rfl, ?_⟩) (by assumption) ?_
      case refine_2 => (intro w hSw; (try dsimp only at hSw); go_simp; first | done | (with_reducible rfl))
      show wpAnyH _ _ _ _ _ _ _ (Act.put _ (some 86) _) _
      simp only [Act.put, List.setIfInBounds_toArray, List.set_cons_zero, List.set_cons_succ]
      refine wpAnyH_take (i := 8) (v := ?_) rfl (by kernel_rfl) (by kernel_rfl) (by kernel_rfl) (fun _ _ _ h => h) (Or.inl ⟨by rfl, ?_⟩) (by assumption) ?_
      case refine_2 => (intro w hSw; (try dsimp only at hSw); go_simp; first | done | (with_reducible rfl))
      show wpAnyH _ _ _ _ _ _ _ (Act.put _ (some 87) _) _
      simp only [Act.put, List.setIfInBounds_toArray, List.set_cons_zero, List.set_cons_succ]
      refine wpAnyH_take (i := 11) (v := ?_) rfl (by kernel_rfl) (by kernel_rfl) (by kernel_rfl) (fun _ _ _ h => h) (Or.inl ⟨by rfl, ?_⟩) (by assumption) ?_
      case refine_2 => (intro w hSw; (try dsimp only at hSw); go_simp; first | done | (with_reducible rfl))
      show wpAnyH _ _ _ _ _ _ _ (Act.put _ (some 90) _) _
      simp only [Act.put, List.setIfInBounds_toArray, List.set_cons_zero, List.set_cons_succ]
      refine wpAnyH_take (i := 12) (v := ?_) rfl (by kernel_rfl) (by kernel_rfl) (by kernel_rfl) (fun _ _ _ h => h) (Or.inl ⟨by rfl, ?_⟩) (by assumption) ?_
      case refine_2 => (intro w hSw; (try dsimp only at hSw); go_simp; first | done | (with_reducible rfl))
      show wpAnyH _ _ _ _ _ _ _ (Act.put _ (some 91) _) _
      simp only [Act.put, List.setIfInBounds_toArray, List.set_cons_zero, List.set_cons_succ]
      refine wpAnyH_ready (rs := [9]) (by kernel_rfl) (by simp) ?_
      refine (AllReadyH.cons rfl (fun K hK => ?_) AllReadyH.nil)
      go_simp
      go_at_call 77
      refine (onlyO d h64 _).mono ?_
      rintro e w1 ⟨rfl, hw1⟩
      obtain rfl := hw1.symm
      go_wp2_with fail
      refine hK.out _ _ ?_ (fun hHeld => ?_)
      · (exact hHeld)
      clear hK K
      try simp only [Act.put, List.setIfInBounds_toArray, List.set_cons_zero, List.set_cons_succ]
      refine wpAnyH_take (i := 10) (v := ?_) rfl (by kernel_rfl) (by kernel_rfl) (by kernel_rfl) (fun _ _ _ h => h) (Or.inl ⟨by rfl, ?_⟩) (by assumption) ?_
      case refine_2 => (intro w hSw; (try dsimp only at hSw); go_simp; first | done | (with_reducible rfl))
      show wpAnyH _ _ _ _ _ _ _ (Act.put _ (some 89) _) _
      simp only [Act.put, List.setIfInBounds_toArray, List.set_cons_zero, List.set_cons_succ]
      refine wpAnyH_take (i := 13) (v := ?_) rfl (by kernel_rfl) (by kernel_rfl) (by kernel_rfl) (fun _ _ _ h => h) (Or.inl ⟨by rfl, ?_⟩) (by assumption) ?_
      case refine_2 => (intro w hSw; (try dsimp only at hSw); go_simp; first | done | (with_reducible rfl))
      show wpAnyH _ _ _ _ _ _ _ (Act.put _ (some 92) _) _
      simp only [Act.put, List.setIfInBounds_toArray, List.set_cons_zero, List.set_cons_succ]
      refine wpAnyH_ready (rs := [14]) (by kernel_rfl) (by simp) ?_
      refine (AllReadyH.cons rfl (fun K hK => ?_) AllReadyH.nil)
      go_simp
      refine hK.out _ _ ?_ (fun hHeld => ?_)
      · (exact ⟨hHeld.1.trans HG9.out, HG9.out.cellOf hHeld.2.1 e0 e0, HG9.out.cellOf hHeld.2.2.1 e1 e1, HG9.out.cellOf hHeld.2.2.2.1 e1 e1, HG9.out.cellOf hHeld.2.2.2.2.1 e2 e2, HG9.out.cellOf hHeld.2.2.2.2.2.1 e2 e2, HG9.out.cellOf hHeld.2.2.2.2.2.2 e3 e3⟩)
      clear hK K
      try simp only [Act.put, List.setIfInBounds_toArray, List.set_cons_zero, List.set_cons_succ]
      refine wpAnyH_done (by kernel_rfl) ?_ _
      clear hHeld
      go_wp2
      go_end0
      have hba : But mp mp w9 wa := (But.of_below (Below.refl _ _).drew).trans HG9.out
      have hF9 := HF9.out
      refine ⟨rfl, gh, gi, fun p => sm (keepP m.has L p) (keepP m.is L p), ⟨HGS.out.h, HGS.out.y, fun p _ => HGS.out.s _ _⟩, ?_, ?_⟩
      · have hd : i.dest.toNat = d := by rw [HDD.out]; exact Int.toNat_natCast d
        rw [hd]
        have h := HPA.out
        rw [HDN.out] at h
        exact ⟨hba.cellOf hF9.c0 hF9.n1 hF9.n1, hba.cellOf hF9.c1 hF9.n1 hF9.n1, h, hF9.tm.of_block (hba.block mt hF9.tm.lt (Ne.symm hF9.n3) (Ne.symm hF9.n3)), hF9.n1, hF9.n2, hF9.n3⟩
      · have h1 : But mp mp w wr := (But.of_below HB4.out).trans (HB6.out.trans HBR.out)
        exact ⟨by rw [hba.os, HB9.out.os, h1.os], by rw [hba.tape, HB9.out.tape, h1.tape], by rw [hba.output, HB9.out.output, h1.output], Nat.le_trans h1.size (Nat.le_trans HB9.out.size hba.size), fun k hk n1 n2 => by
          have s1 := h1.size
          have s2 := HB9.out.size
          rw [hba.block k (by omega) n1 n1, HB9.out.block k (by omega) n2 n2, h1.block k hk n1 n1]⟩
end Go.Proofs.YtcmnmogmdhofcabGreat.form

/- What layout.within and isIn answer. -/
namespace Go.Proofs.YtcmnmogmdhofcabGreat.form
open Go.RowKit
set_option linter.unusedVariables false

theorem within (a b : Int) (w : World) :
    Calls Tryz.prog 60 #[.int .i64 a, .int .i64 b] w fun e w' => e = .returned (.bool (decide (1 ≤ a) && decide (a ≤ b))) ∧ w' = w := by
  go_enter Tryz.func60, Tryz.ntmps60
  go_wp2
  all_goals
    go_ret
    exact ⟨ret_bool (by rw [Bool.eq_iff_iff]; simp; try omega), rfl⟩

theorem isIn (a b : Int) (w : World) :
    Calls Tryz.prog 103 #[.int .i64 a, .int .i64 b] w fun e w' => e = .returned (.bool (decide (0 ≤ a) && decide (a < b))) ∧ w' = w := by
  go_enter Tryz.func103, Tryz.ntmps103
  go_wp2
  all_goals
    go_ret
    exact ⟨ret_bool (by rw [Bool.eq_iff_iff]; simp; try omega), rfl⟩

end Go.Proofs.YtcmnmogmdhofcabGreat.form

/- What layout.kindsOf, settle and fits answer. -/
namespace Go.Proofs.YtcmnmogmdhofcabGreat.form
open Go.RowKit
set_option linter.unusedVariables false

def fitB (B : List Bool) (nC : Nat) (k x : Int) : Bool :=
  if k = 0 then x == 0 else if k = 1 then decide (0 ≤ x) && decide (x < B.length) && !(B.getD x.toNat false)
  else if k = 2 then decide (0 ≤ x) && decide (x < B.length) && B.getD x.toNat false else if k = 4 then decide (0 ≤ x) && decide (x < nC) else k == 5

set_option maxRecDepth 100000 in
set_option maxHeartbeats 400000 in
theorem fits (b0 o0 c0 b1 o1 c1 : Nat) (B : List Bool) (C : List LIns) (k x : Int) (w : World) (hB : B.length ≤ 12) (hC : C.length ≤ 40) (h : Held w b0 o0 b1 o1 B C) :
    Calls Tryz.prog 123 #[progV b0 o0 B.length c0 b1 o1 C.length c1, .int .i64 k, .int .i64 x] w fun e w' => e = .returned (.bool (fitB B C.length k x)) ∧ Below w.heap.size w w' := by
  have hlt0 := h.lt0
  have hcell : 0 ≤ x ∧ x < B.length → w.cell? ⟨b0, o0 + x.toNat, none⟩ = some (.bool (B.getD x.toNat false)) := fun hx => h.wide _ (by omega)
  unfold progV
  go_enter Tryz.func123, Tryz.ntmps123
  go_wp2_with (go_at_call 103; refine (isIn _ _ _).mono ?_; rintro e w' ⟨rfl, rfl⟩)
  all_goals
    go_ret
    exact ⟨ret_bool (by clear hcell; simp_all [fitB]; try (intro hx; exfalso; omega)), (Below.refl _ _).alloc (Nat.le_refl _) _⟩

def kd (op : Int) (j : Nat) : Int :=
  (if op = 1 then [1, 0, 0, 0, 5] else if op = 2 then [3, 3, 0, 0, 0] else if op = 3 then [1, 0, 0, 0, 0] else if op = 4 then [0, 1, 0, 0, 0] else if op = 5 then [2, 1, 1, 0, 0]
  else if op = 6 ∨ op = 7 then [1, 2, 0, 0, 0] else if op = 8 then [0, 0, 0, 4, 0] else if op = 9 then [0, 1, 0, 4, 0] else if op = 10 then [0, 0, 0, 0, 0]
  else if 21 ≤ op ∧ op ≤ 26 then [1, 1, 1, 0, 0] else if 41 ≤ op ∧ op ≤ 45 then [2, 2, 2, 0, 0] else [0, 0, 0, 0, 0]).getD j 0

def fiveV (k0 k1 k2 k3 k4 : Int) : Value := .agg #[.int .i64 k0, .int .i64 k1, .int .i64 k2, .int .i64 k3, .int .i64 k4]

theorem kd_narrow (op : Int) (h1 : 21 ≤ op) (h2 : op ≤ 26) : kd op = fun j => ([1, 1, 1, 0, 0] : List Int).getD j 0 := by
  funext j
  unfold kd
  rw [if_neg (by omega), if_neg (by omega), if_neg (by omega), if_neg (by omega), if_neg (by omega), if_neg (by omega), if_neg (by omega), if_neg (by omega), if_neg (by omega), if_pos (by omega)]
theorem kd_wide (op : Int) (h1 : 41 ≤ op) (h2 : op ≤ 45) : kd op = fun j => ([2, 2, 2, 0, 0] : List Int).getD j 0 := by
  funext j
  unfold kd
  rw [if_neg (by omega), if_neg (by omega), if_neg (by omega), if_neg (by omega), if_neg (by omega), if_neg (by omega), if_neg (by omega), if_neg (by omega), if_neg (by omega), if_neg (by omega), if_pos (by omega)]
theorem known_narrow (op : Int) (h1 : 21 ≤ op) (h2 : op ≤ 26) : knownB op = true := by unfold knownB; simp; omega
theorem known_wide (op : Int) (h1 : 41 ≤ op) (h2 : op ≤ 45) : knownB op = true := by unfold knownB; simp; omega
theorem kd_none (op : Int) (h : knownB op = false) : kd op = (fun j => ([0, 0, 0, 0, 0] : List Int).getD j 0) ∧ knownB op = false := by
  refine ⟨?_, h⟩
  unfold knownB at h
  simp at h
  funext j
  unfold kd
  rw [if_neg (by omega), if_neg (by omega), if_neg (by omega), if_neg (by omega), if_neg (by omega), if_neg (by omega), if_neg (by omega), if_neg (by omega), if_neg (by omega), if_neg (by omega), if_neg (by omega)]

set_option maxRecDepth 100000 in
set_option maxHeartbeats 400000 in
theorem kindsOf (op : Int) (w : World) :
    Calls Tryz.prog 75 #[.int .i64 op] w fun e w' => e = .returned (.tuple #[fiveV (kd op 0) (kd op 1) (kd op 2) (kd op 3) (kd op 4), .bool (knownB op)]) ∧ Below w.heap.size w w' := by
  rcases (show op = 1 ∨ op = 2 ∨ op = 3 ∨ op = 4 ∨ op = 5 ∨ op = 6 ∨ op = 7 ∨ op = 8 ∨ op = 9 ∨ op = 10 ∨ (21 ≤ op ∧ op ≤ 26) ∨ (41 ≤ op ∧ op ≤ 45) ∨ op < 1 ∨ (10 < op ∧ op < 21) ∨ (26 < op ∧ op < 41) ∨ 45 < op by omega) with rfl | rfl | rfl | rfl | rfl | rfl | rfl | rfl | rfl | rfl | ⟨h1, h2⟩ | ⟨h1, h2⟩ | h1 | ⟨h1, h2⟩ | ⟨h1, h2⟩ | h1
  all_goals
    go_enter Tryz.func75, Tryz.ntmps75
    go_wp2
    refine bodyPost_ret (v := .tuple #[fiveV (kd _ 0) (kd _ 1) (kd _ 2) (kd _ 3) (kd _ 4), .bool (knownB _)]) ?_ rfl ⟨rfl, ?_⟩
    rotate_left
    · exact (Below.refl _ _).alloc (Nat.le_refl _) _
  iterate 10 (case refine_1 => simp [results, Tryz.results75, go_sem, fiveV, kd, knownB])
  case refine_1 => simp [results, Tryz.results75, go_sem, fiveV, kd_narrow op h1 h2, known_narrow op h1 h2]
  case refine_1 => simp [results, Tryz.results75, go_sem, fiveV, kd_wide op h1 h2, known_wide op h1 h2]
  all_goals simp [results, Tryz.results75, go_sem, fiveV, (kd_none op (by unfold knownB; simp; omega)).1, (kd_none op (by unfold knownB; simp; omega)).2]

def st (k width : Int) : Int := if k = 3 then width else k

set_option maxRecDepth 100000 in
set_option maxHeartbeats 400000 in
theorem settle (k0 k1 k2 k3 k4 width : Int) (w : World) :
    Calls Tryz.prog 95 #[fiveV k0 k1 k2 k3 k4, .int .i64 width] w fun e w' => e = .returned (fiveV (st k0 width) (st k1 width) (st k2 width) (st k3 width) (st k4 width)) ∧ Below w.heap.size w w' := by
  unfold fiveV
  have i0 : ∀ w, (Instr.index 141 (.agg #[.int .i64 k0, .int .i64 k1, .int .i64 k2, .int .i64 k3, .int .i64 k4]) (.int .i64 0)).run Tryz.prog w = .ok (.int .i64 k0) w := fun _ => by kernel_rfl
  have i1 : ∀ w, (Instr.index 141 (.agg #[.int .i64 k0, .int .i64 k1, .int .i64 k2, .int .i64 k3, .int .i64 k4]) (.int .i64 1)).run Tryz.prog w = .ok (.int .i64 k1) w := fun _ => by kernel_rfl
  have i2 : ∀ w, (Instr.index 141 (.agg #[.int .i64 k0, .int .i64 k1, .int .i64 k2, .int .i64 k3, .int .i64 k4]) (.int .i64 2)).run Tryz.prog w = .ok (.int .i64 k2) w := fun _ => by kernel_rfl
  have i3 : ∀ w, (Instr.index 141 (.agg #[.int .i64 k0, .int .i64 k1, .int .i64 k2, .int .i64 k3, .int .i64 k4]) (.int .i64 3)).run Tryz.prog w = .ok (.int .i64 k3) w := fun _ => by kernel_rfl
  have i4 : ∀ w, (Instr.index 141 (.agg #[.int .i64 k0, .int .i64 k1, .int .i64 k2, .int .i64 k3, .int .i64 k4]) (.int .i64 4)).run Tryz.prog w = .ok (.int .i64 k4) w := fun _ => by kernel_rfl
  go_enter Tryz.func95, Tryz.ntmps95
  go_wp2
  go_loopw [8] (fun i wr => ∃ k : Nat, ∃ u0 u1 u2 u3 u4 : Int, k ≤ 5 ∧ i = .int .i64 k ∧ wr = (w.alloc (.cells #[.int .i64 u0, .int .i64 u1, .int .i64 u2, .int .i64 u3, .int .i64 u4] 141)).alloc (.cells #[.int .i64 0, .int .i64 0, .int .i64 0, .int .i64 0, .int .i64 0] 141) ∧
      u0 = (if 0 < k then st k0 width else k0) ∧ u1 = (if 1 < k then st k1 width else k1) ∧ u2 = (if 2 < k then st k2 width else k2) ∧ u3 = (if 3 < k then st k3 width else k3) ∧ u4 = (if 4 < k then st k4 width else k4))
    (fun i _ => 5 - (intOf i).toNat)
  case atStart => exact ⟨0, k0, k1, k2, k3, k4, by omega, rfl, rfl, rfl, rfl, rfl, rfl, rfl⟩
  case round =>
    obtain ⟨k, u0, u1, u2, u3, u4, hk, rfl, rfl, e0, e1, e2, e3, e4⟩ := hrel
    rcases (show k = 0 ∨ k = 1 ∨ k = 2 ∨ k = 3 ∨ k = 4 ∨ k = 5 by omega) with rfl | rfl | rfl | rfl | rfl | rfl
    all_goals
      have H0 : Hid _ := e0
      have H1 : Hid _ := e1
      have H2 : Hid _ := e2
      have H3 : Hid _ := e3
      have H4 : Hid _ := e4
      clear e0 e1 e2 e3 e4
      go_wp2
    case roundEnd | roundEnd => refine ⟨⟨1, _, _, _, _, _, by omega, rfl, rfl, ?_, ?_, ?_, ?_, ?_⟩, by simp [intOf]⟩ <;> simp_all [st, Hid]
    case roundEnd | roundEnd => refine ⟨⟨2, _, _, _, _, _, by omega, rfl, rfl, ?_, ?_, ?_, ?_, ?_⟩, by simp [intOf]⟩ <;> simp_all [st, Hid]
    case roundEnd | roundEnd => refine ⟨⟨3, _, _, _, _, _, by omega, rfl, rfl, ?_, ?_, ?_, ?_, ?_⟩, by simp [intOf]⟩ <;> simp_all [st, Hid]
    case roundEnd | roundEnd => refine ⟨⟨4, _, _, _, _, _, by omega, rfl, rfl, ?_, ?_, ?_, ?_, ?_⟩, by simp [intOf]⟩ <;> simp_all [st, Hid]
    case roundEnd | roundEnd => refine ⟨⟨5, _, _, _, _, _, by omega, rfl, rfl, ?_, ?_, ?_, ?_, ?_⟩, by simp [intOf]⟩ <;> simp_all [st, Hid]
    · refine bodyPost_ret (v := fiveV (st k0 width) (st k1 width) (st k2 width) (st k3 width) (st k4 width)) ?_ rfl ⟨rfl, ?_⟩
      · have e0 := H0.out
        have e1 := H1.out
        have e2 := H2.out
        have e3 := H3.out
        have e4 := H4.out
        simp at e0 e1 e2 e3 e4
        simp [results, Tryz.results95, go_sem, fiveV, e0, e1, e2, e3, e4]
      · exact ((Below.refl _ _).alloc (Nat.le_refl _) _).alloc (by simp) _

end Go.Proofs.YtcmnmogmdhofcabGreat.form

/- A search along the ways of a program, on plain numbers: what it has come to, and what it has done with. -/
namespace Go.Proofs.YtcmnmogmdhofcabGreat.form
open Go.RowKit
set_option linter.unusedVariables false

structure Srch (C : List LIns) (t : Int) (s : Nat) (come : List Bool) (way : List Nat) (k : Nat) : Prop where
  clen : come.length = C.length
  mark : ∀ x, x < C.length → (come.getD x false = true ↔ x ∈ way)
  inb : ∀ x, x ∈ way → x < C.length
  cnt : way.length = come.count true
  st : s ∈ way
  back : ∀ x, x ∈ way → Need C t x → Need C t s
  done : ∀ j, j < k → takesI (C.getD (way.getD j 0) .zero) t = false ∧ (givesT (C.getD (way.getD j 0) .zero) t = true ∨ ∀ y, y ∈ nextsN (C.getD (way.getD j 0) .zero) (way.getD j 0) → y < C.length → y ∈ way)

theorem Srch.len {C : List LIns} {t : Int} {s : Nat} {come : List Bool} {way : List Nat} {k : Nat} (h : Srch C t s come way k) : way.length ≤ C.length := by
  rw [h.cnt, ← h.clen]; exact List.count_le_length

theorem count_mark (l : List Bool) (y : Nat) (hy : y < l.length) (h : l.getD y false = false) : (l.set y true).count true = l.count true + 1 := by
  have e : l[y] = false := by simpa [List.getD, hy] using h
  rw [List.count_set hy]
  simp [e]

theorem getD_append_left {l r : List Nat} {j : Nat} (h : j < l.length) : (l ++ r).getD j 0 = l.getD j 0 := by simp [List.getD, List.getElem?_append_left h]

theorem Srch.push {C : List LIns} {t : Int} {s : Nat} {come : List Bool} {way : List Nat} {k x y : Nat} (h : Srch C t s come way k) (hk : k ≤ way.length) (hx : x ∈ way) (hg : givesT (C.getD x .zero) t = false) (hy : y ∈ nextsN (C.getD x .zero) x) (hyl : y < C.length) (hc : come.getD y false = false) :
    Srch C t s (come.set y true) (way ++ [y]) k := by
  have hyc : y < come.length := by rw [h.clen]; exact hyl
  refine ⟨by simp [h.clen], fun z hz => ?_, fun z hz => ?_, ?_, by simp [h.st], fun z hz hn => ?_, fun j hj => ?_⟩
  · by_cases e : y = z
    · subst e; simp [List.getD, hyc]
    · have e' : ¬ z = y := fun h => e h.symm
      have := h.mark z hz
      have e3 : (come.set y true).getD z false = come.getD z false := by simp [List.getD, e]
      rw [e3, this]
      simp [e']
  · rcases List.mem_append.1 hz with hz | hz
    · exact h.inb z hz
    · simp at hz; omega
  · rw [count_mark _ _ hyc hc, ← h.cnt]; simp
  · rcases List.mem_append.1 hz with hz | hz
    · exact h.back z hz hn
    · simp at hz
      subst hz
      exact h.back x hx ((need_iff C t x).2 ⟨h.inb x hx, Or.inr ⟨hg, _, hy, hn⟩⟩)
  · rw [getD_append_left (by omega)]
    obtain ⟨h1, h2⟩ := h.done j hj
    exact ⟨h1, h2.imp id (fun h3 y hy hyl => List.mem_append.2 (Or.inl (h3 y hy hyl)))⟩

theorem Srch.next {C : List LIns} {t : Int} {s : Nat} {come : List Bool} {way : List Nat} {k : Nat} (h : Srch C t s come way k) (ht : takesI (C.getD (way.getD k 0) .zero) t = false)
    (hg : givesT (C.getD (way.getD k 0) .zero) t = true ∨ ∀ y, y ∈ nextsN (C.getD (way.getD k 0) .zero) (way.getD k 0) → y < C.length → y ∈ way) : Srch C t s come way (k + 1) := by
  refine ⟨h.clen, h.mark, h.inb, h.cnt, h.st, h.back, fun j hj => ?_⟩
  by_cases e : j = k
  · subst e; exact ⟨ht, hg⟩
  · exact h.done j (by omega)

theorem Srch.none {C : List LIns} {t : Int} {s : Nat} {come : List Bool} {way : List Nat} {k : Nat} (h : Srch C t s come way k) (hk : way.length ≤ k) : ¬ Need C t s := by
  refine need_none C t (fun x => x ∈ way) (fun x hx => ?_) s h.st
  obtain ⟨j, hj, rfl⟩ := List.getElem_of_mem hx
  have := h.done j (by omega)
  rwa [show way.getD j 0 = way[j] by simp [List.getD, hj]] at this

end Go.Proofs.YtcmnmogmdhofcabGreat.form

/- Where an instruction goes on (loanbookref2.Nexts). -/
namespace Go.Proofs.YtcmnmogmdhofcabGreat.form
open Go.RowKit
set_option linter.unusedVariables false
attribute [local go_sem ↓] Go.wp_at_zero Go.wp_at_succ

def IntsAt (lo : Nat) (w : World) (v : Value) (l : List Int) : Prop :=
  ∃ ao cap, v = .slice ao l.length cap ∧ (0 < l.length → ∃ b, ao = some ⟨b, 0, none⟩ ∧ lo ≤ b ∧ b < w.heap.size ∧ ∀ j, j < l.length → w.cell? ⟨b, j, none⟩ = some (.int .i64 (l.getD j 0)))

theorem ints_one {lo : Nat} {w : World} {b : Nat} {x : Int} {cap : Nat} (hlo : lo ≤ b) (h : w.cell? ⟨b, 0, none⟩ = some (.int .i64 x)) : IntsAt lo w (.slice (some ⟨b, 0, none⟩) 1 cap) [x] :=
  ⟨_, _, rfl, fun _ => ⟨b, rfl, hlo, World.block_lt_of_cell? w _ h, fun j hj => by
    obtain rfl : j = 0 := by simp at hj; omega
    simpa using h⟩⟩
theorem ints_two {lo : Nat} {w : World} {b : Nat} {x y : Int} {cap : Nat} (hlo : lo ≤ b) (h : w.cell? ⟨b, 0, none⟩ = some (.int .i64 x)) (g : w.cell? ⟨b, 1, none⟩ = some (.int .i64 y)) : IntsAt lo w (.slice (some ⟨b, 0, none⟩) 2 cap) [x, y] :=
  ⟨_, _, rfl, fun _ => ⟨b, rfl, hlo, World.block_lt_of_cell? w _ h, fun j hj => by
    rcases (show j = 0 ∨ j = 1 by simp at hj; omega) with rfl | rfl
    · simpa using h
    · simpa using g⟩⟩

theorem takes_of (i : LIns) (m : Nat) (hm : manyI i.op = m) (hm2 : m ≤ 2) (t : Int) : takesI i t = (decide (0 < m) && (i.a == t) || decide (1 < m) && (i.b == t)) := by
  unfold takesI usesI
  rw [hm]
  rcases (show m = 0 ∨ m = 1 ∨ m = 2 by omega) with rfl | rfl | rfl
  · simp
  · rw [Bool.eq_iff_iff]; simp; omega
  · rw [Bool.eq_iff_iff]; simp; omega

end Go.Proofs.YtcmnmogmdhofcabGreat.form
