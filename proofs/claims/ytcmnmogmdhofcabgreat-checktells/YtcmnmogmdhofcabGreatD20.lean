/- What check.Takes must answer. -/
import Derived.Test.YtcmnmogmdhofcabGreatD17
import Derived.Test.YtcmnmogmdhofcabGreatD19
import Derived.Test.YtcmnmogmdhofcabGreatD07
import Derived.Test.YtcmnmogmdhofcabGreatD15

namespace Go.Proofs.YtcmnmogmdhofcabGreat.form
open Go.RowKit
set_option linter.unusedVariables false

def TakesSpec : Prop := ∀ (pv lv : Value) (B : List Bool) (C : List LIns) (s slots : Int) (R : List LRow) (w : World), ProgIs w pv B C → PlacedIs w lv slots R → RowsOk R →
  Calls Tryz.prog 6 #[pv, targetV s, lv] w fun e w' => TakesAns B C s slots R e ∧ Below w.heap.size w w'

end Go.Proofs.YtcmnmogmdhofcabGreat.form

/- What check.Takes answers. -/
namespace Go.Proofs.YtcmnmogmdhofcabGreat.form
open Go.RowKit Go.Maps
set_option linter.unusedVariables false
set_option maxRecDepth 100000
attribute [local go_sem ↓] Go.wp_at_zero Go.wp_at_succ

theorem usesK_same {ok : LFact → Prop} {i : LIns} {r : LRow} {K K' : LFact → Prop} (h : ∀ f, K f ↔ K' f) : usesK ok i r K ↔ usesK ok i r K' := by
  unfold usesK
  have e : ∀ f, movesK ok r.before K f ↔ movesK ok r.before K' f := fun f => ⟨movesK_mono _ (fun f => (h f).1) f, movesK_mono _ (fun f => (h f).2) f⟩
  rw [e, e]
theorem dims_of {B : List Bool} {C : List LIns} {s slots : Nat} {N : List Int} (hb1 : 1 ≤ B.length) (hb12 : B.length ≤ 12) (hc1 : 1 ≤ C.length) (hc40 : C.length ≤ 40) (hs4 : 4 ≤ s) (hs16 : s ≤ 16) (hs2 : s % 2 = 0) (hl : slots ≤ 12) (hn : NumsOk C N) : Dims B C s slots (preP s slots 4) N :=
  ⟨hb1, hb12, hc1, hc40, hs4, hs16, hs2, hl, all_len hs16 hl, fun p => all_mem hs16 hs2, hn.one, by have := hn.le; omega, hn.inc, hn.num⟩

theorem may_ins {B : List Bool} {C : List LIns} (h : refMayB B C = true) : ∀ k, k < C.length → insB B C.length (C.getD k .zero) = true := by
  unfold refMayB at h
  simp only [Bool.and_eq_true, List.all_eq_true] at h
  exact fun k hk => h.2 _ (by simp [List.getD, hk])

def TakeS (B : List Bool) (C : List LIns) (s slots : Nat) (R : List LRow) (k : Nat) : Prop := ∀ j, j < k → Reach C j → usesK (FactOk B s slots (NumP C)) (C.getD j .zero) (R.getD j .zero) (Known B C s slots R j)

set_option maxHeartbeats 1600000 in
theorem takesYes (b0 o0 c0 b1 o1 c1 b2 o2 c2 : Nat) (B : List Bool) (C : List LIns) (s slots : Nat) (R : List LRow) (w : World) (h : Held w b0 o0 b1 o1 B C) (hr : RowsHeld w b2 o2 R) (hn : ∀ i, i < C.length → 0 ≤ (C.getD i .zero).n ∧ (C.getD i .zero).n < 4294967296) (hRl : R.length ≤ 9223372036854775807) (hmay : placeMayB B C s slots R = true) :
    Calls Tryz.prog 6 #[progV b0 o0 B.length c0 b1 o1 C.length c1, targetV s, .agg #[.int .i64 slots, .slice (some ⟨b2, o2, none⟩) R.length c2]] w fun e w' => TakesAns B C s slots R e ∧ Below w.heap.size w w' := by
  have hm2 := hmay
  unfold placeMayB at hm2
  simp only [Bool.and_eq_true, Bool.not_eq_true', decide_eq_true_eq, decide_eq_false_iff_not, List.all_eq_true, List.mem_range] at hm2
  obtain ⟨⟨⟨⟨⟨h1, h2⟩, h3⟩, h4⟩, h5⟩, h6⟩ := hm2
  have hs := target_of h2
  have hsz : sizesB B C = true := by unfold refMayB at h1; simp only [Bool.and_eq_true] at h1; exact h1.1
  obtain ⟨s1, s2, s3, s4⟩ := sizes_of hsz
  have hs2 : s % 2 = 0 := by
    unfold targetB at h2
    simp at h2
    omega
  have hib : ∀ k, k < C.length → insB B C.length (C.getD k .zero) = true := may_ins h1
  have HIB : Hid (∀ k, k < C.length → insB B C.length (C.getD k .zero) = true) := hib
  have HIO : Hid (∀ k, k < C.length → InsOk B.length C.length (C.getD k .zero)) := all_insOk h1 hn
  have HRB : Hid (∀ k, k < C.length → rowB B s slots (C.getD k .zero) (R.getD k .zero) = true) := h6
  have HRL : Hid (R.length = C.length) := h5
  have HMY : Hid (placeMayB B C s slots R = true) := hmay
  have HDM : Hid (∀ N, NumsOk C N → Dims B C s slots (preP s slots 4) N) := fun N hN => dims_of (by omega) s2 (by omega) s4 (by omega) (by omega) hs2 (by omega) hN
  have cM : ∀ wx : World, Below w.heap.size w wx → Calls Tryz.prog 14 #[.agg #[.slice (some ⟨b0, o0, none⟩) B.length c0, .slice (some ⟨b1, o1, none⟩) C.length c1], .agg #[.int .i64 (s : Int)], .agg #[.int .i64 (slots : Int), .slice (some ⟨b2, o2, none⟩) R.length c2]] wx fun e w' => e = .returned (.bool true) ∧ Below wx.heap.size wx w' := fun wx hb => by
    have := mayO (progV b0 o0 B.length c0 b1 o1 C.length c1) (.agg #[.int .i64 slots, .slice (some ⟨b2, o2, none⟩) R.length c2]) B C s slots R wx ⟨⟨_, _, _, _, rfl, fun _ _ => ⟨b0, o0, b1, o1, rfl, rfl, h.later hb⟩⟩, by omega, by omega, hn⟩ ⟨_, _, rfl, hRl, fun _ => ⟨b2, o2, rfl, hr.later hb⟩⟩
    rw [hmay] at this
    exact this
  have cW : ∀ wx : World, Below w.heap.size w wx → Calls Tryz.prog 15 #[.agg #[.slice (some ⟨b0, o0, none⟩) B.length c0, .slice (some ⟨b1, o1, none⟩) C.length c1], .agg #[.int .i64 (s : Int)], .agg #[.int .i64 (slots : Int), .slice (some ⟨b2, o2, none⟩) R.length c2]] wx fun e w' => WorldAns B C s slots R wx e w' := fun wx hb => newWorldO b0 o0 c0 b1 o1 c1 b2 o2 c2 s slots B C R wx s4 (h.later hb) (hr.later hb) (by omega) (by omega) hs2 (by omega)
  have HB3 : Hid (∀ o1 o2 o3 : Obj, Below w.heap.size w (((w.alloc o1).alloc o2).alloc o3)) := fun o1 o2 o3 => (((Below.refl _ _).alloc (Nat.le_refl _) _).alloc (by simp) _).alloc (by simp; omega) _
  have HMC : Hid (∀ wx : World, Below w.heap.size w wx → Calls Tryz.prog 14 #[.agg #[.slice (some ⟨b0, o0, none⟩) B.length c0, .slice (some ⟨b1, o1, none⟩) C.length c1], .agg #[.int .i64 (s : Int)], .agg #[.int .i64 (slots : Int), .slice (some ⟨b2, o2, none⟩) R.length c2]] wx fun e w' => e = .returned (.bool true) ∧ Below wx.heap.size wx w') := cM
  have HWC : Hid (∀ wx : World, Below w.heap.size w wx → Calls Tryz.prog 15 #[.agg #[.slice (some ⟨b0, o0, none⟩) B.length c0, .slice (some ⟨b1, o1, none⟩) C.length c1], .agg #[.int .i64 (s : Int)], .agg #[.int .i64 (slots : Int), .slice (some ⟨b2, o2, none⟩) R.length c2]] wx fun e w' => WorldAns B C s slots R wx e w') := cW
  have hc40z : (C.length : Int) ≤ 40 := by omega
  clear h hr hn hRl hmay h1 h2 h3 h4 h5 h6 hs hsz hib cM cW hs2 s1
  unfold progV targetV
  go_enter Tryz.func6, Tryz.ntmps6
  go_upto_region 3 with (go_at_call 14; refine (HMC.out _ (HB3.out _ _ _)).mono ?_; rintro e w1 ⟨rfl, hb1⟩; have HB1 : Hid (Below w.heap.size w w1) := step_below hb1 (HB3.out _ _ _); have p0 : w1.cell? ⟨w.heap.size, 0, none⟩ = some (.slice (some ⟨b0, o0, none⟩) B.length c0) := step_cell hb1 (by simp [go_sem]); have p1 : w1.cell? ⟨w.heap.size, 1, none⟩ = some (.slice (some ⟨b1, o1, none⟩) C.length c1) := step_cell hb1 (by simp [go_sem]); have p2 : w1.cell? ⟨w.heap.size + 1, 0, none⟩ = some (.int .i64 (s : Int)) := step_cell hb1 (by simp [go_sem]); have p3 : w1.cell? ⟨w.heap.size + 1 + 1, 0, none⟩ = some (.int .i64 (slots : Int)) := step_cell hb1 (by simp [go_sem]); have p4 : w1.cell? ⟨w.heap.size + 1 + 1, 1, none⟩ = some (.slice (some ⟨b2, o2, none⟩) R.length c2) := step_cell hb1 (by simp [go_sem]); clear hb1)
  go_upto_region 4 with (go_at_call 15; refine (HWC.out _ HB1.out).mono ?_; rintro e w2 ⟨g, N, rfl, hst, hno, hb2⟩; have HST : Hid (WorldAt w2 w2.heap.size g B C R (preP s slots 4) N) := WorldAt.start hst; have HD : Hid (Dims B C s slots (preP s slots 4) N) := HDM.out N hno; have HB2 : Hid (Below w.heap.size w w2) := step_below hb2 HB1.out; clear hst hno hb2)
  clear p0 p1 p2 p3 p4
  have HND : Hid ((preP s slots 4).Nodup) := up_nodup (preP_up s slots 4)
  have HT : Hid (∀ t, t ∈ tempsL B.length ↔ 0 ≤ t ∧ t < B.length) := fun t => tempsL_mem
  have hTl : (tempsL B.length).length ≤ 12 := by rw [tempsL_len]; omega
  have c := aheadW HST.out HD.out HND.out HIB.out HIO.out HRB.out HRL.out (tempsL B.length) HT.out hTl
  go_wp2_with (go_at_call 16; refine c.mono ?_; rintro e w3 ⟨ab, F, Q, rfl, hA, hFB, hb3⟩; have HA : Hid (AllAt w3 w2.heap.size ab (preP s slots 4) (tempsL B.length) F Q) := hA; have HFB : Hid (FoundB B C s slots R N F) := hFB; have HB3' : Hid (Below w2.heap.size w2 w3) := hb3; clear hA hFB hb3)
  clear c
  go_loopg [8, 9, 22] (C.length + 1) (fun gg v8 v9 v wr => ∃ (k : Nat), v = .int .i64 k ∧ k ≤ C.length ∧ gg = C.length + 1 - k ∧ TakeS B C s slots R k ∧ Below w3.heap.size w3 wr)
  case atStart => exact ⟨0, rfl, by omega, by omega, fun j hj => absurd hj (by omega), Below.refl _ _⟩
  case round =>
    obtain ⟨k, rfl, hk, hgk, hts, hbr⟩ := hrel
    have HGK : Hid (gk = C.length + 1 - k) := hgk
    have HTS : Hid (TakeS B C s slots R k) := hts
    have HBR : Hid (Below w3.heap.size w3 wr) := hbr
    have HBW : Hid (Below w.heap.size w wr) := step_below hbr (step_below HB3'.out HB2.out)
    have HAR : Hid (AllAt wr w2.heap.size ab (preP s slots 4) (tempsL B.length) F Q) := HA.out.below hbr
    clear hgk hts hbr
    by_cases hkl : k < C.length
    case neg =>
      obtain rfl : k = C.length := by omega
      have hkz : ¬ (C.length : Int) < (C.length : Int) := by omega
      go_wp2
      go_ret
      exact ⟨⟨true, rfl, ⟨fun _ => ⟨HMY.out, fun k hk hl => HTS.out k hl hk⟩, fun _ => rfl⟩⟩, HBW.out⟩
    have hkz : (k : Int) < (C.length : Int) := by omega
    have hFl := HFB.out.len
    have c0 := HAR.out.cell k (by omega)
    have hlt := HAR.out.lt
    clear hFl
    rcases hc : F.getD k none with _ | m
    · have HNR : Hid (¬ Reach C k) := fun hr => by
        obtain ⟨m, hm⟩ := (HFB.out.rch k hkl).2 hr
        rw [hc] at hm; cases hm
      have hp : pvO F Q k = .pointer none := by unfold pvO; rw [hc]
      rw [hp] at c0
      clear hp hc
      go_wp2
      have hgk := HGK.out
      go_roundg (gk - 1)
      case measure => omega
      case rel =>
        refine ⟨k + 1, by go_num, by omega, by omega, fun j hj hrj => ?_, HBR.out⟩
        by_cases e : j = k
        · subst e; exact absurd hrj HNR.out
        · exact HTS.out j (by omega) hrj
    · have HC : Hid (F.getD k none = some m) := hc
      have hp : pvO F Q k = .pointer (some ⟨(Q k).1, 0, none⟩) := by unfold pvO; rw [hc]
      rw [hp] at c0
      have c := findsW ((HST.out.below HB3'.out).below HBR.out) HD.out HND.out HIB.out HRB.out HRL.out k hkl (Q k).1 (Q k).2.1 (Q k).2.2 (tempsL B.length) HT.out hTl m (HAR.out.fm k m hc) (HFB.out.ok k m hc) HIO.out
      have HKN : Hid (∀ f, Kof N m f ↔ Known B C s slots R k f) := HFB.out.is k m hc
      clear hp hc
      go_upto_if 35 with (go_at_call 17; refine c.mono ?_; rintro e w4 ⟨⟨z, rfl, hz⟩, hb4⟩; have HZ : Hid (z = true ↔ usesK (FactOk B s slots (NumP C)) (C.getD k .zero) (R.getD k .zero) (Known B C s slots R k)) := hz.trans (usesK_same HKN.out); have HB4 : Hid (Below wr.heap.size wr w4) := hb4; clear hz hb4)
      rcases Bool.eq_false_or_eq_true z with hz | hz
      · subst hz
        go_wp2
        have hgk := HGK.out
        go_roundg (gk - 1)
        case measure => omega
        case rel =>
          refine ⟨k + 1, by go_num, by omega, by omega, fun j hj hrj => ?_, step_below HB4.out HBR.out⟩
          by_cases e : j = k
          · subst e; exact HZ.out.1 (by trivial)
          · exact HTS.out j (by omega) hrj
      · subst hz
        go_wp2
        go_ret
        refine ⟨⟨false, rfl, ⟨fun h => absurd h (by simp), fun h => ?_⟩⟩, step_below HB4.out HBW.out⟩
        have := HZ.out.2 (h.2 k ((HFB.out.rch k hkl).1 ⟨m, HC.out⟩) hkl)
        cases this

theorem takesNo (pv lv : Value) (B : List Bool) (C : List LIns) (s slots : Int) (R : List LRow) (w : World) (hp : ProgIs w pv B C) (hl : PlacedIs w lv slots R) (hmay : placeMayB B C s slots R = false) :
    Calls Tryz.prog 6 #[pv, targetV s, lv] w fun e w' => TakesAns B C s slots R e ∧ Below w.heap.size w w' := by
  have HB3 : Hid (∀ o1 o2 o3 : Obj, Below w.heap.size w (((w.alloc o1).alloc o2).alloc o3)) := fun o1 o2 o3 => (((Below.refl _ _).alloc (Nat.le_refl _) _).alloc (by simp) _).alloc (by simp; omega) _
  have HM : Hid (placeMayB B C s slots R = false) := hmay
  obtain ⟨⟨a0, c0, a1, c1, rfl, hh⟩, l0, l1, hn⟩ := hp
  obtain ⟨ao, cap, rfl, hRl, hrr⟩ := hl
  have HMC : Hid (∀ wx : World, Below w.heap.size w wx → Calls Tryz.prog 14 #[.agg #[.slice a0 B.length c0, .slice a1 C.length c1], .agg #[.int .i64 s], .agg #[.int .i64 slots, .slice ao R.length cap]] wx fun e w' => e = .returned (.bool false) ∧ Below wx.heap.size wx w') := fun wx hb => by
    have := mayO (.agg #[.slice a0 B.length c0, .slice a1 C.length c1]) (.agg #[.int .i64 slots, .slice ao R.length cap]) B C s slots R wx ⟨⟨_, _, _, _, rfl, fun x y => by
      obtain ⟨b0, o0, b1, o1, e1, e2, hH⟩ := hh x y
      exact ⟨b0, o0, b1, o1, e1, e2, hH.later hb⟩⟩, l0, l1, hn⟩ ⟨_, _, rfl, hRl, fun x => by
      obtain ⟨b2, o2, e1, hr⟩ := hrr x
      exact ⟨b2, o2, e1, hr.later hb⟩⟩
    rw [hmay] at this
    exact this
  clear hh hrr hn hmay
  unfold targetV
  go_enter Tryz.func6, Tryz.ntmps6
  go_wp2_with (go_at_call 14; refine (HMC.out _ (HB3.out _ _ _)).mono ?_; rintro e w1 ⟨rfl, hb1⟩; have HB1 : Hid (Below w.heap.size w w1) := step_below hb1 (HB3.out _ _ _); clear hb1)
  go_ret
  exact ⟨⟨false, rfl, ⟨fun h => absurd h (by simp), fun h => absurd h.1 (by rw [HM.out]; simp)⟩⟩, HB1.out⟩
theorem takesO : TakesSpec := by
  intro pv lv B C s slots R w hp hl hrk
  rcases Bool.eq_false_or_eq_true (placeMayB B C s slots R) with hmay | hmay
  case inr =>
    exact takesNo pv lv B C s slots R w hp hl hmay
  have hm2 := hmay
  unfold placeMayB at hm2
  simp only [Bool.and_eq_true, Bool.not_eq_true', decide_eq_true_eq, decide_eq_false_iff_not, List.all_eq_true, List.mem_range] at hm2
  obtain ⟨⟨⟨⟨⟨h1, h2⟩, h3⟩, h4⟩, h5⟩, h6⟩ := hm2
  have hs := target_of h2
  have hsz : sizesB B C = true := by unfold refMayB at h1; simp only [Bool.and_eq_true] at h1; exact h1.1
  obtain ⟨s1, s2, s3, s4⟩ := sizes_of hsz
  obtain ⟨⟨a0, c0, a1, c1, rfl, hh⟩, l0, l1, hn⟩ := hp
  obtain ⟨b0, o0, b1, o1, rfl, rfl, hH⟩ := hh s1 s3
  obtain ⟨ao, cap, rfl, hRl, hrr⟩ := hl
  obtain ⟨b2, o2, rfl, hr⟩ := hrr (by omega)
  obtain ⟨s', rfl⟩ := Int.eq_ofNat_of_zero_le (show 0 ≤ s by omega)
  obtain ⟨slots', rfl⟩ := Int.eq_ofNat_of_zero_le (show 0 ≤ slots by omega)
  exact takesYes b0 o0 c0 b1 o1 c1 b2 o2 cap B C s' slots' R w hH hr hn hRl hmay
end Go.Proofs.YtcmnmogmdhofcabGreat.form

/- Places and facts held against each other (== on structs). -/
namespace Go.Proofs.YtcmnmogmdhofcabGreat.form
open Go.RowKit
set_option linter.unusedVariables false

theorem eqFact (w : World) (a b t n a' b' t' n' : Int) (x x' : Bool) : (binOp .eql 114 (.agg #[.int .i64 a, .int .i64 b, .bool x, .int .i64 t, .int .u32 n]) (.agg #[.int .i64 a', .int .i64 b', .bool x', .int .i64 t', .int .u32 n'])).run Tryz.prog w = .ok (.bool ((a == a') && (b == b') && (x == x') && (t == t') && (n == n'))) w := by
  have hu := Tryz.underlying114
  have hu2 := Tryz.underlying37
  have h3 : Tryz.prog.underlying 3 = some (.int .i64) := Tryz.underlying3
  have h4 : Tryz.prog.underlying 4 = some .bool := Tryz.underlying4
  have h5 : Tryz.prog.underlying 33 = some (.int .u32) := Tryz.underlying33
  have hin : ∀ wx : World, (Op.equalIn 9999 37 (.agg #[.int .i64 a, .int .i64 b]) (.agg #[.int .i64 a', .int .i64 b'])).run Tryz.prog wx = .ok ((a == a') && (b == b')) wx := by
    intro wx
    rw [run_equalIn_agg wx 9998 37 _ _ (by kernel_rfl) (by kernel_rfl)]
    simp [go_sem, Program.fieldsOf, hu2]
    by_cases e1 : a = a' <;> by_cases e2 : b = b' <;> simp [e1, e2]
  rw [run_eql_struct, run_equalIn_agg w 9999 114 _ _ (by kernel_rfl) (by kernel_rfl)]
  simp [go_sem, Program.fieldsOf, hu, hin]
  by_cases e1 : a = a' <;> by_cases e2 : b = b' <;> by_cases e3 : x = x' <;> by_cases e4 : t = t' <;> by_cases e5 : n = n' <;> simp [e1, e2, e3, e4, e5]

end Go.Proofs.YtcmnmogmdhofcabGreat.form

/- Facts in memory; whether a fact is in a set (loanbookref8.World.find). -/
namespace Go.Proofs.YtcmnmogmdhofcabGreat.form
open Go.RowKit Go.Proofs.YtcmnmogmdhofcabGreat.num
set_option linter.unusedVariables false
attribute [local go_sem ↓] Go.wp_at_zero Go.wp_at_succ

def LFact.zero : LFact := ⟨.zero, false, 0, 0⟩
def LFact.val (f : LFact) : Value := .agg #[.int .i64 f.pl.kind, .int .i64 f.pl.n, .bool f.temp, .int .i64 f.t, .int .u32 f.n]
def sameF (f g : LFact) : Bool := (f.pl.kind == g.pl.kind) && (f.pl.n == g.pl.n) && (f.temp == g.temp) && (f.t == g.t) && (f.n == g.n)
theorem sameF_iff {f g : LFact} : sameF f g = true ↔ f = g := by
  obtain ⟨⟨a, b⟩, c, d, e⟩ := f
  obtain ⟨⟨a', b'⟩, c', d', e'⟩ := g
  unfold sameF
  simp only [Bool.and_eq_true, beq_iff_eq, LFact.mk.injEq, LPlace.mk.injEq]
  constructor
  · rintro ⟨⟨⟨⟨h1, h2⟩, h3⟩, h4⟩, h5⟩; exact ⟨⟨h1, h2⟩, h3, h4, h5⟩
  · rintro ⟨⟨h1, h2⟩, h3, h4, h5⟩; exact ⟨⟨⟨⟨h1, h2⟩, h3⟩, h4⟩, h5⟩

structure FactsHeld (w : World) (ga : Nat) (F : List LFact) : Prop where
  lt : ga < w.heap.size
  len : F.length ≤ 100000
  cells : ∀ k, k < F.length → w.cell? ⟨ga, k * 5, none⟩ = some (.int .i64 (F.getD k .zero).pl.kind) ∧ w.cell? ⟨ga, k * 5 + 1, none⟩ = some (.int .i64 (F.getD k .zero).pl.n) ∧ w.cell? ⟨ga, k * 5 + 2, none⟩ = some (.bool (F.getD k .zero).temp) ∧ w.cell? ⟨ga, k * 5 + 3, none⟩ = some (.int .i64 (F.getD k .zero).t) ∧ w.cell? ⟨ga, k * 5 + 4, none⟩ = some (.int .u32 (F.getD k .zero).n)

theorem FactsHeld.later {w w' : World} {ga : Nat} {F : List LFact} (h : FactsHeld w ga F) (hb : Below w.heap.size w w') : FactsHeld w' ga F := by
  refine ⟨Nat.lt_of_lt_of_le h.lt hb.size, h.len, fun k hk => ?_⟩
  obtain ⟨c0, c1, c2, c3, c4⟩ := h.cells k hk
  exact ⟨step_cell hb c0, step_cell hb c1, step_cell hb c2, step_cell hb c3, step_cell hb c4⟩

def PlaceOf (s slots : Int) (p : LPlace) : Prop := (p.kind = 0 ∧ p.n = 0) ∨ isB s slots p = true

def StartsHeld (w : World) (gs : Nat) (s slots : Int) (st : LPlace → Nat) : Prop :=
  gs < w.heap.size ∧ ∀ p, PlaceOf s slots p → 0 ≤ p.n ∧ ∃ rb rl rc, w.cell? ⟨gs, p.kind.toNat, none⟩ = some (.slice (some ⟨rb, 0, none⟩) rl rc) ∧ rb < w.heap.size ∧ p.n < rl ∧ rl ≤ 100 ∧ w.cell? ⟨rb, p.n.toNat, none⟩ = some (.int .i64 (st p))
theorem StartsHeld.later {w w' : World} {gs : Nat} {s slots : Int} {st : LPlace → Nat} (h : StartsHeld w gs s slots st) (hb : Below w.heap.size w w') : StartsHeld w' gs s slots st := by
  refine ⟨Nat.lt_of_lt_of_le h.1 hb.size, fun p hp => ?_⟩
  obtain ⟨h0, rb, rl, rc, h1, h2, h3, h4, h5⟩ := h.2 p hp
  exact ⟨h0, rb, rl, rc, step_cell hb h1, Nat.lt_of_lt_of_le h2 hb.size, h3, h4, step_cell hb h5⟩

theorem place_i64 {s slots : Int} {p : LPlace} (h1 : s ≤ 100) (h2 : slots ≤ 100) (h : PlaceOf s slots p) : I64 p.n := by
  unfold I64
  rcases h with h | h
  · omega
  · rcases is_cases h with h | h | h <;> omega

def SegOk (F : List LFact) (p : LPlace) (a : Nat) : Prop :=
  a ≤ F.length ∧ (∀ i, i < F.length → (F.getD i .zero).pl = p → a ≤ i) ∧ (∀ i j, a ≤ j → j ≤ i → i < F.length → (F.getD i .zero).pl = p → (F.getD j .zero).pl = p)

def setP (F : List LFact) (S : List Bool) (f : LFact) : Prop := ∃ i, i < F.length ∧ F.getD i .zero = f ∧ S.getD i false = true

structure FWorld (w : World) (s slots : Int) (F : List LFact) (ga gs : Nat) (st : LPlace → Nat) : Prop where
  facts : FactsHeld w ga F
  starts : StartsHeld w gs s slots st
  seg : ∀ p, PlaceOf s slots p → SegOk F p (st p)
  sorted : F.Pairwise factLt
  pls : ∀ f, f ∈ F → PlaceOf s slots f.pl
  bd : s ≤ 100 ∧ slots ≤ 100
theorem FWorld.later {w w' : World} {s slots : Int} {F : List LFact} {ga gs : Nat} {st : LPlace → Nat} (h : FWorld w s slots F ga gs st) (hb : Below w.heap.size w w') : FWorld w' s slots F ga gs st := ⟨h.facts.later hb, h.starts.later hb, h.seg, h.sorted, h.pls, h.bd⟩

def fwV (pw pc : Value) (ga nF ca gs cs : Nat) (nv : Value) : Value := .agg #[pw, pc, .slice (some ⟨ga, 0, none⟩) nF ca, .slice (some ⟨gs, 0, none⟩) 4 cs, nv]

def Says8 (s : Bool) (P : Prop) : Prop := s = true ↔ P
def FindAns (F : List LFact) (S : List Bool) (f : LFact) (e : Ending) : Prop := ∃ b, e = .returned (.bool b) ∧ Says8 b (setP F S f)

set_option maxRecDepth 100000 in
set_option maxHeartbeats 1000000 in
theorem find8 (ao0 : Option Addr) (n0 c0 : Nat) (ao1 : Option Addr) (n1 c1 : Nat) (ga ca gs cs : Nat) (ao4 : Option Addr) (n4 c4 : Nat) (s slots : Int) (F : List LFact) (st : LPlace → Nat) (sv : Value) (S : List Bool) (f : LFact) (w : World)
    (h : FWorld w s slots F ga gs st) (hS : BRowIs w sv S) (hl : S.length = F.length) (hf : PlaceOf s slots f.pl) :
    Calls Tryz.prog 80 #[fwV (.slice ao0 n0 c0) (.slice ao1 n1 c1) ga F.length ca gs cs (.slice ao4 n4 c4), sv, f.val] w fun e w' => FindAns F S f e ∧ Below w.heap.size w w' := by
  obtain ⟨p0, rb, rl, rc, k1, k2, k3, k4, k5⟩ := h.starts.2 f.pl hf
  have hgs := h.starts.1
  obtain ⟨sa, sb, sc⟩ := h.seg f.pl hf
  have hga := h.facts.lt
  have hFl := h.facts.len
  have HF : Hid (FactsHeld w ga F) := h.facts
  have HSO : Hid (F.Pairwise factLt) := h.sorted
  obtain ⟨sao, scap, rfl, hsl, hsc⟩ := hS
  have HSC : Hid (0 < S.length → ∃ b o, sao = some ⟨b, o, none⟩ ∧ b < w.heap.size ∧ ∀ j, j < S.length → w.cell? ⟨b, o + j, none⟩ = some (.bool (S.getD j false))) := hsc
  have HSB : Hid (∀ i, i < F.length → (F.getD i .zero).pl = f.pl → st f.pl ≤ i) := sb
  have HSS : Hid (∀ i j, st f.pl ≤ j → j ≤ i → i < F.length → (F.getD i .zero).pl = f.pl → (F.getD j .zero).pl = f.pl) := sc
  obtain ⟨a, ha⟩ : ∃ a, a = st f.pl := ⟨_, rfl⟩
  rw [← ha] at k5 sa HSB HSS
  have x0 : (0 : Int) ≤ f.pl.kind := by rcases hf with hf | hf; omega; rcases is_cases hf with h | h | h <;> omega
  have x1 : f.pl.kind < 4 := by rcases hf with hf | hf; omega; rcases is_cases hf with h | h | h <;> omega
  have x2 : f.pl.n < (rl : Int) := k3
  have x3 : (rl : Int) ≤ 100 := by omega
  have x4 : (F.length : Int) ≤ 100000 := by omega
  clear h hsc sb sc ha k3 k4
  rw [hl]
  have q57 := eqPlace
  have q98 := eqFact
  have g57 : Tryz.prog.eqGuardType Tryz.prog.depth 37 = false := by kernel_rfl
  have g98 : Tryz.prog.eqGuardType Tryz.prog.depth 114 = false := by kernel_rfl
  unfold fwV LFact.val
  go_enter Tryz.func80, Tryz.ntmps80
  go_wp2
  go_quiet (fail)
  go_wp2
  go_loopw [7] (fun iv wr => ∃ i : Nat, iv = .int .i64 i ∧ a ≤ i ∧ i ≤ F.length ∧ Below w.heap.size w wr ∧ (∀ j, a ≤ j → j < i → ¬ F.getD j .zero = f) ∧ wr.cell? ⟨w.heap.size, 2, none⟩ = some (.slice (some ⟨ga, 0, none⟩) F.length ca) ∧
      wr.cell? ⟨w.heap.size + 1, 0, none⟩ = some (.int .i64 f.pl.kind) ∧ wr.cell? ⟨w.heap.size + 1, 1, none⟩ = some (.int .i64 f.pl.n) ∧ wr.cell? ⟨w.heap.size + 1, 2, none⟩ = some (.bool f.temp) ∧ wr.cell? ⟨w.heap.size + 1, 3, none⟩ = some (.int .i64 f.t) ∧ wr.cell? ⟨w.heap.size + 1, 4, none⟩ = some (.int .u32 f.n)) (fun iv _ => F.length - (intOf iv).toNat)
  case atStart =>
    refine ⟨a, rfl, by omega, sa, below_drewN (((Below.refl _ _).alloc (Nat.le_refl _) _).alloc (by simp) _) _, fun j h1 h2 => absurd h2 (by omega), ?_, ?_, ?_, ?_, ?_, ?_⟩
    all_goals exact step_cell (below_drewN (Below.refl _ _) _) (by simp [go_sem])
  case round =>
    clear k1 k2 k5
    obtain ⟨i, rfl, hi1, hi2, hbel, hno, q2, f0, f1, f2, f3, f4⟩ := hrel
    have HB : Hid (Below w.heap.size w wr) := hbel
    have HNO : Hid (∀ j, a ≤ j → j < i → ¬ F.getD j .zero = f) := hno
    have y0 : (0 : Int) ≤ (i : Int) := by omega
    clear hno
    by_cases hlt : i < F.length
    case neg =>
      have y1 : ¬ (i : Int) < (F.length : Int) := by omega
      clear hbel
      go_wp2
      go_quiet (fail)
      go_wp2
      go_ret
      refine ⟨⟨false, rfl, ⟨fun h => absurd h (by simp), ?_⟩⟩, below_drewN HB.out _⟩
      rintro ⟨j, hj, he, _⟩
      exact absurd he (HNO.out j (HSB.out j hj (by rw [he])) (by omega))
    have y1 : (i : Int) < (F.length : Int) := by omega
    obtain ⟨e0, e1, e2, e3, e4⟩ := (HF.out.later hbel).cells i hlt
    obtain ⟨g, hg⟩ : ∃ g, g = F.getD i .zero := ⟨_, rfl⟩
    rw [← hg] at e0 e1 e2 e3 e4
    have HG : Hid (F.getD i .zero = g) := hg.symm
    clear hg hbel
    go_wp2
    go_quiet (fail)
    have hpl : (g.pl.kind == f.pl.kind && g.pl.n == f.pl.n) = true ↔ g.pl = f.pl := by
      rw [Bool.and_eq_true, beq_iff_eq, beq_iff_eq]
      exact ⟨fun h => pl_ext h.1 h.2, fun h => by rw [h]; exact ⟨rfl, rfl⟩⟩
    have hsf : (g.pl.kind == f.pl.kind && g.pl.n == f.pl.n && g.temp == f.temp && g.t == f.t && g.n == f.n) = true ↔ g = f := sameF_iff
    rcases Bool.eq_false_or_eq_true (g.pl.kind == f.pl.kind && g.pl.n == f.pl.n) with hc | hc
    rotate_left
    · rw [hc]
      have HNE : Hid (¬ g.pl = f.pl) := fun e => by have := hpl.2 e; rw [hc] at this; exact absurd this (by simp)
      clear hpl hsf
      go_wp2
      go_ret
      refine ⟨⟨false, rfl, ⟨fun h => absurd h (by simp), ?_⟩⟩, below_drewN HB.out _⟩
      rintro ⟨j, hj, he, _⟩
      have ha := HSB.out j hj (by rw [he])
      by_cases hji : j < i
      · exact absurd he (HNO.out j ha hji)
      · have := HSS.out j i (by omega) (by omega) hj (by rw [he])
        rw [HG.out] at this
        exact absurd this HNE.out
    · have HSF : Hid ((g.pl.kind == f.pl.kind && g.pl.n == f.pl.n && g.temp == f.temp && g.t == f.t && g.n == f.n) = true ↔ g = f) := hsf
      rw [hc]
      clear hpl hsf hc
      go_wp2
      go_quiet (fail)
      rcases Bool.eq_false_or_eq_true (g.pl.kind == f.pl.kind && g.pl.n == f.pl.n && g.temp == f.temp && g.t == f.t && g.n == f.n) with hd | hd
      · rw [hd]
        have hgf := HSF.out.1 hd
        obtain ⟨sb, so, rfl, hsb, hscell⟩ := HSC.out (by omega)
        obtain ⟨u, hu⟩ : ∃ u, u = S.getD i false := ⟨_, rfl⟩
        have ci : ∀ m, (wr.drewN m).cell? ⟨sb, so + i, none⟩ = some (.bool u) := fun m => by rw [hu]; exact step_cell (below_drewN HB.out m) (hscell i (by omega))
        have HU : Hid (S.getD i false = u) := hu.symm
        clear hu
        have HGF : Hid (g = f) := hgf
        clear hgf hscell hd
        go_wp2
        go_ret
        refine ⟨⟨u, rfl, ⟨fun h => ⟨i, hlt, by rw [HG.out]; exact HGF.out, HU.out.trans h⟩, ?_⟩⟩, below_drewN HB.out _⟩
        rintro ⟨j, hj, he, ht⟩
        have e1 : F[j]? = some f := by rw [← he]; simp [List.getD, hj]
        have e2 : F[i]? = some f := by rw [← HGF.out, ← HG.out]; simp [List.getD, hlt]
        rw [← HU.out, ← sorted_inj HSO.out e1 e2]
        exact ht
      · rw [hd]
        have HNE : Hid (¬ g = f) := fun e => by have := HSF.out.2 e; rw [hd] at this; exact absurd this (by simp)
        clear hd
        go_wp2
        refine ⟨⟨i + 1, by go_num, by omega, by omega, below_drewN HB.out _, fun j h1 h2 => ?_, q2, f0, f1, f2, f3, f4⟩, by simp [intOf]; omega⟩
        by_cases e : j < i
        · exact HNO.out j h1 e
        · obtain rfl : j = i := by omega
          rw [HG.out]
          exact HNE.out

end Go.Proofs.YtcmnmogmdhofcabGreat.form

/- All facts in order: those of a place stand together; where they begin. On plain numbers. -/
namespace Go.Proofs.YtcmnmogmdhofcabGreat.form
open Go.RowKit Go.Proofs.YtcmnmogmdhofcabGreat.num
set_option linter.unusedVariables false

theorem seg_split {F pre seg post : List LFact} {p : LPlace} (hF : F = pre ++ (seg ++ post)) (h1 : ∀ f, f ∈ pre → ¬ f.pl = p) (h2 : ∀ f, f ∈ seg → f.pl = p) (h3 : ∀ f, f ∈ post → ¬ f.pl = p) : SegOk F p pre.length := by
  have hl : F.length = pre.length + (seg.length + post.length) := by rw [hF]; simp
  have hg : ∀ i, i < F.length → F.getD i .zero = if i < pre.length then pre.getD i .zero else if i < pre.length + seg.length then seg.getD (i - pre.length) .zero else post.getD (i - pre.length - seg.length) .zero := fun i hi => by
    rw [hF]
    by_cases a : i < pre.length
    · rw [if_pos a]; simp [List.getD, List.getElem?_append_left a]
    · rw [if_neg a]
      by_cases b : i < pre.length + seg.length
      · rw [if_pos b]
        rw [List.getD, List.getElem?_append_right (by omega), List.getElem?_append_left (by omega)]
        rfl
      · rw [if_neg b]
        rw [List.getD, List.getElem?_append_right (by omega), List.getElem?_append_right (by omega)]
        rfl
  have hmem : ∀ (l : List LFact) (i : Nat), i < l.length → l.getD i .zero ∈ l := fun l i hi => by simp [List.getD, hi]
  refine ⟨by omega, fun i hi hp => ?_, fun i j hj hji hi hp => ?_⟩
  · by_cases a : i < pre.length
    · rw [hg i hi, if_pos a] at hp
      exact absurd hp (h1 _ (hmem _ _ a))
    · omega
  · by_cases b : i < pre.length + seg.length
    · rw [hg j (by omega), if_neg (by omega), if_pos (by omega)]
      exact h2 _ (hmem _ _ (by omega))
    · rw [hg i hi, if_neg (by omega), if_neg b] at hp
      exact absurd hp (h3 _ (hmem _ _ (by omega)))

theorem range_split {n many : Nat} (h : n < many) : List.range many = List.range n ++ n :: (List.range (many - n - 1)).map (· + (n + 1)) := by
  have e : many = n + (1 + (many - n - 1)) := by omega
  rw [e, List.range_add, List.range_add]
  simp only [List.range_one, List.map_cons, Nat.add_zero, List.map_map, List.singleton_append]
  congr 2
  have e2 : n + (1 + (many - n - 1)) - n - 1 = many - n - 1 := by omega
  rw [e2]
  apply List.map_congr_left
  intro a _
  simp only [Function.comp]
  omega

theorem kind_split {B : List Bool} {N : List Int} {kind : Int} {n many : Nat} (h : n < many) : ∃ post, kindF B N kind many = kindF B N kind n ++ (placeF B N kind n ++ post) ∧ ∀ f, f ∈ post → f.pl.kind = kind ∧ ¬ f.pl.n = n := by
  refine ⟨((List.range (many - n - 1)).map (· + (n + 1))).flatMap (placeF B N kind), ?_, fun f hf => ?_⟩
  · unfold kindF
    rw [range_split h, List.flatMap_append, List.flatMap_cons]
  · obtain ⟨m, hm, hf⟩ := List.mem_flatMap.1 hf
    obtain ⟨q, _, rfl⟩ := List.mem_map.1 hm
    have := (mem_placeF.1 hf).1
    rw [this]
    exact ⟨rfl, by simp only; omega⟩
theorem kind_pl {B : List Bool} {N : List Int} {kind : Int} {many : Nat} {f : LFact} (h : f ∈ kindF B N kind many) : f.pl.kind = kind ∧ ∃ n : Nat, n < many ∧ f.pl.n = n := by
  obtain ⟨n, hn, hf⟩ := mem_kindF.1 h
  have := (mem_placeF.1 hf).1
  rw [this]
  exact ⟨rfl, n, hn, rfl⟩
theorem temp_pl {B : List Bool} {N : List Int} {f : LFact} (h : f ∈ (List.range B.length).flatMap (tempF B N)) : f.pl.kind = 0 := by
  obtain ⟨x, _, hf⟩ := List.mem_flatMap.1 h
  rw [(mem_tempF.1 hf).2.1]; rfl

def startF (B : List Bool) (N : List Int) (s : Nat) (p : LPlace) : Nat :=
  if p.kind = 0 then 0
  else if p.kind = 1 then ((List.range B.length).flatMap (tempF B N) ++ kindF B N 1 p.n.toNat).length
  else if p.kind = 2 then ((List.range B.length).flatMap (tempF B N) ++ kindF B N 1 s ++ kindF B N 2 p.n.toNat).length
  else ((List.range B.length).flatMap (tempF B N) ++ kindF B N 1 s ++ kindF B N 2 (s / 2) ++ kindF B N 3 p.n.toNat).length

theorem seg_all {B : List Bool} {N : List Int} {s slots : Nat} {p : LPlace} (hs : s % 2 = 0) (hp : PlaceOf s slots p) : SegOk (allF B N s slots) p (startF B N s p) := by
  unfold startF
  rcases hp with hp | hp
  · rw [if_pos hp.1]
    have := seg_split (F := allF B N s slots) (pre := []) (seg := (List.range B.length).flatMap (tempF B N)) (post := kindF B N 1 s ++ kindF B N 2 (s / 2) ++ kindF B N 3 slots) (p := p) (by unfold allF; simp [List.append_assoc]) (fun f hf => absurd hf (by simp)) (fun f hf => ?_) (fun f hf => ?_)
    · exact this
    · obtain ⟨x, _, hf⟩ := List.mem_flatMap.1 hf
      rw [(mem_tempF.1 hf).2.1]
      exact (pl_ext hp.1 hp.2).symm
    · intro e
      simp only [List.mem_append] at hf
      rcases hf with (hf | hf) | hf <;> have := (kind_pl hf).1 <;> rw [e] at this <;> omega
  · have hk := is_kind hp
    rw [if_neg hk]
    rcases is_cases hp with ⟨e, a, b⟩ | ⟨e, a, b⟩ | ⟨e, a, b⟩
    · rw [if_pos e]
      obtain ⟨post, h1, h2⟩ := kind_split (B := B) (N := N) (kind := 1) (n := p.n.toNat) (many := s) (by omega)
      refine seg_split (seg := placeF B N 1 p.n.toNat) (post := post ++ kindF B N 2 (s / 2) ++ kindF B N 3 slots) (by unfold allF; rw [h1]; simp [List.append_assoc]) (fun f hf => ?_) (fun f hf => ?_) (fun f hf => ?_)
      · intro e2
        rcases List.mem_append.1 hf with hf | hf
        · have := temp_pl hf; rw [e2] at this; omega
        · obtain ⟨_, n, hn, h3⟩ := kind_pl hf; rw [e2] at h3; omega
      · rw [(mem_placeF.1 hf).1]
        exact (pl_ext e (by simp only; omega)).symm
      · intro e2
        simp only [List.mem_append] at hf
        rcases hf with (hf | hf) | hf
        · have := (h2 f hf).2; rw [e2] at this; omega
        · have := (kind_pl hf).1; rw [e2] at this; omega
        · have := (kind_pl hf).1; rw [e2] at this; omega
    · rw [if_neg (by omega), if_pos e]
      obtain ⟨post, h1, h2⟩ := kind_split (B := B) (N := N) (kind := 2) (n := p.n.toNat) (many := s / 2) (by omega)
      refine seg_split (seg := placeF B N 2 p.n.toNat) (post := post ++ kindF B N 3 slots) (by unfold allF; rw [h1]; simp [List.append_assoc]) (fun f hf => ?_) (fun f hf => ?_) (fun f hf => ?_)
      · intro e2
        simp only [List.mem_append] at hf
        rcases hf with (hf | hf) | hf
        · have := temp_pl hf; rw [e2] at this; omega
        · have := (kind_pl hf).1; rw [e2] at this; omega
        · obtain ⟨_, n, hn, h3⟩ := kind_pl hf; rw [e2] at h3; omega
      · rw [(mem_placeF.1 hf).1]
        exact (pl_ext e (by simp only; omega)).symm
      · intro e2
        simp only [List.mem_append] at hf
        rcases hf with hf | hf
        · have := (h2 f hf).2; rw [e2] at this; omega
        · have := (kind_pl hf).1; rw [e2] at this; omega
    · rw [if_neg (by omega), if_neg (by omega)]
      obtain ⟨post, h1, h2⟩ := kind_split (B := B) (N := N) (kind := 3) (n := p.n.toNat) (many := slots) (by omega)
      refine seg_split (seg := placeF B N 3 p.n.toNat) (post := post) (by unfold allF; rw [h1]; simp [List.append_assoc]) (fun f hf => ?_) (fun f hf => ?_) (fun f hf => ?_)
      · intro e2
        simp only [List.mem_append] at hf
        rcases hf with ((hf | hf) | hf) | hf
        · have := temp_pl hf; rw [e2] at this; omega
        · have := (kind_pl hf).1; rw [e2] at this; omega
        · have := (kind_pl hf).1; rw [e2] at this; omega
        · obtain ⟨_, n, hn, h3⟩ := kind_pl hf; rw [e2] at h3; omega
      · rw [(mem_placeF.1 hf).1]
        exact (pl_ext e (by simp only; omega)).symm
      · intro e2
        have := (h2 f hf).2; rw [e2] at this; omega

end Go.Proofs.YtcmnmogmdhofcabGreat.form
