/- Places for a program: the program's own build.Build answers buildF. -/
import Derived.Deep.OwnRows
import Derived.Deep.RegionHeld3
import Derived.Test.YtgnhpfmdbclnkaaGreatDoorW26
import Derived.Test.YtgnhpfmdbclnkaaGreatDoorW04
import Derived.Test.YtgnhpfmdbclnkaaGreatDoorW09
import Derived.Test.YtgnhpfmdbclnkaaGreatDoorW12

namespace Go.Proofs.YtgnhpfmdbclnkaaGreatDoor
set_option linter.unusedVariables false
namespace form
open Go.RowKit
set_option maxRecDepth 100000
attribute [local go_sem ↓] Go.wp_at_zero Go.wp_at_succ
theorem target_bad {s : Int} (h : targetB s = true) : ¬ badN s ∧ ¬ badN (s - 4) ∧ 4 ≤ s ∧ s ≤ 16 ∧ s % 2 = 0 := by
  unfold targetB at h
  simp only [Bool.or_eq_true, beq_iff_eq] at h
  unfold badN
  omega
def RegsP (B : List Bool) (C : List LIns) (s : Int) (w : World) (e : Ending) (w' : World) : Prop :=
  ((refMayB B C = false ∧ e = .returned (.tuple #[.slice none 0 0, .int .i64 2])) ∨
    (refMayB B C = true ∧ ∃ gv cap, e = .returned (.tuple #[.slice (some ⟨gv, 0, none⟩) B.length cap, .int .i64 0]) ∧ w.heap.size ≤ gv ∧ Row w' gv 115 ((regsF B C s.toNat).flatMap rgCs))) ∧ Below w.heap.size w w'
set_option maxHeartbeats 3200000 in
theorem regsO (pv : Value) (B : List Bool) (C : List LIns) (s : Int) (w : World) (hp : ProgIs w pv B C) (hs : targetB s = true) :
    Calls Tryz.prog 35 #[pv, .int .i64 s] w fun e w' => RegsP B C s w e w' := by
  obtain ⟨hbad, hbad4, h4, h16, h2⟩ := target_bad hs
  have HBAD : Hid (¬ badN s ∧ ¬ badN (s - 4)) := ⟨hbad, hbad4⟩
  have HP : Hid (ProgIs w pv B C) := hp
  have HMK : Hid (∀ (n : Int) (wx : World), Below w.heap.size w wx → Calls Tryz.prog 73 #[pv, .int .i64 n] wx fun e w' =>
    ((refMayB B C = false ∧ e = .returned (.tuple #[.slice none 0 0, .int .i64 2])) ∨ (refMayB B C = true ∧ badN n ∧ e = .returned (.tuple #[.slice none 0 0, .int .i64 3])) ∨
      (refMayB B C = true ∧ ¬ badN n ∧ ∃ v, e = .returned (.tuple #[v, .int .i64 0]) ∧ PlacesIs w' v (makeF B C n.toNat) ∧ FreshAt wx w' v (makeF B C n.toNat))) ∧ Below wx.heap.size wx w') := fun n wx hb => makeFO pv B C n wx (hp.later hb)
  have h0 := hp
  obtain ⟨⟨a0, c0, a1, c1, rfl, -⟩, -, -, -⟩ := h0
  have HW0 : Hid (∀ o : Obj, Below w.heap.size w (w.alloc o)) := fun o => (Below.refl _ _).alloc (Nat.le_refl _) _
  have y1 : s ≤ 16 := h16
  have y2 : 4 ≤ s := h4
  have hwr : IntKind.i64.wrap (s - 4) = s - 4 := wrapB (by omega) (by omega)
  clear hbad hbad4 hs hp
  rcases Bool.eq_false_or_eq_true (refMayB B C) with hm | hm
  · have hsz : sizesB B C = true := by
      have hm0 := hm
      unfold refMayB at hm0
      simp only [Bool.and_eq_true] at hm0
      exact hm0.1
    obtain ⟨s1, s2, s3, s4⟩ := sizes_of hsz
    have hl1 : (makeF B C s.toNat).length = B.length := (makeF_ok s1 (by omega) (by omega)).len
    have hl2 : (makeF B C (s - 4).toNat).length = B.length := (makeF_ok s1 (by omega) (by omega)).len
    have HM : Hid (refMayB B C = true) := hm
    have HMY : Hid (∀ (n : Int) (wx : World), Below w.heap.size w wx → ¬ badN n → (makeF B C n.toNat).length = B.length → Calls Tryz.prog 73 #[.agg #[.slice a0 B.length c0, .slice a1 C.length c1], .int .i64 n] wx fun e w' =>
        (∃ gv cap, e = .returned (.tuple #[.slice (some ⟨gv, 0, none⟩) B.length cap, .int .i64 0]) ∧ wx.heap.size ≤ gv ∧ Row w' gv 115 ((makeF B C n.toNat).flatMap rgCs)) ∧ Below wx.heap.size wx w') := fun n wx hb hbd hl => by
      refine (HMK.out n wx hb).mono ?_
      rintro e w' ⟨⟨h1, -⟩ | ⟨-, h1, -⟩ | ⟨-, -, v, rfl, -, gv, cap, rfl, h1, h2⟩, h3⟩
      · rw [hm] at h1; cases h1
      · exact absurd h1 hbd
      · exact ⟨⟨gv, cap, by rw [hl], h1, h2⟩, h3⟩
    have HRF : Hid (regsF B C s.toNat = if hasZ (makeF B C s.toNat) then makeF B C (s.toNat - 4) else makeF B C s.toNat) := rfl
    have e4 : (s - 4).toNat = s.toNat - 4 := by omega
    have HY1 := fun wx hb => HMY.out s wx hb HBAD.out.1 hl1
    have HY2 := fun wx hb => HMY.out (s - 4) wx hb HBAD.out.2 hl2
    rw [e4] at HY2 hl2
    obtain ⟨G, hG⟩ : ∃ G, G = makeF B C s.toNat := ⟨_, rfl⟩
    obtain ⟨G4, hG4⟩ : ∃ G4, G4 = makeF B C (s.toNat - 4) := ⟨_, rfl⟩
    rw [← hG] at HY1 hl1 HRF
    rw [← hG4] at HY2 HRF
    have HYA : Hid (∀ wx, Below w.heap.size w wx → Calls Tryz.prog 73 #[.agg #[.slice a0 B.length c0, .slice a1 C.length c1], .int .i64 s] wx fun e w' =>
        (∃ gv cap, e = .returned (.tuple #[.slice (some ⟨gv, 0, none⟩) B.length cap, .int .i64 0]) ∧ wx.heap.size ≤ gv ∧ Row w' gv 115 (G.flatMap rgCs)) ∧ Below wx.heap.size wx w') := HY1
    have HYB : Hid (∀ wx, Below w.heap.size w wx → Calls Tryz.prog 73 #[.agg #[.slice a0 B.length c0, .slice a1 C.length c1], .int .i64 (s - 4)] wx fun e w' =>
        (∃ gv cap, e = .returned (.tuple #[.slice (some ⟨gv, 0, none⟩) B.length cap, .int .i64 0]) ∧ wx.heap.size ≤ gv ∧ Row w' gv 115 (G4.flatMap rgCs)) ∧ Below wx.heap.size wx w') := HY2
    have HCO : Hid (∀ (gv cap : Nat) (wx : World), Row wx gv 115 (G.flatMap rgCs) → Calls Tryz.prog 74 #[.slice (some ⟨gv, 0, none⟩) B.length cap, .agg #[.int .i64 0, .int .i64 0]] wx fun e w' => e = .returned (.bool (hasZ G)) ∧ Below wx.heap.size wx w') := fun gv cap wx hr => by
      have := containsZ gv cap G wx (row_giv hr) (by omega)
      rwa [hl1] at this
    obtain ⟨z, hz⟩ : ∃ z, z = hasZ G := ⟨_, rfl⟩
    rw [← hz] at HCO HRF
    clear hz hG hG4 HY1 HY2 HMY HMK e4 hm hsz hl1 hl2 s1 s2 s3 s4
    rcases Bool.eq_false_or_eq_true z with hc | hc
    · subst hc
      have HRX : Hid (regsF B C s.toNat = G4) := HRF.out
      clear HRF
      go_enter Tryz.func35, Tryz.ntmps35
      go_upto_region 3 with (first
        | (go_at_call 73; refine (HYA.out _ (HW0.out _)).mono ?_; rintro e w1 ⟨⟨gv, cap, rfl, hgv, hr1⟩, hb1⟩; have p0 : w1.cell? ⟨w.heap.size, 0, none⟩ = some (.slice a0 B.length c0) := step_cell hb1 (by simp [go_sem]); have p1 : w1.cell? ⟨w.heap.size, 1, none⟩ = some (.slice a1 C.length c1) := step_cell hb1 (by simp [go_sem]); have HB1 : Hid (Below w.heap.size w w1) := step_below hb1 (HW0.out _); have HR1 : Hid (Row w1 gv 115 (G.flatMap rgCs)) := hr1; clear hb1 hr1 hgv)
        | (go_at_call 74; refine (HCO.out gv cap _ HR1.out).mono ?_; rintro e w2 ⟨rfl, hb2⟩; have p0 := step_cell hb2 p0; have p1 := step_cell hb2 p1; have HB2 : Hid (Below w.heap.size w w2) := step_below hb2 HB1.out; clear hb2))
      go_wp2_with (go_at_call 73; refine (HYB.out _ HB2.out).mono ?_; rintro e w3 ⟨⟨gv3, cap3, rfl, hgv3, hr3⟩, hb3⟩; have HB3 : Hid (Below w.heap.size w w3) := step_below hb3 HB2.out; have HG3 : Hid (w2.heap.size ≤ gv3) := hgv3; have HR3 : Hid (Row w3 gv3 115 (G4.flatMap rgCs)) := hr3; clear hb3 hr3 hgv3)
      refine bodyPost_ret (v := .tuple #[.slice (some ⟨gv3, 0, none⟩) B.length cap3, .int .i64 0]) ?_ rfl ⟨Or.inr ⟨HM.out, gv3, cap3, rfl, Nat.le_trans HB2.out.size HG3.out, by rw [HRX.out]; exact HR3.out⟩, HB3.out⟩
      simp [results, Tryz.results35, go_sem]
    · subst hc
      have HRX : Hid (regsF B C s.toNat = G) := HRF.out
      clear HRF
      go_enter Tryz.func35, Tryz.ntmps35
      go_wp2_with (first
        | (go_at_call 73; refine (HYA.out _ (HW0.out _)).mono ?_; rintro e w1 ⟨⟨gv, cap, rfl, hgv, hr1⟩, hb1⟩; have hg1 : w.heap.size ≤ gv := (by have h9 := hgv; simp at h9; omega); have HG1 : Hid (w.heap.size ≤ gv) := hg1; clear hg1; have HB1 : Hid (Below w.heap.size w w1) := step_below hb1 (HW0.out _); have HR1 : Hid (Row w1 gv 115 (G.flatMap rgCs)) := hr1; clear hb1 hr1 hgv)
        | (go_at_call 74; refine (HCO.out gv cap _ HR1.out).mono ?_; rintro e w2 ⟨rfl, hb2⟩; have HR2 : Hid (Row w2 gv 115 (G.flatMap rgCs)) := HR1.out.below hb2; have HB2 : Hid (Below w.heap.size w w2) := step_below hb2 HB1.out; clear hb2))
      refine bodyPost_ret (v := .tuple #[.slice (some ⟨gv, 0, none⟩) B.length cap, .int .i64 0]) ?_ rfl ⟨Or.inr ⟨HM.out, gv, cap, rfl, HG1.out, by rw [HRX.out]; exact HR2.out⟩, HB2.out⟩
      simp [results, Tryz.results35, go_sem]
  · have HM : Hid (refMayB B C = false) := hm
    have HMN : Hid (∀ (wx : World), Below w.heap.size w wx → Calls Tryz.prog 73 #[.agg #[.slice a0 B.length c0, .slice a1 C.length c1], .int .i64 s] wx fun e w' => e = .returned (.tuple #[.slice none 0 0, .int .i64 2]) ∧ Below wx.heap.size wx w') := fun wx hb => by
      refine (HMK.out s wx hb).mono ?_
      rintro e w' ⟨⟨-, h1⟩ | ⟨h1, -⟩ | ⟨h1, -⟩, h3⟩
      · exact ⟨h1, h3⟩
      · rw [hm] at h1; cases h1
      · rw [hm] at h1; cases h1
    clear hm HMK
    go_enter Tryz.func35, Tryz.ntmps35
    go_wp2_with (go_at_call 73; refine (HMN.out _ (HW0.out _)).mono ?_; rintro e w1 ⟨rfl, hb1⟩; have HB1 : Hid (Below w.heap.size w w1) := step_below hb1 (HW0.out _); clear hb1)
    refine bodyPost_ret (v := .tuple #[.slice none 0 0, .int .i64 2]) ?_ rfl ⟨Or.inl ⟨HM.out, rfl⟩, HB1.out⟩
    simp [results, Tryz.results35, go_sem]
set_option maxHeartbeats 3200000 in
theorem build_no (pv : Value) (B : List Bool) (C : List LIns) (s : Int) (w : World) (hp : ProgIs w pv B C) (ht : targetB s = false) :
    Calls Tryz.prog 14 #[pv, targetV s] w fun e w' => e = .returned (.tuple #[.agg #[.int .i64 0, .slice none 0 0], .int .i64 2]) ∧ Below w.heap.size w w' := by
  obtain ⟨⟨a0, c0, a1, c1, rfl, -⟩, -, -, -⟩ := hp
  have HT : Hid (∀ wx : World, Calls Tryz.prog 34 #[.agg #[.int .i64 s]] wx fun e w' => e = .returned (.bool false) ∧ Below wx.heap.size wx w') := fun wx => by have := targetMay s wx; rwa [ht] at this
  have HW3 : Hid (∀ o1 o2 o3 : Obj, Below w.heap.size w (((w.alloc o1).alloc o2).alloc o3)) := fun o1 o2 o3 => (((Below.refl _ _).alloc (Nat.le_refl _) _).alloc (by simp) _).alloc (by simp; omega) _
  clear ht
  unfold targetV
  go_enter Tryz.func14, Tryz.ntmps14
  go_wp2_with (go_at_call 34; refine (HT.out _).mono ?_; rintro e w1 ⟨rfl, hb1⟩; have r0 : w1.cell? ⟨w.heap.size + 1 + 1, 0, none⟩ = some (.int .i64 0) := step_cell hb1 (by simp [go_sem]); have r1 : w1.cell? ⟨w.heap.size + 1 + 1, 1, none⟩ = some (.slice none 0 0) := step_cell hb1 (by simp [go_sem]); have z0 : w1.frozen? ⟨w.heap.size + 1 + 1, 0, none⟩ = false := (by rw [hb1.frozen (by simp)]; simp [go_sem]); have z1 : w1.frozen? ⟨w.heap.size + 1 + 1, 1, none⟩ = false := (by rw [hb1.frozen (by simp)]; simp [go_sem]); have HB1 : Hid (Below w.heap.size w w1) := step_below hb1 (HW3.out _ _ _); clear hb1)
  refine bodyPost_ret (v := .tuple #[.agg #[.int .i64 0, .slice none 0 0], .int .i64 2]) ?_ rfl ⟨rfl, (HB1.out.setCell (by dsimp only; omega) _).setCell (by dsimp only; omega) _⟩
  simp [results, Tryz.results14, go_sem, r0, r1]
set_option maxHeartbeats 3200000 in
theorem build_form (pv : Value) (B : List Bool) (C : List LIns) (s : Int) (w : World) (hp : ProgIs w pv B C) (ht : targetB s = true) (hm : refMayB B C = false) :
    Calls Tryz.prog 14 #[pv, targetV s] w fun e w' => e = .returned (.tuple #[.agg #[.int .i64 0, .slice none 0 0], .int .i64 2]) ∧ Below w.heap.size w w' := by
  have HRG : Hid (∀ wx : World, Below w.heap.size w wx → Calls Tryz.prog 35 #[pv, .int .i64 s] wx fun e w' => e = .returned (.tuple #[.slice none 0 0, .int .i64 2]) ∧ Below wx.heap.size wx w') := fun wx hb => by
    refine (regsO pv B C s wx (hp.later hb) ht).mono ?_
    rintro e w' ⟨⟨-, h1⟩ | ⟨h1, -⟩, h2⟩
    · exact ⟨h1, h2⟩
    · rw [hm] at h1; cases h1
  obtain ⟨⟨a0, c0, a1, c1, rfl, -⟩, -, -, -⟩ := hp
  have HT : Hid (∀ wx : World, Calls Tryz.prog 34 #[.agg #[.int .i64 s]] wx fun e w' => e = .returned (.bool true) ∧ Below wx.heap.size wx w') := fun wx => by have := targetMay s wx; rwa [ht] at this
  have HW3 : Hid (∀ o1 o2 o3 : Obj, Below w.heap.size w (((w.alloc o1).alloc o2).alloc o3)) := fun o1 o2 o3 => (((Below.refl _ _).alloc (Nat.le_refl _) _).alloc (by simp) _).alloc (by simp; omega) _
  clear ht hm
  unfold targetV
  go_enter Tryz.func14, Tryz.ntmps14
  go_wp2_with (first
    | (go_at_call 34; refine (HT.out _).mono ?_; rintro e w1 ⟨rfl, hb1⟩; have r0 : w1.cell? ⟨w.heap.size + 1 + 1, 0, none⟩ = some (.int .i64 0) := step_cell hb1 (by simp [go_sem]); have r1 : w1.cell? ⟨w.heap.size + 1 + 1, 1, none⟩ = some (.slice none 0 0) := step_cell hb1 (by simp [go_sem]); have z0 : w1.frozen? ⟨w.heap.size + 1 + 1, 0, none⟩ = false := (by rw [hb1.frozen (by simp)]; simp [go_sem]); have z1 : w1.frozen? ⟨w.heap.size + 1 + 1, 1, none⟩ = false := (by rw [hb1.frozen (by simp)]; simp [go_sem]); have p0 : w1.cell? ⟨w.heap.size, 0, none⟩ = some (.slice a0 B.length c0) := step_cell hb1 (by simp [go_sem]); have p1 : w1.cell? ⟨w.heap.size, 1, none⟩ = some (.slice a1 C.length c1) := step_cell hb1 (by simp [go_sem]); have p2 : w1.cell? ⟨w.heap.size + 1, 0, none⟩ = some (.int .i64 s) := step_cell hb1 (by simp [go_sem]); have hl1 : w.heap.size + 1 + 1 < w1.heap.size := World.block_lt_of_cell? _ _ r0; have HB1 : Hid (Below w.heap.size w w1) := step_below hb1 (HW3.out _ _ _); clear hb1)
    | (go_at_call 35; refine (HRG.out _ HB1.out).mono ?_; rintro e w2 ⟨rfl, hb2⟩; have z0 : w2.frozen? ⟨w.heap.size + 1 + 1, 0, none⟩ = false := (by rw [hb2.frozen hl1]; exact z0); have z1 : w2.frozen? ⟨w.heap.size + 1 + 1, 1, none⟩ = false := (by rw [hb2.frozen hl1]; exact z1); have r0 := step_cell hb2 r0; have r1 := step_cell hb2 r1; have HB2 : Hid (Below w.heap.size w w2) := step_below hb2 HB1.out; clear hb2))
  refine bodyPost_ret (v := .tuple #[.agg #[.int .i64 0, .slice none 0 0], .int .i64 2]) ?_ rfl ⟨rfl, (HB2.out.setCell (by dsimp only; omega) _).setCell (by dsimp only; omega) _⟩
  simp [results, Tryz.results14, go_sem, r0, r1]
set_option maxHeartbeats 3200000 in
theorem build_yes (b0 o0 c0 b1 o1 c1 : Nat) (B : List Bool) (C : List LIns) (s : Int) (w : World) (hH : Held w b0 o0 b1 o1 B C) (hp : ProgIs w (progV b0 o0 B.length c0 b1 o1 C.length c1) B C) (ht : targetB s = true) (hm : refMayB B C = true) (hn : ∀ i, i < C.length → 0 ≤ (C.getD i .zero).n ∧ (C.getD i .zero).n < 4294967296) :
    Calls Tryz.prog 14 #[progV b0 o0 B.length c0 b1 o1 C.length c1, targetV s] w fun e w' => (∃ lv, e = .returned (.tuple #[lv, .int .i64 0]) ∧ PlacedIs w' lv (buildF B C s).1 (buildF B C s).2) ∧ Below w.heap.size w w' := by
  have hsz : sizesB B C = true := by
    have hm0 := hm
    unfold refMayB at hm0
    simp only [Bool.and_eq_true] at hm0
    exact hm0.1
  obtain ⟨s1, s2, s3, s4⟩ := sizes_of hsz
  obtain ⟨hl, -⟩ := regs_ferry (C := C) s1 ht
  obtain ⟨-, -, h4, h16, h2⟩ := target_bad ht
  have hio := all_insOk hm hn
  have hkn : ∀ k, k < C.length → knownB (C.getD k .zero).op = true := fun k hk => by
    have hm0 := hm
    unfold refMayB at hm0
    simp only [Bool.and_eq_true, List.all_eq_true] at hm0
    have h1 := hm0.2 (C.getD k .zero) (by simp [List.getD, hk])
    unfold insB at h1
    simp only [Bool.and_eq_true] at h1
    exact h1.1.1.1.1.1.1
  have HRG : Hid (∀ wx : World, Below w.heap.size w wx → Calls Tryz.prog 35 #[.agg #[.slice (some ⟨b0, o0, none⟩) B.length c0, .slice (some ⟨b1, o1, none⟩) C.length c1], .int .i64 s] wx fun e w' => (∃ gv cap, e = .returned (.tuple #[.slice (some ⟨gv, 0, none⟩) B.length cap, .int .i64 0]) ∧ wx.heap.size ≤ gv ∧ Row w' gv 115 ((regsF B C s.toNat).flatMap rgCs)) ∧ Below wx.heap.size wx w') := fun wx hb => by
    refine (regsO _ B C s wx (hp.later hb) ht).mono ?_
    rintro e w' ⟨⟨h1, -⟩ | ⟨-, h1⟩, h2⟩
    · rw [hm] at h1; cases h1
    · exact ⟨h1, h2⟩
  have HT : Hid (∀ wx : World, Calls Tryz.prog 34 #[.agg #[.int .i64 s]] wx fun e w' => e = .returned (.bool true) ∧ Below wx.heap.size wx w') := fun wx => by have := targetMay s wx; rwa [ht] at this
  have HW3 : Hid (∀ o1 o2 o3 : Obj, Below w.heap.size w (((w.alloc o1).alloc o2).alloc o3)) := fun o1 o2 o3 => (((Below.refl _ _).alloc (Nat.le_refl _) _).alloc (by simp) _).alloc (by simp; omega) _
  have HHW : Hid (Held w b0 o0 b1 o1 B C) := hH
  have HIO : Hid (∀ k, k < C.length → InsOk B.length C.length (C.getD k .zero) ∧ knownB (C.getD k .zero).op = true) := fun k hk => ⟨hio k hk, hkn k hk⟩
  have HB1F : Hid (buildF B C s = ((noneN (regsF B C s.toNat) : Int), C.map (rowL B (giveL 0 (regsF B C s.toNat)) (s / 2 - 2) (s / 2 - 1)))) := rfl
  have hq : s.tdiv 2 = s / 2 := Int.tdiv_eq_ediv_of_nonneg (by omega)
  obtain ⟨G, hG⟩ : ∃ G, G = regsF B C s.toNat := ⟨_, rfl⟩
  rw [← hG] at HRG HB1F hl
  clear hG hH hp hm ht hn hsz hio hkn
  obtain ⟨m, hm2⟩ : ∃ m, m = s / 2 := ⟨_, rfl⟩
  have hm0 : 2 ≤ m := by omega
  have hm8 : m ≤ 8 := by omega
  rw [← hm2] at hq HB1F
  clear hm2 h2
  have hw1 : IntKind.i64.wrap m = m := wrapB (by omega) (by omega)
  have hw2 : IntKind.i64.wrap (m - 1) = m - 1 := wrapB (by omega) (by omega)
  have hw3 : IntKind.i64.wrap (m - 1 - 1) = m - 1 - 1 := wrapB (by omega) (by omega)
  unfold progV targetV
  go_enter Tryz.func14, Tryz.ntmps14
  go_upto_region 7 with (first
    | (go_at_call 34; refine (HT.out _).mono ?_; rintro e w1 ⟨rfl, hb1⟩; have r0 : w1.cell? ⟨w.heap.size + 1 + 1, 0, none⟩ = some (.int .i64 0) := step_cell hb1 (by simp [go_sem]); have r1 : w1.cell? ⟨w.heap.size + 1 + 1, 1, none⟩ = some (.slice none 0 0) := step_cell hb1 (by simp [go_sem]); have z0 : w1.frozen? ⟨w.heap.size + 1 + 1, 0, none⟩ = false := (by rw [hb1.frozen (by simp)]; simp [go_sem]); have z1 : w1.frozen? ⟨w.heap.size + 1 + 1, 1, none⟩ = false := (by rw [hb1.frozen (by simp)]; simp [go_sem]); have p0 : w1.cell? ⟨w.heap.size, 0, none⟩ = some (.slice (some ⟨b0, o0, none⟩) B.length c0) := step_cell hb1 (by simp [go_sem]); have p1 : w1.cell? ⟨w.heap.size, 1, none⟩ = some (.slice (some ⟨b1, o1, none⟩) C.length c1) := step_cell hb1 (by simp [go_sem]); have p2 : w1.cell? ⟨w.heap.size + 1, 0, none⟩ = some (.int .i64 s) := step_cell hb1 (by simp [go_sem]); have hl1 : w.heap.size + 1 + 1 < w1.heap.size := World.block_lt_of_cell? _ _ r0; have HB1 : Hid (Below w.heap.size w w1) := step_below hb1 (HW3.out _ _ _); clear hb1)
    | (go_at_call 35; refine (HRG.out _ HB1.out).mono ?_; rintro e w2 ⟨⟨gv, cap, rfl, hgv, hr2⟩, hb2⟩; have z0 : w2.frozen? ⟨w.heap.size + 1 + 1, 0, none⟩ = false := (by rw [hb2.frozen hl1]; exact z0); have z1 : w2.frozen? ⟨w.heap.size + 1 + 1, 1, none⟩ = false := (by rw [hb2.frozen hl1]; exact z1); have r0 := step_cell hb2 r0; have r1 := step_cell hb2 r1; have p0 := step_cell hb2 p0; have p1 := step_cell hb2 p1; have p2 := step_cell hb2 p2; have HB2 : Hid (Below w.heap.size w w2) := step_below hb2 HB1.out; have hgl : w.heap.size + 1 + 1 < gv := (by omega); have HR2 : Hid (Row w2 gv 115 (G.flatMap rgCs)) := hr2; clear hb2 hgv hr2))
  go_upto_region 8 with fail
  obtain ⟨w3, hw3⟩ : ∃ w3, w3 = w2.alloc (.cells #[.slice (some ⟨b0, o0, none⟩) B.length c0, .slice (some ⟨b1, o1, none⟩) C.length c1, .slice (some ⟨gv, 0, none⟩) B.length cap, .int .i64 0, .int .i64 (m - 1 - 1), .int .i64 (m - 1)] 107) := ⟨_, rfl⟩
  have hb3 : Below w2.heap.size w2 w3 := by rw [hw3]; exact (Below.refl _ _).alloc (Nat.le_refl _) _
  have hr3 : Row w3 w2.heap.size 107 (bdC b0 o0 B.length c0 b1 o1 C.length c1 gv cap 0 (m - 1 - 1) (m - 1)) := by rw [hw3]; exact Row.new _ _ _
  rw [← hw3]
  clear hw3
  have hgv2 := HR2.out.lt
  obtain ⟨bb, hbb⟩ : ∃ bb, bb = w2.heap.size := ⟨_, rfl⟩
  rw [← hbb] at hr3 hgv2 ⊢
  have hne : bb ≠ gv := by omega
  have hl2 : w.heap.size + 1 + 1 < bb := by omega
  have q0 := step_cell hb3 r0
  have q1 := step_cell hb3 r1
  have HB3 : Hid (Below w.heap.size w w3) := step_below hb3 HB2.out
  have y0 : w3.frozen? ⟨w.heap.size + 1 + 1, 0, none⟩ = false := by rw [hb3.frozen (World.block_lt_of_cell? _ _ r0)]; exact z0
  have y1 : w3.frozen? ⟨w.heap.size + 1 + 1, 1, none⟩ = false := by rw [hb3.frozen (World.block_lt_of_cell? _ _ r1)]; exact z1
  have hl3 : w.heap.size + 1 + 1 < w3.heap.size := World.block_lt_of_cell? _ _ q0
  have HGS : Hid (Calls Tryz.prog 36 #[.pointer (some ⟨bb, 0, none⟩)] w3 fun e w' => e = .returned (.tuple #[]) ∧ GvS bb b0 o0 c0 b1 o1 c1 gv cap B C G (m - 1 - 1) (m - 1) w3 B.length w') := giveSlotsO bb b0 o0 c0 b1 o1 c1 gv cap B C G (m - 1 - 1) (m - 1) w3 hl s2 hne hr3 (HR2.out.below hb3)
  clear hb3 hr3 hbb r0 r1 z0 z1 p0 p1 p2 HR2 HB1 HT HRG
  go_upto_region 9 with (go_at_call 36; refine HGS.out.mono ?_; rintro e w4 ⟨rfl, hg4⟩; have HG4 : Hid (GvS bb b0 o0 c0 b1 o1 c1 gv cap B C G (m - 1 - 1) (m - 1) w3 B.length w4) := hg4; clear hg4)
  have hg4 := HG4.out
  have q0 : w4.cell? ⟨w.heap.size + 1 + 1, 0, none⟩ = some (.int .i64 0) := hg4.but.cell q0 (by dsimp only; omega) (by dsimp only; omega)
  have q1 : w4.cell? ⟨w.heap.size + 1 + 1, 1, none⟩ = some (.slice none 0 0) := hg4.but.cell q1 (by dsimp only; omega) (by dsimp only; omega)
  have hb4 : Below (w.heap.size + 1 + 1 + 1) w3 w4 := hg4.but.below (by omega) (by omega) (by omega)
  have y0 : w4.frozen? ⟨w.heap.size + 1 + 1, 0, none⟩ = false := by rw [hb4.frozen (by dsimp only; omega)]; exact y0
  have y1 : w4.frozen? ⟨w.heap.size + 1 + 1, 1, none⟩ = false := by rw [hb4.frozen (by dsimp only; omega)]; exact y1
  have hw4 : Below w.heap.size w w4 := HB3.out.trans (hb4.mono (by omega))
  have HB4 : Hid (Below w.heap.size w w4) := hw4
  have hgb := hg4.bd
  have hgr := hg4.row
  rw [show G.take B.length = G from List.take_of_length_le (by omega)] at hgb
  rw [show giveU G B.length = giveL 0 G by rw [← hl]; exact giveU_all G] at hgr
  have hbd : BdR bb b0 o0 c0 b1 o1 c1 gv cap B C (giveL 0 G) (noneN G) (m - 1 - 1) (m - 1) w4 := ⟨HHW.out.later hw4, hgb, by rw [giveL_len, hl], row_giv hgr⟩
  have HPL : Hid (Calls Tryz.prog 37 #[.pointer (some ⟨bb, 0, none⟩)] w4 fun e w' => PlacedP B C (giveL 0 G) (noneN G) (m - 1 - 1) (m - 1) w4 e w') := placedO hbd s2 s4 ⟨by omega, by omega⟩ ⟨by omega, by omega⟩ HIO.out
  have hl4 : w.heap.size + 1 + 1 < w4.heap.size := World.block_lt_of_cell? _ _ q0
  clear hg4 hb4 hw4 hgb hgr hbd HGS HG4 HB3 HB2
  go_wp2_with (go_at_call 37; refine HPL.out.mono ?_; rintro e w5 ⟨L, po, pc, rfl, hrw, hLm, hb5⟩; have HRW : Hid (RW (w4.heap.size + 2) L (.slice po C.length pc) w5) := hrw; have HLM : Hid (L.map (·.1) = C.map (rowL B (giveL 0 G) (m - 1 - 1) (m - 1))) := hLm; have q0 := step_cell hb5 q0; have q1 := step_cell hb5 q1; have y0 : w5.frozen? ⟨w.heap.size + 1 + 1, 0, none⟩ = false := (by rw [hb5.frozen hl4]; exact y0); have y1 : w5.frozen? ⟨w.heap.size + 1 + 1, 1, none⟩ = false := (by rw [hb5.frozen hl4]; exact y1); have HB5 : Hid (Below w.heap.size w w5) := step_below hb5 HB4.out; clear hrw hLm hb5)
  have hr9 := (HRW.out.setCell (a := ⟨w.heap.size + 1 + 1, 0, none⟩) (by dsimp only; omega) (.int .i64 (noneN G))).setCell (a := ⟨w.heap.size + 1 + 1, 1, none⟩) (by dsimp only; omega) (.slice po C.length pc)
  have hpl := hr9.placed (by have := congrArg List.length HLM.out; simp at this; omega) (noneN G)
  rw [HLM.out, show m - 1 - 1 = m - 2 by omega] at hpl
  refine bodyPost_ret (v := .tuple #[.agg #[.int .i64 (noneN G), .slice po C.length pc], .int .i64 0]) ?_ rfl ⟨⟨_, rfl, ?_⟩, (HB5.out.setCell (by dsimp only; omega) _).setCell (by dsimp only; omega) _⟩
  · simp [results, Tryz.results14, go_sem, q0, q1]
  · rw [HB1F.out]
    exact hpl
theorem buildO : BuildSpec buildF := by
  intro pv B C s w hp
  rcases Bool.eq_false_or_eq_true (targetB s) with ht | ht
  · rcases Bool.eq_false_or_eq_true (refMayB B C) with hm | hm
    · have hs : sizesB B C = true := by
        have hm0 := hm
        unfold refMayB at hm0
        simp only [Bool.and_eq_true] at hm0
        exact hm0.1
      obtain ⟨s1, s2, s3, s4⟩ := sizes_of hs
      have hp0 := hp
      obtain ⟨⟨a0, c0, a1, c1, rfl, hh⟩, -, -, hn⟩ := hp0
      obtain ⟨b0, o0, b1, o1, rfl, rfl, hH⟩ := hh s1 s3
      refine (build_yes b0 o0 c0 b1 o1 c1 B C s w hH hp ht hm hn).mono ?_
      rintro e w' ⟨h1, h2⟩
      exact ⟨Or.inr ⟨by rw [hm, ht]; rfl, h1⟩, h2⟩
    · refine (build_form pv B C s w hp ht hm).mono ?_
      rintro e w' ⟨rfl, h2⟩
      exact ⟨Or.inl ⟨by rw [hm]; rfl, _, rfl, ⟨none, 0, rfl, by simp, fun hh => absurd hh (by simp)⟩⟩, h2⟩
  · refine (build_no pv B C s w hp ht).mono ?_
    rintro e w' ⟨rfl, h2⟩
    exact ⟨Or.inl ⟨by rw [ht, Bool.and_false], _, rfl, ⟨none, 0, rfl, by simp, fun hh => absurd hh (by simp)⟩⟩, h2⟩
end form
/- What the functions on numbers come to: the program's. -/
namespace num
open Go.RowKit
theorem reckon64 (op a b : Int) (w : World) : Calls Tryz.prog 136 #[.int .i64 op, .int .u64 a, .int .u64 b] w fun e w' => e = .returned (.int .u64 (opR .u64 op a b)) ∧ w' = w := by
  go_enter Tryz.func136, Tryz.ntmps136
  go_wp2
  all_goals go_ret
  all_goals exact ⟨ret_int (by simp_all [opR]), rfl⟩
theorem reckon32 (op a b : Int) (w : World) : Calls Tryz.prog 137 #[.int .i64 op, .int .u32 a, .int .u32 b] w fun e w' => e = .returned (.int .u32 (opR .u32 op a b)) ∧ w' = w := by
  go_enter Tryz.func137, Tryz.ntmps137
  go_wp2
  all_goals go_ret
  all_goals exact ⟨ret_int (by simp_all [opR, IntKind.wrap_u32']), rfl⟩
theorem wide (op a b : Int) (w : World) : Calls Tryz.prog 110 #[.int .i64 op, .int .u64 a, .int .u64 b] w fun e w' => e = .returned (.int .u64 (opR .u64 op a b)) ∧ w' = w := by
  go_enter Tryz.func110, Tryz.ntmps110
  go_wp2_with (go_at_call 136; refine (reckon64 _ _ _ _).mono ?_; rintro e w' ⟨rfl, rfl⟩)
  go_ret
  exact ⟨rfl, rfl⟩
theorem narrow (op a b : Int) (w : World) : Calls Tryz.prog 112 #[.int .i64 op, .int .u32 a, .int .u32 b] w fun e w' => e = .returned (.int .u32 (opR .u32 op a b)) ∧ w' = w := by
  go_enter Tryz.func112, Tryz.ntmps112
  go_wp2_with (go_at_call 137; refine (reckon32 _ _ _ _).mono ?_; rintro e w' ⟨rfl, rfl⟩)
  go_ret
  exact ⟨rfl, rfl⟩
end num
/- The program's own machine (package run) in memory: its state, what came out, the ins that are left; the store that its deeds read and write, whatever it is; how each part of it is written. -/
namespace form
open Go.RowKit num
structure StoK where
  S : Type
  T : TypeId
  enc : S → List Value
  ok : S → Prop
structure Ran (mb sb base : Nat) (w w' : World) : Prop where
  os : w'.os = w.os
  tape : w'.tape = w.tape
  output : w'.output = w.output
  size : w.heap.size ≤ w'.heap.size
  block : ∀ k, k < base → k ≠ mb → k ≠ sb → w'.heap[k]? = w.heap[k]?
theorem Ran.refl (mb sb base : Nat) (w : World) : Ran mb sb base w w := ⟨rfl, rfl, rfl, Nat.le_refl _, fun _ _ _ _ => rfl⟩
theorem Ran.trans {mb sb base : Nat} {a b c : World} (h : Ran mb sb base a b) (k : Ran mb sb base b c) : Ran mb sb base a c :=
  ⟨k.os.trans h.os, k.tape.trans h.tape, k.output.trans h.output, Nat.le_trans h.size k.size, fun i hi h1 h2 => (k.block i hi h1 h2).trans (h.block i hi h1 h2)⟩
theorem Ran.of_below {mb sb base : Nat} {w w' : World} (hz : base ≤ w.heap.size) (h : Below w.heap.size w w') : Ran mb sb base w w' := ⟨h.os, h.tape, h.output, h.size, fun k hk _ _ => h.block k (by omega)⟩
theorem Ran.set {mb sb base : Nat} {w w' : World} (h : Ran mb sb base w w') (j : Nat) (u : Value) : Ran mb sb base w (w'.setCell ⟨mb, j, none⟩ u) :=
  ⟨h.os, h.tape, h.output, by simpa [World.setCell] using h.size, fun k hk h1 h2 => by rw [Below.heap_setCell _ _ _ _ h1]; exact h.block k hk h1 h2⟩
theorem Ran.cell {mb sb base : Nat} {w w' : World} (h : Ran mb sb base w w') {p : Addr} {v : Value} (hc : w.cell? p = some v) (h1 : p.block < base) (h2 : p.block ≠ mb) (h3 : p.block ≠ sb) : w'.cell? p = some v := by
  rw [World.cell?_of_block (h.block p.block h1 h2 h3)]; exact hc
def Kept (mb sb db : Nat) (w1 w : World) : Prop := ∀ k, k < w1.heap.size → k ≠ mb → k ≠ sb → k ≠ db → w.heap[k]? = w1.heap[k]?
theorem Kept.cell {mb sb db : Nat} {w w' : World} (h : Kept mb sb db w w') {p : Addr} {v : Value} (hc : w.cell? p = some v) (h1 : p.block ≠ mb) (h2 : p.block ≠ sb) (h3 : p.block ≠ db) : w'.cell? p = some v := by
  rw [World.cell?_of_block (h p.block (World.block_lt_of_cell? w _ hc) h1 h2 h3)]; exact hc
theorem Kept.of_below {mb sb db : Nat} {w w' : World} (h : Below w.heap.size w w') : Kept mb sb db w w' := fun k hk _ _ _ => h.block k hk
theorem Kept.trans {mb sb db : Nat} {a b c : World} (h : Kept mb sb db a b) (hz : a.heap.size ≤ b.heap.size) (k : Kept mb sb db b c) : Kept mb sb db a c := fun j hj h1 h2 h3 => (k j (by omega) h1 h2 h3).trans (h j hj h1 h2 h3)
theorem Kept.set {mb sb db : Nat} (w : World) (j : Nat) (u : Value) : Kept mb sb db w (w.setCell ⟨db, j, none⟩ u) := fun k _ _ _ h3 => Below.heap_setCell _ _ _ _ h3
theorem Kept.ran {mb sb db base : Nat} {w1 w w' : World} (h : Kept mb sb db w1 w) (hz : w1.heap.size ≤ base) (hr : Ran mb sb base w w') : Kept mb sb db w1 w' := fun k hk hm hs hd => (hr.block k (by omega) hm hs).trans (h k hk hm hs hd)
theorem Kept.thenBelow {mb sb db : Nat} {w1 w w' : World} (h : Kept mb sb db w1 w) (hz : w1.heap.size ≤ w.heap.size) (hb : Below w.heap.size w w') : Kept mb sb db w1 w' := h.trans hz (Kept.of_below hb)
structure Only (sb : Nat) (w w' : World) : Prop where
  os : w'.os = w.os
  tape : w'.tape = w.tape
  output : w'.output = w.output
  size : w.heap.size ≤ w'.heap.size
  block : ∀ k, k < w.heap.size → k ≠ sb → w'.heap[k]? = w.heap[k]?
theorem Only.of_below {sb : Nat} {w w' : World} (h : Below w.heap.size w w') : Only sb w w' := ⟨h.os, h.tape, h.output, h.size, fun k hk _ => h.block k hk⟩
theorem Only.refl (sb : Nat) (w : World) : Only sb w w := Only.of_below (Below.refl _ _)
theorem Only.trans {sb : Nat} {a b c : World} (h : Only sb a b) (k : Only sb b c) : Only sb a c :=
  ⟨k.os.trans h.os, k.tape.trans h.tape, k.output.trans h.output, Nat.le_trans h.size k.size, fun i hi h1 => (k.block i (Nat.lt_of_lt_of_le hi h.size) h1).trans (h.block i hi h1)⟩
theorem Only.set {sb : Nat} {w w' : World} (h : Only sb w w') (j : Nat) (u : Value) : Only sb w (w'.setCell ⟨sb, j, none⟩ u) :=
  ⟨h.os, h.tape, h.output, by simpa [World.setCell] using h.size, fun k hk h1 => by rw [Below.heap_setCell _ _ _ _ h1]; exact h.block k hk h1⟩
theorem Only.cell {sb : Nat} {w w' : World} (h : Only sb w w') {p : Addr} {v : Value} (hc : w.cell? p = some v) (h1 : p.block ≠ sb) : w'.cell? p = some v := by
  rw [World.cell?_of_block (h.block p.block (World.block_lt_of_cell? w _ hc) h1)]; exact hc
theorem Only.ran {mb sb base : Nat} {w w' : World} (h : Only sb w w') (hz : base ≤ w.heap.size) : Ran mb sb base w w' := ⟨h.os, h.tape, h.output, h.size, fun k hk _ h2 => h.block k (by omega) h2⟩
def InsIs (mb sb base : Nat) (w : World) (iv : Value) (I : List Int) : Prop :=
  ∃ ai cap, iv = .slice ai I.length cap ∧ I.length ≤ cap ∧ I.length ≤ 40 ∧ (∀ j, j < I.length → 0 ≤ I.getD j 0 ∧ I.getD j 0 < 4294967296) ∧
    (0 < I.length → ∃ b o, ai = some ⟨b, o, none⟩ ∧ b < base ∧ b ≠ mb ∧ b ≠ sb ∧ ∀ j, j < I.length → w.cell? ⟨b, o + j, none⟩ = some (.int .u32 (I.getD j 0)))
theorem InsIs.ran {mb sb base : Nat} {w w' : World} {iv : Value} {I : List Int} (h : InsIs mb sb base w iv I) (hr : Ran mb sb base w w') : InsIs mb sb base w' iv I := by
  obtain ⟨ai, cap, e, h1, h2, h3, h4⟩ := h
  refine ⟨ai, cap, e, h1, h2, h3, fun h0 => ?_⟩
  obtain ⟨b, o, e2, hb, hm, hs, hc⟩ := h4 h0
  exact ⟨b, o, e2, hb, hm, hs, fun j hj => hr.cell (hc j hj) hb hm hs⟩
def macV (st k pc : Int) (ov iv : Value) : List Value := [.int .i64 st, ov, .int .i64 k, iv, .int .i64 pc]
structure MS (K : StoK) (mb sb base : Nat) (s : K.S) (ov : Value) (l : List Int) (st k : Int) (iv : Value) (I : List Int) (pc : Int) (w : World) : Prop where
  row : Row w mb 99 (macV st k pc ov iv)
  sto : Row w sb K.T (K.enc s)
  ok : K.ok s
  ne : mb ≠ sb
  lt : mb < base
  slt : sb < base
  sz : base ≤ w.heap.size
  own : w.ownsRow base 35 1 ov l.length (l.map (Value.int .u32))
  ins : InsIs mb sb base w iv I
section
variable {K : StoK} {mb sb base : Nat} {s : K.S} {ov : Value} {l : List Int} {st k : Int} {iv : Value} {I : List Int} {pc : Int} {w w' : World}
theorem MS.cst (h : MS K mb sb base s ov l st k iv I pc w) : w.cell? ⟨mb, 0, none⟩ = some (.int .i64 st) := h.row.cell 0
theorem MS.cov (h : MS K mb sb base s ov l st k iv I pc w) : w.cell? ⟨mb, 1, none⟩ = some ov := h.row.cell 1
theorem MS.ck (h : MS K mb sb base s ov l st k iv I pc w) : w.cell? ⟨mb, 2, none⟩ = some (.int .i64 k) := h.row.cell 2
theorem MS.civ (h : MS K mb sb base s ov l st k iv I pc w) : w.cell? ⟨mb, 3, none⟩ = some iv := h.row.cell 3
theorem MS.cpc (h : MS K mb sb base s ov l st k iv I pc w) : w.cell? ⟨mb, 4, none⟩ = some (.int .i64 pc) := h.row.cell 4
theorem MS.fz (h : MS K mb sb base s ov l st k iv I pc w) (j : Nat) : w.frozen? ⟨mb, j, none⟩ = false := h.row.frozen j
theorem MS.ownNe (h : MS K mb sb base s ov l st k iv I pc w) {b : Nat} (hb : b < base) : ov.ownBlock ≠ some b := fun e => by have := (World.ownsRow.lt h.own _ e).1; omega
theorem MS.below (h : MS K mb sb base s ov l st k iv I pc w) (hb : Below w.heap.size w w') : MS K mb sb base s ov l st k iv I pc w' :=
  ⟨h.row.below hb, h.sto.below hb, h.ok, h.ne, h.lt, h.slt, Nat.le_trans h.sz hb.size, World.ownsRow.kept h.own ⟨hb.os, hb.tape, hb.output, hb.size, fun j hj _ => hb.block j hj⟩ (row := none) (by cases ov.ownBlock <;> simp), h.ins.ran (Ran.of_below h.sz hb)⟩
theorem MS.wrote {s' : K.S} (h : MS K mb sb base s ov l st k iv I pc w) (hr : Row w' sb K.T (K.enc s')) (hk : K.ok s') (ho : Only sb w w') : MS K mb sb base s' ov l st k iv I pc w' := by
  refine ⟨?_, hr, hk, h.ne, h.lt, h.slt, Nat.le_trans h.sz ho.size, World.ownsRow.kept h.own ⟨ho.os, ho.tape, ho.output, ho.size, fun j hj hne => ho.block j hj (fun e => hne (by rw [e]))⟩ (row := some sb) ?_, h.ins.ran (ho.ran h.sz)⟩
  · have h1 := h.row.lt
    have h2 := h.row
    unfold Row at *
    rw [ho.block mb h1 h.ne]; exact h2
  · have := h.ownNe h.slt
    first | exact this | exact Or.inr this | (intro e; exact this e) | (cases hob : ov.ownBlock <;> simp_all)
theorem MS.setMac (h : MS K mb sb base s ov l st k iv I pc w) (j : Nat) (v : Value) {st' k' pc' : Int} {iv' : Value} {I' : List Int} (he : (macV st k pc ov iv).set j v = macV st' k' pc' ov iv') (hi : InsIs mb sb base w iv' I') : MS K mb sb base s ov l st' k' iv' I' pc' (w.setCell ⟨mb, j, none⟩ v) :=
  ⟨by have := h.row.set j v; rwa [he] at this, h.sto.other (by exact fun e => h.ne e.symm) _, h.ok, h.ne, h.lt, h.slt, by simpa [World.setCell] using h.sz, ownsRow_setCell_other h.own (h.ownNe h.lt) _, hi.ran ((Ran.refl _ _ _ _).set _ _)⟩
theorem MS.setState (h : MS K mb sb base s ov l st k iv I pc w) (x : Int) : MS K mb sb base s ov l x k iv I pc (w.setCell ⟨mb, 0, none⟩ (.int .i64 x)) := h.setMac 0 _ rfl h.ins
theorem MS.setSteps (h : MS K mb sb base s ov l st k iv I pc w) (x : Int) : MS K mb sb base s ov l st x iv I pc (w.setCell ⟨mb, 2, none⟩ (.int .i64 x)) := h.setMac 2 _ rfl h.ins
theorem MS.setPc (h : MS K mb sb base s ov l st k iv I pc w) (x : Int) : MS K mb sb base s ov l st k iv I x (w.setCell ⟨mb, 4, none⟩ (.int .i64 x)) := h.setMac 4 _ rfl h.ins
theorem MS.setIns (h : MS K mb sb base s ov l st k iv I pc w) {iv' : Value} {I' : List Int} (hi : InsIs mb sb base w iv' I') : MS K mb sb base s ov l st k iv' I' pc (w.setCell ⟨mb, 3, none⟩ iv') := h.setMac 3 _ rfl hi
theorem MS.push (h : MS K mb sb base s ov l st k iv I pc w) {x : Int} {g cap : Nat} {wx w1 : World} (hx : Below w.heap.size w wx)
    (hown : w1.ownsRow base 35 1 (.slice (some ⟨g, 0, none⟩) (l.length + 1) cap) (l.length + 1) (l.map (Value.int .u32) ++ [.int .u32 x])) (hgrow : wx.grownBy w1 ov.ownBlock) :
    MS K mb sb base s (.slice (some ⟨g, 0, none⟩) (l.length + 1) cap) (l ++ [x]) st k iv I pc (w1.setCell ⟨mb, 1, none⟩ (.slice (some ⟨g, 0, none⟩) (l.length + 1) cap)) ∧ Ran mb sb base w w1 ∧ Row w1 mb 99 (macV st k pc ov iv) := by
  have hz := h.sz
  have hz1 := hx.size
  have hbl : Below base w w1 := ((hx.mono hz).grown hgrow (by omega) (fun j hj => (World.ownsRow.lt h.own _ hj).1))
  have hr : Ran mb sb base w w1 := ⟨hbl.os, hbl.tape, hbl.output, hbl.size, fun j hj _ _ => hbl.block j hj⟩
  have hrow : Row w1 mb 99 (macV st k pc ov iv) := by
    have := h.row
    unfold Row at *
    rw [hbl.block mb h.lt]; exact this
  have hsto : Row w1 sb K.T (K.enc s) := by
    have := h.sto
    unfold Row at *
    rw [hbl.block sb h.slt]; exact this
  refine ⟨⟨hrow.set 1 _, hsto.other (by exact fun e => h.ne e.symm) _, h.ok, h.ne, h.lt, h.slt, ?_, ?_, h.ins.ran (hr.set _ _)⟩, hr, hrow⟩
  · have := hbl.size; simp [World.setCell]; omega
  · have hne : (Value.slice (some ⟨g, 0, none⟩) (l.length + 1) cap).ownBlock ≠ some mb := fun e => by have := (World.ownsRow.lt hown _ e).1; have := h.lt; omega
    have := ownsRow_setCell_other (a := ⟨mb, 1, none⟩) hown hne (.slice (some ⟨g, 0, none⟩) (l.length + 1) cap)
    simpa using this
end
end form
/- A machine on plain numbers, over whatever store: what each instruction does with it is handed in; the machine of temporaries is one of them. -/
namespace form
open Go.RowKit num
structure Eff (S : Type) where
  pre : S → S
  post : S → S
  rdA : S → Int
  rdB : S → Int
  wr : S → Int → S
def plainE {S : Type} (rdA rdB : S → Int) (wr : S → Int → S) : Eff S := ⟨id, id, rdA, rdB, wr⟩
def Eff.a {S : Type} (E : Eff S) (s : S) : Int := E.rdA (E.pre s)
def Eff.act {S : Type} (E : Eff S) (i : LIns) (s : S) (x : Int) : S :=
  E.post (if givesB i.op = true then E.wr (E.pre s) (gvI i (E.rdA (E.pre s)) (E.rdB (E.pre s)) x) else E.pre s)
structure GM (S : Type) where
  pc : Nat
  sto : S
  taken : Nat
  out : List Int
  state : Int
  steps : Nat
def GM.step {S : Type} (C : List LIns) (E : Nat → Eff S) (ins : List Int) (m : GM S) : GM S :=
  { pc := (nxI (C.getD m.pc .zero) m.pc ((E m.pc).a m.sto)).toNat
    sto := (E m.pc).act (C.getD m.pc .zero) m.sto (inOf ins m.taken)
    taken := if (C.getD m.pc .zero).op = 3 ∧ m.taken < ins.length then m.taken + 1 else m.taken
    out := if (C.getD m.pc .zero).op = 4 then m.out ++ [(E m.pc).a m.sto % 4294967296] else m.out
    state := stI (C.getD m.pc .zero) C.length (nxI (C.getD m.pc .zero) m.pc ((E m.pc).a m.sto))
    steps := m.steps + 1 }
def GM.go {S : Type} (C : List LIns) (E : Nat → Eff S) (ins : List Int) : Nat → GM S → GM S
  | 0, m => m
  | k + 1, m => if m.state = 0 then GM.go C E ins k (m.step C E ins) else m
theorem GM.go_stop {S : Type} {C : List LIns} {E : Nat → Eff S} {ins : List Int} {m : GM S} (h : ¬ m.state = 0) : ∀ k, GM.go C E ins k m = m
  | 0 => rfl
  | k + 1 => by simp [GM.go, h]
def GM.start {S : Type} (s : S) : GM S := ⟨0, s, 0, [], 0, 0⟩
structure GOk {S : Type} (nC nI : Nat) (m : GM S) : Prop where
  pcok : m.state = 0 → m.pc < nC
  tk : m.taken ≤ nI
  outs : m.out.length ≤ m.steps
  fin : m.state = 0 ∨ m.state = 1 ∨ (m.state = 2 ∧ m.pc = nC)
theorem gok_start {S : Type} (nC nI : Nat) (s : S) (h : 1 ≤ nC) : GOk nC nI (GM.start s) := ⟨fun _ => h, by simp [GM.start], by simp [GM.start], Or.inl rfl⟩
theorem gok_step {S : Type} {nB : Nat} {C : List LIns} {E : Nat → Eff S} {ins : List Int} {m : GM S} (h : GOk C.length ins.length m) (h0 : m.state = 0) (hi : InsOk nB C.length (C.getD m.pc .zero)) : GOk C.length ins.length (m.step C E ins) := by
  have hpc := h.pcok h0
  refine ⟨?_, ?_, ?_, ?_⟩
  · simp only [GM.step]
    intro hs
    unfold stI at hs
    split at hs
    · omega
    split at hs
    · omega
    · have hn : 0 ≤ nxI (C.getD m.pc .zero) m.pc ((E m.pc).a m.sto) := by
        unfold nxI
        split
        · rename_i hc
          exact (hi.c (by rcases hc with hc | hc; exact Or.inl hc; exact Or.inr hc.1)).1
        · omega
      omega
  · simp only [GM.step]
    split
    · rename_i hc; exact hc.2
    · exact h.tk
  · simp only [GM.step]
    have := h.outs
    split <;> simp <;> omega
  · simp only [GM.step]
    unfold stI
    split
    · exact Or.inr (Or.inl rfl)
    split
    · rename_i h1 h2
      refine Or.inr (Or.inr ⟨rfl, ?_⟩)
      unfold nxI at h2 ⊢
      split at h2
      · rename_i hc
        rw [if_pos hc]
        have := (hi.c (by rcases hc with hc | hc; exact Or.inl hc; exact Or.inr hc.1)).2
        omega
      · rename_i hc
        rw [if_neg hc]
        omega
    · exact Or.inl rfl
theorem ggo_outs {S : Type} (C : List LIns) (E : Nat → Eff S) (ins : List Int) : ∀ (k : Nat) (m : GM S), (GM.go C E ins k m).out.length ≤ m.out.length + k
  | 0, m => by simp [GM.go]
  | k + 1, m => by
    by_cases h : m.state = 0
    · simp only [GM.go, if_pos h]
      have h1 := ggo_outs C E ins k (m.step C E ins)
      have h2 : (m.step C E ins).out.length ≤ m.out.length + 1 := by simp only [GM.step]; split <;> simp
      omega
    · rw [GM.go_stop h]; omega
def tempE (i : LIns) : Eff (List Int) := plainE (fun s => s.getD i.a.toNat 0) (fun s => s.getD i.b.toNat 0) (fun s x => s.set i.dest.toNat x)
def Mac.gen (m : Mac) : GM (List Int) := ⟨m.pc, m.temps, m.taken, m.out, m.state, m.steps⟩
theorem gen_step (C : List LIns) (ins : List Int) (m : Mac) : (m.step C ins).gen = m.gen.step C (fun k => tempE (C.getD k .zero)) ins := rfl
theorem gen_go (C : List LIns) (ins : List Int) : ∀ (k : Nat) (m : Mac), (Mac.go C ins k m).gen = GM.go C (fun k => tempE (C.getD k .zero)) ins k m.gen
  | 0, m => rfl
  | k + 1, m => by
    by_cases h : m.state = 0
    · have h' : m.gen.state = 0 := h
      simp only [Mac.go, GM.go, if_pos h, if_pos h', ← gen_step]
      exact gen_go C ins k (m.step C ins)
    · have h' : ¬ m.gen.state = 0 := h
      rw [Mac.go_stop h, GM.go_stop h']
theorem play_gen (B : List Bool) (C : List LIns) (ins : List Int) (n : Nat) : (playM B C ins n).gen = GM.go C (fun k => tempE (C.getD k .zero)) ins n (GM.start (List.replicate B.length 0)) := gen_go C ins n _
end form
/- The ends of an instruction: closures that tell what is in its A and B, and give its Dest a number, whatever the store; what a closure has caught; what a closure gives. -/
namespace form
open Go.RowKit num
def ReadSpec (K : StoK) (mb sb db : Nat) (w1 : World) (F : Nat) (caps : Array Value) (rd : K.S → Int) : Prop :=
  (∀ w, Sem.run Tryz.prog (callFunc F caps) w = .ok (.enter F caps) w) ∧ (∀ s, K.ok s → U64i (rd s)) ∧
    ∀ s w, Kept mb sb db w1 w → w1.heap.size ≤ w.heap.size → Row w sb K.T (K.enc s) → K.ok s → Calls Tryz.prog F caps w fun e w' => e = .returned (.int .u64 (rd s)) ∧ Below w.heap.size w w'
def WriteSpec (K : StoK) (mb sb db : Nat) (w1 : World) (F : Nat) (c1 c2 : Value) (wr : K.S → Int → K.S) : Prop :=
  (∀ x w, Sem.run Tryz.prog (callFunc F #[x, c1, c2]) w = .ok (.enter F #[x, c1, c2]) w) ∧ (∀ s x, K.ok s → U64i x → K.ok (wr s x)) ∧
    ∀ s x w, Kept mb sb db w1 w → w1.heap.size ≤ w.heap.size → Row w sb K.T (K.enc s) → K.ok s → U64i x → Calls Tryz.prog F #[.int .u64 x, c1, c2] w fun e w' => e = .returned (.tuple #[]) ∧ Row w' sb K.T (K.enc (wr s x)) ∧ Only sb w w'
theorem ReadSpec.later {K : StoK} {mb sb db : Nat} {w1 w2 : World} {F : Nat} {caps : Array Value} {rd : K.S → Int} (h : ReadSpec K mb sb db w1 F caps rd) (hk : Kept mb sb db w1 w2) (hz : w1.heap.size ≤ w2.heap.size) : ReadSpec K mb sb db w2 F caps rd :=
  ⟨h.1, h.2.1, fun s w hw hz2 hr ho => h.2.2 s w (hk.trans hz hw) (Nat.le_trans hz hz2) hr ho⟩
theorem WriteSpec.later {K : StoK} {mb sb db : Nat} {w1 w2 : World} {F : Nat} {c1 c2 : Value} {wr : K.S → Int → K.S} (h : WriteSpec K mb sb db w1 F c1 c2 wr) (hk : Kept mb sb db w1 w2) (hz : w1.heap.size ≤ w2.heap.size) : WriteSpec K mb sb db w2 F c1 c2 wr :=
  ⟨h.1, h.2.1, fun s x w hw hz2 hr ho hx => h.2.2 s x w (hk.trans hz hw) (Nat.le_trans hz hz2) hr ho hx⟩
structure EndF where
  fa : Nat
  ca : Array Value
  fb : Nat
  cb : Array Value
  fd : Nat
  d1 : Value
  d2 : Value
structure EndsIs (K : StoK) (mb sb db : Nat) (w1 : World) (x : EndF) (rdA rdB : K.S → Int) (wr : K.S → Int → K.S) (G : Prop) : Prop where
  a : ReadSpec K mb sb db w1 x.fa x.ca rdA
  b : ReadSpec K mb sb db w1 x.fb x.cb rdB
  d : G → WriteSpec K mb sb db w1 x.fd x.d1 x.d2 wr
theorem EndsIs.later {K : StoK} {mb sb db : Nat} {w1 w2 : World} {x : EndF} {rdA rdB : K.S → Int} {wr : K.S → Int → K.S} {G : Prop} (h : EndsIs K mb sb db w1 x rdA rdB wr G) (hk : Kept mb sb db w1 w2) (hz : w1.heap.size ≤ w2.heap.size) : EndsIs K mb sb db w2 x rdA rdB wr G :=
  ⟨h.a.later hk hz, h.b.later hk hz, fun g => (h.d g).later hk hz⟩
structure Box (mb sb db bm bi be : Nat) (i : LIns) (x : EndF) (w : World) : Prop where
  pm : w.cell? ⟨bm, 0, none⟩ = some (.pointer (some ⟨mb, 0, none⟩))
  i0 : w.cell? ⟨bi, 0, none⟩ = some (.int .i64 i.op)
  i4 : w.cell? ⟨bi, 4, none⟩ = some (.int .i64 i.c)
  i5 : w.cell? ⟨bi, 5, none⟩ = some (.int .u32 i.n)
  e0 : w.cell? ⟨be, 0, none⟩ = some (.func (.func x.fa) #[] x.ca)
  e1 : w.cell? ⟨be, 1, none⟩ = some (.func (.func x.fb) #[] x.cb)
  e2 : w.cell? ⟨be, 2, none⟩ = some (.func (.func x.fd) #[] #[x.d1, x.d2])
  n1 : bm ≠ mb
  n2 : bi ≠ mb
  n3 : be ≠ mb
  s1 : bm ≠ sb
  s2 : bi ≠ sb
  s3 : be ≠ sb
  m1 : bm ≠ db
  m2 : bi ≠ db
  m3 : be ≠ db
theorem Box.kept {mb sb db bm bi be : Nat} {i : LIns} {x : EndF} {w w' : World} (h : Box mb sb db bm bi be i x w) (hk : Kept mb sb db w w') : Box mb sb db bm bi be i x w' :=
  ⟨hk.cell h.pm h.n1 h.s1 h.m1, hk.cell h.i0 h.n2 h.s2 h.m2, hk.cell h.i4 h.n2 h.s2 h.m2, hk.cell h.i5 h.n2 h.s2 h.m2, hk.cell h.e0 h.n3 h.s3 h.m3, hk.cell h.e1 h.n3 h.s3 h.m3, hk.cell h.e2 h.n3 h.s3 h.m3, h.n1, h.n2, h.n3, h.s1, h.s2, h.s3, h.m1, h.m2, h.m3⟩
def GiveSpec (K : StoK) (mb sb db : Nat) (i : LIns) (rdA rdB : K.S → Int) (w1 : World) (F : Nat) (caps : Array Value) : Prop := (∀ w, Sem.run Tryz.prog (callFunc F caps) w = .ok (.enter F caps) w) ∧ ∀ base s ov l st k iv I pc w, Kept mb sb db w1 w → w1.heap.size ≤ w.heap.size → MS K mb sb base s ov l st k iv I pc w →
  (i.op = 5 → rdA s < 4294967296) → Calls Tryz.prog F caps w fun e w' =>
    e = .returned (.int .u64 (gvI i (rdA s) (rdB s) (I.headD 0))) ∧ (∃ iv', MS K mb sb base s ov l st k iv' (if i.op = 3 then I.tail else I) pc w') ∧ Ran mb sb base w w'
def Behind (K : StoK) (mb sb base : Nat) (i : LIns) (E : Eff K.S) (s : K.S) (l : List Int) (st k : Int) (I : List Int) (pc : Int) (w w' : World) : Prop :=
  (∃ ov' iv', MS K mb sb base (E.act i s (I.headD 0)) ov' (if i.op = 4 then l ++ [E.a s % 4294967296] else l)
    (if i.op = 10 then 1 else st) k iv' (if i.op = 3 then I.tail else I) (if i.op = 8 ∨ (i.op = 9 ∧ ¬ E.a s = 0) then i.c else pc) w') ∧ Ran mb sb base w w'
def DeedSpec (K : StoK) (mb sb db : Nat) (i : LIns) (E : Eff K.S) (w1 : World) (F : Nat) (caps : Array Value) : Prop := (∀ w, Sem.run Tryz.prog (callFunc F caps) w = .ok (.enter F caps) w) ∧ ∀ base s ov l st k iv I pc w, Kept mb sb db w1 w → w1.heap.size ≤ w.heap.size → MS K mb sb base s ov l st k iv I pc w →
  w1.heap.size ≤ base → l.length ≤ 3000 → (i.op = 5 → E.a s < 4294967296) → Calls Tryz.prog F caps w fun e w' => e = .returned (.tuple #[]) ∧ Behind K mb sb base i E s l st k I pc w w'
theorem DeedSpec.later {K : StoK} {mb sb db : Nat} {i : LIns} {E : Eff K.S} {F : Nat} {caps : Array Value} {w1 w2 : World} (h : DeedSpec K mb sb db i E w1 F caps) (hk : Kept mb sb db w1 w2) (hz2 : w1.heap.size ≤ w2.heap.size) : DeedSpec K mb sb db i E w2 F caps :=
  ⟨h.1, fun base s ov l st k iv I pc w hw hz3 hm hz => h.2 base s ov l st k iv I pc w (hk.trans hz2 hw) (Nat.le_trans hz2 hz3) hm (Nat.le_trans hz2 hz)⟩
theorem pair_of (a b : Int) (ha0 : 0 ≤ a) (ha1 : a < 4294967296) (hb : U64i b) : bits BinOp.or IntKind.u64 (IntKind.u64.wrap (b * 4294967296)) a = IntKind.u64.wrap (IntKind.u64.wrap (b * 4294967296) + a) := by
  obtain ⟨b0, b1⟩ := hb
  obtain ⟨x, rfl⟩ := Int.eq_ofNat_of_zero_le ha0
  obtain ⟨y, rfl⟩ := Int.eq_ofNat_of_zero_le b0
  have e : IntKind.u64.wrap ((y : Int) * 4294967296) = ((2 ^ 32 * (y % 4294967296) : Nat) : Int) := by
    rw [show IntKind.u64.wrap ((y : Int) * 4294967296) = ((y : Int) * 4294967296) % 18446744073709551616 by simp [IntKind.wrap, IntKind.bits, IntKind.signed]]
    omega
  rw [e, u64_or_nat _ _ (by omega) (by omega), ← Nat.two_pow_add_eq_or_of_lt (by omega), wrap64_of _ (by omega) (by omega)]
  omega
end form
end Go.Proofs.YtgnhpfmdbclnkaaGreatDoor
