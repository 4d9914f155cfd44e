/- A program in its places, with all that there may be facts of (check.newWorld). -/
import Derived.Test.YtdbjklngnloibabGreatT27
import Derived.Test.YtdbjklngnloibabGreatT28
import Derived.Test.YtdbjklngnloibabGreatT30
import Derived.Test.YtdbjklngnloibabGreatT08

namespace Go.Proofs.YtdbjklngnloibabGreat.form
open Go.RowKit Go.Maps
set_option linter.unusedVariables false
set_option maxRecDepth 100000
attribute [local go_sem ↓] Go.wp_at_zero Go.wp_at_succ

def WorldAns (B : List Bool) (C : List LIns) (s slots : Nat) (R : List LRow) (w : World) (e : Ending) (w' : World) : Prop := ∃ g N, e = .returned (.pointer (some ⟨g.q, 0, none⟩)) ∧ Stat w' g B C R (preP s slots 4) N ∧ NumsOk C N ∧ Below w.heap.size w w'

set_option maxHeartbeats 1600000 in
theorem newWorldO (b0 o0 c0 b1 o1 c1 b2 o2 c2 s slots : Nat) (B : List Bool) (C : List LIns) (R : List LRow) (w : World) (hC : C.length ≤ 40) (h : Held w b0 o0 b1 o1 B C) (hR : RowsHeld w b2 o2 R) (hs4 : 4 ≤ s) (hs16 : s ≤ 16) (hs2 : s % 2 = 0) (hl : slots ≤ 12) :
    Calls Tryz.prog 13 #[progV b0 o0 B.length c0 b1 o1 C.length c1, targetV s, .agg #[.int .i64 slots, .slice (some ⟨b2, o2, none⟩) R.length c2]] w fun e w' => WorldAns B C s slots R w e w' := by
  have cA := fun w => allO s slots hs4 hs16 hs2 hl w
  have HH : Hid (Held w b0 o0 b1 o1 B C) := h
  have HR : Hid (RowsHeld w b2 o2 R) := hR
  clear h hR
  unfold targetV at cA ⊢
  unfold progV
  go_enter Tryz.func13, Tryz.ntmps13
  go_upto_region 1 with fail
  obtain ⟨wx, hwx⟩ : ∃ wx, wx = ((w.alloc (.cells #[.slice (some ⟨b0, o0, none⟩) B.length c0, .slice (some ⟨b1, o1, none⟩) C.length c1] 25)).alloc (.cells #[.int .i64 (s : Int)] 27)).alloc (.cells #[.int .i64 (slots : Int), .slice (some ⟨b2, o2, none⟩) R.length c2] 30) := ⟨_, rfl⟩
  have hbx : Below w.heap.size w wx := by rw [hwx]; exact (((Below.refl _ _).alloc (Nat.le_refl _) _).alloc (by simp) _).alloc (by simp; omega) _
  have x0 : wx.cell? ⟨w.heap.size, 0, none⟩ = some (.slice (some ⟨b0, o0, none⟩) B.length c0) := by rw [hwx]; simp [go_sem]
  have x1 : wx.cell? ⟨w.heap.size, 1, none⟩ = some (.slice (some ⟨b1, o1, none⟩) C.length c1) := by rw [hwx]; simp [go_sem]
  have x2 : wx.cell? ⟨w.heap.size + 1, 0, none⟩ = some (.int .i64 (s : Int)) := by rw [hwx]; simp [go_sem]
  have x3 : wx.cell? ⟨w.heap.size + 1 + 1, 0, none⟩ = some (.int .i64 (slots : Int)) := by rw [hwx]; simp [go_sem]
  have x4 : wx.cell? ⟨w.heap.size + 1 + 1, 1, none⟩ = some (.slice (some ⟨b2, o2, none⟩) R.length c2) := by rw [hwx]; simp [go_sem]
  rw [← hwx]
  clear hwx
  have HHX : Hid (Held wx b0 o0 b1 o1 B C) := HH.out.later hbx
  have HRX : Hid (RowsHeld wx b2 o2 R) := HR.out.later hbx
  have HBX : Hid (Below w.heap.size w wx) := hbx
  clear hbx
  refine wp_region_held_drew (S := (fun w' => Below wx.heap.size wx w')) (by rfl) ?_ (fun hHeld => ?_)
  · (exact (Below.refl _ _).drew)
  refine wpAnyH_take (i := 0) (v := ?_) rfl (by kernel_rfl) (by kernel_rfl) (by kernel_rfl) (fun _ _ _ h => h) (Or.inl ⟨by rfl, ?_⟩) (by assumption) ?_
  case refine_2 => (intro w5 hSw; (try dsimp only at hSw); have sx0 := step_cell hSw x0; have sx1 := step_cell hSw x1; go_simp; first | done | (with_reducible rfl))
  show wpAnyH _ _ _ _ _ _ _ (Act.put _ (some 7) _) _
  simp only [Act.put, List.setIfInBounds_toArray, List.set_cons_zero, List.set_cons_succ]
  refine wpAnyH_take (i := 1) (v := ?_) rfl (by kernel_rfl) (by kernel_rfl) (by kernel_rfl) (fun _ _ _ h => h) (Or.inl ⟨by rfl, ?_⟩) (by assumption) ?_
  case refine_2 => (intro w hSw; (try dsimp only at hSw); go_simp; first | done | (with_reducible rfl))
  show wpAnyH _ _ _ _ _ _ _ (Act.put _ (some 8) _) _
  simp only [Act.put, List.setIfInBounds_toArray, List.set_cons_zero, List.set_cons_succ]
  refine wpAnyH_take (i := 2) (v := ?_) rfl (by kernel_rfl) (by kernel_rfl) (by kernel_rfl) (fun _ _ _ h => h) (Or.inl ⟨by rfl, ?_⟩) (by assumption) ?_
  case refine_2 => (intro w5 hSw; (try dsimp only at hSw); have sx4 := step_cell hSw x4; go_simp; first | done | (with_reducible rfl))
  show wpAnyH _ _ _ _ _ _ _ (Act.put _ (some 9) _) _
  simp only [Act.put, List.setIfInBounds_toArray, List.set_cons_zero, List.set_cons_succ]
  refine wpAnyH_take (i := 3) (v := ?_) rfl (by kernel_rfl) (by kernel_rfl) (by kernel_rfl) (fun _ _ _ h => h) (Or.inl ⟨by rfl, ?_⟩) (by assumption) ?_
  case refine_2 => (intro w5 hSw; (try dsimp only at hSw); have sx2 := step_cell hSw x2; go_simp; first | done | (with_reducible rfl))
  show wpAnyH _ _ _ _ _ _ _ (Act.put _ (some 10) _) _
  simp only [Act.put, List.setIfInBounds_toArray, List.set_cons_zero, List.set_cons_succ]
  refine wpAnyH_take (i := 4) (v := ?_) rfl (by kernel_rfl) (by kernel_rfl) (by kernel_rfl) (fun _ _ _ h => h) (Or.inl ⟨by rfl, ?_⟩) (by assumption) ?_
  case refine_2 => (intro w hSw; (try dsimp only at hSw); go_simp; first | done | (with_reducible rfl))
  show wpAnyH _ _ _ _ _ _ _ (Act.put _ (some 11) _) _
  simp only [Act.put, List.setIfInBounds_toArray, List.set_cons_zero, List.set_cons_succ]
  refine wpAnyH_take (i := 5) (v := ?_) rfl (by kernel_rfl) (by kernel_rfl) (by kernel_rfl) (fun _ _ _ h => h) (Or.inl ⟨by rfl, ?_⟩) (by assumption) ?_
  case refine_2 => (intro w5 hSw; (try dsimp only at hSw); have sx3 := step_cell hSw x3; go_simp; first | done | (with_reducible rfl))
  show wpAnyH _ _ _ _ _ _ _ (Act.put _ (some 12) _) _
  simp only [Act.put, List.setIfInBounds_toArray, List.set_cons_zero, List.set_cons_succ]
  refine wpAnyH_take (i := 7) (v := ?_) rfl (by kernel_rfl) (by kernel_rfl) (by kernel_rfl) (fun _ _ _ h => h) (Or.inl ⟨by rfl, ?_⟩) (by assumption) ?_
  case refine_2 => (intro w5 hSw; (try dsimp only at hSw); have sx0 := step_cell hSw x0; have sx1 := step_cell hSw x1; go_simp; first | done | (with_reducible rfl))
  show wpAnyH _ _ _ _ _ _ _ (Act.put _ (some 14) _) _
  simp only [Act.put, List.setIfInBounds_toArray, List.set_cons_zero, List.set_cons_succ]
  refine wpAnyH_ready (rs := [6]) (by kernel_rfl) (by simp) ?_
  refine (AllReadyH.cons rfl (fun K hK => ?_) AllReadyH.nil)
  go_simp
  go_at_call 34
  refine (cA _).mono ?_
  rintro e w1 ⟨⟨v1, rfl, hpl⟩, hb1⟩
  obtain ⟨ba, ca, rfl, hba, hbl, hpc⟩ := hpl
  have HPC : Hid (∀ j, j < (preP s slots 4).length → w1.cell? ⟨ba, j * 2, none⟩ = some (.int .i64 ((preP s slots 4).getD j .zero).kind) ∧ w1.cell? ⟨ba, j * 2 + 1, none⟩ = some (.int .i64 ((preP s slots 4).getD j .zero).n)) := hpc
  have HB1 : Hid (Below wx.heap.size wx w1) := step_below hb1 (Below.refl _ _).drew
  clear hpc hb1
  go_wp2_with fail
  refine hK.out _ _ ?_ (fun hHeld => ?_)
  · (exact HB1.out)
  clear hK K
  try simp only [Act.put, List.setIfInBounds_toArray, List.set_cons_zero, List.set_cons_succ]
  refine wpAnyH_ready (rs := [8]) (by kernel_rfl) (by simp) ?_
  refine (AllReadyH.cons rfl (fun K hK => ?_) AllReadyH.nil)
  have cN := numbersOfO b0 o0 c0 b1 o1 c1 B C w1 hC (HHX.out.later HB1.out)
  unfold progV at cN
  go_simp
  go_at_call 35
  refine cN.mono ?_
  rintro e w2 ⟨v2, N, rfl, hna, hno, hb2⟩
  obtain ⟨bn', cn, rfl, hbn, hbnl, hnc⟩ := hna
  have HNC : Hid (∀ j, j < N.length → w2.cell? ⟨bn', j, none⟩ = some (.int .u32 (N.getD j 0))) := hnc
  have HNO : Hid (NumsOk C N) := hno
  have HB2 : Hid (Below w1.heap.size w1 w2) := hb2
  clear hnc hno hb2 cN
  go_wp2_with fail
  refine hK.out _ _ ?_ (fun hHeld => ?_)
  · (exact step_below HB2.out HB1.out)
  clear hK K
  try simp only [Act.put, List.setIfInBounds_toArray, List.set_cons_zero, List.set_cons_succ]
  refine wpAnyH_take (i := 9) (v := ?_) rfl (by kernel_rfl) (by kernel_rfl) (by kernel_rfl) (fun _ _ _ h => h) (Or.inl ⟨by rfl, ?_⟩) (by assumption) ?_
  case refine_2 => (intro w hSw; (try dsimp only at hSw); go_simp; first | done | (with_reducible rfl))
  show wpAnyH _ _ _ _ _ _ _ (Act.put _ (some 16) _) _
  simp only [Act.put, List.setIfInBounds_toArray, List.set_cons_zero, List.set_cons_succ]
  refine wpAnyH_ready (rs := [10]) (by kernel_rfl) (by simp) ?_
  refine (AllReadyH.cons rfl (fun K hK => ?_) AllReadyH.nil)
  go_simp
  refine hK.out _ _ ?_ (fun hHeld => ?_)
  · (exact step_below ((Below.refl _ _).alloc (Nat.le_refl _) _) hHeld)
  clear hK K
  try simp only [Act.put, List.setIfInBounds_toArray, List.set_cons_zero, List.set_cons_succ]
  refine wpAnyH_take (i := 11) (v := ?_) rfl (by kernel_rfl) (by kernel_rfl) (by kernel_rfl) (fun _ _ _ h => h) (Or.inl ⟨by rfl, ?_⟩) (by assumption) ?_
  case refine_2 => (intro w hSw; (try dsimp only at hSw); go_simp; first | done | (with_reducible rfl))
  show wpAnyH _ _ _ _ _ _ _ (Act.put _ (some 6) _) _
  simp only [Act.put, List.setIfInBounds_toArray, List.set_cons_zero, List.set_cons_succ]
  refine wpAnyH_done (by kernel_rfl) ?_ _
  clear hHeld
  go_wp2
  go_ret
  have hba2 : Below w2.heap.size w2 (w2.alloc (.cells #[.slice (some ⟨b0, o0, none⟩) B.length c0, .slice (some ⟨b1, o1, none⟩) C.length c1, .slice (some ⟨b2, o2, none⟩) R.length c2, .slice (some ⟨ba, 0, none⟩) (preP s slots 4).length ca, .slice (some ⟨bn', 0, none⟩) N.length cn] 88)) := (Below.refl _ _).alloc (Nat.le_refl _) _
  have hbd := hba2
  refine ⟨⟨w2.heap.size, b0, o0, c0, b1, o1, c1, b2, o2, c2, ba, ca, bn', cn⟩, N, rfl, ?_, HNO.out, step_below hbd (step_below HB2.out (step_below HB1.out HBX.out))⟩
  exact ⟨by simp [go_sem], by simp [go_sem], by simp [go_sem], by simp [go_sem], by simp [go_sem], HHX.out.later (step_below hbd (step_below HB2.out HB1.out)), HRX.out.later (step_below hbd (step_below HB2.out HB1.out)), fun j hj => ⟨step_cell hbd (step_cell HB2.out (HPC.out j hj).1), step_cell hbd (step_cell HB2.out (HPC.out j hj).2)⟩, fun j hj => step_cell hbd (HNC.out j hj)⟩
end Go.Proofs.YtdbjklngnloibabGreat.form

/- What Takes must answer, by whatever way. -/
namespace Go.Proofs.YtdbjklngnloibabGreat.form
open Go.RowKit
set_option linter.unusedVariables false

/-- The answer. -/
def TakesAns (B : List Bool) (C : List LIns) (s slots : Int) (R : List LRow) (e : Ending) : Prop := ∃ b, e = .returned (.bool b) ∧ (b = true ↔ TakenP B C s slots R)
theorem takes_one {B : List Bool} {C : List LIns} {s slots : Int} {R : List LRow} {b b' : Bool} (h : b = true ↔ TakenP B C s slots R) (h' : b' = true ↔ TakenP B C s slots R) : b = b' := by
  rw [Bool.eq_iff_iff, h, h']

end Go.Proofs.YtdbjklngnloibabGreat.form
