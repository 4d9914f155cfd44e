/- What layout.fit answers. -/
import Derived.Test.YtcmnmogmdhofcaaFormFits
import Derived.Deep.RegionHeld3
import Derived.Deep.DrawnRows
namespace Go.Proofs.Ytcmnmogmdhofcaa.form
open Go.RowKit
set_option linter.unusedVariables false
attribute [local go_sem ↓] Go.wp_at_zero Go.wp_at_succ

def fit5 (B : List Bool) (nC : Nat) (k0 k1 k2 k3 k4 x0 x1 x2 x3 x4 : Int) : Bool :=
  fitB B nC k0 x0 && fitB B nC k1 x1 && fitB B nC k2 x2 && fitB B nC k3 x3 && fitB B nC k4 x4

theorem below_cell {W w1 : World} {B : Nat} (hb : Below B W w1) {b o : Nat} {v : Value} (h : b < B) (hc : W.cell? ⟨b, o, none⟩ = some v) : w1.cell? ⟨b, o, none⟩ = some v := by
  rw [hb.cell (p := ⟨b, o, none⟩) h]; exact hc

set_option maxRecDepth 100000 in
set_option maxHeartbeats 1000000 in
theorem fit (b0 o0 c0 b1 o1 c1 : Nat) (B : List Bool) (C : List LIns) (k0 k1 k2 k3 k4 x0 x1 x2 x3 x4 : Int) (w : World) (hB : B.length ≤ 12) (hC : C.length ≤ 40) (h : Held w b0 o0 b1 o1 B C) :
    Calls Try.prog 75 #[progV b0 o0 B.length c0 b1 o1 C.length c1, fiveV k0 k1 k2 k3 k4, fiveV x0 x1 x2 x3 x4] w fun e w' => e = .returned (.bool (fit5 B C.length k0 k1 k2 k3 k4 x0 x1 x2 x3 x4)) ∧ Below w.heap.size w w' := by
  unfold progV fiveV
  have i0 : ∀ w, (Instr.index 123 (.agg #[.int .i64 k0, .int .i64 k1, .int .i64 k2, .int .i64 k3, .int .i64 k4]) (.int .i64 0)).run Try.prog w = .ok (.int .i64 k0) w := fun _ => by kernel_rfl
  have i1 : ∀ w, (Instr.index 123 (.agg #[.int .i64 k0, .int .i64 k1, .int .i64 k2, .int .i64 k3, .int .i64 k4]) (.int .i64 1)).run Try.prog w = .ok (.int .i64 k1) w := fun _ => by kernel_rfl
  have i2 : ∀ w, (Instr.index 123 (.agg #[.int .i64 k0, .int .i64 k1, .int .i64 k2, .int .i64 k3, .int .i64 k4]) (.int .i64 2)).run Try.prog w = .ok (.int .i64 k2) w := fun _ => by kernel_rfl
  have i3 : ∀ w, (Instr.index 123 (.agg #[.int .i64 k0, .int .i64 k1, .int .i64 k2, .int .i64 k3, .int .i64 k4]) (.int .i64 3)).run Try.prog w = .ok (.int .i64 k3) w := fun _ => by kernel_rfl
  have i4 : ∀ w, (Instr.index 123 (.agg #[.int .i64 k0, .int .i64 k1, .int .i64 k2, .int .i64 k3, .int .i64 k4]) (.int .i64 4)).run Try.prog w = .ok (.int .i64 k4) w := fun _ => by kernel_rfl
  go_enter Try.func75, Try.ntmps75
  go_wp2
  go_loopw [10] (fun i wr => ∃ k : Nat, k ≤ 5 ∧ i = .int .i64 k ∧ Below w.heap.size w wr ∧ w.heap.size + 3 ≤ wr.heap.size ∧
      wr.cell? ⟨w.heap.size, 0, none⟩ = some (.slice (some ⟨b0, o0, none⟩) B.length c0) ∧ wr.cell? ⟨w.heap.size, 1, none⟩ = some (.slice (some ⟨b1, o1, none⟩) C.length c1) ∧
      wr.cell? ⟨w.heap.size + 2, 0, none⟩ = some (.int .i64 x0) ∧ wr.cell? ⟨w.heap.size + 2, 1, none⟩ = some (.int .i64 x1) ∧ wr.cell? ⟨w.heap.size + 2, 2, none⟩ = some (.int .i64 x2) ∧ wr.cell? ⟨w.heap.size + 2, 3, none⟩ = some (.int .i64 x3) ∧ wr.cell? ⟨w.heap.size + 2, 4, none⟩ = some (.int .i64 x4) ∧
      (0 < k → fitB B C.length k0 x0 = true) ∧ (1 < k → fitB B C.length k1 x1 = true) ∧ (2 < k → fitB B C.length k2 x2 = true) ∧ (3 < k → fitB B C.length k3 x3 = true) ∧ (4 < k → fitB B C.length k4 x4 = true))
    (fun i _ => 5 - (intOf i).toNat)
  case atStart => exact ⟨0, by omega, rfl, (((Below.refl _ _).alloc (Nat.le_refl _) _).alloc (by simp) _).alloc (by simp; omega) _, by simp, by simp [go_sem], by simp [go_sem], by simp [go_sem], by simp [go_sem], by simp [go_sem], by simp [go_sem], by simp [go_sem], by simp, by simp, by simp, by simp, by simp⟩
  case round =>
    obtain ⟨k, hk, rfl, hbel, hsz, cp0, cp1, cx0, cx1, cx2, cx3, cx4, f0, f1, f2, f3, f4⟩ := hrel
    have F : Hid _ := (⟨f0, f1, f2, f3, f4⟩ : _ ∧ _ ∧ _ ∧ _ ∧ _)
    clear f0 f1 f2 f3 f4
    rcases (show k = 0 ∨ k = 1 ∨ k = 2 ∨ k = 3 ∨ k = 4 ∨ k = 5 by omega) with rfl | rfl | rfl | rfl | rfl | rfl
    · go_wp2
      go_region_held3 (fun w' => Below wr.heap.size wr w' ∧ w'.cell? ⟨w.heap.size, 0, none⟩ = some (.slice (some ⟨b0, o0, none⟩) B.length c0) ∧ w'.cell? ⟨w.heap.size, 1, none⟩ = some (.slice (some ⟨b1, o1, none⟩) C.length c1) ∧ w'.cell? ⟨w.heap.size + 2, 0, none⟩ = some (.int .i64 x0)) ((go_split_ands; refine ⟨?_, ?_, ?_, ?_⟩ <;> first | exact (Below.refl _ _).drew | exact ((Below.refl _ _).drew).trans hb1 | exact below_cell hb1 (show _ < wr.heap.size by omega) cp0 | exact below_cell hb1 (show _ < wr.heap.size by omega) cp1 | exact below_cell hb1 (show _ < wr.heap.size by omega) cx0 | go_keep))
        ((go_at_call 108; refine (fits b0 o0 c0 b1 o1 c1 B C k0 x0 _ hB hC ?_).mono ?_; (exact h.later hbel.drew); rintro e w1 ⟨rfl, hb1⟩))
      rename_i hHeldx; clear hHeldx
      have hs1 : wr.heap.size ≤ w1.heap.size := hb1.size
      have R : Hid _ := (⟨hbel.drew.trans (hb1.mono hbel.size), Nat.le_trans hsz hs1, below_cell hb1 (show _ < wr.heap.size by omega) cp0, below_cell hb1 (show _ < wr.heap.size by omega) cp1, below_cell hb1 (show _ < wr.heap.size by omega) cx0, below_cell hb1 (show _ < wr.heap.size by omega) cx1, below_cell hb1 (show _ < wr.heap.size by omega) cx2, below_cell hb1 (show _ < wr.heap.size by omega) cx3, below_cell hb1 (show _ < wr.heap.size by omega) cx4⟩ : Below w.heap.size w w1 ∧ w.heap.size + 3 ≤ w1.heap.size ∧ _ ∧ _ ∧ _ ∧ _ ∧ _ ∧ _ ∧ _)
      clear hb1 cp0 cp1 cx0 cx1 cx2 cx3 cx4 hbel
      go_wp2
      · go_ret
        exact ⟨ret_bool (by simp_all [fit5]), R.out.1⟩
      · obtain ⟨r1, r2, r3, r4, r5, r6, r7, r8, r9⟩ := R.out
        obtain ⟨f0, f1, f2, f3, f4⟩ := F.out
        refine ⟨⟨1, by omega, rfl, r1, r2, r3, r4, r5, r6, r7, r8, r9, ?_, ?_, ?_, ?_, ?_⟩, by simp [intOf]⟩
        all_goals first | assumption | (intro hz; first | (exact absurd hz (by omega)) | (simp_all))
    · go_wp2
      go_region_held3 (fun w' => Below wr.heap.size wr w' ∧ w'.cell? ⟨w.heap.size, 0, none⟩ = some (.slice (some ⟨b0, o0, none⟩) B.length c0) ∧ w'.cell? ⟨w.heap.size, 1, none⟩ = some (.slice (some ⟨b1, o1, none⟩) C.length c1) ∧ w'.cell? ⟨w.heap.size + 2, 1, none⟩ = some (.int .i64 x1)) ((go_split_ands; refine ⟨?_, ?_, ?_, ?_⟩ <;> first | exact (Below.refl _ _).drew | exact ((Below.refl _ _).drew).trans hb1 | exact below_cell hb1 (show _ < wr.heap.size by omega) cp0 | exact below_cell hb1 (show _ < wr.heap.size by omega) cp1 | exact below_cell hb1 (show _ < wr.heap.size by omega) cx1 | go_keep))
        ((go_at_call 108; refine (fits b0 o0 c0 b1 o1 c1 B C k1 x1 _ hB hC ?_).mono ?_; (exact h.later hbel.drew); rintro e w1 ⟨rfl, hb1⟩))
      rename_i hHeldx; clear hHeldx
      have hs1 : wr.heap.size ≤ w1.heap.size := hb1.size
      have R : Hid _ := (⟨hbel.drew.trans (hb1.mono hbel.size), Nat.le_trans hsz hs1, below_cell hb1 (show _ < wr.heap.size by omega) cp0, below_cell hb1 (show _ < wr.heap.size by omega) cp1, below_cell hb1 (show _ < wr.heap.size by omega) cx0, below_cell hb1 (show _ < wr.heap.size by omega) cx1, below_cell hb1 (show _ < wr.heap.size by omega) cx2, below_cell hb1 (show _ < wr.heap.size by omega) cx3, below_cell hb1 (show _ < wr.heap.size by omega) cx4⟩ : Below w.heap.size w w1 ∧ w.heap.size + 3 ≤ w1.heap.size ∧ _ ∧ _ ∧ _ ∧ _ ∧ _ ∧ _ ∧ _)
      clear hb1 cp0 cp1 cx0 cx1 cx2 cx3 cx4 hbel
      go_wp2
      · go_ret
        exact ⟨ret_bool (by simp_all [fit5]), R.out.1⟩
      · obtain ⟨r1, r2, r3, r4, r5, r6, r7, r8, r9⟩ := R.out
        obtain ⟨f0, f1, f2, f3, f4⟩ := F.out
        refine ⟨⟨2, by omega, rfl, r1, r2, r3, r4, r5, r6, r7, r8, r9, ?_, ?_, ?_, ?_, ?_⟩, by simp [intOf]⟩
        all_goals first | assumption | (intro hz; first | (exact absurd hz (by omega)) | (simp_all))
    · go_wp2
      go_region_held3 (fun w' => Below wr.heap.size wr w' ∧ w'.cell? ⟨w.heap.size, 0, none⟩ = some (.slice (some ⟨b0, o0, none⟩) B.length c0) ∧ w'.cell? ⟨w.heap.size, 1, none⟩ = some (.slice (some ⟨b1, o1, none⟩) C.length c1) ∧ w'.cell? ⟨w.heap.size + 2, 2, none⟩ = some (.int .i64 x2)) ((go_split_ands; refine ⟨?_, ?_, ?_, ?_⟩ <;> first | exact (Below.refl _ _).drew | exact ((Below.refl _ _).drew).trans hb1 | exact below_cell hb1 (show _ < wr.heap.size by omega) cp0 | exact below_cell hb1 (show _ < wr.heap.size by omega) cp1 | exact below_cell hb1 (show _ < wr.heap.size by omega) cx2 | go_keep))
        ((go_at_call 108; refine (fits b0 o0 c0 b1 o1 c1 B C k2 x2 _ hB hC ?_).mono ?_; (exact h.later hbel.drew); rintro e w1 ⟨rfl, hb1⟩))
      rename_i hHeldx; clear hHeldx
      have hs1 : wr.heap.size ≤ w1.heap.size := hb1.size
      have R : Hid _ := (⟨hbel.drew.trans (hb1.mono hbel.size), Nat.le_trans hsz hs1, below_cell hb1 (show _ < wr.heap.size by omega) cp0, below_cell hb1 (show _ < wr.heap.size by omega) cp1, below_cell hb1 (show _ < wr.heap.size by omega) cx0, below_cell hb1 (show _ < wr.heap.size by omega) cx1, below_cell hb1 (show _ < wr.heap.size by omega) cx2, below_cell hb1 (show _ < wr.heap.size by omega) cx3, below_cell hb1 (show _ < wr.heap.size by omega) cx4⟩ : Below w.heap.size w w1 ∧ w.heap.size + 3 ≤ w1.heap.size ∧ _ ∧ _ ∧ _ ∧ _ ∧ _ ∧ _ ∧ _)
      clear hb1 cp0 cp1 cx0 cx1 cx2 cx3 cx4 hbel
      go_wp2
      · go_ret
        exact ⟨ret_bool (by simp_all [fit5]), R.out.1⟩
      · obtain ⟨r1, r2, r3, r4, r5, r6, r7, r8, r9⟩ := R.out
        obtain ⟨f0, f1, f2, f3, f4⟩ := F.out
        refine ⟨⟨3, by omega, rfl, r1, r2, r3, r4, r5, r6, r7, r8, r9, ?_, ?_, ?_, ?_, ?_⟩, by simp [intOf]⟩
        all_goals first | assumption | (intro hz; first | (exact absurd hz (by omega)) | (simp_all))
    · go_wp2
      go_region_held3 (fun w' => Below wr.heap.size wr w' ∧ w'.cell? ⟨w.heap.size, 0, none⟩ = some (.slice (some ⟨b0, o0, none⟩) B.length c0) ∧ w'.cell? ⟨w.heap.size, 1, none⟩ = some (.slice (some ⟨b1, o1, none⟩) C.length c1) ∧ w'.cell? ⟨w.heap.size + 2, 3, none⟩ = some (.int .i64 x3)) ((go_split_ands; refine ⟨?_, ?_, ?_, ?_⟩ <;> first | exact (Below.refl _ _).drew | exact ((Below.refl _ _).drew).trans hb1 | exact below_cell hb1 (show _ < wr.heap.size by omega) cp0 | exact below_cell hb1 (show _ < wr.heap.size by omega) cp1 | exact below_cell hb1 (show _ < wr.heap.size by omega) cx3 | go_keep))
        ((go_at_call 108; refine (fits b0 o0 c0 b1 o1 c1 B C k3 x3 _ hB hC ?_).mono ?_; (exact h.later hbel.drew); rintro e w1 ⟨rfl, hb1⟩))
      rename_i hHeldx; clear hHeldx
      have hs1 : wr.heap.size ≤ w1.heap.size := hb1.size
      have R : Hid _ := (⟨hbel.drew.trans (hb1.mono hbel.size), Nat.le_trans hsz hs1, below_cell hb1 (show _ < wr.heap.size by omega) cp0, below_cell hb1 (show _ < wr.heap.size by omega) cp1, below_cell hb1 (show _ < wr.heap.size by omega) cx0, below_cell hb1 (show _ < wr.heap.size by omega) cx1, below_cell hb1 (show _ < wr.heap.size by omega) cx2, below_cell hb1 (show _ < wr.heap.size by omega) cx3, below_cell hb1 (show _ < wr.heap.size by omega) cx4⟩ : Below w.heap.size w w1 ∧ w.heap.size + 3 ≤ w1.heap.size ∧ _ ∧ _ ∧ _ ∧ _ ∧ _ ∧ _ ∧ _)
      clear hb1 cp0 cp1 cx0 cx1 cx2 cx3 cx4 hbel
      go_wp2
      · go_ret
        exact ⟨ret_bool (by simp_all [fit5]), R.out.1⟩
      · obtain ⟨r1, r2, r3, r4, r5, r6, r7, r8, r9⟩ := R.out
        obtain ⟨f0, f1, f2, f3, f4⟩ := F.out
        refine ⟨⟨4, by omega, rfl, r1, r2, r3, r4, r5, r6, r7, r8, r9, ?_, ?_, ?_, ?_, ?_⟩, by simp [intOf]⟩
        all_goals first | assumption | (intro hz; first | (exact absurd hz (by omega)) | (simp_all))
    · go_wp2
      go_region_held3 (fun w' => Below wr.heap.size wr w' ∧ w'.cell? ⟨w.heap.size, 0, none⟩ = some (.slice (some ⟨b0, o0, none⟩) B.length c0) ∧ w'.cell? ⟨w.heap.size, 1, none⟩ = some (.slice (some ⟨b1, o1, none⟩) C.length c1) ∧ w'.cell? ⟨w.heap.size + 2, 4, none⟩ = some (.int .i64 x4)) ((go_split_ands; refine ⟨?_, ?_, ?_, ?_⟩ <;> first | exact (Below.refl _ _).drew | exact ((Below.refl _ _).drew).trans hb1 | exact below_cell hb1 (show _ < wr.heap.size by omega) cp0 | exact below_cell hb1 (show _ < wr.heap.size by omega) cp1 | exact below_cell hb1 (show _ < wr.heap.size by omega) cx4 | go_keep))
        ((go_at_call 108; refine (fits b0 o0 c0 b1 o1 c1 B C k4 x4 _ hB hC ?_).mono ?_; (exact h.later hbel.drew); rintro e w1 ⟨rfl, hb1⟩))
      rename_i hHeldx; clear hHeldx
      have hs1 : wr.heap.size ≤ w1.heap.size := hb1.size
      have R : Hid _ := (⟨hbel.drew.trans (hb1.mono hbel.size), Nat.le_trans hsz hs1, below_cell hb1 (show _ < wr.heap.size by omega) cp0, below_cell hb1 (show _ < wr.heap.size by omega) cp1, below_cell hb1 (show _ < wr.heap.size by omega) cx0, below_cell hb1 (show _ < wr.heap.size by omega) cx1, below_cell hb1 (show _ < wr.heap.size by omega) cx2, below_cell hb1 (show _ < wr.heap.size by omega) cx3, below_cell hb1 (show _ < wr.heap.size by omega) cx4⟩ : Below w.heap.size w w1 ∧ w.heap.size + 3 ≤ w1.heap.size ∧ _ ∧ _ ∧ _ ∧ _ ∧ _ ∧ _ ∧ _)
      clear hb1 cp0 cp1 cx0 cx1 cx2 cx3 cx4 hbel
      go_wp2
      · go_ret
        exact ⟨ret_bool (by simp_all [fit5]), R.out.1⟩
      · obtain ⟨r1, r2, r3, r4, r5, r6, r7, r8, r9⟩ := R.out
        obtain ⟨f0, f1, f2, f3, f4⟩ := F.out
        refine ⟨⟨5, by omega, rfl, r1, r2, r3, r4, r5, r6, r7, r8, r9, ?_, ?_, ?_, ?_, ?_⟩, by simp [intOf]⟩
        all_goals first | assumption | (intro hz; first | (exact absurd hz (by omega)) | (simp_all))
    · go_wp2
      go_ret
      obtain ⟨f0, f1, f2, f3, f4⟩ := F.out
      exact ⟨ret_bool (by simp [fit5, f0 (by omega), f1 (by omega), f2 (by omega), f3 (by omega), f4 (by omega)]), hbel⟩

end Go.Proofs.Ytcmnmogmdhofcaa.form
