/- The document's function that tells what is needed ahead of each instruction (loanbookref4.Of): rows of truths. -/
import Derived.Deep.RegionHeld3
import Derived.Deep.DrawnRows
import Derived.Test.YtikhedkhgpjaaacGreatDoorW21
import Derived.Test.YtikhedkhgpjaaacGreatDoorW20

namespace Go.Proofs.YtikhedkhgpjaaacGreatDoor
set_option linter.unusedVariables false
namespace form
open Go.RowKit
attribute [local go_sem ↓] Go.wp_at_zero Go.wp_at_succ
theorem infRow : (Tryz.prog.info? 24).map (fun i => (i.zero, i.size, i.bytes)) = some (some (.slice none 0 0), 1, 24) := by kernel_rfl
section
variable {w : World} {b0 o0 c0 b1 o1 c1 : Nat} {B : List Bool} {C : List LIns} {k : Nat} {vs : List Value} {R : List (List Bool)} {v : Value} {wr w1 : World}
end
end form
/- What layout.fit answers. -/
namespace form
open Go.RowKit
attribute [local go_sem ↓] Go.wp_at_zero Go.wp_at_succ
def fit5 (B : List Bool) (nC : Nat) (k0 k1 k2 k3 k4 x0 x1 x2 x3 x4 : Int) : Bool :=
  fitB B nC k0 x0 && fitB B nC k1 x1 && fitB B nC k2 x2 && fitB B nC k3 x3 && fitB B nC k4 x4
theorem below_cell {W w1 : World} {B : Nat} (hb : Below B W w1) {b o : Nat} {v : Value} (h : b < B) (hc : W.cell? ⟨b, o, none⟩ = some v) : w1.cell? ⟨b, o, none⟩ = some v := by
  rw [hb.cell (p := ⟨b, o, none⟩) h]; exact hc
set_option maxRecDepth 100000 in
set_option maxHeartbeats 1000000 in
theorem fit (b0 o0 c0 b1 o1 c1 : Nat) (B : List Bool) (C : List LIns) (k0 k1 k2 k3 k4 x0 x1 x2 x3 x4 : Int) (w : World) (hB : B.length ≤ 12) (hC : C.length ≤ 40) (h : Held w b0 o0 b1 o1 B C) :
    Calls Tryz.prog 85 #[progV b0 o0 B.length c0 b1 o1 C.length c1, fiveV k0 k1 k2 k3 k4, fiveV x0 x1 x2 x3 x4] w fun e w' => e = .returned (.bool (fit5 B C.length k0 k1 k2 k3 k4 x0 x1 x2 x3 x4)) ∧ Below w.heap.size w w' := by
  unfold progV fiveV
  have i0 : ∀ w, (Instr.index 156 (.agg #[.int .i64 k0, .int .i64 k1, .int .i64 k2, .int .i64 k3, .int .i64 k4]) (.int .i64 0)).run Tryz.prog w = .ok (.int .i64 k0) w := fun _ => by kernel_rfl
  have i1 : ∀ w, (Instr.index 156 (.agg #[.int .i64 k0, .int .i64 k1, .int .i64 k2, .int .i64 k3, .int .i64 k4]) (.int .i64 1)).run Tryz.prog w = .ok (.int .i64 k1) w := fun _ => by kernel_rfl
  have i2 : ∀ w, (Instr.index 156 (.agg #[.int .i64 k0, .int .i64 k1, .int .i64 k2, .int .i64 k3, .int .i64 k4]) (.int .i64 2)).run Tryz.prog w = .ok (.int .i64 k2) w := fun _ => by kernel_rfl
  have i3 : ∀ w, (Instr.index 156 (.agg #[.int .i64 k0, .int .i64 k1, .int .i64 k2, .int .i64 k3, .int .i64 k4]) (.int .i64 3)).run Tryz.prog w = .ok (.int .i64 k3) w := fun _ => by kernel_rfl
  have i4 : ∀ w, (Instr.index 156 (.agg #[.int .i64 k0, .int .i64 k1, .int .i64 k2, .int .i64 k3, .int .i64 k4]) (.int .i64 4)).run Tryz.prog w = .ok (.int .i64 k4) w := fun _ => by kernel_rfl
  go_enter Tryz.func85, Tryz.ntmps85
  go_wp2
  go_loopw [10] (fun i wr => ∃ k : Nat, k ≤ 5 ∧ i = .int .i64 k ∧ Below w.heap.size w wr ∧ w.heap.size + 3 ≤ wr.heap.size ∧
      wr.cell? ⟨w.heap.size, 0, none⟩ = some (.slice (some ⟨b0, o0, none⟩) B.length c0) ∧ wr.cell? ⟨w.heap.size, 1, none⟩ = some (.slice (some ⟨b1, o1, none⟩) C.length c1) ∧
      wr.cell? ⟨w.heap.size + 2, 0, none⟩ = some (.int .i64 x0) ∧ wr.cell? ⟨w.heap.size + 2, 1, none⟩ = some (.int .i64 x1) ∧ wr.cell? ⟨w.heap.size + 2, 2, none⟩ = some (.int .i64 x2) ∧ wr.cell? ⟨w.heap.size + 2, 3, none⟩ = some (.int .i64 x3) ∧ wr.cell? ⟨w.heap.size + 2, 4, none⟩ = some (.int .i64 x4) ∧
      (0 < k → fitB B C.length k0 x0 = true) ∧ (1 < k → fitB B C.length k1 x1 = true) ∧ (2 < k → fitB B C.length k2 x2 = true) ∧ (3 < k → fitB B C.length k3 x3 = true) ∧ (4 < k → fitB B C.length k4 x4 = true))
    (fun i _ => 5 - (intOf i).toNat)
  case atStart => exact ⟨0, by omega, rfl, (((Below.refl _ _).alloc (Nat.le_refl _) _).alloc (by simp) _).alloc (by simp; omega) _, by simp, by simp [go_sem], by simp [go_sem], by simp [go_sem], by simp [go_sem], by simp [go_sem], by simp [go_sem], by simp [go_sem], by simp, by simp, by simp, by simp, by simp⟩
  case round =>
    obtain ⟨k, hk, rfl, hbel, hsz, cp0, cp1, cx0, cx1, cx2, cx3, cx4, f0, f1, f2, f3, f4⟩ := hrel
    have F : Hid _ := (⟨f0, f1, f2, f3, f4⟩ : _ ∧ _ ∧ _ ∧ _ ∧ _)
    clear f0 f1 f2 f3 f4
    rcases (show k = 0 ∨ k = 1 ∨ k = 2 ∨ k = 3 ∨ k = 4 ∨ k = 5 by omega) with rfl | rfl | rfl | rfl | rfl | rfl
    · go_wp2
      go_region_held3 (fun w' => Below wr.heap.size wr w' ∧ w'.cell? ⟨w.heap.size, 0, none⟩ = some (.slice (some ⟨b0, o0, none⟩) B.length c0) ∧ w'.cell? ⟨w.heap.size, 1, none⟩ = some (.slice (some ⟨b1, o1, none⟩) C.length c1) ∧ w'.cell? ⟨w.heap.size + 2, 0, none⟩ = some (.int .i64 x0)) ((go_split_ands; refine ⟨?_, ?_, ?_, ?_⟩ <;> first | exact (Below.refl _ _).drew | exact ((Below.refl _ _).drew).trans hb1 | exact below_cell hb1 (show _ < wr.heap.size by omega) cp0 | exact below_cell hb1 (show _ < wr.heap.size by omega) cp1 | exact below_cell hb1 (show _ < wr.heap.size by omega) cx0 | go_keep))
        ((go_at_call 127; refine (fits b0 o0 c0 b1 o1 c1 B C k0 x0 _ hB hC ?_).mono ?_; (exact h.later hbel.drew); rintro e w1 ⟨rfl, hb1⟩))
      rename_i hHeldx; clear hHeldx
      have hs1 : wr.heap.size ≤ w1.heap.size := hb1.size
      have R : Hid _ := (⟨hbel.drew.trans (hb1.mono hbel.size), Nat.le_trans hsz hs1, below_cell hb1 (show _ < wr.heap.size by omega) cp0, below_cell hb1 (show _ < wr.heap.size by omega) cp1, below_cell hb1 (show _ < wr.heap.size by omega) cx0, below_cell hb1 (show _ < wr.heap.size by omega) cx1, below_cell hb1 (show _ < wr.heap.size by omega) cx2, below_cell hb1 (show _ < wr.heap.size by omega) cx3, below_cell hb1 (show _ < wr.heap.size by omega) cx4⟩ : Below w.heap.size w w1 ∧ w.heap.size + 3 ≤ w1.heap.size ∧ _ ∧ _ ∧ _ ∧ _ ∧ _ ∧ _ ∧ _)
      clear hb1 cp0 cp1 cx0 cx1 cx2 cx3 cx4 hbel
      go_wp2
      · go_ret
        exact ⟨ret_bool (by simp_all [fit5]), R.out.1⟩
      · obtain ⟨r1, r2, r3, r4, r5, r6, r7, r8, r9⟩ := R.out
        obtain ⟨f0, f1, f2, f3, f4⟩ := F.out
        refine ⟨⟨1, by omega, rfl, r1, r2, r3, r4, r5, r6, r7, r8, r9, ?_, ?_, ?_, ?_, ?_⟩, by simp [intOf]⟩
        all_goals first | assumption | (intro hz; first | (exact absurd hz (by omega)) | (simp_all))
    · go_wp2
      go_region_held3 (fun w' => Below wr.heap.size wr w' ∧ w'.cell? ⟨w.heap.size, 0, none⟩ = some (.slice (some ⟨b0, o0, none⟩) B.length c0) ∧ w'.cell? ⟨w.heap.size, 1, none⟩ = some (.slice (some ⟨b1, o1, none⟩) C.length c1) ∧ w'.cell? ⟨w.heap.size + 2, 1, none⟩ = some (.int .i64 x1)) ((go_split_ands; refine ⟨?_, ?_, ?_, ?_⟩ <;> first | exact (Below.refl _ _).drew | exact ((Below.refl _ _).drew).trans hb1 | exact below_cell hb1 (show _ < wr.heap.size by omega) cp0 | exact below_cell hb1 (show _ < wr.heap.size by omega) cp1 | exact below_cell hb1 (show _ < wr.heap.size by omega) cx1 | go_keep))
        ((go_at_call 127; refine (fits b0 o0 c0 b1 o1 c1 B C k1 x1 _ hB hC ?_).mono ?_; (exact h.later hbel.drew); rintro e w1 ⟨rfl, hb1⟩))
      rename_i hHeldx; clear hHeldx
      have hs1 : wr.heap.size ≤ w1.heap.size := hb1.size
      have R : Hid _ := (⟨hbel.drew.trans (hb1.mono hbel.size), Nat.le_trans hsz hs1, below_cell hb1 (show _ < wr.heap.size by omega) cp0, below_cell hb1 (show _ < wr.heap.size by omega) cp1, below_cell hb1 (show _ < wr.heap.size by omega) cx0, below_cell hb1 (show _ < wr.heap.size by omega) cx1, below_cell hb1 (show _ < wr.heap.size by omega) cx2, below_cell hb1 (show _ < wr.heap.size by omega) cx3, below_cell hb1 (show _ < wr.heap.size by omega) cx4⟩ : Below w.heap.size w w1 ∧ w.heap.size + 3 ≤ w1.heap.size ∧ _ ∧ _ ∧ _ ∧ _ ∧ _ ∧ _ ∧ _)
      clear hb1 cp0 cp1 cx0 cx1 cx2 cx3 cx4 hbel
      go_wp2
      · go_ret
        exact ⟨ret_bool (by simp_all [fit5]), R.out.1⟩
      · obtain ⟨r1, r2, r3, r4, r5, r6, r7, r8, r9⟩ := R.out
        obtain ⟨f0, f1, f2, f3, f4⟩ := F.out
        refine ⟨⟨2, by omega, rfl, r1, r2, r3, r4, r5, r6, r7, r8, r9, ?_, ?_, ?_, ?_, ?_⟩, by simp [intOf]⟩
        all_goals first | assumption | (intro hz; first | (exact absurd hz (by omega)) | (simp_all))
    · go_wp2
      go_region_held3 (fun w' => Below wr.heap.size wr w' ∧ w'.cell? ⟨w.heap.size, 0, none⟩ = some (.slice (some ⟨b0, o0, none⟩) B.length c0) ∧ w'.cell? ⟨w.heap.size, 1, none⟩ = some (.slice (some ⟨b1, o1, none⟩) C.length c1) ∧ w'.cell? ⟨w.heap.size + 2, 2, none⟩ = some (.int .i64 x2)) ((go_split_ands; refine ⟨?_, ?_, ?_, ?_⟩ <;> first | exact (Below.refl _ _).drew | exact ((Below.refl _ _).drew).trans hb1 | exact below_cell hb1 (show _ < wr.heap.size by omega) cp0 | exact below_cell hb1 (show _ < wr.heap.size by omega) cp1 | exact below_cell hb1 (show _ < wr.heap.size by omega) cx2 | go_keep))
        ((go_at_call 127; refine (fits b0 o0 c0 b1 o1 c1 B C k2 x2 _ hB hC ?_).mono ?_; (exact h.later hbel.drew); rintro e w1 ⟨rfl, hb1⟩))
      rename_i hHeldx; clear hHeldx
      have hs1 : wr.heap.size ≤ w1.heap.size := hb1.size
      have R : Hid _ := (⟨hbel.drew.trans (hb1.mono hbel.size), Nat.le_trans hsz hs1, below_cell hb1 (show _ < wr.heap.size by omega) cp0, below_cell hb1 (show _ < wr.heap.size by omega) cp1, below_cell hb1 (show _ < wr.heap.size by omega) cx0, below_cell hb1 (show _ < wr.heap.size by omega) cx1, below_cell hb1 (show _ < wr.heap.size by omega) cx2, below_cell hb1 (show _ < wr.heap.size by omega) cx3, below_cell hb1 (show _ < wr.heap.size by omega) cx4⟩ : Below w.heap.size w w1 ∧ w.heap.size + 3 ≤ w1.heap.size ∧ _ ∧ _ ∧ _ ∧ _ ∧ _ ∧ _ ∧ _)
      clear hb1 cp0 cp1 cx0 cx1 cx2 cx3 cx4 hbel
      go_wp2
      · go_ret
        exact ⟨ret_bool (by simp_all [fit5]), R.out.1⟩
      · obtain ⟨r1, r2, r3, r4, r5, r6, r7, r8, r9⟩ := R.out
        obtain ⟨f0, f1, f2, f3, f4⟩ := F.out
        refine ⟨⟨3, by omega, rfl, r1, r2, r3, r4, r5, r6, r7, r8, r9, ?_, ?_, ?_, ?_, ?_⟩, by simp [intOf]⟩
        all_goals first | assumption | (intro hz; first | (exact absurd hz (by omega)) | (simp_all))
    · go_wp2
      go_region_held3 (fun w' => Below wr.heap.size wr w' ∧ w'.cell? ⟨w.heap.size, 0, none⟩ = some (.slice (some ⟨b0, o0, none⟩) B.length c0) ∧ w'.cell? ⟨w.heap.size, 1, none⟩ = some (.slice (some ⟨b1, o1, none⟩) C.length c1) ∧ w'.cell? ⟨w.heap.size + 2, 3, none⟩ = some (.int .i64 x3)) ((go_split_ands; refine ⟨?_, ?_, ?_, ?_⟩ <;> first | exact (Below.refl _ _).drew | exact ((Below.refl _ _).drew).trans hb1 | exact below_cell hb1 (show _ < wr.heap.size by omega) cp0 | exact below_cell hb1 (show _ < wr.heap.size by omega) cp1 | exact below_cell hb1 (show _ < wr.heap.size by omega) cx3 | go_keep))
        ((go_at_call 127; refine (fits b0 o0 c0 b1 o1 c1 B C k3 x3 _ hB hC ?_).mono ?_; (exact h.later hbel.drew); rintro e w1 ⟨rfl, hb1⟩))
      rename_i hHeldx; clear hHeldx
      have hs1 : wr.heap.size ≤ w1.heap.size := hb1.size
      have R : Hid _ := (⟨hbel.drew.trans (hb1.mono hbel.size), Nat.le_trans hsz hs1, below_cell hb1 (show _ < wr.heap.size by omega) cp0, below_cell hb1 (show _ < wr.heap.size by omega) cp1, below_cell hb1 (show _ < wr.heap.size by omega) cx0, below_cell hb1 (show _ < wr.heap.size by omega) cx1, below_cell hb1 (show _ < wr.heap.size by omega) cx2, below_cell hb1 (show _ < wr.heap.size by omega) cx3, below_cell hb1 (show _ < wr.heap.size by omega) cx4⟩ : Below w.heap.size w w1 ∧ w.heap.size + 3 ≤ w1.heap.size ∧ _ ∧ _ ∧ _ ∧ _ ∧ _ ∧ _ ∧ _)
      clear hb1 cp0 cp1 cx0 cx1 cx2 cx3 cx4 hbel
      go_wp2
      · go_ret
        exact ⟨ret_bool (by simp_all [fit5]), R.out.1⟩
      · obtain ⟨r1, r2, r3, r4, r5, r6, r7, r8, r9⟩ := R.out
        obtain ⟨f0, f1, f2, f3, f4⟩ := F.out
        refine ⟨⟨4, by omega, rfl, r1, r2, r3, r4, r5, r6, r7, r8, r9, ?_, ?_, ?_, ?_, ?_⟩, by simp [intOf]⟩
        all_goals first | assumption | (intro hz; first | (exact absurd hz (by omega)) | (simp_all))
    · go_wp2
      go_region_held3 (fun w' => Below wr.heap.size wr w' ∧ w'.cell? ⟨w.heap.size, 0, none⟩ = some (.slice (some ⟨b0, o0, none⟩) B.length c0) ∧ w'.cell? ⟨w.heap.size, 1, none⟩ = some (.slice (some ⟨b1, o1, none⟩) C.length c1) ∧ w'.cell? ⟨w.heap.size + 2, 4, none⟩ = some (.int .i64 x4)) ((go_split_ands; refine ⟨?_, ?_, ?_, ?_⟩ <;> first | exact (Below.refl _ _).drew | exact ((Below.refl _ _).drew).trans hb1 | exact below_cell hb1 (show _ < wr.heap.size by omega) cp0 | exact below_cell hb1 (show _ < wr.heap.size by omega) cp1 | exact below_cell hb1 (show _ < wr.heap.size by omega) cx4 | go_keep))
        ((go_at_call 127; refine (fits b0 o0 c0 b1 o1 c1 B C k4 x4 _ hB hC ?_).mono ?_; (exact h.later hbel.drew); rintro e w1 ⟨rfl, hb1⟩))
      rename_i hHeldx; clear hHeldx
      have hs1 : wr.heap.size ≤ w1.heap.size := hb1.size
      have R : Hid _ := (⟨hbel.drew.trans (hb1.mono hbel.size), Nat.le_trans hsz hs1, below_cell hb1 (show _ < wr.heap.size by omega) cp0, below_cell hb1 (show _ < wr.heap.size by omega) cp1, below_cell hb1 (show _ < wr.heap.size by omega) cx0, below_cell hb1 (show _ < wr.heap.size by omega) cx1, below_cell hb1 (show _ < wr.heap.size by omega) cx2, below_cell hb1 (show _ < wr.heap.size by omega) cx3, below_cell hb1 (show _ < wr.heap.size by omega) cx4⟩ : Below w.heap.size w w1 ∧ w.heap.size + 3 ≤ w1.heap.size ∧ _ ∧ _ ∧ _ ∧ _ ∧ _ ∧ _ ∧ _)
      clear hb1 cp0 cp1 cx0 cx1 cx2 cx3 cx4 hbel
      go_wp2
      · go_ret
        exact ⟨ret_bool (by simp_all [fit5]), R.out.1⟩
      · obtain ⟨r1, r2, r3, r4, r5, r6, r7, r8, r9⟩ := R.out
        obtain ⟨f0, f1, f2, f3, f4⟩ := F.out
        refine ⟨⟨5, by omega, rfl, r1, r2, r3, r4, r5, r6, r7, r8, r9, ?_, ?_, ?_, ?_, ?_⟩, by simp [intOf]⟩
        all_goals first | assumption | (intro hz; first | (exact absurd hz (by omega)) | (simp_all))
    · go_wp2
      go_ret
      obtain ⟨f0, f1, f2, f3, f4⟩ := F.out
      exact ⟨ret_bool (by simp [fit5, f0 (by omega), f1 (by omega), f2 (by omega), f3 (by omega), f4 (by omega)]), hbel⟩
end form
/- What layout.mayStand answers. -/
namespace form
open Go.RowKit
attribute [local go_sem ↓] Go.wp_at_zero Go.wp_at_succ
def fitAs (B : List Bool) (nC : Nat) (i : LIns) (width : Int) : Bool :=
  fit5 B nC (st (kd i.op 0) width) (st (kd i.op 1) width) (st (kd i.op 2) width) (st (kd i.op 3) width) (st (kd i.op 4) width) i.dest i.a i.b i.c i.n
def standB (B : List Bool) (nC : Nat) (i : LIns) : Bool := knownB i.op && (fitAs B nC i 1 || fitAs B nC i 2)
set_option maxRecDepth 100000 in
set_option maxHeartbeats 1000000 in
theorem mayStand (b0 o0 c0 b1 o1 c1 : Nat) (B : List Bool) (C : List LIns) (i : LIns) (w : World) (hB : B.length ≤ 12) (hC : C.length ≤ 40) (h : Held w b0 o0 b1 o1 B C) (hn0 : 0 ≤ i.n) (hn1 : i.n < 4294967296) :
    Calls Tryz.prog 53 #[progV b0 o0 B.length c0 b1 o1 C.length c1, i.val] w fun e w' => e = .returned (.bool (standB B C.length i)) ∧ Below w.heap.size w w' := by
  unfold progV LIns.val
  by_cases hkn : knownB i.op = true
  case neg =>
    have hkf : knownB i.op = false := by simpa using hkn
    clear hkn
    go_enter Tryz.func53, Tryz.ntmps53
    go_wp2_with (go_at_call 84; refine (kindsOf _ _).mono ?_; rintro e w1 ⟨rfl, hb1⟩; unfold fiveV)
    go_ret
    exact ⟨ret_bool (by simp [standB, hkf]), ((((Below.refl _ _).alloc (Nat.le_refl _) _).alloc (by simp) _).trans (hb1.mono (by simp; omega))).alloc (by have := hb1.size; simp at this; omega) _⟩
  case pos =>
    go_enter Tryz.func53, Tryz.ntmps53
    go_wp2_with (go_at_call 84; refine (kindsOf _ _).mono ?_; rintro e w1 ⟨rfl, hb1⟩; unfold fiveV; have p0 : w1.cell? ⟨w.heap.size, 0, none⟩ = some (.slice (some ⟨b0, o0, none⟩) B.length c0) := step_cell hb1 (by simp [go_sem]); have p1 : w1.cell? ⟨w.heap.size, 1, none⟩ = some (.slice (some ⟨b1, o1, none⟩) C.length c1) := step_cell hb1 (by simp [go_sem]); have d1 : w1.cell? ⟨w.heap.size + 1, 1, none⟩ = some (.int .i64 i.dest) := step_cell hb1 (by simp [go_sem]); have d2 : w1.cell? ⟨w.heap.size + 1, 2, none⟩ = some (.int .i64 i.a) := step_cell hb1 (by simp [go_sem]); have d3 : w1.cell? ⟨w.heap.size + 1, 3, none⟩ = some (.int .i64 i.b) := step_cell hb1 (by simp [go_sem]); have d4 : w1.cell? ⟨w.heap.size + 1, 4, none⟩ = some (.int .i64 i.c) := step_cell hb1 (by simp [go_sem]); have d5 : w1.cell? ⟨w.heap.size + 1, 5, none⟩ = some (.int .u32 i.n) := step_cell hb1 (by simp [go_sem]); have hz1 : w.heap.size + 1 < w1.heap.size := (by have := hb1.size; simp at this; omega); have hz0 : w.heap.size < w1.heap.size := (by omega); have HB : Hid (Below w.heap.size w w1) := ((((Below.refl _ _).alloc (Nat.le_refl _) _).alloc (by simp) _).trans (hb1.mono (by simp; omega))); clear hb1)
    have HW : Hid (Below w.heap.size w ((w1.alloc (.cells #[.int .i64 (kd i.op 0), .int .i64 (kd i.op 1), .int .i64 (kd i.op 2), .int .i64 (kd i.op 3), .int .i64 (kd i.op 4)] 156)).alloc (.cells #[.int .i64 i.dest, .int .i64 i.a, .int .i64 i.b, .int .i64 i.c, .int .i64 i.n] 159))) := ((HB.out.alloc (by omega) _).alloc (by simp; omega) _)
    cases hf1 : fit5 B C.length (st (kd i.op 0) 1) (st (kd i.op 1) 1) (st (kd i.op 2) 1) (st (kd i.op 3) 1) (st (kd i.op 4) 1) i.dest i.a i.b i.c i.n
    case true =>
      refine wp_region_held_drew (S := (fun w' => Below w.heap.size w w' ∧ w'.cell? ⟨w.heap.size, 0, none⟩ = some (.slice (some ⟨b0, o0, none⟩) B.length c0) ∧ w'.cell? ⟨w.heap.size, 1, none⟩ = some (.slice (some ⟨b1, o1, none⟩) C.length c1) ∧ w'.cell? ⟨w1.heap.size, 0, none⟩ = some (.int .i64 (kd i.op 0)) ∧ w'.cell? ⟨w1.heap.size, 1, none⟩ = some (.int .i64 (kd i.op 1)) ∧ w'.cell? ⟨w1.heap.size, 2, none⟩ = some (.int .i64 (kd i.op 2)) ∧ w'.cell? ⟨w1.heap.size, 3, none⟩ = some (.int .i64 (kd i.op 3)) ∧ w'.cell? ⟨w1.heap.size, 4, none⟩ = some (.int .i64 (kd i.op 4)) ∧ w'.cell? ⟨w1.heap.size + 1, 0, none⟩ = some (.int .i64 i.dest) ∧ w'.cell? ⟨w1.heap.size + 1, 1, none⟩ = some (.int .i64 i.a) ∧ w'.cell? ⟨w1.heap.size + 1, 2, none⟩ = some (.int .i64 i.b) ∧ w'.cell? ⟨w1.heap.size + 1, 3, none⟩ = some (.int .i64 i.c) ∧ w'.cell? ⟨w1.heap.size + 1, 4, none⟩ = some (.int .i64 i.n))) (by kernel_rfl) ?_ (fun hHeld => ?_)
      · ((go_split_ands; refine ⟨?_, ?_, ?_, ?_, ?_, ?_, ?_, ?_, ?_, ?_, ?_, ?_, ?_⟩ <;> first | exact HW.out.drew | assumption | exact step_below (by assumption) (by assumption) | exact step_cell (by assumption) (by assumption) | go_keep))
      refine wpAnyH_take (i := 0) (v := ?_) rfl (by kernel_rfl) (by kernel_rfl) (by kernel_rfl) (fun _ _ _ h => h) (Or.inl ⟨by rfl, ?_⟩) (by assumption) ?_
      case refine_2 => (intro w hSw; (try dsimp only at hSw); go_simp; try with_reducible rfl)
      show wpAnyH _ _ _ _ _ _ _ (Act.put _ (some 28) _) _
      try simp only [Act.put]
      refine wpAnyH_take (i := 1) (v := ?_) rfl (by kernel_rfl) (by kernel_rfl) (by kernel_rfl) (fun _ _ _ h => h) (Or.inl ⟨by rfl, ?_⟩) (by assumption) ?_
      case refine_2 => (intro w hSw; (try dsimp only at hSw); go_simp; try with_reducible rfl)
      show wpAnyH _ _ _ _ _ _ _ (Act.put _ (some 29) _) _
      try simp only [Act.put]
      refine wpAnyH_take (i := 3) (v := ?_) rfl (by kernel_rfl) (by kernel_rfl) (by kernel_rfl) (fun _ _ _ h => h) (Or.inl ⟨by rfl, ?_⟩) (by assumption) ?_
      case refine_2 => (intro w hSw; (try dsimp only at hSw); go_simp; try with_reducible rfl)
      show wpAnyH _ _ _ _ _ _ _ (Act.put _ (some 31) _) _
      try simp only [Act.put]
      refine wpAnyH_ready (rs := [2]) (by kernel_rfl) (by simp) ?_
      refine AllReadyH.cons rfl (fun K hK => ?_) AllReadyH.nil
      go_simp
      go_at_call 86; refine (settle _ _ _ _ _ _ _).mono ?_; rintro e wa ⟨rfl, hba⟩; unfold fiveV
      go_wp2_with fail
      refine hK.out _ _ ?_ (fun hHeld => ?_)
      · ((go_split_ands; refine ⟨?_, ?_, ?_, ?_, ?_, ?_, ?_, ?_, ?_, ?_, ?_, ?_, ?_⟩ <;> first | exact HW.out.drew | assumption | exact step_below (by assumption) (by assumption) | exact step_cell (by assumption) (by assumption) | go_keep))
      clear hK K
      try simp only [Act.put]
      refine wpAnyH_ready (rs := [4]) (by kernel_rfl) (by simp) ?_
      refine AllReadyH.cons rfl (fun K hK => ?_) AllReadyH.nil
      go_simp
      go_at_call 85; refine (fit b0 o0 c0 b1 o1 c1 B C _ _ _ _ _ _ _ _ _ _ _ hB hC ?_).mono ?_; (go_split_ands; exact h.later (by assumption)); rintro e wb ⟨rfl, hbb⟩; rw [hf1]
      go_wp2_with fail
      refine hK.out _ _ ?_ (fun hHeld => ?_)
      · ((go_split_ands; refine ⟨?_, ?_, ?_, ?_, ?_, ?_, ?_, ?_, ?_, ?_, ?_, ?_, ?_⟩ <;> first | exact HW.out.drew | assumption | exact step_below (by assumption) (by assumption) | exact step_cell (by assumption) (by assumption) | go_keep))
      clear hK K
      try simp only [Act.put]
      refine wpAnyH_take (i := 5) (v := ?_) rfl (by kernel_rfl) (by kernel_rfl) (by kernel_rfl) (fun _ _ _ h => h) (Or.inl ⟨by rfl, ?_⟩) (by assumption) ?_
      case refine_2 => (intro w hSw; (try dsimp only at hSw); go_simp; try with_reducible rfl)
      show wpAnyH _ _ _ _ _ _ _ (Act.put _ (some 33) _) _
      try simp only [Act.put]
      refine wpAnyH_take (i := 6) (v := undef) rfl (by kernel_rfl) (by kernel_rfl) (by kernel_rfl) (fun _ _ _ h => h) (Or.inr ⟨by rfl, rfl⟩) (by assumption) ?_
      show wpAnyH _ _ _ _ _ _ _ (Act.put _ (some 34) _) _
      try simp only [Act.put]
      refine wpAnyH_take (i := 7) (v := undef) rfl (by kernel_rfl) (by kernel_rfl) (by kernel_rfl) (fun _ _ _ h => h) (Or.inr ⟨by rfl, rfl⟩) (by assumption) ?_
      show wpAnyH _ _ _ _ _ _ _ (Act.put _ (some 35) _) _
      try simp only [Act.put]
      refine wpAnyH_take (i := 9) (v := undef) rfl (by kernel_rfl) (by kernel_rfl) (by kernel_rfl) (fun _ _ _ h => h) (Or.inr ⟨by rfl, rfl⟩) (by assumption) ?_
      show wpAnyH _ _ _ _ _ _ _ (Act.put _ (some 37) _) _
      try simp only [Act.put]
      refine wpAnyH_take (i := 8) (v := undef) rfl (by kernel_rfl) (by kernel_rfl) (by kernel_rfl) (fun _ _ _ h => h) (Or.inr ⟨by rfl, rfl⟩) (by assumption) ?_
      show wpAnyH _ _ _ _ _ _ _ (Act.put _ (some 36) _) _
      try simp only [Act.put]
      refine wpAnyH_take (i := 10) (v := undef) rfl (by kernel_rfl) (by kernel_rfl) (by kernel_rfl) (fun _ _ _ h => h) (Or.inr ⟨by rfl, rfl⟩) (by assumption) ?_
      show wpAnyH _ _ _ _ _ _ _ (Act.put _ (some 38) _) _
      try simp only [Act.put]
      refine wpAnyH_take (i := 11) (v := ?_) rfl (by kernel_rfl) (by kernel_rfl) (by kernel_rfl) (fun _ _ _ h => h) (Or.inl ⟨by rfl, ?_⟩) (by assumption) ?_
      case refine_2 => (intro w hSw; (try dsimp only at hSw); go_simp; try with_reducible rfl)
      show wpAnyH _ _ _ _ _ _ _ (Act.put _ (some 39) _) _
      try simp only [Act.put]
      refine wpAnyH_take (i := 12) (v := ?_) rfl (by kernel_rfl) (by kernel_rfl) (by kernel_rfl) (fun _ _ _ h => h) (Or.inl ⟨by rfl, ?_⟩) (by assumption) ?_
      case refine_2 => (intro w hSw; (try dsimp only at hSw); go_simp; try with_reducible rfl)
      show wpAnyH _ _ _ _ _ _ _ (Act.put _ (some 4) _) _
      try simp only [Act.put]
      refine wpAnyH_done (by kernel_rfl) ?_ _
      go_wp2
      go_ret
      refine ⟨?_, hHeld.1⟩
      rw [show standB B C.length i = true by simp [standB, fitAs, hkn, hf1]]
      kernel_rfl
    case false =>
      go_region_held3 (fun w' => Below w.heap.size w w' ∧ w'.cell? ⟨w.heap.size, 0, none⟩ = some (.slice (some ⟨b0, o0, none⟩) B.length c0) ∧ w'.cell? ⟨w.heap.size, 1, none⟩ = some (.slice (some ⟨b1, o1, none⟩) C.length c1) ∧ w'.cell? ⟨w1.heap.size, 0, none⟩ = some (.int .i64 (kd i.op 0)) ∧ w'.cell? ⟨w1.heap.size, 1, none⟩ = some (.int .i64 (kd i.op 1)) ∧ w'.cell? ⟨w1.heap.size, 2, none⟩ = some (.int .i64 (kd i.op 2)) ∧ w'.cell? ⟨w1.heap.size, 3, none⟩ = some (.int .i64 (kd i.op 3)) ∧ w'.cell? ⟨w1.heap.size, 4, none⟩ = some (.int .i64 (kd i.op 4)) ∧ w'.cell? ⟨w1.heap.size + 1, 0, none⟩ = some (.int .i64 i.dest) ∧ w'.cell? ⟨w1.heap.size + 1, 1, none⟩ = some (.int .i64 i.a) ∧ w'.cell? ⟨w1.heap.size + 1, 2, none⟩ = some (.int .i64 i.b) ∧ w'.cell? ⟨w1.heap.size + 1, 3, none⟩ = some (.int .i64 i.c) ∧ w'.cell? ⟨w1.heap.size + 1, 4, none⟩ = some (.int .i64 i.n))
      ((go_split_ands; refine ⟨?_, ?_, ?_, ?_, ?_, ?_, ?_, ?_, ?_, ?_, ?_, ?_, ?_⟩ <;> first | exact HW.out.drew | assumption | exact step_below (by assumption) (by assumption) | exact step_cell (by assumption) (by assumption) | go_keep))
      ((first | (go_at_call 86; refine (settle _ _ _ _ _ _ _).mono ?_; rintro e wa ⟨rfl, hba⟩; unfold fiveV) | (go_at_call 85; refine (fit b0 o0 c0 b1 o1 c1 B C _ _ _ _ _ _ _ _ _ _ _ hB hC ?_).mono ?_; (go_split_ands; exact h.later (by assumption)); rintro e wb ⟨rfl, hbb⟩; (try rw [hf1]))))
      go_wp2
      go_ret
      rename_i hHeldx
      exact ⟨ret_bool (by simp [standB, fitAs, hkn, hf1]), hHeldx.1⟩
end form
/- What layout.May answers. -/
namespace form
open Go.RowKit
def mayB (B : List Bool) (C : List LIns) : Bool := sizesB B C && C.all (standB B C.length)
theorem may_no (v : Value) (B : List Bool) (C : List LIns) (w : World) (h : ProgIs w v B C) (hs : sizesB B C = false) :
    Calls Tryz.prog 33 #[v] w fun e w' => e = .returned (.bool false) ∧ Below w.heap.size w w' := by
  obtain ⟨⟨a0, c0, a1, c1, rfl, -⟩, l0, l1, -⟩ := h
  have hs' : ¬ (1 ≤ B.length ∧ B.length ≤ 12 ∧ 1 ≤ C.length ∧ C.length ≤ 40) := by
    intro hh; unfold sizesB at hs; simp at hs; omega
  have HS : Hid _ := hs'
  clear hs hs'
  go_enter Tryz.func33, Tryz.ntmps33
  go_wp2_with (go_at_call 52; refine (within _ _ _).mono ?_; rintro e w' ⟨rfl, rfl⟩)
  all_goals first
    | (go_ret; exact ⟨rfl, (Below.refl _ _).alloc (Nat.le_refl _) _⟩)
    | (exfalso; apply HS.out; simp_all; omega)
set_option maxRecDepth 100000 in
set_option maxHeartbeats 1000000 in
theorem may_yes (b0 o0 c0 b1 o1 c1 : Nat) (B : List Bool) (C : List LIns) (w : World) (h : Held w b0 o0 b1 o1 B C) (hn : ∀ i, i < C.length → 0 ≤ (C.getD i .zero).n ∧ (C.getD i .zero).n < 4294967296) (hs : sizesB B C = true) :
    Calls Tryz.prog 33 #[progV b0 o0 B.length c0 b1 o1 C.length c1] w fun e w' => e = .returned (.bool (C.all (standB B C.length))) ∧ Below w.heap.size w w' := by
  obtain ⟨s1, s2, s3, s4⟩ := sizes_of hs
  have j1 : (1 : Int) ≤ (B.length : Int) := by omega
  have j2 : (B.length : Int) ≤ 12 := by omega
  have j3 : (1 : Int) ≤ (C.length : Int) := by omega
  have j4 : (C.length : Int) ≤ 40 := by omega
  unfold progV
  go_enter Tryz.func33, Tryz.ntmps33
  go_wp2_with (go_at_call 52; refine (within _ _ _).mono ?_; rintro e w' ⟨rfl, rfl⟩)
  go_loopw [20] (fun i wr => ∃ k : Nat, k ≤ C.length ∧ i = .int .i64 k ∧ Below w.heap.size w wr ∧ w.heap.size < wr.heap.size ∧
      wr.cell? ⟨w.heap.size, 0, none⟩ = some (.slice (some ⟨b0, o0, none⟩) B.length c0) ∧ wr.cell? ⟨w.heap.size, 1, none⟩ = some (.slice (some ⟨b1, o1, none⟩) C.length c1) ∧
      (∀ j, j < k → standB B C.length (C.getD j .zero) = true))
    (fun i _ => C.length - (intOf i).toNat)
  case atStart => exact ⟨0, by omega, rfl, (Below.refl _ _).alloc (Nat.le_refl _) _, by simp, by simp [go_sem], by simp [go_sem], fun j hj => absurd hj (by omega)⟩
  case round =>
    obtain ⟨k, hk, rfl, hbel, hsz, cp0, cp1, hall⟩ := hrel
    have F : Hid _ := hall
    have HN : Hid _ := hn
    clear hall hn
    have hh := h.later hbel
    by_cases hlt : k < C.length
    · obtain ⟨d0, d1, d2, d3, d4, d5⟩ := hh.code k hlt
      obtain ⟨n0, n1⟩ := HN.out k hlt
      obtain ⟨i, hi⟩ : ∃ i, i = C.getD k .zero := ⟨_, rfl⟩
      rw [← hi] at d0 d1 d2 d3 d4 d5 n0 n1
      have HI : Hid _ := hi
      clear hi
      go_wp2_with (go_at_call 53; refine (mayStand b0 o0 c0 b1 o1 c1 B C i _ s2 s4 ?_ n0 n1).mono ?_; (exact hh.alloc _); rintro e w1 ⟨rfl, hb1⟩)
      all_goals
        have hb2 := over_alloc hb1
        have hbel1 := step_below hb2 hbel
      · go_ret
        refine ⟨ret_bool ?_, hbel1⟩
        have hf : standB B C.length i = false := by simp_all
        rw [eq_comm, List.all_eq_false]
        refine ⟨i, ?_, by simp [hf]⟩
        rw [HI.out]
        simp [List.getD, hlt]
      · refine ⟨⟨k + 1, by omega, by go_num, hbel1, Nat.lt_of_lt_of_le hsz hb2.size, step_cell hb2 cp0, step_cell hb2 cp1, ?_⟩, by simp [intOf]; omega⟩
        intro j hj
        by_cases hjk : j < k
        · exact F.out j hjk
        · obtain rfl : j = k := by omega
          rw [← HI.out]
          simp_all
    · go_wp2
      go_ret
      exact ⟨ret_bool (by
        rw [List.all_eq_true.2]
        intro x hx
        obtain ⟨j, hj, rfl⟩ := List.getElem_of_mem hx
        have := F.out j (by omega)
        simpa [List.getD, hj] using this), hbel⟩
theorem may (v : Value) (B : List Bool) (C : List LIns) (w : World) (h : ProgIs w v B C) :
    Calls Tryz.prog 33 #[v] w fun e w' => e = .returned (.bool (mayB B C)) ∧ Below w.heap.size w w' := by
  cases hs : sizesB B C with
  | false => rw [show mayB B C = false by simp [mayB, hs]]; exact may_no v B C w h hs
  | true =>
    rw [show mayB B C = C.all (standB B C.length) by simp [mayB, hs]]
    obtain ⟨s1, s2, s3, s4⟩ := sizes_of hs
    obtain ⟨⟨a0, c0, a1, c1, rfl, hh⟩, l0, l1, hn⟩ := h
    obtain ⟨b0, o0, b1, o1, rfl, rfl, hH⟩ := hh s1 s3
    exact may_yes b0 o0 c0 b1 o1 c1 B C w hH hn hs
end form
end Go.Proofs.YtikhedkhgpjaaacGreatDoor
