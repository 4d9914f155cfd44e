/- What layout.mayStand answers. -/
import Derived.Test.YtcmnmogmdhofcaaFormFit
namespace Go.Proofs.Ytcmnmogmdhofcaa.form
open Go.RowKit
set_option linter.unusedVariables false
attribute [local go_sem ↓] Go.wp_at_zero Go.wp_at_succ

def fitAs (B : List Bool) (nC : Nat) (i : LIns) (width : Int) : Bool :=
  fit5 B nC (st (kd i.op 0) width) (st (kd i.op 1) width) (st (kd i.op 2) width) (st (kd i.op 3) width) (st (kd i.op 4) width) i.dest i.a i.b i.c i.n
def standB (B : List Bool) (nC : Nat) (i : LIns) : Bool := knownB i.op && (fitAs B nC i 1 || fitAs B nC i 2)

set_option maxRecDepth 100000 in
set_option maxHeartbeats 1000000 in
theorem mayStand (b0 o0 c0 b1 o1 c1 : Nat) (B : List Bool) (C : List LIns) (i : LIns) (w : World) (hB : B.length ≤ 12) (hC : C.length ≤ 40) (h : Held w b0 o0 b1 o1 B C) (hn0 : 0 ≤ i.n) (hn1 : i.n < 4294967296) :
    Calls Try.prog 40 #[progV b0 o0 B.length c0 b1 o1 C.length c1, i.val] w fun e w' => e = .returned (.bool (standB B C.length i)) ∧ Below w.heap.size w w' := by
  unfold progV LIns.val
  by_cases hkn : knownB i.op = true
  case neg =>
    have hkf : knownB i.op = false := by simpa using hkn
    clear hkn
    go_enter Try.func40, Try.ntmps40
    go_wp2_with (go_at_call 74; refine (kindsOf _ _).mono ?_; rintro e w1 ⟨rfl, hb1⟩; unfold fiveV)
    go_ret
    exact ⟨ret_bool (by simp [standB, hkf]), ((((Below.refl _ _).alloc (Nat.le_refl _) _).alloc (by simp) _).trans (hb1.mono (by simp; omega))).alloc (by have := hb1.size; simp at this; omega) _⟩
  case pos =>
    go_enter Try.func40, Try.ntmps40
    go_wp2_with (go_at_call 74; refine (kindsOf _ _).mono ?_; rintro e w1 ⟨rfl, hb1⟩; unfold fiveV; have p0 : w1.cell? ⟨w.heap.size, 0, none⟩ = some (.slice (some ⟨b0, o0, none⟩) B.length c0) := step_cell hb1 (by simp [go_sem]); have p1 : w1.cell? ⟨w.heap.size, 1, none⟩ = some (.slice (some ⟨b1, o1, none⟩) C.length c1) := step_cell hb1 (by simp [go_sem]); have d1 : w1.cell? ⟨w.heap.size + 1, 1, none⟩ = some (.int .i64 i.dest) := step_cell hb1 (by simp [go_sem]); have d2 : w1.cell? ⟨w.heap.size + 1, 2, none⟩ = some (.int .i64 i.a) := step_cell hb1 (by simp [go_sem]); have d3 : w1.cell? ⟨w.heap.size + 1, 3, none⟩ = some (.int .i64 i.b) := step_cell hb1 (by simp [go_sem]); have d4 : w1.cell? ⟨w.heap.size + 1, 4, none⟩ = some (.int .i64 i.c) := step_cell hb1 (by simp [go_sem]); have d5 : w1.cell? ⟨w.heap.size + 1, 5, none⟩ = some (.int .u32 i.n) := step_cell hb1 (by simp [go_sem]); have hz1 : w.heap.size + 1 < w1.heap.size := (by have := hb1.size; simp at this; omega); have hz0 : w.heap.size < w1.heap.size := (by omega); have HB : Hid (Below w.heap.size w w1) := ((((Below.refl _ _).alloc (Nat.le_refl _) _).alloc (by simp) _).trans (hb1.mono (by simp; omega))); clear hb1)
    have HW : Hid (Below w.heap.size w ((w1.alloc (.cells #[.int .i64 (kd i.op 0), .int .i64 (kd i.op 1), .int .i64 (kd i.op 2), .int .i64 (kd i.op 3), .int .i64 (kd i.op 4)] 123)).alloc (.cells #[.int .i64 i.dest, .int .i64 i.a, .int .i64 i.b, .int .i64 i.c, .int .i64 i.n] 126))) := ((HB.out.alloc (by omega) _).alloc (by simp; omega) _)
    cases hf1 : fit5 B C.length (st (kd i.op 0) 1) (st (kd i.op 1) 1) (st (kd i.op 2) 1) (st (kd i.op 3) 1) (st (kd i.op 4) 1) i.dest i.a i.b i.c i.n
    case true =>
      refine wp_region_held_drew (S := (fun w' => Below w.heap.size w w' ∧ w'.cell? ⟨w.heap.size, 0, none⟩ = some (.slice (some ⟨b0, o0, none⟩) B.length c0) ∧ w'.cell? ⟨w.heap.size, 1, none⟩ = some (.slice (some ⟨b1, o1, none⟩) C.length c1) ∧ w'.cell? ⟨w1.heap.size, 0, none⟩ = some (.int .i64 (kd i.op 0)) ∧ w'.cell? ⟨w1.heap.size, 1, none⟩ = some (.int .i64 (kd i.op 1)) ∧ w'.cell? ⟨w1.heap.size, 2, none⟩ = some (.int .i64 (kd i.op 2)) ∧ w'.cell? ⟨w1.heap.size, 3, none⟩ = some (.int .i64 (kd i.op 3)) ∧ w'.cell? ⟨w1.heap.size, 4, none⟩ = some (.int .i64 (kd i.op 4)) ∧ w'.cell? ⟨w1.heap.size + 1, 0, none⟩ = some (.int .i64 i.dest) ∧ w'.cell? ⟨w1.heap.size + 1, 1, none⟩ = some (.int .i64 i.a) ∧ w'.cell? ⟨w1.heap.size + 1, 2, none⟩ = some (.int .i64 i.b) ∧ w'.cell? ⟨w1.heap.size + 1, 3, none⟩ = some (.int .i64 i.c) ∧ w'.cell? ⟨w1.heap.size + 1, 4, none⟩ = some (.int .i64 i.n))) (by kernel_rfl) ?_ (fun hHeld => ?_)
      · ((go_split_ands; refine ⟨?_, ?_, ?_, ?_, ?_, ?_, ?_, ?_, ?_, ?_, ?_, ?_, ?_⟩ <;> first | exact HW.out.drew | assumption | exact step_below (by assumption) (by assumption) | exact step_cell (by assumption) (by assumption) | go_keep))
      refine wpAnyH_take (i := 0) (v := ?_) rfl (by kernel_rfl) (by kernel_rfl) (by kernel_rfl) (fun _ _ _ h => h) (Or.inl ⟨by rfl, ?_⟩) (by assumption) ?_
      case refine_2 => (intro w hSw; (try dsimp only at hSw); go_simp; first | done | (with_reducible rfl))
      show wpAnyH _ _ _ _ _ _ _ (Act.put _ (some 28) _) _
      try simp only [Act.put]
      refine wpAnyH_take (i := 1) (v := ?_) rfl (by kernel_rfl) (by kernel_rfl) (by kernel_rfl) (fun _ _ _ h => h) (Or.inl ⟨by rfl, ?_⟩) (by assumption) ?_
      case refine_2 => (intro w hSw; (try dsimp only at hSw); go_simp; first | done | (with_reducible rfl))
      show wpAnyH _ _ _ _ _ _ _ (Act.put _ (some 29) _) _
      try simp only [Act.put]
      refine wpAnyH_take (i := 3) (v := ?_) rfl (by kernel_rfl) (by kernel_rfl) (by kernel_rfl) (fun _ _ _ h => h) (Or.inl ⟨by rfl, ?_⟩) (by assumption) ?_
      case refine_2 => (intro w hSw; (try dsimp only at hSw); go_simp; first | done | (with_reducible rfl))
      show wpAnyH _ _ _ _ _ _ _ (Act.put _ (some 31) _) _
      try simp only [Act.put]
      refine wpAnyH_ready (rs := [2]) (by kernel_rfl) (by simp) ?_
      refine AllReadyH.cons rfl (fun K hK => ?_) AllReadyH.nil
      go_simp
      go_at_call 76; refine (settle _ _ _ _ _ _ _).mono ?_; rintro e wa ⟨rfl, hba⟩; unfold fiveV
      go_wp2_with fail
      refine hK.out _ _ ?_ (fun hHeld => ?_)
      · ((go_split_ands; refine ⟨?_, ?_, ?_, ?_, ?_, ?_, ?_, ?_, ?_, ?_, ?_, ?_, ?_⟩ <;> first | exact HW.out.drew | assumption | exact step_below (by assumption) (by assumption) | exact step_cell (by assumption) (by assumption) | go_keep))
      clear hK K
      try simp only [Act.put]
      refine wpAnyH_ready (rs := [4]) (by kernel_rfl) (by simp) ?_
      refine AllReadyH.cons rfl (fun K hK => ?_) AllReadyH.nil
      go_simp
      go_at_call 75; refine (fit b0 o0 c0 b1 o1 c1 B C _ _ _ _ _ _ _ _ _ _ _ hB hC ?_).mono ?_; (go_split_ands; exact h.later (by assumption)); rintro e wb ⟨rfl, hbb⟩; rw [hf1]
      go_wp2_with fail
      refine hK.out _ _ ?_ (fun hHeld => ?_)
      · ((go_split_ands; refine ⟨?_, ?_, ?_, ?_, ?_, ?_, ?_, ?_, ?_, ?_, ?_, ?_, ?_⟩ <;> first | exact HW.out.drew | assumption | exact step_below (by assumption) (by assumption) | exact step_cell (by assumption) (by assumption) | go_keep))
      clear hK K
      try simp only [Act.put]
      refine wpAnyH_take (i := 5) (v := ?_) rfl (by kernel_rfl) (by kernel_rfl) (by kernel_rfl) (fun _ _ _ h => h) (Or.inl ⟨by rfl, ?_⟩) (by assumption) ?_
      case refine_2 => (intro w hSw; (try dsimp only at hSw); go_simp; first | done | (with_reducible rfl))
      show wpAnyH _ _ _ _ _ _ _ (Act.put _ (some 33) _) _
      try simp only [Act.put]
      refine wpAnyH_take (i := 6) (v := undef) rfl (by kernel_rfl) (by kernel_rfl) (by kernel_rfl) (fun _ _ _ h => h) (Or.inr ⟨by rfl, rfl⟩) (by assumption) ?_
      show wpAnyH _ _ _ _ _ _ _ (Act.put _ (some 34) _) _
      try simp only [Act.put]
      refine wpAnyH_take (i := 7) (v := undef) rfl (by kernel_rfl) (by kernel_rfl) (by kernel_rfl) (fun _ _ _ h => h) (Or.inr ⟨by rfl, rfl⟩) (by assumption) ?_
      show wpAnyH _ _ _ _ _ _ _ (Act.put _ (some 35) _) _
      try simp only [Act.put]
      refine wpAnyH_take (i := 9) (v := undef) rfl (by kernel_rfl) (by kernel_rfl) (by kernel_rfl) (fun _ _ _ h => h) (Or.inr ⟨by rfl, rfl⟩) (by assumption) ?_
      show wpAnyH _ _ _ _ _ _ _ (Act.put _ (some 37) _) _
      try simp only [Act.put]
      refine wpAnyH_take (i := 8) (v := undef) rfl (by kernel_rfl) (by kernel_rfl) (by kernel_rfl) (fun _ _ _ h => h) (Or.inr ⟨by rfl, rfl⟩) (by assumption) ?_
      show wpAnyH _ _ _ _ _ _ _ (Act.put _ (some 36) _) _
      try simp only [Act.put]
      refine wpAnyH_take (i := 10) (v := undef) rfl (by kernel_rfl) (by kernel_rfl) (by kernel_rfl) (fun _ _ _ h => h) (Or.inr ⟨by rfl, rfl⟩) (by assumption) ?_
      show wpAnyH _ _ _ _ _ _ _ (Act.put _ (some 38) _) _
      try simp only [Act.put]
      refine wpAnyH_take (i := 11) (v := ?_) rfl (by kernel_rfl) (by kernel_rfl) (by kernel_rfl) (fun _ _ _ h => h) (Or.inl ⟨by rfl, ?_⟩) (by assumption) ?_
      case refine_2 => (intro w hSw; (try dsimp only at hSw); go_simp; first | done | (with_reducible rfl))
      show wpAnyH _ _ _ _ _ _ _ (Act.put _ (some 39) _) _
      try simp only [Act.put]
      refine wpAnyH_take (i := 12) (v := ?_) rfl (by kernel_rfl) (by kernel_rfl) (by kernel_rfl) (fun _ _ _ h => h) (Or.inl ⟨by rfl, ?_⟩) (by assumption) ?_
      case refine_2 => (intro w hSw; (try dsimp only at hSw); go_simp; first | done | (with_reducible rfl))
      show wpAnyH _ _ _ _ _ _ _ (Act.put _ (some 4) _) _
      try simp only [Act.put]
      refine wpAnyH_done (by kernel_rfl) ?_ _
      go_wp2
      go_ret
      refine ⟨?_, hHeld.1⟩
      rw [show standB B C.length i = true by simp [standB, fitAs, hkn, hf1]]
      kernel_rfl
    case false =>
      go_region_held3 (fun w' => Below w.heap.size w w' ∧ w'.cell? ⟨w.heap.size, 0, none⟩ = some (.slice (some ⟨b0, o0, none⟩) B.length c0) ∧ w'.cell? ⟨w.heap.size, 1, none⟩ = some (.slice (some ⟨b1, o1, none⟩) C.length c1) ∧ w'.cell? ⟨w1.heap.size, 0, none⟩ = some (.int .i64 (kd i.op 0)) ∧ w'.cell? ⟨w1.heap.size, 1, none⟩ = some (.int .i64 (kd i.op 1)) ∧ w'.cell? ⟨w1.heap.size, 2, none⟩ = some (.int .i64 (kd i.op 2)) ∧ w'.cell? ⟨w1.heap.size, 3, none⟩ = some (.int .i64 (kd i.op 3)) ∧ w'.cell? ⟨w1.heap.size, 4, none⟩ = some (.int .i64 (kd i.op 4)) ∧ w'.cell? ⟨w1.heap.size + 1, 0, none⟩ = some (.int .i64 i.dest) ∧ w'.cell? ⟨w1.heap.size + 1, 1, none⟩ = some (.int .i64 i.a) ∧ w'.cell? ⟨w1.heap.size + 1, 2, none⟩ = some (.int .i64 i.b) ∧ w'.cell? ⟨w1.heap.size + 1, 3, none⟩ = some (.int .i64 i.c) ∧ w'.cell? ⟨w1.heap.size + 1, 4, none⟩ = some (.int .i64 i.n))
      ((go_split_ands; refine ⟨?_, ?_, ?_, ?_, ?_, ?_, ?_, ?_, ?_, ?_, ?_, ?_, ?_⟩ <;> first | exact HW.out.drew | assumption | exact step_below (by assumption) (by assumption) | exact step_cell (by assumption) (by assumption) | go_keep))
      ((first | (go_at_call 76; refine (settle _ _ _ _ _ _ _).mono ?_; rintro e wa ⟨rfl, hba⟩; unfold fiveV) | (go_at_call 75; refine (fit b0 o0 c0 b1 o1 c1 B C _ _ _ _ _ _ _ _ _ _ _ hB hC ?_).mono ?_; (go_split_ands; exact h.later (by assumption)); rintro e wb ⟨rfl, hbb⟩; (try rw [hf1]))))
      go_wp2
      go_ret
      rename_i hHeldx
      exact ⟨ret_bool (by simp [standB, fitAs, hkn, hf1]), hHeldx.1⟩

end Go.Proofs.Ytcmnmogmdhofcaa.form
