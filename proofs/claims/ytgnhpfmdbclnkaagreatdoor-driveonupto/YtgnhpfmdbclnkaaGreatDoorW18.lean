/- What layout.mayStand answers. -/
import Derived.Test.YtgnhpfmdbclnkaaGreatDoorW17
import Derived.Test.YtgnhpfmdbclnkaaGreatDoorW02
import Derived.Test.YtgnhpfmdbclnkaaGreatDoorW15

namespace Go.Proofs.YtgnhpfmdbclnkaaGreatDoor
set_option linter.unusedVariables false
namespace form
open Go.RowKit
attribute [local go_sem ↓] Go.wp_at_zero Go.wp_at_succ
def fitAs (B : List Bool) (nC : Nat) (i : LIns) (width : Int) : Bool :=
  fit5 B nC (st (kd i.op 0) width) (st (kd i.op 1) width) (st (kd i.op 2) width) (st (kd i.op 3) width) (st (kd i.op 4) width) i.dest i.a i.b i.c i.n
def standB (B : List Bool) (nC : Nat) (i : LIns) : Bool := knownB i.op && (fitAs B nC i 1 || fitAs B nC i 2)
set_option maxRecDepth 100000 in
set_option maxHeartbeats 1000000 in
theorem mayStand (b0 o0 c0 b1 o1 c1 : Nat) (B : List Bool) (C : List LIns) (i : LIns) (w : World) (hB : B.length ≤ 12) (hC : C.length ≤ 40) (h : Held w b0 o0 b1 o1 B C) (hn0 : 0 ≤ i.n) (hn1 : i.n < 4294967296) :
    Calls Tryz.prog 61 #[progV b0 o0 B.length c0 b1 o1 C.length c1, i.val] w fun e w' => e = .returned (.bool (standB B C.length i)) ∧ Below w.heap.size w w' := by
  unfold progV LIns.val
  by_cases hkn : knownB i.op = true
  case neg =>
    have hkf : knownB i.op = false := by simpa using hkn
    clear hkn
    go_enter Tryz.func61, Tryz.ntmps61
    go_wp2_with (go_at_call 97; refine (kindsOf _ _).mono ?_; rintro e w1 ⟨rfl, hb1⟩; unfold fiveV)
    go_ret
    exact ⟨ret_bool (by simp [standB, hkf]), ((((Below.refl _ _).alloc (Nat.le_refl _) _).alloc (by simp) _).trans (hb1.mono (by simp; omega))).alloc (by have := hb1.size; simp at this; omega) _⟩
  case pos =>
    go_enter Tryz.func61, Tryz.ntmps61
    go_wp2_with (go_at_call 97; refine (kindsOf _ _).mono ?_; rintro e w1 ⟨rfl, hb1⟩; unfold fiveV; have p0 : w1.cell? ⟨w.heap.size, 0, none⟩ = some (.slice (some ⟨b0, o0, none⟩) B.length c0) := step_cell hb1 (by simp [go_sem]); have p1 : w1.cell? ⟨w.heap.size, 1, none⟩ = some (.slice (some ⟨b1, o1, none⟩) C.length c1) := step_cell hb1 (by simp [go_sem]); have d1 : w1.cell? ⟨w.heap.size + 1, 1, none⟩ = some (.int .i64 i.dest) := step_cell hb1 (by simp [go_sem]); have d2 : w1.cell? ⟨w.heap.size + 1, 2, none⟩ = some (.int .i64 i.a) := step_cell hb1 (by simp [go_sem]); have d3 : w1.cell? ⟨w.heap.size + 1, 3, none⟩ = some (.int .i64 i.b) := step_cell hb1 (by simp [go_sem]); have d4 : w1.cell? ⟨w.heap.size + 1, 4, none⟩ = some (.int .i64 i.c) := step_cell hb1 (by simp [go_sem]); have d5 : w1.cell? ⟨w.heap.size + 1, 5, none⟩ = some (.int .u32 i.n) := step_cell hb1 (by simp [go_sem]); have hz1 : w.heap.size + 1 < w1.heap.size := (by have := hb1.size; simp at this; omega); have hz0 : w.heap.size < w1.heap.size := (by omega); have HB : Hid (Below w.heap.size w w1) := ((((Below.refl _ _).alloc (Nat.le_refl _) _).alloc (by simp) _).trans (hb1.mono (by simp; omega))); clear hb1)
    have HW : Hid (Below w.heap.size w ((w1.alloc (.cells #[.int .i64 (kd i.op 0), .int .i64 (kd i.op 1), .int .i64 (kd i.op 2), .int .i64 (kd i.op 3), .int .i64 (kd i.op 4)] 172)).alloc (.cells #[.int .i64 i.dest, .int .i64 i.a, .int .i64 i.b, .int .i64 i.c, .int .i64 i.n] 177))) := ((HB.out.alloc (by omega) _).alloc (by simp; omega) _)
    cases hf1 : fit5 B C.length (st (kd i.op 0) 1) (st (kd i.op 1) 1) (st (kd i.op 2) 1) (st (kd i.op 3) 1) (st (kd i.op 4) 1) i.dest i.a i.b i.c i.n
    case true =>
      refine wp_region_held_drew (S := (fun w' => Below w.heap.size w w' ∧ w'.cell? ⟨w.heap.size, 0, none⟩ = some (.slice (some ⟨b0, o0, none⟩) B.length c0) ∧ w'.cell? ⟨w.heap.size, 1, none⟩ = some (.slice (some ⟨b1, o1, none⟩) C.length c1) ∧ w'.cell? ⟨w1.heap.size, 0, none⟩ = some (.int .i64 (kd i.op 0)) ∧ w'.cell? ⟨w1.heap.size, 1, none⟩ = some (.int .i64 (kd i.op 1)) ∧ w'.cell? ⟨w1.heap.size, 2, none⟩ = some (.int .i64 (kd i.op 2)) ∧ w'.cell? ⟨w1.heap.size, 3, none⟩ = some (.int .i64 (kd i.op 3)) ∧ w'.cell? ⟨w1.heap.size, 4, none⟩ = some (.int .i64 (kd i.op 4)) ∧ w'.cell? ⟨w1.heap.size + 1, 0, none⟩ = some (.int .i64 i.dest) ∧ w'.cell? ⟨w1.heap.size + 1, 1, none⟩ = some (.int .i64 i.a) ∧ w'.cell? ⟨w1.heap.size + 1, 2, none⟩ = some (.int .i64 i.b) ∧ w'.cell? ⟨w1.heap.size + 1, 3, none⟩ = some (.int .i64 i.c) ∧ w'.cell? ⟨w1.heap.size + 1, 4, none⟩ = some (.int .i64 i.n))) (by kernel_rfl) ?_ (fun hHeld => ?_)
      · ((go_split_ands; refine ⟨?_, ?_, ?_, ?_, ?_, ?_, ?_, ?_, ?_, ?_, ?_, ?_, ?_⟩ <;> first | exact HW.out.drew | assumption | exact step_below (by assumption) (by assumption) | exact step_cell (by assumption) (by assumption) | go_keep))
      refine wpAnyH_take (i := 0) (v := ?_) rfl (by kernel_rfl) (by kernel_rfl) (by kernel_rfl) (fun _ _ _ h => h) (Or.inl ⟨by rfl, ?_⟩) (by assumption) ?_
      case refine_2 => (intro w hSw; (try dsimp only at hSw); go_simp; try with_reducible rfl)
      show wpAnyH _ _ _ _ _ _ _ (Act.put _ (some 28) _) _
      try simp only [Act.put]
      refine wpAnyH_take (i := 1) (v := ?_) rfl (by kernel_rfl) (by kernel_rfl) (by kernel_rfl) (fun _ _ _ h => h) (Or.inl ⟨by rfl, ?_⟩) (by assumption) ?_
      case refine_2 => (intro w hSw; (try dsimp only at hSw); go_simp; try with_reducible rfl)
      show wpAnyH _ _ _ _ _ _ _ (Act.put _ (some 29) _) _
      try simp only [Act.put]
      refine wpAnyH_take (i := 3) (v := ?_) rfl (by kernel_rfl) (by kernel_rfl) (by kernel_rfl) (fun _ _ _ h => h) (Or.inl ⟨by rfl, ?_⟩) (by assumption) ?_
      case refine_2 => (intro w hSw; (try dsimp only at hSw); go_simp; try with_reducible rfl)
      show wpAnyH _ _ _ _ _ _ _ (Act.put _ (some 31) _) _
      try simp only [Act.put]
      refine wpAnyH_ready (rs := [2]) (by kernel_rfl) (by simp) ?_
      refine AllReadyH.cons rfl (fun K hK => ?_) AllReadyH.nil
      go_simp
      go_at_call 102; refine (settle _ _ _ _ _ _ _).mono ?_; rintro e wa ⟨rfl, hba⟩; unfold fiveV
      go_wp2_with fail
      refine hK.out _ _ ?_ (fun hHeld => ?_)
      · ((go_split_ands; refine ⟨?_, ?_, ?_, ?_, ?_, ?_, ?_, ?_, ?_, ?_, ?_, ?_, ?_⟩ <;> first | exact HW.out.drew | assumption | exact step_below (by assumption) (by assumption) | exact step_cell (by assumption) (by assumption) | go_keep))
      clear hK K
      try simp only [Act.put]
      refine wpAnyH_ready (rs := [4]) (by kernel_rfl) (by simp) ?_
      refine AllReadyH.cons rfl (fun K hK => ?_) AllReadyH.nil
      go_simp
      go_at_call 101; refine (fit b0 o0 c0 b1 o1 c1 B C _ _ _ _ _ _ _ _ _ _ _ hB hC ?_).mono ?_; (go_split_ands; exact h.later (by assumption)); rintro e wb ⟨rfl, hbb⟩; rw [hf1]
      go_wp2_with fail
      refine hK.out _ _ ?_ (fun hHeld => ?_)
      · ((go_split_ands; refine ⟨?_, ?_, ?_, ?_, ?_, ?_, ?_, ?_, ?_, ?_, ?_, ?_, ?_⟩ <;> first | exact HW.out.drew | assumption | exact step_below (by assumption) (by assumption) | exact step_cell (by assumption) (by assumption) | go_keep))
      clear hK K
      try simp only [Act.put]
      refine wpAnyH_take (i := 5) (v := ?_) rfl (by kernel_rfl) (by kernel_rfl) (by kernel_rfl) (fun _ _ _ h => h) (Or.inl ⟨by rfl, ?_⟩) (by assumption) ?_
      case refine_2 => (intro w hSw; (try dsimp only at hSw); go_simp; try with_reducible rfl)
      show wpAnyH _ _ _ _ _ _ _ (Act.put _ (some 33) _) _
      try simp only [Act.put]
      refine wpAnyH_take (i := 6) (v := undef) rfl (by kernel_rfl) (by kernel_rfl) (by kernel_rfl) (fun _ _ _ h => h) (Or.inr ⟨by rfl, rfl⟩) (by assumption) ?_
      show wpAnyH _ _ _ _ _ _ _ (Act.put _ (some 34) _) _
      try simp only [Act.put]
      refine wpAnyH_take (i := 7) (v := undef) rfl (by kernel_rfl) (by kernel_rfl) (by kernel_rfl) (fun _ _ _ h => h) (Or.inr ⟨by rfl, rfl⟩) (by assumption) ?_
      show wpAnyH _ _ _ _ _ _ _ (Act.put _ (some 35) _) _
      try simp only [Act.put]
      refine wpAnyH_take (i := 9) (v := undef) rfl (by kernel_rfl) (by kernel_rfl) (by kernel_rfl) (fun _ _ _ h => h) (Or.inr ⟨by rfl, rfl⟩) (by assumption) ?_
      show wpAnyH _ _ _ _ _ _ _ (Act.put _ (some 37) _) _
      try simp only [Act.put]
      refine wpAnyH_take (i := 8) (v := undef) rfl (by kernel_rfl) (by kernel_rfl) (by kernel_rfl) (fun _ _ _ h => h) (Or.inr ⟨by rfl, rfl⟩) (by assumption) ?_
      show wpAnyH _ _ _ _ _ _ _ (Act.put _ (some 36) _) _
      try simp only [Act.put]
      refine wpAnyH_take (i := 10) (v := undef) rfl (by kernel_rfl) (by kernel_rfl) (by kernel_rfl) (fun _ _ _ h => h) (Or.inr ⟨by rfl, rfl⟩) (by assumption) ?_
      show wpAnyH _ _ _ _ _ _ _ (Act.put _ (some 38) _) _
      try simp only [Act.put]
      refine wpAnyH_take (i := 11) (v := ?_) rfl (by kernel_rfl) (by kernel_rfl) (by kernel_rfl) (fun _ _ _ h => h) (Or.inl ⟨by rfl, ?_⟩) (by assumption) ?_
      case refine_2 => (intro w hSw; (try dsimp only at hSw); go_simp; try with_reducible rfl)
      show wpAnyH _ _ _ _ _ _ _ (Act.put _ (some 39) _) _
      try simp only [Act.put]
      refine wpAnyH_take (i := 12) (v := ?_) rfl (by kernel_rfl) (by kernel_rfl) (by kernel_rfl) (fun _ _ _ h => h) (Or.inl ⟨by rfl, ?_⟩) (by assumption) ?_
      case refine_2 => (intro w hSw; (try dsimp only at hSw); go_simp; try with_reducible rfl)
      show wpAnyH _ _ _ _ _ _ _ (Act.put _ (some 4) _) _
      try simp only [Act.put]
      refine wpAnyH_done (by kernel_rfl) ?_ _
      go_wp2
      go_ret
      refine ⟨?_, hHeld.1⟩
      rw [show standB B C.length i = true by simp [standB, fitAs, hkn, hf1]]
      kernel_rfl
    case false =>
      go_region_held3 (fun w' => Below w.heap.size w w' ∧ w'.cell? ⟨w.heap.size, 0, none⟩ = some (.slice (some ⟨b0, o0, none⟩) B.length c0) ∧ w'.cell? ⟨w.heap.size, 1, none⟩ = some (.slice (some ⟨b1, o1, none⟩) C.length c1) ∧ w'.cell? ⟨w1.heap.size, 0, none⟩ = some (.int .i64 (kd i.op 0)) ∧ w'.cell? ⟨w1.heap.size, 1, none⟩ = some (.int .i64 (kd i.op 1)) ∧ w'.cell? ⟨w1.heap.size, 2, none⟩ = some (.int .i64 (kd i.op 2)) ∧ w'.cell? ⟨w1.heap.size, 3, none⟩ = some (.int .i64 (kd i.op 3)) ∧ w'.cell? ⟨w1.heap.size, 4, none⟩ = some (.int .i64 (kd i.op 4)) ∧ w'.cell? ⟨w1.heap.size + 1, 0, none⟩ = some (.int .i64 i.dest) ∧ w'.cell? ⟨w1.heap.size + 1, 1, none⟩ = some (.int .i64 i.a) ∧ w'.cell? ⟨w1.heap.size + 1, 2, none⟩ = some (.int .i64 i.b) ∧ w'.cell? ⟨w1.heap.size + 1, 3, none⟩ = some (.int .i64 i.c) ∧ w'.cell? ⟨w1.heap.size + 1, 4, none⟩ = some (.int .i64 i.n))
      ((go_split_ands; refine ⟨?_, ?_, ?_, ?_, ?_, ?_, ?_, ?_, ?_, ?_, ?_, ?_, ?_⟩ <;> first | exact HW.out.drew | assumption | exact step_below (by assumption) (by assumption) | exact step_cell (by assumption) (by assumption) | go_keep))
      ((first | (go_at_call 102; refine (settle _ _ _ _ _ _ _).mono ?_; rintro e wa ⟨rfl, hba⟩; unfold fiveV) | (go_at_call 101; refine (fit b0 o0 c0 b1 o1 c1 B C _ _ _ _ _ _ _ _ _ _ _ hB hC ?_).mono ?_; (go_split_ands; exact h.later (by assumption)); rintro e wb ⟨rfl, hbb⟩; (try rw [hf1]))))
      go_wp2
      go_ret
      rename_i hHeldx
      exact ⟨ret_bool (by simp [standB, fitAs, hkn, hf1]), hHeldx.1⟩
end form
/- What layout.May answers. -/
namespace form
open Go.RowKit
def mayB (B : List Bool) (C : List LIns) : Bool := sizesB B C && C.all (standB B C.length)
theorem may_no (v : Value) (B : List Bool) (C : List LIns) (w : World) (h : ProgIs w v B C) (hs : sizesB B C = false) :
    Calls Tryz.prog 28 #[v] w fun e w' => e = .returned (.bool false) ∧ Below w.heap.size w w' := by
  obtain ⟨⟨a0, c0, a1, c1, rfl, -⟩, l0, l1, -⟩ := h
  have hs' : ¬ (1 ≤ B.length ∧ B.length ≤ 12 ∧ 1 ≤ C.length ∧ C.length ≤ 40) := by
    intro hh; unfold sizesB at hs; simp at hs; omega
  have HS : Hid _ := hs'
  clear hs hs'
  go_enter Tryz.func28, Tryz.ntmps28
  go_wp2_with (go_at_call 60; refine (within _ _ _).mono ?_; rintro e w' ⟨rfl, rfl⟩)
  all_goals first
    | (go_ret; exact ⟨rfl, (Below.refl _ _).alloc (Nat.le_refl _) _⟩)
    | (exfalso; apply HS.out; simp_all; omega)
set_option maxRecDepth 100000 in
set_option maxHeartbeats 1000000 in
theorem may_yes (b0 o0 c0 b1 o1 c1 : Nat) (B : List Bool) (C : List LIns) (w : World) (h : Held w b0 o0 b1 o1 B C) (hn : ∀ i, i < C.length → 0 ≤ (C.getD i .zero).n ∧ (C.getD i .zero).n < 4294967296) (hs : sizesB B C = true) :
    Calls Tryz.prog 28 #[progV b0 o0 B.length c0 b1 o1 C.length c1] w fun e w' => e = .returned (.bool (C.all (standB B C.length))) ∧ Below w.heap.size w w' := by
  obtain ⟨s1, s2, s3, s4⟩ := sizes_of hs
  have j1 : (1 : Int) ≤ (B.length : Int) := by omega
  have j2 : (B.length : Int) ≤ 12 := by omega
  have j3 : (1 : Int) ≤ (C.length : Int) := by omega
  have j4 : (C.length : Int) ≤ 40 := by omega
  unfold progV
  go_enter Tryz.func28, Tryz.ntmps28
  go_wp2_with (go_at_call 60; refine (within _ _ _).mono ?_; rintro e w' ⟨rfl, rfl⟩)
  go_loopw [20] (fun i wr => ∃ k : Nat, k ≤ C.length ∧ i = .int .i64 k ∧ Below w.heap.size w wr ∧ w.heap.size < wr.heap.size ∧
      wr.cell? ⟨w.heap.size, 0, none⟩ = some (.slice (some ⟨b0, o0, none⟩) B.length c0) ∧ wr.cell? ⟨w.heap.size, 1, none⟩ = some (.slice (some ⟨b1, o1, none⟩) C.length c1) ∧
      (∀ j, j < k → standB B C.length (C.getD j .zero) = true))
    (fun i _ => C.length - (intOf i).toNat)
  case atStart => exact ⟨0, by omega, rfl, (Below.refl _ _).alloc (Nat.le_refl _) _, by simp, by simp [go_sem], by simp [go_sem], fun j hj => absurd hj (by omega)⟩
  case round =>
    obtain ⟨k, hk, rfl, hbel, hsz, cp0, cp1, hall⟩ := hrel
    have F : Hid _ := hall
    have HN : Hid _ := hn
    clear hall hn
    have hh := h.later hbel
    by_cases hlt : k < C.length
    · obtain ⟨d0, d1, d2, d3, d4, d5⟩ := hh.code k hlt
      obtain ⟨n0, n1⟩ := HN.out k hlt
      obtain ⟨i, hi⟩ : ∃ i, i = C.getD k .zero := ⟨_, rfl⟩
      rw [← hi] at d0 d1 d2 d3 d4 d5 n0 n1
      have HI : Hid _ := hi
      clear hi
      go_wp2_with (go_at_call 61; refine (mayStand b0 o0 c0 b1 o1 c1 B C i _ s2 s4 ?_ n0 n1).mono ?_; (exact hh.alloc _); rintro e w1 ⟨rfl, hb1⟩)
      all_goals
        have hb2 := over_alloc hb1
        have hbel1 := step_below hb2 hbel
      · go_ret
        refine ⟨ret_bool ?_, hbel1⟩
        have hf : standB B C.length i = false := by simp_all
        rw [eq_comm, List.all_eq_false]
        refine ⟨i, ?_, by simp [hf]⟩
        rw [HI.out]
        simp [List.getD, hlt]
      · refine ⟨⟨k + 1, by omega, by go_num, hbel1, Nat.lt_of_lt_of_le hsz hb2.size, step_cell hb2 cp0, step_cell hb2 cp1, ?_⟩, by simp [intOf]; omega⟩
        intro j hj
        by_cases hjk : j < k
        · exact F.out j hjk
        · obtain rfl : j = k := by omega
          rw [← HI.out]
          simp_all
    · go_wp2
      go_ret
      exact ⟨ret_bool (by
        rw [List.all_eq_true.2]
        intro x hx
        obtain ⟨j, hj, rfl⟩ := List.getElem_of_mem hx
        have := F.out j (by omega)
        simpa [List.getD, hj] using this), hbel⟩
theorem may (v : Value) (B : List Bool) (C : List LIns) (w : World) (h : ProgIs w v B C) :
    Calls Tryz.prog 28 #[v] w fun e w' => e = .returned (.bool (mayB B C)) ∧ Below w.heap.size w w' := by
  cases hs : sizesB B C with
  | false => rw [show mayB B C = false by simp [mayB, hs]]; exact may_no v B C w h hs
  | true =>
    rw [show mayB B C = C.all (standB B C.length) by simp [mayB, hs]]
    obtain ⟨s1, s2, s3, s4⟩ := sizes_of hs
    obtain ⟨⟨a0, c0, a1, c1, rfl, hh⟩, l0, l1, hn⟩ := h
    obtain ⟨b0, o0, b1, o1, rfl, rfl, hH⟩ := hh s1 s3
    exact may_yes b0 o0 c0 b1 o1 c1 B C w hH hn hs
end form
/- The program's answer to whether an instruction may stand is the document's. -/
namespace form
theorem same_at (B : List Bool) (nC : Nat) (i : LIns) (n : Int) (hop : i.op = n) (hn : n = 1 ∨ n = 2 ∨ n = 3 ∨ n = 4 ∨ n = 5 ∨ n = 6 ∨ n = 7 ∨ n = 8 ∨ n = 9 ∨ n = 10) : standB B nC i = insB B nC i := by
  obtain ⟨op, d, a, b, c, N⟩ := i
  simp only at hop
  subst hop
  rw [Bool.eq_iff_iff]
  rcases hn with rfl | rfl | rfl | rfl | rfl | rfl | rfl | rfl | rfl | rfl
  all_goals simp [standB, fitAs, fit5, fitB, st, kd, knownB, insB, fieldB, lineB, widthsB, wl, wl0, wl1, givesB, manyI, bw]
  case inr.inl =>
    generalize B[d.toNat]?.getD false = x
    generalize B[a.toNat]?.getD false = y
    cases x <;> cases y <;> simp <;> omega
  all_goals
    generalize B[d.toNat]?.getD false = x
    generalize B[a.toNat]?.getD false = y
    generalize B[b.toNat]?.getD false = z
    constructor <;> intro h <;> simp_all
theorem same_narrow (B : List Bool) (nC : Nat) (i : LIns) (h1 : 21 ≤ i.op) (h2 : i.op ≤ 26) : standB B nC i = insB B nC i := by
  have hk := known_narrow i.op h1 h2
  have hd := kd_narrow i.op h1 h2
  have hg : givesB i.op = true := by unfold givesB; simp; omega
  have hm : manyI i.op = 2 := by unfold manyI; rw [if_neg (by omega), if_neg (by omega)]
  have hl : lineB nC i = (i.c == 0) := by unfold lineB; rw [if_neg (by omega)]
  have h1' : (i.op == 1) = false := by simp; omega
  have hw : widthsB B i = (wl B i).all (fun x => x == false) := by
    unfold widthsB
    rw [if_neg (by omega), if_neg (by omega), if_neg (by omega), show decide (40 < i.op) = false by simp; omega]
  rw [Bool.eq_iff_iff]
  simp [standB, fitAs, fit5, hk, hd, insB, hg, hm, hl, h1', hw, st, fitB, fieldB, wl, wl0, wl1, bw]
  clear hw
  generalize B[i.dest.toNat]?.getD false = x
  generalize B[i.a.toNat]?.getD false = y
  generalize B[i.b.toNat]?.getD false = z
  constructor <;> intro h <;> simp_all
theorem same_wide (B : List Bool) (nC : Nat) (i : LIns) (h1 : 41 ≤ i.op) (h2 : i.op ≤ 45) : standB B nC i = insB B nC i := by
  have hk := known_wide i.op h1 h2
  have hd := kd_wide i.op h1 h2
  have hg : givesB i.op = true := by unfold givesB; simp; omega
  have hm : manyI i.op = 2 := by unfold manyI; rw [if_neg (by omega), if_neg (by omega)]
  have hl : lineB nC i = (i.c == 0) := by unfold lineB; rw [if_neg (by omega)]
  have h1' : (i.op == 1) = false := by simp; omega
  have hw : widthsB B i = (wl B i).all (fun x => x == true) := by
    unfold widthsB
    rw [if_neg (by omega), if_neg (by omega), if_neg (by omega), show decide (40 < i.op) = true by simp; omega]
  rw [Bool.eq_iff_iff]
  simp [standB, fitAs, fit5, hk, hd, insB, hg, hm, hl, h1', hw, st, fitB, fieldB, wl, wl0, wl1, bw]
  clear hw
  generalize B[i.dest.toNat]?.getD false = x
  generalize B[i.a.toNat]?.getD false = y
  generalize B[i.b.toNat]?.getD false = z
  constructor <;> intro h <;> simp_all
theorem stand_ins (B : List Bool) (nC : Nat) (i : LIns) : standB B nC i = insB B nC i := by
  cases hk : knownB i.op with
  | false => simp [standB, insB, hk]
  | true =>
    have hk' := hk
    unfold knownB at hk'
    simp at hk'
    rcases hk' with (⟨h1, h2⟩ | ⟨h1, h2⟩) | ⟨h1, h2⟩
    · exact same_at B nC i i.op rfl (by omega)
    · exact same_narrow B nC i h1 h2
    · exact same_wide B nC i h1 h2
theorem may_same (B : List Bool) (C : List LIns) : mayB B C = refMayB B C := by
  unfold mayB refMayB
  rw [show standB B C.length = insB B C.length from funext (stand_ins B C.length)]
end form
/- What the program tells of what is needed (live.nothing, live.Of): rows of truths, the least ones. -/
namespace form
open Go.RowKit
attribute [local go_sem ↓] Go.wp_at_zero Go.wp_at_succ
theorem made_rows (n : Nat) : madeCells #[Value.slice none 0 0] n = (List.replicate n (Value.slice none 0 0)).toArray := by
  apply Array.toList_inj.1
  rw [toList_madeCells_one]
structure NoS (w : World) (g nB nC k : Nat) (wr : World) : Prop where
  bel : Below w.heap.size w wr
  size : wr.heap.size = g + 1 + k
  top : ∃ vs : List Value, vs.length = nC ∧ Row wr g 25 vs ∧ ∀ j, j < k → vs[j]? = some (.slice (some ⟨g + 1 + j, 0, none⟩) nB nB)
  row : ∀ j, j < k → Row wr (g + 1 + j) 4 ((List.replicate nB false).map Value.bool)
set_option maxRecDepth 100000 in
theorem nothing (b0 o0 c0 b1 o1 c1 : Nat) (B : List Bool) (C : List LIns) (w : World) (hB : B.length ≤ 12) (hC : C.length ≤ 40) :
    Calls Tryz.prog 55 #[progV b0 o0 B.length c0 b1 o1 C.length c1] w fun e w' => e = .returned (.slice (some ⟨w.heap.size + 1, 0, none⟩) C.length C.length) ∧ MatF (w.heap.size + 1) B.length C.length (List.replicate (C.length * B.length) false) w' ∧ Below w.heap.size w w' := by
  have hmk := fun wx => run_make_row' (P := Tryz.prog) 25 4 (.bool false) 1 Tryz.underlying25 infBool rfl .i64 .i64 B.length (by omega) (by omega) wx
  have hmk2 := fun wx => run_make_row' (P := Tryz.prog) 39 25 (.slice none 0 0) 24 Tryz.underlying39 infRow rfl .i64 .i64 C.length (by omega) (by omega) wx
  have y2 : (C.length : Int) ≤ 40 := by omega
  have y3 : (B.length : Int) ≤ 12 := by omega
  unfold progV
  go_enter Tryz.func55, Tryz.ntmps55
  go_wp2
  go_loopw [11] (fun kv wr => ∃ k : Nat, kv = .int .i64 k ∧ k ≤ C.length ∧ wr.cell? ⟨w.heap.size, 0, none⟩ = some (.slice (some ⟨b0, o0, none⟩) B.length c0) ∧ NoS w (w.heap.size + 1) B.length C.length k wr) (fun kv _ => C.length - (intOf kv).toNat)
  case atStart =>
    refine ⟨0, rfl, by omega, by simp [go_sem], ((Below.refl _ _).alloc (Nat.le_refl _) _).alloc (by simp) _, by simp, ⟨List.replicate C.length (.slice none 0 0), by simp, ?_, fun j hj => absurd hj (by omega)⟩, fun j hj => absurd hj (by omega)⟩
    rw [made_rows]
    have := Row.new (w.alloc (.cells #[.slice (some ⟨b0, o0, none⟩) B.length c0, .slice (some ⟨b1, o1, none⟩) C.length c1] 28)) 25 (List.replicate C.length (.slice none 0 0))
    simpa using this
  case round =>
    obtain ⟨k, rfl, hk, p0, hno⟩ := hrel
    have HNO : Hid (NoS w (w.heap.size + 1) B.length C.length k wr) := hno
    have hz := hno.size
    obtain ⟨vs, hvl, hvr, hvk⟩ := hno.top
    clear hno
    have HVR : Hid (Row wr (w.heap.size + 1) 25 vs) := hvr
    have HVK : Hid (∀ j, j < k → vs[j]? = some (.slice (some ⟨w.heap.size + 1 + 1 + j, 0, none⟩) B.length B.length)) := hvk
    clear hvk
    by_cases hlt : k < C.length
    case neg =>
      have y9 : ¬ (k : Int) < (C.length : Int) := by omega
      obtain rfl : k = C.length := by omega
      clear hvr
      go_wp2
      go_ret
      refine ⟨rfl, ⟨by simp, fun j hj => ?_, fun j hj => ?_⟩, HNO.out.bel⟩
      · rw [HVR.out.cell]; exact HVK.out j hj
      · have := HNO.out.row j hj
        rwa [show rowF B.length (List.replicate (C.length * B.length) false) j = List.replicate B.length false by
          apply List.ext_getElem (by simp [rowF])
          intro q h1 h2
          simp [rowF, getF_nothing]]
    have y8 : (k : Int) < (C.length : Int) := by omega
    have y7 : (0 : Int) ≤ (k : Int) := by omega
    obtain ⟨u0, ck⟩ : ∃ u0, wr.cell? ⟨w.heap.size + 1, k, none⟩ = some u0 := ⟨vs[k]'(by omega), by rw [hvr.cell]; simp⟩
    have fz := hvr.frozen k
    have hgz : w.heap.size + 1 < wr.heap.size := by omega
    have HZ : Hid (wr.heap.size = w.heap.size + 1 + 1 + k) := hz
    clear hvr hz
    go_wp2
    obtain ⟨W1, hW1⟩ : ∃ W1, W1 = wr.setCell ⟨w.heap.size + 1, k, none⟩ (.slice (some ⟨wr.heap.size, 0, none⟩) B.length B.length) := ⟨_, rfl⟩
    have hz1 : W1.heap.size = wr.heap.size := by rw [hW1]; simp
    have hbn : Below W1.heap.size W1 (W1.alloc (.cells (madeCells #[.bool false] B.length) 4)) := (Below.refl _ _).alloc (Nat.le_refl _) _
    have hrn := Row.new W1 4 ((List.replicate B.length false).map Value.bool)
    rw [← made_bool] at hrn
    have q0 : W1.cell? ⟨w.heap.size, 0, none⟩ = some (.slice (some ⟨b0, o0, none⟩) B.length c0) := by rw [hW1]; exact cell_other p0 (by simp)
    have q1 : Below w.heap.size w W1 := by rw [hW1]; exact HNO.out.bel.setCell (by simp) _
    have q2 : Row W1 (w.heap.size + 1) 25 (vs.set k (.slice (some ⟨wr.heap.size, 0, none⟩) B.length B.length)) := by rw [hW1]; exact HVR.out.set k _
    have q3 : ∀ j, j < k → Row W1 (w.heap.size + 1 + 1 + j) 4 ((List.replicate B.length false).map Value.bool) := fun j hj => by rw [hW1]; exact (HNO.out.row j hj).other (by simp; omega) _
    rw [← hW1]
    refine ⟨⟨k + 1, by go_num, by omega, step_cell hbn q0, ?_⟩, by simp [intOf]; omega⟩
    refine ⟨step_below hbn q1, by simp [hz1, HZ.out]; omega, ⟨vs.set k (.slice (some ⟨wr.heap.size, 0, none⟩) B.length B.length), by simp [hvl], q2.below hbn, fun j hj => ?_⟩, fun j hj => ?_⟩
    · by_cases hjk : j = k
      · subst hjk
        rw [List.getElem?_set_self (by omega), HZ.out]
      · rw [List.getElem?_set_ne (Ne.symm hjk)]
        exact HVK.out j (by omega)
    · by_cases hjk : j = k
      · subst hjk
        rw [← HZ.out, ← hz1]
        exact hrn
      · exact (q3 j (by omega)).below hbn
theorem all_known {B : List Bool} {C : List LIns} (h : refMayB B C = true) : ∀ k, k < C.length → knownB (C.getD k .zero).op = true := by
  unfold refMayB at h
  simp only [Bool.and_eq_true] at h
  intro k hk
  have := List.all_eq_true.1 h.2 (C.getD k .zero) (by simp [List.getD, hk])
  unfold insB at this
  simp only [Bool.and_eq_true] at this
  obtain ⟨⟨⟨⟨⟨⟨hk, _⟩, hd⟩, ha⟩, hb⟩, hl⟩, _⟩ := this
  exact hk
def OwnAnsF (lo nB : Nat) (C : List LIns) (e : Ending) (w : World) : Prop := ∃ g L, lo ≤ g ∧ e = .returned (.tuple #[.slice (some ⟨g, 0, none⟩) C.length C.length, .int .i64 0]) ∧ MatF g nB C.length L w ∧ Snd nB C L ∧ Cls nB C L
def trueAt (w : World) (a : Addr) : Nat := match w.cell? a with
  | some (.bool true) => 1
  | _ => 0
def cntF (g nB nC : Nat) (w : World) : Nat := ((List.range (nC * nB)).map fun q => trueAt w ⟨g + 1 + q / nB, q % nB, none⟩).sum
theorem count_sum (L : List Bool) : ((List.range L.length).map fun q => if L.getD q false = true then 1 else 0).sum = L.count true := by
  induction L with
  | nil => rfl
  | cons b L ih =>
    rw [List.length_cons, List.range_succ_eq_map, List.map_cons, List.sum_cons, List.map_map]
    have e : ((fun q => if (b :: L).getD q false = true then 1 else 0) ∘ Nat.succ) = fun q => if L.getD q false = true then 1 else 0 := by funext q; simp
    rw [e, ih]
    cases b <;> simp [Nat.add_comm]
theorem MatF.cnt {g nB nC : Nat} {L : List Bool} {w : World} (h : MatF g nB nC L w) : cntF g nB nC w = L.count true := by
  rw [← count_sum]
  unfold cntF
  rw [h.len]
  congr 1
  apply List.map_congr_left
  intro q hq
  have hq' : q < nC * nB := by simpa using hq
  have hB : 0 < nB := by
    rcases Nat.eq_zero_or_pos nB with e | e
    · rw [e] at hq'; simp at hq'
    · exact e
  have h1 : q / nB < nC := Nat.div_lt_of_lt_mul (by rw [Nat.mul_comm]; exact hq')
  have h2 : q % nB < nB := Nat.mod_lt _ hB
  have hc := h.cell h1 h2
  have hd : q / nB * nB + q % nB = q := by rw [Nat.mul_comm]; exact Nat.div_add_mod q nB
  unfold getF at hc
  rw [hd] at hc
  unfold trueAt
  rw [hc]
  cases L.getD q false <;> simp
theorem count_le_flat {nB nC : Nat} {L : List Bool} (h : L.length = nC * nB) : L.count true ≤ nC * nB := by rw [← h]; exact List.count_le_length
set_option maxRecDepth 100000 in
set_option maxHeartbeats 1000000 in
theorem own_yesF (b0 o0 c0 b1 o1 c1 : Nat) (B : List Bool) (C : List LIns) (w : World) (h : Held w b0 o0 b1 o1 B C) (hn : ∀ i, i < C.length → 0 ≤ (C.getD i .zero).n ∧ (C.getD i .zero).n < 4294967296) (hm : refMayB B C = true) :
    Calls Tryz.prog 23 #[progV b0 o0 B.length c0 b1 o1 C.length c1] w fun e w' => OwnAnsF w.heap.size B.length C e w' ∧ Below w.heap.size w w' := by
  have hs : sizesB B C = true := by unfold refMayB at hm; simp only [Bool.and_eq_true] at hm; exact hm.1
  obtain ⟨s1, s2, s3, s4⟩ := sizes_of hs
  have hok := all_insOk hm hn
  have hkn := all_known hm
  have hmay : mayB B C = true := by rw [may_same]; exact hm
  have HMAY : Hid (∀ wx : World, Below w.heap.size w wx → Calls Tryz.prog 28 #[progV b0 o0 B.length c0 b1 o1 C.length c1] wx fun e w' => e = .returned (.bool true) ∧ Below wx.heap.size wx w') := fun wx hb => by
    have := may (progV b0 o0 B.length c0 b1 o1 C.length c1) B C wx ⟨⟨_, _, _, _, rfl, fun _ _ => ⟨b0, o0, b1, o1, rfl, rfl, h.later hb⟩⟩, by omega, by omega, hn⟩
    rwa [hmay] at this
  have HNO : Hid (∀ wx : World, Calls Tryz.prog 55 #[progV b0 o0 B.length c0 b1 o1 C.length c1] wx fun e w' => e = .returned (.slice (some ⟨wx.heap.size + 1, 0, none⟩) C.length C.length) ∧ MatF (wx.heap.size + 1) B.length C.length (List.replicate (C.length * B.length) false) w' ∧ Below wx.heap.size wx w') := fun wx => nothing b0 o0 c0 b1 o1 c1 B C wx s2 s4
  have hh0 := h.lt0
  have hh1 := h.lt1
  have HSP : Hid (∀ (g : Nat) (wx : World) (L : List Bool), w.heap.size ≤ g → Below w.heap.size w wx → MatF g B.length C.length L wx → Snd B.length C L → Calls Tryz.prog 56 #[progV b0 o0 B.length c0 b1 o1 C.length c1, .slice (some ⟨g, 0, none⟩) C.length C.length] wx fun e w' => SpreadAns B.length C g L e w' ∧ Below g wx w') := fun g wx L hg hb hM hS => spread g b0 o0 c0 b1 o1 c1 B C L wx s2 s4 (by omega) (by omega) (h.later hb) hok hkn hM hS s3
  clear h hn hm hs hok hkn hmay
  unfold progV
  go_enter Tryz.func23, Tryz.ntmps23
  go_wp2_with (first
    | (go_at_call 28; refine (HMAY.out _ ?_).mono ?_; (exact (Below.refl _ _).alloc (Nat.le_refl _) _); rintro e w1 ⟨rfl, hb1⟩; have p0 : w1.cell? ⟨w.heap.size, 0, none⟩ = some (.slice (some ⟨b0, o0, none⟩) B.length c0) := step_cell hb1 (by simp [go_sem]); have p1 : w1.cell? ⟨w.heap.size, 1, none⟩ = some (.slice (some ⟨b1, o1, none⟩) C.length c1) := step_cell hb1 (by simp [go_sem]); have HB1 : Hid (Below w.heap.size w w1) := over_alloc hb1; clear hb1)
    | (go_at_call 55; refine (HNO.out _).mono ?_; rintro e w2 ⟨rfl, hM2, hb2⟩; have HM2 : Hid (MatF (w1.heap.size + 1) B.length C.length (List.replicate (C.length * B.length) false) w2) := hM2; have HB2 : Hid (Below w1.heap.size w1 w2) := hb2; clear hM2 hb2))
  have hz1 : w.heap.size < w1.heap.size := World.block_lt_of_cell? w1 _ p0
  obtain ⟨g, hg⟩ : ∃ g, g = w1.heap.size + 1 := ⟨_, rfl⟩
  rw [← hg] at HM2 ⊢
  have HG : Hid (g = w1.heap.size + 1) := hg
  clear hg
  go_loopw [] (fun wr => ∃ L : List Bool, MatF g B.length C.length L wr ∧ Snd B.length C L ∧ Below w.heap.size w wr ∧ wr.cell? ⟨w.heap.size, 0, none⟩ = some (.slice (some ⟨b0, o0, none⟩) B.length c0) ∧ wr.cell? ⟨w.heap.size, 1, none⟩ = some (.slice (some ⟨b1, o1, none⟩) C.length c1)) (fun wr => C.length * B.length - cntF g B.length C.length wr)
  case atStart => exact ⟨_, HM2.out, snd_nothing _ _, step_below HB2.out HB1.out, step_cell HB2.out p0, step_cell HB2.out p1⟩
  case round =>
    clear HB1 HB2 HM2 p0 p1
    obtain ⟨L, hM, hS, hb, p0, p1⟩ := hrel
    have HM : Hid (MatF g B.length C.length L wr) := hM
    have HS : Hid (Snd B.length C L) := hS
    have HB : Hid (Below w.heap.size w wr) := hb
    have HCN : Hid (cntF g B.length C.length wr = L.count true) := hM.cnt
    clear hM hS hb
    have hgz : w.heap.size < g := by have := HG.out; omega
    go_wp2_with (go_at_call 56; refine (HSP.out g _ L (by omega) HB.out HM.out HS.out).mono ?_; rintro e w3 ⟨⟨m, L', rfl, hM', hsp⟩, hb3⟩; have HM3 : Hid (MatF g B.length C.length L' w3) := hM'; have HSPS : Hid (SpS B.length C L (fun _ _ => True) m L') := hsp; have HB3 : Hid (Below g wr w3) := hb3; clear hM' hsp hb3)
    · have hmt : m = true := by assumption
      have c1 := HM3.out.cnt
      have c2 := HSPS.out.yes hmt
      have c3 := count_le_flat HM3.out.len
      refine ⟨⟨L', HM3.out, HSPS.out.snd, HB.out.trans (HB3.out.mono (by omega)), ?_, ?_⟩, ?_⟩
      · rw [HB3.out.cell (by show w.heap.size < g; exact hgz)]; exact p0
      · rw [HB3.out.cell (by show w.heap.size < g; exact hgz)]; exact p1
      · rw [c1, HCN.out]; omega
    · have hmf : m = false := by simp_all
      obtain ⟨e1, e2⟩ := HSPS.out.no hmf
      have hcl : Cls B.length C L' := fun k t hk ht hg => e2 k t hk ht trivial hg
      refine bodyPost_ret (v := .tuple #[.slice (some ⟨g, 0, none⟩) C.length C.length, .int .i64 0]) ?_ rfl ⟨⟨g, L', by omega, rfl, HM3.out, HSPS.out.snd, hcl⟩, HB.out.trans (HB3.out.mono (by omega))⟩
      simp [results, Tryz.results23, go_sem]
theorem own_no (v : Value) (B : List Bool) (C : List LIns) (w : World) (h : ProgIs w v B C) (hm : refMayB B C = false) :
    Calls Tryz.prog 23 #[v] w fun e w' => e = .returned (.tuple #[.slice none 0 0, .int .i64 2]) ∧ Below w.heap.size w w' := by
  have hmay : mayB B C = false := by rw [may_same]; exact hm
  have h0 := h
  obtain ⟨⟨a0, c0, a1, c1, rfl, -⟩, -, -, -⟩ := h0
  have HMAY : Hid (∀ wx : World, Below w.heap.size w wx → Calls Tryz.prog 28 #[.agg #[.slice a0 B.length c0, .slice a1 C.length c1]] wx fun e w' => e = .returned (.bool false) ∧ Below wx.heap.size wx w') := fun wx hb => by
    have := may _ B C wx (h.later hb)
    rwa [hmay] at this
  clear h hm hmay
  go_enter Tryz.func23, Tryz.ntmps23
  go_wp2_with (go_at_call 28; refine (HMAY.out _ ?_).mono ?_; (exact (Below.refl _ _).alloc (Nat.le_refl _) _); rintro e w1 ⟨rfl, hb1⟩; have HB1 : Hid (Below w.heap.size w w1) := over_alloc hb1; clear hb1)
  refine bodyPost_ret (v := .tuple #[.slice none 0 0, .int .i64 2]) ?_ rfl ⟨rfl, HB1.out⟩
  simp [results, Tryz.results23, go_sem]
end form
/- What may not be in one place, the program's own: rows of nothing (near.none), and what is needed from the beginning on (near.joinFirst). -/
namespace form
open Go.RowKit
attribute [local go_sem ↓] Go.wp_at_zero Go.wp_at_succ
set_option maxRecDepth 100000 in
theorem none5 (n : Nat) (w : World) (hn : n ≤ 12) :
    Calls Tryz.prog 24 #[.int .i64 n] w fun e w' => e = .returned (.slice (some ⟨w.heap.size, 0, none⟩) n n) ∧ MatF w.heap.size n n (List.replicate (n * n) false) w' ∧ Below w.heap.size w w' := by
  have hmk := fun wx => run_make_row' (P := Tryz.prog) 25 4 (.bool false) 1 Tryz.underlying25 infBool rfl .i64 .i64 n (by omega) (by omega) wx
  have hmk2 := fun wx => run_make_row' (P := Tryz.prog) 39 25 (.slice none 0 0) 24 Tryz.underlying39 infRow rfl .i64 .i64 n (by omega) (by omega) wx
  have y2 : (n : Int) ≤ 12 := by omega
  go_enter Tryz.func24, Tryz.ntmps24
  go_wp2
  go_loopw [9] (fun kv wr => ∃ k : Nat, kv = .int .i64 k ∧ k ≤ n ∧ NoS w w.heap.size n n k wr) (fun kv _ => n - (intOf kv).toNat)
  case atStart =>
    refine ⟨0, rfl, by omega, (Below.refl _ _).alloc (Nat.le_refl _) _, by simp, ⟨List.replicate n (.slice none 0 0), by simp, ?_, fun j hj => absurd hj (by omega)⟩, fun j hj => absurd hj (by omega)⟩
    rw [made_rows]
    exact Row.new w 25 (List.replicate n (.slice none 0 0))
  case round =>
    obtain ⟨k, rfl, hk, hno⟩ := hrel
    have HNO : Hid (NoS w w.heap.size n n k wr) := hno
    have hz := hno.size
    obtain ⟨vs, hvl, hvr, hvk⟩ := hno.top
    clear hno
    have HVR : Hid (Row wr w.heap.size 25 vs) := hvr
    have HVK : Hid (∀ j, j < k → vs[j]? = some (.slice (some ⟨w.heap.size + 1 + j, 0, none⟩) n n)) := hvk
    clear hvk
    by_cases hlt : k < n
    case neg =>
      have y9 : ¬ (k : Int) < (n : Int) := by omega
      obtain rfl : k = n := by omega
      clear hvr
      go_wp2
      go_ret
      refine ⟨rfl, ⟨by simp, fun j hj => ?_, fun j hj => ?_⟩, HNO.out.bel⟩
      · rw [HVR.out.cell]; exact HVK.out j hj
      · have := HNO.out.row j hj
        rwa [show rowF k (List.replicate (k * k) false) j = List.replicate k false by
          apply List.ext_getElem (by simp [rowF])
          intro q h1 h2
          simp [rowF, getF_nothing]]
    have y8 : (k : Int) < (n : Int) := by omega
    have y7 : (0 : Int) ≤ (k : Int) := by omega
    obtain ⟨u0, ck⟩ : ∃ u0, wr.cell? ⟨w.heap.size, k, none⟩ = some u0 := ⟨vs[k]'(by omega), by rw [hvr.cell]; simp⟩
    have fz := hvr.frozen k
    have hgz : w.heap.size < wr.heap.size := by omega
    have HZ : Hid (wr.heap.size = w.heap.size + 1 + k) := hz
    clear hvr hz
    go_wp2
    obtain ⟨W1, hW1⟩ : ∃ W1, W1 = wr.setCell ⟨w.heap.size, k, none⟩ (.slice (some ⟨wr.heap.size, 0, none⟩) n n) := ⟨_, rfl⟩
    have hz1 : W1.heap.size = wr.heap.size := by rw [hW1]; simp
    have hbn : Below W1.heap.size W1 (W1.alloc (.cells (madeCells #[.bool false] n) 4)) := (Below.refl _ _).alloc (Nat.le_refl _) _
    have hrn := Row.new W1 4 ((List.replicate n false).map Value.bool)
    rw [← made_bool] at hrn
    have q1 : Below w.heap.size w W1 := by rw [hW1]; exact HNO.out.bel.setCell (by simp) _
    have q2 : Row W1 w.heap.size 25 (vs.set k (.slice (some ⟨wr.heap.size, 0, none⟩) n n)) := by rw [hW1]; exact HVR.out.set k _
    have q3 : ∀ j, j < k → Row W1 (w.heap.size + 1 + j) 4 ((List.replicate n false).map Value.bool) := fun j hj => by rw [hW1]; exact (HNO.out.row j hj).other (by simp; omega) _
    rw [← hW1]
    refine ⟨⟨k + 1, by go_num, by omega, ?_⟩, by simp [intOf]; omega⟩
    refine ⟨step_below hbn q1, by simp [hz1, HZ.out]; omega, ⟨vs.set k (.slice (some ⟨wr.heap.size, 0, none⟩) n n), by simp [hvl], q2.below hbn, fun j hj => ?_⟩, fun j hj => ?_⟩
    · by_cases hjk : j = k
      · subst hjk
        rw [List.getElem?_set_self (by omega), HZ.out]
      · rw [List.getElem?_set_ne (Ne.symm hjk)]
        exact HVK.out j (by omega)
    · by_cases hjk : j = k
      · subst hjk
        rw [← HZ.out, ← hz1]
        exact hrn
      · exact (q3 j (by omega)).below hbn
structure NM (w : World) (gn bx nB : Nat) (L : List Bool) (wr : World) : Prop where
  bel : Apart gn (gn + 1 + nB) w wr
  mat : MatF gn nB nB L wr
  box : wr.cell? ⟨bx, 0, none⟩ = some (.slice (some ⟨gn, 0, none⟩) nB nB)
theorem NM.join {w wr w1 : World} {gn bx nB : Nat} {L L' : List Bool} (h : NM w gn bx nB L wr) (hxn : ¬ (gn ≤ bx ∧ bx < gn + 1 + nB)) (hM : MatF gn nB nB L' w1) (ha : Apart gn (gn + 1 + nB) wr w1) : NM w gn bx nB L' w1 :=
  ⟨h.bel.trans ha, hM, ha.cell h.box hxn⟩
theorem NM.below {w wr w1 : World} {gn bx nB : Nat} {L : List Bool} (h : NM w gn bx nB L wr) (hb : Below wr.heap.size wr w1) : NM w gn bx nB L w1 :=
  ⟨h.bel.trans (Apart.of_below hb), h.mat.below hb, step_cell hb h.box⟩
def FirstP (P : Nat → Nat → Prop) (r : List Bool) (i : Nat) (x y : Nat) : Prop := P x y ∨ (¬ x = y ∧ x < i ∧ y < i ∧ r.getD x false = true ∧ r.getD y false = true)
set_option maxRecDepth 100000 in
set_option maxHeartbeats 1000000 in
theorem joinFirst (gn bx bf nB : Nat) (r L0 : List Bool) (P : Nat → Nat → Prop) (w : World) (hB : nB ≤ 12) (hxn : ¬ (gn ≤ bx ∧ bx < gn + 1 + nB)) (hbf : bf < gn) (hr : ∀ j, j < nB → w.cell? ⟨bf, j, none⟩ = some (.bool (r.getD j false))) (hN : NM w gn bx nB L0 w) (hS : NrS nB L0 P) :
    Calls Tryz.prog 26 #[.slice (some ⟨bf, 0, none⟩) nB nB, .func (.func 25) #[] #[.pointer (some ⟨bx, 0, none⟩)]] w fun e w' => e = .returned (.tuple #[]) ∧ ∃ L, NM w gn bx nB L w' ∧ NrS nB L (FirstP P r nB) := by
  have HJ : Hid (∀ (wx : World) (L : List Bool) (a b : Nat), NM w gn bx nB L wx → a < nB → b < nB → Calls Tryz.prog 25 #[.int .i64 a, .int .i64 b, .pointer (some ⟨bx, 0, none⟩)] wx fun e w' => e = .returned (.tuple #[]) ∧ MatF gn nB nB (joinL nB L a b) w' ∧ Apart gn (gn + 1 + nB) wx w') :=
    fun wx L a b hm ha hb => Go.Proofs.YtgnhpfmdbclnkaaGreatDoor.form.join gn bx nB a b L wx hB hm.box hxn hm.mat ha hb
  have HR : Hid (∀ (wx : World) (L : List Bool) (j : Nat), NM w gn bx nB L wx → j < nB → wx.cell? ⟨bf, j, none⟩ = some (.bool (r.getD j false))) := fun wx L j hm hj => hm.bel.cell (hr j hj) (by dsimp only; omega)
  have HN0 : Hid (NM w gn bx nB L0 w) := hN
  have HS0 : Hid (NrS nB L0 P) := hS
  have y4 : (nB : Int) ≤ 12 := by omega
  clear hr hN hS
  go_enter Tryz.func26, Tryz.ntmps26
  go_wp2
  go_loopw [8] (fun iv wr => ∃ (i : Nat) (L : List Bool), iv = .int .i64 i ∧ i ≤ nB ∧ NM w gn bx nB L wr ∧ NrS nB L (FirstP P r i)) (fun iv _ => nB - (intOf iv).toNat)
  case atStart => exact ⟨0, L0, rfl, by omega, HN0.out, HS0.out.congr fun x y _ _ => by unfold FirstP; grind⟩
  case round =>
    obtain ⟨i, L, rfl, hi, hnm, hns⟩ := hrel
    have HNM : Hid (NM w gn bx nB L wr) := hnm
    have HNS : Hid (NrS nB L (FirstP P r i)) := hns
    clear hnm hns
    by_cases hlt : i < nB
    case neg =>
      have y9 : ¬ (i : Int) < (nB : Int) := by omega
      obtain rfl : i = nB := by omega
      go_wp2
      go_end0
      exact ⟨rfl, L, HNM.out, HNS.out⟩
    have y8 : (i : Int) < (nB : Int) := by omega
    have y7 : (0 : Int) ≤ (i : Int) := by omega
    go_wp2
    go_loopw [12] (fun jv wr2 => ∃ (j : Nat) (L : List Bool), jv = .int .i64 j ∧ j ≤ i ∧ NM w gn bx nB L wr2 ∧ NrS nB L (JoinP (FirstP P r i) i (fun y => y < j ∧ r.getD i false = true ∧ r.getD y false = true))) (fun jv _ => i - (intOf jv).toNat)
    case atStart => exact ⟨0, L, rfl, by omega, HNM.out, HNS.out.congr fun x y _ _ => by unfold JoinP; grind⟩
    case round =>
      clear HNM HNS
      obtain ⟨j, L, rfl, hj, hnm, hns⟩ := hrel
      have HNM : Hid (NM w gn bx nB L wr) := hnm
      have HNS : Hid (NrS nB L (JoinP (FirstP P r i) i (fun y => y < j ∧ r.getD i false = true ∧ r.getD y false = true))) := hns
      clear hnm hns
      by_cases hjt : j < i
      case neg =>
        have z9 : ¬ (j : Int) < (i : Int) := by omega
        go_wp2
        go_roundw
        case rel => exact ⟨i + 1, L, by go_num, by omega, HNM.out, HNS.out.congr fun x y _ _ => by unfold JoinP FirstP; grind⟩
        case measure => simp [intOf]; omega
      have z8 : (j : Int) < (i : Int) := by omega
      have z7 : (0 : Int) ≤ (j : Int) := by omega
      have z6 : (j : Int) < (nB : Int) := by omega
      have k1 := HR.out wr L i HNM.out hlt
      have k2 := HR.out wr L j HNM.out (by omega)
      obtain ⟨u, hu⟩ : ∃ u, u = r.getD i false := ⟨_, rfl⟩
      obtain ⟨v, hv⟩ : ∃ v, v = r.getD j false := ⟨_, rfl⟩
      rw [← hu] at k1
      rw [← hv] at k2
      have HU : Hid (r.getD i false = u) := hu.symm
      have HV : Hid (r.getD j false = v) := hv.symm
      clear hu hv
      cases u with
      | false =>
        go_wp2
        refine ⟨⟨j + 1, L, by go_num, by omega, HNM.out, HNS.out.congr fun x y _ _ => ?_⟩, by simp [intOf]; omega⟩
        have := HU.out
        unfold JoinP
        grind
      | true =>
        cases v with
        | false =>
          go_wp2
          refine ⟨⟨j + 1, L, by go_num, by omega, HNM.out, HNS.out.congr fun x y _ _ => ?_⟩, by simp [intOf]; omega⟩
          have := HV.out
          unfold JoinP
          grind
        | true =>
          go_wp2_with (go_at_call 25; refine (HJ.out _ L i j HNM.out hlt (by omega)).mono ?_; rintro e w1 ⟨rfl, hM1, hA1⟩; have HNM1 : Hid (NM w gn bx nB (joinL nB L i j) w1) := HNM.out.join hxn hM1 hA1; clear hM1 hA1)
          refine ⟨⟨j + 1, joinL nB L i j, by go_num, by omega, HNM1.out, (HNS.out.join hlt (by omega)).congr fun x y _ _ => ?_⟩, by simp [intOf]; omega⟩
          have h1 := HU.out
          have h2 := HV.out
          unfold JoinP
          grind
end form
end Go.Proofs.YtgnhpfmdbclnkaaGreatDoor
