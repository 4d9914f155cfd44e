/- What loanbookref2.May answers. -/
import Derived.Test.YtepfegfacdbhbabFormIns
namespace Go.Proofs.Ytepfegfacdbhbab.form
open Go.RowKit
set_option linter.unusedVariables false
attribute [local go_sem ↓] Go.wp_at_zero Go.wp_at_succ

def refMayB (B : List Bool) (C : List LIns) : Bool := sizesB B C && C.all (insB B C.length)

theorem refMay_no (v : Value) (B : List Bool) (C : List LIns) (w : World) (h : ProgIs w v B C) (hs : sizesB B C = false) :
    Calls Try.prog 12 #[v] w fun e w' => e = .returned (.bool false) ∧ Below w.heap.size w w' := by
  obtain ⟨⟨a0, c0, a1, c1, rfl, -⟩, l0, l1, -⟩ := h
  have hs' : ¬ (1 ≤ B.length ∧ B.length ≤ 12 ∧ 1 ≤ C.length ∧ C.length ≤ 40) := by
    intro hh; unfold sizesB at hs; simp at hs; omega
  have HS : Hid _ := hs'
  clear hs hs'
  by_cases x1 : (B.length : Int) < 1
  all_goals by_cases x2 : (12 : Int) < (B.length : Int)
  all_goals by_cases x3 : (C.length : Int) < 1
  all_goals by_cases x4 : (40 : Int) < (C.length : Int)
  all_goals first
    | (exfalso; omega)
    | (exfalso; apply HS.out; omega)
    | skip
  all_goals
    go_enter Try.func12, Try.ntmps12
    go_wp2
    go_ret
    exact ⟨rfl, (Below.refl _ _).alloc (Nat.le_refl _) _⟩

set_option maxRecDepth 100000 in
set_option maxHeartbeats 1000000 in
theorem refMay_yes (b0 o0 c0 b1 o1 c1 : Nat) (B : List Bool) (C : List LIns) (w : World) (h : Held w b0 o0 b1 o1 B C) (hn : ∀ i, i < C.length → 0 ≤ (C.getD i .zero).n ∧ (C.getD i .zero).n < 4294967296) (hs : sizesB B C = true) :
    Calls Try.prog 12 #[progV b0 o0 B.length c0 b1 o1 C.length c1] w fun e w' => e = .returned (.bool (C.all (insB B C.length))) ∧ Below w.heap.size w w' := by
  obtain ⟨s1, s2, s3, s4⟩ := sizes_of hs
  have j1 : (1 : Int) ≤ (B.length : Int) := by omega
  have j2 : (B.length : Int) ≤ 12 := by omega
  have j3 : (1 : Int) ≤ (C.length : Int) := by omega
  have j4 : (C.length : Int) ≤ 40 := by omega
  unfold progV
  go_enter Try.func12, Try.ntmps12
  go_wp2
  go_loopw [3] (fun i wr => ∃ k : Nat, k ≤ C.length ∧ i = .int .i64 k ∧ Below w.heap.size w wr ∧ w.heap.size < wr.heap.size ∧
      wr.cell? ⟨w.heap.size, 0, none⟩ = some (.slice (some ⟨b0, o0, none⟩) B.length c0) ∧ wr.cell? ⟨w.heap.size, 1, none⟩ = some (.slice (some ⟨b1, o1, none⟩) C.length c1) ∧
      (∀ j, j < k → insB B C.length (C.getD j .zero) = true))
    (fun i _ => C.length - (intOf i).toNat)
  case atStart => exact ⟨0, by omega, rfl, (Below.refl _ _).alloc (Nat.le_refl _) _, by simp, by simp [go_sem], by simp [go_sem], fun j hj => absurd hj (by omega)⟩
  case round =>
    obtain ⟨k, hk, rfl, hbel, hsz, cp0, cp1, hall⟩ := hrel
    have F : Hid _ := hall
    have HN : Hid _ := hn
    clear hall hn
    have hh := h.later hbel
    by_cases hlt : k < C.length
    · obtain ⟨d0, d1, d2, d3, d4, d5⟩ := hh.code k hlt
      obtain ⟨n0, n1⟩ := HN.out k hlt
      obtain ⟨i, hi⟩ : ∃ i, i = C.getD k .zero := ⟨_, rfl⟩
      rw [← hi] at d0 d1 d2 d3 d4 d5 n0 n1
      have HI : Hid (i = C.getD k .zero) := hi
      clear hi
      have y1 : (0 : Int) ≤ (k : Int) := by omega
      have y2 : (k : Int) < (C.length : Int) := by omega
      go_wp2
      go_region_held3 (fun w' => Below wr.heap.size wr w' ∧ w'.cell? ⟨w.heap.size, 0, none⟩ = some (.slice (some ⟨b0, o0, none⟩) B.length c0) ∧ w'.cell? ⟨w.heap.size, 1, none⟩ = some (.slice (some ⟨b1, o1, none⟩) C.length c1) ∧ w'.cell? ⟨b1, o1 + k * 6, none⟩ = some (.int .i64 i.op) ∧ w'.cell? ⟨b1, o1 + k * 6 + 1, none⟩ = some (.int .i64 i.dest) ∧ w'.cell? ⟨b1, o1 + k * 6 + 2, none⟩ = some (.int .i64 i.a) ∧ w'.cell? ⟨b1, o1 + k * 6 + 3, none⟩ = some (.int .i64 i.b) ∧ w'.cell? ⟨b1, o1 + k * 6 + 4, none⟩ = some (.int .i64 i.c) ∧ w'.cell? ⟨b1, o1 + k * 6 + 5, none⟩ = some (.int .u32 i.n))
        ((go_split_ands; refine ⟨?_, ?_, ?_, ?_, ?_, ?_, ?_, ?_, ?_⟩ <;> first | exact (Below.refl _ _).drew | exact ((Below.refl _ _).drew).trans hb1 | exact step_cell hb1 (by assumption) | go_keep))
        ((go_at_call 38; refine (ins b0 o0 c0 b1 o1 c1 B C i _ s2 s4 ?_ n0 n1).mono ?_; (exact hh.drew); rintro e w1 ⟨rfl, hb1⟩))
      rename_i hHeldx
      have hb2 : Below wr.heap.size wr w1 := hHeldx.1
      clear hHeldx hb1
      have hbel1 := step_below hb2 hbel
      have R : Hid _ := (⟨hbel1, Nat.lt_of_lt_of_le hsz hb2.size, step_cell hb2 cp0, step_cell hb2 cp1⟩ : _ ∧ _ ∧ _ ∧ _)
      clear hb2 hbel1 d0 d1 d2 d3 d4 d5 cp0 cp1
      go_wp2
      · go_ret
        refine ⟨ret_bool ?_, R.out.1⟩
        have hf : insB B C.length i = false := by simp_all
        rw [eq_comm, List.all_eq_false]
        refine ⟨i, ?_, by simp [hf]⟩
        rw [HI.out]
        simp [List.getD, hlt]
      · obtain ⟨r1, r2, r3, r4⟩ := R.out
        refine ⟨⟨k + 1, by omega, by go_num, r1, r2, r3, r4, ?_⟩, by simp [intOf]; omega⟩
        intro j hj
        by_cases hjk : j < k
        · exact F.out j hjk
        · obtain rfl : j = k := by omega
          rw [← HI.out]
          simp_all
    · go_wp2
      go_ret
      exact ⟨ret_bool (by
        rw [List.all_eq_true.2]
        intro x hx
        obtain ⟨j, hj, rfl⟩ := List.getElem_of_mem hx
        have := F.out j (by omega)
        simpa [List.getD, hj] using this), hbel⟩

/-- loanbookref2.May, whatever came in. -/
theorem refMay (v : Value) (B : List Bool) (C : List LIns) (w : World) (h : ProgIs w v B C) :
    Calls Try.prog 12 #[v] w fun e w' => e = .returned (.bool (refMayB B C)) ∧ Below w.heap.size w w' := by
  cases hs : sizesB B C with
  | false => rw [show refMayB B C = false by simp [refMayB, hs]]; exact refMay_no v B C w h hs
  | true =>
    rw [show refMayB B C = C.all (insB B C.length) by simp [refMayB, hs]]
    obtain ⟨s1, s2, s3, s4⟩ := sizes_of hs
    obtain ⟨⟨a0, c0, a1, c1, rfl, hh⟩, l0, l1, hn⟩ := h
    obtain ⟨b0, o0, b1, o1, rfl, rfl, hH⟩ := hh s1 s3
    exact refMay_yes b0 o0 c0 b1 o1 c1 B C w hH hn hs

end Go.Proofs.Ytepfegfacdbhbab.form
