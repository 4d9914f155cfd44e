/- What an instruction takes (loanbookref4.takes). -/
import Derived.Test.YtgeimilnddpdmabLiveNexts
namespace Go.Proofs.Ytgeimilnddpdmab.form
open Go.RowKit
set_option linter.unusedVariables false
attribute [local go_sem ↓] Go.wp_at_zero Go.wp_at_succ

set_option maxRecDepth 100000 in
theorem takes4 (i : LIns) (t : Int) (w : World) :
    Calls Try.prog 97 #[i.val, .int .i64 t] w fun e w' => e = .returned (.bool (takesI i t)) ∧ Below w.heap.size w w' := by
  obtain ⟨m, hm, hm2⟩ : ∃ m : Nat, manyI i.op = m ∧ m ≤ 2 := by
    rcases many_of i.op with h | h | h
    · exact ⟨0, h, by omega⟩
    · exact ⟨1, h, by omega⟩
    · exact ⟨2, h, by omega⟩
  rw [takes_of i m hm hm2 t]
  have HM : Hid (manyI i.op = m) := hm
  have z2 : (m : Int) ≤ 2 := by omega
  clear hm
  unfold LIns.val
  go_enter Try.func97, Try.ntmps97
  go_wp2_with (go_at_call 96; refine (uses i m HM.out _).mono ?_; rintro e w1 ⟨g, rfl, hb1, hg1, hg2, c0, c1⟩)
  have HB1 : Hid (Below w.heap.size w w1) := over_alloc hb1
  clear hb1
  go_loopw [6] (fun k wr => ∃ j : Nat, j ≤ m ∧ k = .int .i64 j ∧ wr = w1 ∧ (0 < j → (i.a == t) = false) ∧ (1 < j → (i.b == t) = false)) (fun k _ => m - (intOf k).toNat)
  case atStart => exact ⟨0, by omega, rfl, rfl, fun h => absurd h (by omega), fun h => absurd h (by omega)⟩
  case round =>
    obtain ⟨j, hj, rfl, rfl, h1, h2⟩ := hrel
    have H1 : Hid (0 < j → (i.a == t) = false) := h1
    have H2 : Hid (1 < j → (i.b == t) = false) := h2
    clear h1 h2
    by_cases hlt : j < m
    · rcases (show j = 0 ∨ j = 1 by omega) with rfl | rfl
      · have y1 : (0 : Int) < (m : Int) := by omega
        go_wp2
        · go_ret
          refine ⟨ret_bool ?_, HB1.out⟩
          have e : (i.a == t) = true := by assumption
          simp [e]; omega
        · have e : (i.a == t) = false := by assumption
          exact ⟨⟨1, by omega, by go_num, trivial, fun _ => e, fun h => absurd h (by omega)⟩, by simp [intOf]; omega⟩
      · have y1 : (1 : Int) < (m : Int) := by omega
        go_wp2
        · go_ret
          refine ⟨ret_bool ?_, HB1.out⟩
          have e : (i.b == t) = true := by assumption
          simp [e]; omega
        · have e : (i.b == t) = false := by assumption
          exact ⟨⟨2, by omega, by go_num, trivial, fun _ => H1.out (by omega), fun _ => e⟩, by simp [intOf]; omega⟩
    · have y1 : ¬ (j : Int) < (m : Int) := by omega
      go_wp2
      go_ret
      refine ⟨ret_bool ?_, HB1.out⟩
      obtain rfl : j = m := by omega
      rcases (show j = 0 ∨ j = 1 ∨ j = 2 by omega) with rfl | rfl | rfl
      · simp
      · have := H1.out (by omega); simp [this]
      · have := H1.out (by omega); have := H2.out (by omega); simp [*]

end Go.Proofs.Ytgeimilnddpdmab.form
