/- What layout's functions on an instruction's fields and ways answer (layout.isTemp, Has, leads). -/
import Derived.Test.YtcmnmogmdhofcaaFormFits
import Derived.Test.YtcmnmogmdhofcaaLiveFlat
import Derived.BigQuiet
import Derived.Deep.QuietTactic
namespace Go.Proofs.Ytcmnmogmdhofcaa.form
open Go.RowKit
set_option linter.unusedVariables false
attribute [local go_sem ↓] Go.wp_at_zero Go.wp_at_succ

def isT (k : Int) : Bool := k == 1 || k == 2 || k == 3

theorem isTemp (k : Int) (w : World) :
    Calls Try.prog 118 #[.int .i64 k] w fun e w' => e = .returned (.bool (isT k)) ∧ w' = w := by
  go_enter Try.func118, Try.ntmps118
  go_wp2
  all_goals
    go_ret
    exact ⟨ret_bool (by simp_all [isT]), rfl⟩

theorem isT_gives {op : Int} (h : knownB op = true) : isT (kd op 0) = givesB op := by
  unfold knownB at h
  simp at h
  unfold kd isT givesB
  rcases h with (h | h) | h
  · rcases (show op = 1 ∨ op = 2 ∨ op = 3 ∨ op = 4 ∨ op = 5 ∨ op = 6 ∨ op = 7 ∨ op = 8 ∨ op = 9 ∨ op = 10 by omega) with rfl | rfl | rfl | rfl | rfl | rfl | rfl | rfl | rfl | rfl <;> simp
  · rcases (show op = 21 ∨ op = 22 ∨ op = 23 ∨ op = 24 ∨ op = 25 ∨ op = 26 by omega) with rfl | rfl | rfl | rfl | rfl | rfl <;> simp
  · rcases (show op = 41 ∨ op = 42 ∨ op = 43 ∨ op = 44 ∨ op = 45 by omega) with rfl | rfl | rfl | rfl | rfl <;> simp
theorem isT_many {op : Int} (h : knownB op = true) : isT (kd op 1) = decide (0 < manyI op) ∧ isT (kd op 2) = decide (1 < manyI op) := by
  unfold knownB at h
  simp at h
  unfold kd isT manyI
  rcases h with (h | h) | h
  · rcases (show op = 1 ∨ op = 2 ∨ op = 3 ∨ op = 4 ∨ op = 5 ∨ op = 6 ∨ op = 7 ∨ op = 8 ∨ op = 9 ∨ op = 10 by omega) with rfl | rfl | rfl | rfl | rfl | rfl | rfl | rfl | rfl | rfl <;> simp
  · rcases (show op = 21 ∨ op = 22 ∨ op = 23 ∨ op = 24 ∨ op = 25 ∨ op = 26 by omega) with rfl | rfl | rfl | rfl | rfl | rfl <;> simp
  · rcases (show op = 41 ∨ op = 42 ∨ op = 43 ∨ op = 44 ∨ op = 45 by omega) with rfl | rfl | rfl | rfl | rfl <;> simp
theorem isT_takes {i : LIns} (h : knownB i.op = true) (t : Int) : takesI i t = (isT (kd i.op 1) && (i.a == t) || isT (kd i.op 2) && (i.b == t)) := by
  obtain ⟨m, hm, hm2⟩ : ∃ m : Nat, manyI i.op = m ∧ m ≤ 2 := by
    rcases many_of i.op with h | h | h
    · exact ⟨0, h, by omega⟩
    · exact ⟨1, h, by omega⟩
    · exact ⟨2, h, by omega⟩
  have hh := isT_many h
  rw [takes_of i m hm hm2 t, hh.1, hh.2, hm]
  rcases (show m = 0 ∨ m = 1 ∨ m = 2 by omega) with rfl | rfl | rfl <;> simp

set_option maxRecDepth 100000 in
theorem has (op : Int) (w : World) :
    Calls Try.prog 93 #[.int .i64 op] w fun e w' => e = .returned (.tuple #[.bool (isT (kd op 0)), .bool (isT (kd op 1)), .bool (isT (kd op 2))]) ∧ Below w.heap.size w w' := by
  go_enter Try.func93, Try.ntmps93
  go_wp2_with (go_at_call 74; refine (kindsOf _ _).mono ?_; rintro e w1 ⟨rfl, hb1⟩; unfold fiveV)
  go_quiet (first | (go_at_call_of 118 (Value.int .i64 (kd op 0)); exact Calls.quiet_of_same (isTemp _ _)) | (go_at_call_of 118 (Value.int .i64 (kd op 1)); exact Calls.quiet_of_same (isTemp _ _)) | (go_at_call_of 118 (Value.int .i64 (kd op 2)); exact Calls.quiet_of_same (isTemp _ _)))
  go_wp2
  refine bodyPost_ret (v := .tuple #[.bool (isT (kd op 0)), .bool (isT (kd op 1)), .bool (isT (kd op 2))]) ?_ rfl ⟨rfl, ?_⟩
  · simp [results, Try.results93, go_sem]
  · exact below_drewN (hb1.alloc hb1.size _) _

theorem leads (i : LIns) (pc : Nat) (hpc : pc ≤ 40) (w : World) :
    Calls Try.prog 120 #[i.val, .int .i64 pc] w fun e w' => (∃ v, e = .returned v ∧ IntsAt w.heap.size w' v (nextsI i pc)) ∧ Below w.heap.size w w' := by
  unfold LIns.val
  have y1 : (pc : Int) ≤ 40 := by omega
  have y0 : (0 : Int) ≤ (pc : Int) := by omega
  have HB2 : Hid (∀ o1 o2 : Obj, Below w.heap.size w ((w.alloc o1).alloc o2)) := fun o1 o2 => ((Below.refl _ _).alloc (Nat.le_refl _) _).alloc (by simp) _
  go_enter Try.func120, Try.ntmps120
  go_wp2
  all_goals go_ret
  · refine ⟨⟨.slice (some ⟨w.heap.size + 1, 0, none⟩) 1 1, rfl, ?_⟩, HB2.out _ _⟩
    rw [show nextsI i pc = [i.c] by unfold nextsI; simp_all]
    exact ints_one (by omega) (by simp [go_sem])
  · refine ⟨⟨.slice (some ⟨w.heap.size + 1, 0, none⟩) 2 2, rfl, ?_⟩, HB2.out _ _⟩
    rw [show nextsI i pc = [(pc : Int) + 1, i.c] by unfold nextsI; simp_all]
    exact ints_two (by omega) (by simp [go_sem]) (by simp [go_sem])
  · refine ⟨⟨.slice none 0 0, rfl, ?_⟩, (Below.refl _ _).alloc (Nat.le_refl _) _⟩
    rw [show nextsI i pc = [] by unfold nextsI; simp_all]
    exact ⟨none, 0, rfl, fun hh => absurd hh (by simp)⟩
  · refine ⟨⟨.slice (some ⟨w.heap.size + 1, 0, none⟩) 1 1, rfl, ?_⟩, HB2.out _ _⟩
    rw [show nextsI i pc = [(pc : Int) + 1] by unfold nextsI; simp_all]
    exact ints_one (by omega) (by simp [go_sem])

end Go.Proofs.Ytcmnmogmdhofcaa.form
