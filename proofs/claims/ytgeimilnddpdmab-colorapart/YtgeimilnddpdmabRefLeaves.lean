/- What the document's small functions on programs answer: known, Gives, Many. -/
import Derived.Test.YtgeimilnddpdmabProg
import Derived.WalkKit
import Derived.Below
import Derived.OwnWalk
namespace Go.Proofs.Ytgeimilnddpdmab.form
open Go.RowKit
set_option linter.unusedVariables false

def knownB (op : Int) : Bool := (decide (1 ≤ op) && decide (op ≤ 10)) || (decide (21 ≤ op) && decide (op ≤ 26)) || (decide (41 ≤ op) && decide (op ≤ 45))
def givesB (op : Int) : Bool := !(op == 4) && !(op == 8) && !(op == 9) && !(op == 10)
def manyI (op : Int) : Int := if op = 1 ∨ op = 3 ∨ op = 8 ∨ op = 10 then 0 else if op = 2 ∨ op = 4 ∨ op = 6 ∨ op = 7 ∨ op = 9 then 1 else 2

theorem ret_bool {a b : Bool} (h : a = b) : Ending.returned (.bool a) = .returned (.bool b) := by rw [h]
theorem ret_int {k : IntKind} {a b : Int} (h : a = b) : Ending.returned (.int k a) = .returned (.int k b) := by rw [h]

theorem known (op : Int) (w : World) :
    Calls Try.prog 59 #[.int .i64 op] w fun e w' => e = .returned (.bool (knownB op)) ∧ w' = w := by
  go_enter Try.func59, Try.ntmps59
  go_wp2
  all_goals
    go_ret
    exact ⟨ret_bool (by rw [Bool.eq_iff_iff]; simp [knownB]; try omega), rfl⟩

theorem gives (op : Int) (w : World) :
    Calls Try.prog 30 #[.int .i64 op] w fun e w' => e = .returned (.bool (givesB op)) ∧ w' = w := by
  go_enter Try.func30, Try.ntmps30
  go_wp2
  all_goals
    go_ret
    exact ⟨ret_bool (by simp_all [givesB]), rfl⟩

theorem many (op : Int) (w : World) :
    Calls Try.prog 31 #[.int .i64 op] w fun e w' => e = .returned (.int .i64 (manyI op)) ∧ w' = w := by
  go_enter Try.func31, Try.ntmps31
  go_wp2
  all_goals
    go_ret
    exact ⟨ret_int (by simp_all [manyI]), rfl⟩

end Go.Proofs.Ytgeimilnddpdmab.form
