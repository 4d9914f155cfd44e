/- What layout.within and isIn answer. -/
import Derived.Test.YtcmnmogmdhofcaaRefLeaves
namespace Go.Proofs.Ytcmnmogmdhofcaa.form
open Go.RowKit
set_option linter.unusedVariables false

theorem within (a b : Int) (w : World) :
    Calls Try.prog 39 #[.int .i64 a, .int .i64 b] w fun e w' => e = .returned (.bool (decide (1 ≤ a) && decide (a ≤ b))) ∧ w' = w := by
  go_enter Try.func39, Try.ntmps39
  go_wp2
  all_goals
    go_ret
    exact ⟨ret_bool (by rw [Bool.eq_iff_iff]; simp; try omega), rfl⟩

theorem isIn (a b : Int) (w : World) :
    Calls Try.prog 119 #[.int .i64 a, .int .i64 b] w fun e w' => e = .returned (.bool (decide (0 ≤ a) && decide (a < b))) ∧ w' = w := by
  go_enter Try.func119, Try.ntmps119
  go_wp2
  all_goals
    go_ret
    exact ⟨ret_bool (by rw [Bool.eq_iff_iff]; simp; try omega), rfl⟩

end Go.Proofs.Ytcmnmogmdhofcaa.form
