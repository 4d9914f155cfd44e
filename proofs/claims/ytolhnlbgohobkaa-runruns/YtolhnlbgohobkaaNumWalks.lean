/- What the functions on numbers come to: the program's. -/
import Derived.Test.YtolhnlbgohobkaaNumRef
namespace Go.Proofs.Ytolhnlbgohobkaa.num
open Go.RowKit

theorem reckon64 (op a b : Int) (w : World) : Calls Try.prog 37 #[.int .i64 op, .int .u64 a, .int .u64 b] w fun e w' => e = .returned (.int .u64 (opR .u64 op a b)) ∧ w' = w := by
  go_enter Try.func37, Try.ntmps37
  go_wp2
  all_goals go_ret
  all_goals exact ⟨ret_int (by simp_all [opR]), rfl⟩

theorem reckon32 (op a b : Int) (w : World) : Calls Try.prog 36 #[.int .i64 op, .int .u32 a, .int .u32 b] w fun e w' => e = .returned (.int .u32 (opR .u32 op a b)) ∧ w' = w := by
  go_enter Try.func36, Try.ntmps36
  go_wp2
  all_goals go_ret
  all_goals exact ⟨ret_int (by simp_all [opR, IntKind.wrap_u32']), rfl⟩

theorem wide (op a b : Int) (w : World) : Calls Try.prog 15 #[.int .i64 op, .int .u64 a, .int .u64 b] w fun e w' => e = .returned (.int .u64 (opR .u64 op a b)) ∧ w' = w := by
  go_enter Try.func15, Try.ntmps15
  go_wp2_with (go_at_call 37; refine (reckon64 _ _ _ _).mono ?_; rintro e w' ⟨rfl, rfl⟩)
  go_ret
  exact ⟨rfl, rfl⟩

theorem narrow (op a b : Int) (w : World) : Calls Try.prog 14 #[.int .i64 op, .int .u32 a, .int .u32 b] w fun e w' => e = .returned (.int .u32 (opR .u32 op a b)) ∧ w' = w := by
  go_enter Try.func14, Try.ntmps14
  go_wp2_with (go_at_call 36; refine (reckon32 _ _ _ _).mono ?_; rintro e w' ⟨rfl, rfl⟩)
  go_ret
  exact ⟨rfl, rfl⟩

end Go.Proofs.Ytolhnlbgohobkaa.num
