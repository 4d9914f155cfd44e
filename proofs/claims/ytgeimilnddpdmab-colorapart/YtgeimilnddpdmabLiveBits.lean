/- Small facts on rows of truths and numbers in memory. -/
import Derived.Test.YtgeimilnddpdmabLiveNexts
import Derived.Test.YtgeimilnddpdmabRunPlain
import Derived.Deep.OwnRows
import Derived.Deep.DeepCutAuto
namespace Go.Proofs.Ytgeimilnddpdmab.form
open Go.RowKit
set_option linter.unusedVariables false

def natV (x : Nat) : Value := .int .i64 x

theorem infBool : (Try.prog.info? 4).map (fun i => (i.zero, i.size, i.bytes)) = some (some (.bool false), 1, 1) := by kernel_rfl
theorem infInt : (Try.prog.info? 3).map (fun i => (i.zero, i.size, i.bytes)) = some (some (.int .i64 0), 1, 8) := by kernel_rfl

theorem made_bool (n : Nat) : madeCells #[Value.bool false] n = ((List.replicate n false).map Value.bool).toArray := by
  apply Array.toList_inj.1
  rw [toList_madeCells_one]
  simp

theorem nexts_all {N : List Int} {P : Nat → Prop} (h : ∀ q, q < N.length → P (N.getD q 0).toNat) : ∀ y, y ∈ N.map Int.toNat → P y := by
  intro y hy
  obtain ⟨z, hz, rfl⟩ := List.mem_map.1 hy
  obtain ⟨q, hq, rfl⟩ := List.getElem_of_mem hz
  have := h q hq
  rwa [show N.getD q 0 = N[q] by simp [List.getD, hq]] at this

end Go.Proofs.Ytgeimilnddpdmab.form
