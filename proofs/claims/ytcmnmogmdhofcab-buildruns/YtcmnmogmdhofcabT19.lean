/- Ins that came in as an argument; what is wrong with a run's arguments. -/
import Derived.Test.YtcmnmogmdhofcabT03

namespace Go.Proofs.Ytcmnmogmdhofcab.form
open Go.RowKit Go.Proofs.Ytcmnmogmdhofcab.num
set_option linter.unusedVariables false

/-- Ins that came in: whatever their number. -/
def InArg (w : World) (iv : Value) (I : List Int) : Prop :=
  ∃ ai cap, iv = .slice ai I.length cap ∧ I.length ≤ cap ∧ I.length ≤ 9223372036854775807 ∧ (∀ j, j < I.length → 0 ≤ I.getD j 0 ∧ I.getD j 0 < 4294967296) ∧
    (0 < I.length → ∃ b o, ai = some ⟨b, o, none⟩ ∧ b < w.heap.size ∧ ∀ j, j < I.length → w.cell? ⟨b, o + j, none⟩ = some (.int .u32 (I.getD j 0)))

theorem InArg.later {w w' : World} {iv : Value} {I : List Int} (h : InArg w iv I) (hb : Below w.heap.size w w') : InArg w' iv I := by
  obtain ⟨ai, cap, e, h1, h2, h3, h4⟩ := h
  refine ⟨ai, cap, e, h1, h2, h3, fun h0 => ?_⟩
  obtain ⟨b, o, e2, hlt, hc⟩ := h4 h0
  exact ⟨b, o, e2, Nat.lt_of_lt_of_le hlt hb.size, fun j hj => step_cell hb (hc j hj)⟩

theorem InArg.out {w : World} {iv : Value} {I : List Int} (h : InArg w iv I) (h40 : I.length ≤ 40) : OutIs w iv I := by
  obtain ⟨ai, cap, e, h1, h2, h3, h4⟩ := h
  exact ⟨ai, cap, e, by omega, h4⟩

theorem wrong_zero {B : List Bool} {C : List LIns} {nI : Nat} {steps : Int} (h : wrongI B C nI steps = 0) : refMayB B C = true ∧ nI ≤ 40 ∧ 0 ≤ steps ∧ steps ≤ 3000 := by
  unfold wrongI at h
  split at h
  · omega
  split at h
  · omega
  split at h
  · omega
  · rename_i h1 h2 h3
    exact ⟨by simpa using h1, by omega, by omega, by omega⟩

end Go.Proofs.Ytcmnmogmdhofcab.form
