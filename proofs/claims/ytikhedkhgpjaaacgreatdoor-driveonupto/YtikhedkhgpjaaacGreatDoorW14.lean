/- Places that came in as an argument (api.Placed), a target and a place are read. -/
import Derived.Test.YtikhedkhgpjaaacGreatDoorW13
import Derived.Test.YtikhedkhgpjaaacGreatDoorW08

namespace Go.Proofs.YtikhedkhgpjaaacGreatDoor
set_option linter.unusedVariables false
namespace form
open Go.ChangeShapes Go.WideShapes Go.ChangeAt Go.RowKit Go.Joins Go.Deep
instance : Inhabited LMove := ⟨.zero⟩
instance : Inhabited LRow := ⟨.zero⟩
def MovesOk (l : List LMove) : Prop := ∀ k, k < l.length → 0 ≤ (l.getD k .zero).n ∧ (l.getD k .zero).n < 4294967296
def RowsOk (R : List LRow) : Prop := ∀ r, r < R.length → MovesOk (R.getD r .zero).before ∧ MovesOk (R.getD r .zero).after
theorem moves_bd {l : List LMove} (h : MovesOk l) {x : LMove} (hx : x ∈ l) : 0 ≤ x.n ∧ x.n < 4294967296 := by
  obtain ⟨j, hj, rfl⟩ := List.getElem_of_mem hx
  have := h j hj
  rw [show l.getD j .zero = l[j] by simp [List.getD, hj]] at this
  exact this
theorem rows_bd {R : List LRow} {C : List LIns} (h : RowsOk R) (hl : R.length = C.length) : ∀ k, k < C.length → ∀ x, x ∈ (R.getD k .zero).before ∨ x ∈ (R.getD k .zero).after → 0 ≤ x.n ∧ x.n < 4294967296 := by
  intro k hk x hx
  obtain ⟨h1, h2⟩ := h k (by omega)
  rcases hx with hx | hx
  · exact moves_bd h1 hx
  · exact moves_bd h2 hx
section
variable {H : Type} {enc : TypeId × Value → H} {w : World} {spare : Nat → Bool} {held : Bool}
end
end form
end Go.Proofs.YtikhedkhgpjaaacGreatDoor
