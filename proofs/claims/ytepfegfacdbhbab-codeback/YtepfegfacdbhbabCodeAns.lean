/- What Get must answer, by whatever way; the document's own one answers so. -/
import Derived.Test.YtepfegfacdbhbabCodeRefGet
namespace Go.Proofs.Ytepfegfacdbhbab.form
open Go.RowKit
set_option linter.unusedVariables false

/-- Which error and which places bytes are. -/
def GetIs (bs : List Int) (er slots : Int) (R : List LRow) : Prop := (getB bs = none ∧ er = 2 ∧ slots = 0 ∧ R = []) ∨ (getB bs = some (slots, R) ∧ er = 0)
theorem getIs_one {bs : List Int} {er er' slots slots' : Int} {R R' : List LRow} (h : GetIs bs er slots R) (h' : GetIs bs er' slots' R') : er = er' ∧ slots = slots' ∧ R = R' := by
  rcases h with ⟨h1, h2, h3, h4⟩ | ⟨h1, h2⟩ <;> rcases h' with ⟨g1, g2, g3, g4⟩ | ⟨g1, g2⟩
  · exact ⟨by omega, by omega, by rw [h4, g4]⟩
  · rw [h1] at g1; exact absurd g1 (by simp)
  · rw [h1] at g1; exact absurd g1 (by simp)
  · rw [h1] at g1
    simp only [Option.some.injEq, Prod.mk.injEq] at g1
    exact ⟨by omega, g1.1, g1.2⟩
def OwnGet (w : World) (bs : List Int) (e : Ending) (w' : World) : Prop := Below w.heap.size w w' ∧ ∃ lv er slots R, e = .returned (.tuple #[lv, .int .i64 er]) ∧ PlacedIs w' lv slots R ∧ GetIs bs er slots R

theorem get_ans (v : Value) (bs : List Int) (w : World) (h : BytesIs w v bs) : Calls Try.prog 32 #[v] w fun e w' => OwnGet w bs e w' := by
  refine (get11 v bs w h).mono ?_
  rintro e w' ⟨hb, ⟨h1, rfl⟩ | ⟨slots, L, rv, h1, rfl, h3, h4⟩⟩
  · exact ⟨hb, _, 2, 0, [], rfl, ⟨none, 0, rfl, by simp, fun hh => absurd hh (by simp)⟩, Or.inl ⟨h1, rfl, rfl, rfl⟩⟩
  · exact ⟨hb, _, 0, slots, L.map (·.1), rfl, h4.placed (by omega) slots, Or.inr ⟨h1, rfl⟩⟩

end Go.Proofs.Ytepfegfacdbhbab.form
