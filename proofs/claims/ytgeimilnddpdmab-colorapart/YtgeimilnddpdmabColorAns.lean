/- What color.Make must answer, by whatever way. -/
import Derived.Test.YtgeimilnddpdmabNearPlain
import Derived.Test.YtgeimilnddpdmabPlaceRef
namespace Go.Proofs.Ytgeimilnddpdmab.form
open Go.RowKit
set_option linter.unusedVariables false

/-- Places in memory. -/
def PlacesIs (w : World) (v : Value) (L : List LPlace) : Prop :=
  ∃ ao cap, v = .slice ao L.length cap ∧ L.length ≤ 9223372036854775807 ∧ (0 < L.length → ∃ b o, ao = some ⟨b, o, none⟩ ∧ b < w.heap.size ∧ ∀ k, k < L.length → w.cell? ⟨b, o + k * 2, none⟩ = some (.int .i64 (L.getD k .zero).kind) ∧ w.cell? ⟨b, o + k * 2 + 1, none⟩ = some (.int .i64 (L.getD k .zero).n))
theorem PlacesIs.later {w w' : World} {v : Value} {L : List LPlace} (h : PlacesIs w v L) (hb : Below w.heap.size w w') : PlacesIs w' v L := by
  obtain ⟨ao, cap, e, h1, h2⟩ := h
  refine ⟨ao, cap, e, h1, fun h0 => ?_⟩
  obtain ⟨b, o, e2, hlt, hc⟩ := h2 h0
  exact ⟨b, o, e2, Nat.lt_of_lt_of_le hlt hb.size, fun k hk => ⟨step_cell hb (hc k hk).1, step_cell hb (hc k hk).2⟩⟩

/-- Not a number of registers. -/
def badN (n : Int) : Prop := n < 0 ∨ 16 < n ∨ ¬ n % 2 = 0

/-- Registers, one each or none, and no two that are near ones that overlap. -/
structure ColorOk (B : List Bool) (C : List LIns) (n : Int) (L : List LPlace) : Prop where
  len : L.length = B.length
  reg : ∀ a, a < B.length → ((L.getD a .zero).kind = 0 ∧ (L.getD a .zero).n = 0) ∨ ((L.getD a .zero).kind = (if B.getD a false then 2 else 1) ∧ isB n 0 (L.getD a .zero) = true)
  far : ∀ a b, b < a → a < B.length → Near C a b → ¬ (L.getD a .zero).kind = 0 → ¬ (L.getD b .zero).kind = 0 → overB (L.getD a .zero) (L.getD b .zero) = false

def ColorSpec : Prop := ∀ (pv : Value) (B : List Bool) (C : List LIns) (n : Int) (w : World), ProgIs w pv B C →
  Calls Try.prog 6 #[pv, .int .i64 n] w fun e w' =>
    ((refMayB B C = false ∧ ∃ ao cap, e = .returned (.tuple #[.slice ao 0 cap, .int .i64 2])) ∨ (refMayB B C = true ∧ badN n ∧ ∃ ao cap, e = .returned (.tuple #[.slice ao 0 cap, .int .i64 3])) ∨
      (refMayB B C = true ∧ ¬ badN n ∧ ∃ v L, e = .returned (.tuple #[v, .int .i64 0]) ∧ PlacesIs w' v L ∧ ColorOk B C n L)) ∧ Below w.heap.size w w'

end Go.Proofs.Ytgeimilnddpdmab.form
