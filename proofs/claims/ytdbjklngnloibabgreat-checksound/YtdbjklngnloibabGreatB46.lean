/- A program that halts at once, and its places, in memory. -/
import Derived.Test.YtdbjklngnloibabGreatB03
import Derived.Test.YtdbjklngnloibabGreatB08

namespace Go.Proofs.YtdbjklngnloibabGreat.form
open Go.RowKit
set_option linter.unusedVariables false

def haltI : LIns := ⟨10, 0, 0, 0, 0, 0⟩
theorem one_prog {w : World} {b0 b1 c0 c1 : Nat} (h0 : w.cell? ⟨b0, 0, none⟩ = some (.bool false)) (h1 : w.cell? ⟨b1, 0, none⟩ = some (.int .i64 10)) (h2 : ∀ j, 0 < j → j < 5 → w.cell? ⟨b1, j, none⟩ = some (.int .i64 0)) (h3 : w.cell? ⟨b1, 5, none⟩ = some (.int .u32 0)) :
    ProgIs w (.agg #[.slice (some ⟨b0, 0, none⟩) 1 c0, .slice (some ⟨b1, 0, none⟩) 1 c1]) [false] [haltI] := by
  have l0 := World.block_lt_of_cell? w _ h0
  have l1 := World.block_lt_of_cell? w _ h1
  refine ⟨⟨_, _, _, _, rfl, fun _ _ => ⟨b0, 0, b1, 0, rfl, rfl, l0, l1, fun i hi => ?_, fun i hi => ?_⟩⟩, by simp, by simp, fun i hi => ?_⟩
  · have : i = 0 := by simp at hi; omega
    subst this
    simpa using h0
  · have : i = 0 := by simp at hi; omega
    subst this
    exact ⟨by simpa [haltI] using h1, by simpa [haltI] using h2 1 (by omega) (by omega), by simpa [haltI] using h2 2 (by omega) (by omega), by simpa [haltI] using h2 3 (by omega) (by omega), by simpa [haltI] using h2 4 (by omega) (by omega), by simpa [haltI] using h3⟩
  · have : i = 0 := by simp at hi; omega
    subst this
    simp [haltI]
theorem one_placed {w : World} {b2 c2 : Nat} (h : ∀ j, j < 6 → w.cell? ⟨b2, j, none⟩ = some (.int .i64 0)) (h6 : w.cell? ⟨b2, 6, none⟩ = some (.slice none 0 0)) (h7 : w.cell? ⟨b2, 7, none⟩ = some (.slice none 0 0)) :
    PlacedIs w (.agg #[.int .i64 0, .slice (some ⟨b2, 0, none⟩) 1 c2]) 0 [.zero] := by
  have l0 := World.block_lt_of_cell? w _ h6
  refine ⟨_, _, rfl, by simp, fun _ => ⟨b2, 0, rfl, l0, fun r hr => ?_⟩⟩
  have : r = 0 := by simp at hr; omega
  subst this
  have hz : MovesIs w (.slice none 0 0) [] := ⟨none, 0, rfl, by simp, fun hh => absurd hh (by simp)⟩
  exact ⟨by simpa [LRow.zero, LPlace.zero] using h 0 (by omega), by simpa [LRow.zero, LPlace.zero] using h 1 (by omega), by simpa [LRow.zero, LPlace.zero] using h 2 (by omega), by simpa [LRow.zero, LPlace.zero] using h 3 (by omega), by simpa [LRow.zero, LPlace.zero] using h 4 (by omega), by simpa [LRow.zero, LPlace.zero] using h 5 (by omega), _, _, by simpa using h6, by simpa using h7, hz, hz⟩

end Go.Proofs.YtdbjklngnloibabGreat.form

/- The places of a program that halts at once are taken; that program, and its places, in memory. -/
namespace Go.Proofs.YtdbjklngnloibabGreat.form
open Go.RowKit
set_option linter.unusedVariables false

theorem taken_one : TakenP [false] [haltI] 4 0 [.zero] := by
  refine ⟨by decide, fun k hk hl => ?_⟩
  have : k = 0 := by simp at hl; omega
  subst this
  have hm : manyI haltI.op = 0 := by decide
  exact ⟨fun h => absurd h (by simp [hm]), fun h => absurd h (by simp [hm])⟩

end Go.Proofs.YtdbjklngnloibabGreat.form
