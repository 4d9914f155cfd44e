/- What the program's own run.Run must answer. -/
import Derived.Test.YtikhedkhgpjaaacGreatDoorW07
import Derived.Test.YtikhedkhgpjaaacGreatDoorW11

namespace Go.Proofs.YtikhedkhgpjaaacGreatDoor
set_option linter.unusedVariables false
namespace form
open Go.RowKit
def resM (B : List Bool) (C : List LIns) (I : List Int) (steps : Int) : Mac := if wrongI B C I.length steps = 0 then playM B C I steps.toNat else ⟨0, [], 0, [], 0, 0⟩
def RunSpec : Prop := ∀ (v : Value) (B : List Bool) (C : List LIns) (iv : Value) (I : List Int) (steps : Int) (w : World), ProgIs w v B C → InArg w iv I →
  Calls Tryz.prog 20 #[v, iv, .int .i64 steps] w fun e w' =>
      (∃ sv, e = .returned (.tuple #[sv, .int .i64 (wrongI B C I.length steps)]) ∧ ShownIs w' sv (resM B C I steps).state (resM B C I steps).out (resM B C I steps).steps) ∧ Below w.heap.size w w'
end form
end Go.Proofs.YtikhedkhgpjaaacGreatDoor
