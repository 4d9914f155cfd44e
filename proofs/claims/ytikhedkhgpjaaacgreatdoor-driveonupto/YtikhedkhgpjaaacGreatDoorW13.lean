/- A program that came in as an argument (api.Prog) is read: its marks and its instructions. -/
import Derived.Test.YtikhedkhgpjaaacGreatDoorRows
import Derived.WalkKit
import Derived.ProofKit
import Derived.OpenShut
import Derived.ChangeOld
import Derived.Lib.SmallJoins
import Derived.Deep.Slices
import Derived.Test.YtikhedkhgpjaaacGreatDoorW01

namespace Go.Proofs.YtikhedkhgpjaaacGreatDoor
set_option linter.unusedVariables false
namespace form
open Go.ChangeShapes Go.WideShapes Go.ChangeAt Go.RowKit Go.Joins Go.Deep
abbrev Six := Int × Int × Int × Int × Int × Int
def six (x : Six) : LIns := ⟨x.1, x.2.1, x.2.2.1, x.2.2.2.1, x.2.2.2.2.1, x.2.2.2.2.2⟩
section
variable {H : Type} {enc : TypeId × Value → H} {w : World} {spare : Nat → Bool} {held : Bool}
end
end form
end Go.Proofs.YtikhedkhgpjaaacGreatDoor
