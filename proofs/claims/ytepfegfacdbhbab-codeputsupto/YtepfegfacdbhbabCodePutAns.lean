/- What Put must answer, by whatever way. -/
import Derived.Test.YtepfegfacdbhbabCodeRefBytes
import Derived.Test.YtepfegfacdbhbabCodeRefRead
import Derived.Test.YtepfegfacdbhbabPlaceOpen
namespace Go.Proofs.Ytepfegfacdbhbab.form
open Go.RowKit
set_option linter.unusedVariables false

def OwnPut (w : World) (slots : Int) (R : List LRow) (e : Ending) (w' : World) : Prop := Below w.heap.size w w' ∧ ∃ bv er, e = .returned (.tuple #[bv, .int .i64 er]) ∧
  ((smallB (putB slots R) = true ∧ er = 0 ∧ BytesIs w' bv (putB slots R)) ∨ (smallB (putB slots R) = false ∧ er = 1 ∧ BytesIs w' bv []))

end Go.Proofs.Ytepfegfacdbhbab.form
