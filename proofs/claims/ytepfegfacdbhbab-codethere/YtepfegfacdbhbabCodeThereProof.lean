/- For every bytes loanbookkeep.CodeThere answers true: where code.Get reads them as places, code.Put tells of these just the same bytes. No condition. -/
import Derived.Test.YtepfegfacdbhbabRows
import Derived.Test.YtepfegfacdbhbabCodeThereLift
import Derived.Test.YtepfegfacdbhbabCodePutOwn
import Derived.Test.YtepfegfacdbhbabCodeGetOwn
namespace Go.Proofs.Ytepfegfacdbhbab
theorem codeThere_holds : Rows.CodeThereSaid := codeThere.over form.putO form.getO
#print axioms codeThere_holds
end Go.Proofs.Ytepfegfacdbhbab
