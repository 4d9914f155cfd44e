/- For every places and number loanbookkeep.CodeBack answers true: where code.Put tells bytes, code.Get reads them as these places, which have the same bytes, and no shorter row of them is read. No condition. -/
import Derived.Test.YtepfegfacdbhbabRows
import Derived.Test.YtepfegfacdbhbabCodeBackFull
import Derived.Test.YtepfegfacdbhbabCodePutOwn
import Derived.Test.YtepfegfacdbhbabCodeGetOwn
namespace Go.Proofs.Ytepfegfacdbhbab
theorem codeBack_holds : Rows.CodeBackSaid := codeBack.over form.putF form.getO
#print axioms codeBack_holds
end Go.Proofs.Ytepfegfacdbhbab
