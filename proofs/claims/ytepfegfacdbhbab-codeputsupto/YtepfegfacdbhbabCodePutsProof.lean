/- For every places that hold at most 1048576 values and letters, each counted each time it is reached, loanbooklaw.CodePuts answers true: code.Put tells their bytes, or what is wrong, as the document's chapter on bytes says. Its condition: that bound. -/
import Derived.Test.YtepfegfacdbhbabRows
import Derived.Test.YtepfegfacdbhbabCodePutsLift
import Derived.Test.YtepfegfacdbhbabCodePutOwn
namespace Go.Proofs.Ytepfegfacdbhbab
theorem codePuts_holds : Rows.CodePutsUptoSaid := codePuts.over form.putO
#print axioms codePuts_holds
end Go.Proofs.Ytepfegfacdbhbab
