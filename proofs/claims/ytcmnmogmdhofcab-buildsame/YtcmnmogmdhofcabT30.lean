/- For every program, target, ins and steps, loanbooklaw.BuildSame answers true: in the places that build.Build makes the program shows what it shows without them. No condition. -/
import Derived.Test.YtcmnmogmdhofcabRows
import Derived.Test.YtcmnmogmdhofcabT29
import Derived.Test.YtcmnmogmdhofcabT18

namespace Go.Proofs.Ytcmnmogmdhofcab
theorem buildSame_holds : Rows.BuildSameSaid := buildSame.over form.buildO form.build_taken
#print axioms buildSame_holds
end Go.Proofs.Ytcmnmogmdhofcab
