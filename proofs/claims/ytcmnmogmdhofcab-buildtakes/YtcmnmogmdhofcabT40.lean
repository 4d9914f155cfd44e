/- For every program, one that may not be among them, and every target, loanbooklaw.BuildTakes answers true: build.Build tells what is wrong, or gives places that are taken. No condition. -/
import Derived.Test.YtcmnmogmdhofcabRows
import Derived.Test.YtcmnmogmdhofcabT39
import Derived.Test.YtcmnmogmdhofcabT18

namespace Go.Proofs.Ytcmnmogmdhofcab
theorem buildTakes_holds : Rows.BuildTakesSaid := buildTakes.over form.buildO form.build_taken
#print axioms buildTakes_holds
end Go.Proofs.Ytcmnmogmdhofcab
