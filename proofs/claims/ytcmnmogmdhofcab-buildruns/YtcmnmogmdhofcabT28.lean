/- For every program, two targets, ins and steps, loanbookkeep.BuildRuns answers true: run.Run, and done.Run in the places that build.Build makes for each target, show the same. No condition. -/
import Derived.Test.YtcmnmogmdhofcabRows
import Derived.Test.YtcmnmogmdhofcabT22
import Derived.Test.YtcmnmogmdhofcabT18
import Derived.Test.YtcmnmogmdhofcabT25
import Derived.Test.YtcmnmogmdhofcabT27

namespace Go.Proofs.Ytcmnmogmdhofcab
theorem buildRuns_holds : Rows.BuildRunsSaid := buildRuns.over form.buildO form.build_taken form.runRun form.doneO
#print axioms buildRuns_holds
end Go.Proofs.Ytcmnmogmdhofcab
