/- What Takes must answer, by whatever way. -/
import Derived.Test.YtdbjklngnloibaaGreatF08

namespace Go.Proofs.YtdbjklngnloibaaGreat.form
open Go.RowKit
set_option linter.unusedVariables false
end Go.Proofs.YtdbjklngnloibaaGreat.form
