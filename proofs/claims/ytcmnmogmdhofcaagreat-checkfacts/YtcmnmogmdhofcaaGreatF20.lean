/- What Takes must answer, by whatever way. -/
import Derived.Test.YtcmnmogmdhofcaaGreatF06

namespace Go.Proofs.YtcmnmogmdhofcaaGreat.form
open Go.RowKit
set_option linter.unusedVariables false
end Go.Proofs.YtcmnmogmdhofcaaGreat.form
