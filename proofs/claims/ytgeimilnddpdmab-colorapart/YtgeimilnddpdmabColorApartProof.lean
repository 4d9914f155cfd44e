/- For every program, one that may not be among them, and every number of registers, loanbooklaw.ColorApart answers true: color.Make tells what is wrong, or gives each temporary a register of its width or none, and no two that are near ones that overlap. No condition. -/
import Derived.Test.YtgeimilnddpdmabRows
import Derived.Test.YtgeimilnddpdmabColorApartLift
import Derived.Test.YtgeimilnddpdmabColorMakeOwn
namespace Go.Proofs.Ytgeimilnddpdmab
theorem colorApart_holds : Rows.ColorApartSaid := colorApart.over form.makeO
#print axioms colorApart_holds
end Go.Proofs.Ytgeimilnddpdmab
