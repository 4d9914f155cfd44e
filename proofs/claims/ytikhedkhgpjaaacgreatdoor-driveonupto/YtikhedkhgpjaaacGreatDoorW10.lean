/- An instruction more (loanbookkeep: line). -/
import Derived.Test.YtikhedkhgpjaaacGreatDoorW09

namespace Go.Proofs.YtikhedkhgpjaaacGreatDoor
set_option linter.unusedVariables false
namespace form
open Go.RowKit
set_option maxRecDepth 100000
attribute [local go_sem ↓] Go.wp_at_zero Go.wp_at_succ
attribute [local go_sem] str_size str_list ByteArray.toList_mk
end form
/- Other ins (loanbookkeep: line). -/
namespace form
open Go.RowKit
set_option maxRecDepth 100000
attribute [local go_sem ↓] Go.wp_at_zero Go.wp_at_succ
attribute [local go_sem] str_size str_list ByteArray.toList_mk
end form
/- A run (loanbookkeep: line). -/
namespace form
open Go.RowKit
set_option maxRecDepth 100000
attribute [local go_sem ↓] Go.wp_at_zero Go.wp_at_succ
attribute [local go_sem] str_size str_list ByteArray.toList_mk
end form
/- A run in places (loanbookkeep: line). -/
namespace form
open Go.RowKit
set_option maxRecDepth 100000
attribute [local go_sem ↓] Go.wp_at_zero Go.wp_at_succ
attribute [local go_sem] str_size str_list ByteArray.toList_mk
end form
end Go.Proofs.YtikhedkhgpjaaacGreatDoor
