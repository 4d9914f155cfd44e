/- For every two scripts (of bulk at most 1048576 together): the answer to the one with a byte 10 and the other one behind it begins with the answer to the one: loanbookkeep.DriveOn returns true; the library's variables that its road reads lie as the program's text lays them (the card ties them). -/
import Derived.Test.YtgnhpfmdbclnkaaGreatDoorW34
import Derived.Test.YtgnhpfmdbclnkaaGreatDoorW33

namespace Go.Proofs.YtgnhpfmdbclnkaaGreatDoor
section
theorem driveOn_holds : Rows.DriveOnUptoCardSaid := driveOn.card (form.layOf form.buildF) form.lay_play
end
end Go.Proofs.YtgnhpfmdbclnkaaGreatDoor
