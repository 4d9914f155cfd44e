/- For every script (of bulk at most 1048576): the program answers line by line what its layers answer: loanbookkeep.DriveTells returns true; the library's variables that its road reads lie as the program's text lays them (the card ties them). -/
import Derived.Test.YtgnhpfmdbclnkaaGreatDoorW36
import Derived.Test.YtgnhpfmdbclnkaaGreatDoorW33

namespace Go.Proofs.YtgnhpfmdbclnkaaGreatDoor
section
theorem driveTells_holds : Rows.DriveTellsUptoCardSaid := driveTells.card (form.layOf form.buildF) form.lay_is form.layLen form.lay_play
end
end Go.Proofs.YtgnhpfmdbclnkaaGreatDoor
