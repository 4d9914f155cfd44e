/- For every program, target and places, whoever made them, that the program takes, any ins and steps: in its places it shows what it shows. No condition. -/
import Derived.Test.YtdbjklngnloibabGreatB34
import Derived.Test.YtdbjklngnloibabGreatB48

namespace Go.Proofs.YtdbjklngnloibabGreat

theorem checkSound_holds : Rows.CheckSoundSaid := checkSound.over form.takesO
#print axioms checkSound_holds

end Go.Proofs.YtdbjklngnloibabGreat
