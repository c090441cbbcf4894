/- What a card wants. -/
import Derived.Test.YtikjfdihocgfpaaGreatDoorKinds
import Derived.Test.YtikjfdihocgfpaaGreatDoorCards
import Derived.Test.YtikjfdihocgfpaaGreatDoorTie
import Derived.ProofKit
import Derived.OpenShut
import Derived.ChangeOld
import Derived.ChangeSlices
import Derived.LaidMore
import Derived.Lay
import Derived.SevenTiedAt
import Derived.Stop.Joined
import Derived.MakeChecks
import Derived.Below
set_option linter.all false
namespace Go.Proofs.YtikjfdihocgfpaaGreatDoor
open Go.ChangeShapes Go.WideShapes Go.ChangeAt Go.RowKit Go.Lib
theorem own : ownKnob Tryz.prog.godebug = none := by kernel_rfl
end Go.Proofs.YtikjfdihocgfpaaGreatDoor
