/- What a card wants. -/
import Derived.Test.YtnlhedpfhgoncabGreatDoorKinds
import Derived.Test.YtnlhedpfhgoncabGreatDoorCards
import Derived.Test.YtnlhedpfhgoncabGreatDoorTie
import Derived.ProofKit
import Derived.OpenShut
import Derived.ChangeOld
import Derived.ChangeSlices
import Derived.LaidMore
import Derived.Lay
import Derived.SevenTiedAt
import Derived.Stop.Joined
import Derived.MakeChecks
import Derived.Below
set_option linter.all false
namespace Go.Proofs.YtnlhedpfhgoncabGreatDoor
open Go.ChangeShapes Go.WideShapes Go.ChangeAt Go.RowKit Go.Lib
theorem own : ownKnob Tryz.prog.godebug = none := by kernel_rfl
end Go.Proofs.YtnlhedpfhgoncabGreatDoor
