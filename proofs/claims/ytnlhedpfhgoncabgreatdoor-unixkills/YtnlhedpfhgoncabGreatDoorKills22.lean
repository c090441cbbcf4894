/- Proved: januslaw22.UnixKills answers true for every two numbers (a signal that is sent to a process is the one that comes next there, by default; to what is no process it is not sent), and its arguments read behind the call as before, at the commit of this claim; where the listed package-level variables are laid as the program's text lays them (the card ties that; the call reads none of them). -/
import Derived.Test.YtnlhedpfhgoncabGreatDoorKilW22
import Derived.Test.YtnlhedpfhgoncabGreatDoorCaA
set_option linter.all false
namespace Go.Proofs.YtnlhedpfhgoncabGreatDoor
open Go.ChangeShapes Go.WideShapes Go.ChangeAt Go.RowKit Go.Lib
#print axioms kills22_holds
end Go.Proofs.YtnlhedpfhgoncabGreatDoor
