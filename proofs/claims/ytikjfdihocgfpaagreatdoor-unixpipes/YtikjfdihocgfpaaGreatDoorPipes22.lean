/- Proved: januslaw22.UnixPipes answers true for every row of texts and every number (what a process writes into a pipe is what it reads from it, in its order, each byte once), and its arguments read behind the call as before, at the commit of this claim; where the listed package-level variables are laid as the program's text lays them (the card ties that; the call reads none of them). -/
import Derived.Test.YtikjfdihocgfpaaGreatDoorPipW22
import Derived.Test.YtikjfdihocgfpaaGreatDoorCaA
set_option linter.all false
namespace Go.Proofs.YtikjfdihocgfpaaGreatDoor
open Go.ChangeShapes Go.WideShapes Go.ChangeAt Go.RowKit Go.Lib
#print axioms pipes22_holds
end Go.Proofs.YtikjfdihocgfpaaGreatDoor
