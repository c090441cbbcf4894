import Derived.Test.YtbhpafgoofkkmaaGreatDoorArgs13
set_option linter.all false
namespace Go.Proofs.YtbhpafgoofkkmaaGreatDoor
open Go.ChangeShapes Go.WideShapes Go.ChangeAt Go.RowKit Go.Lib Go.Joins
def AskAt (w : World) (gb o : Nat) (d : Ask) : Prop :=
 w.cell? ⟨gb, o, none⟩ = some (.int .i64 d.e) ∧ w.cell? ⟨gb, o + 1, none⟩ = some (.slice d.a d.ws.length d.cap) ∧ AskOk w d
section
variable {H : Type} {enc : TypeId × Value → H} {w : World} {base : Nat} {held : Bool}
end
end Go.Proofs.YtbhpafgoofkkmaaGreatDoor
