import Derived.Test.YtbhpafgoofkkmaaGreatDoorXoT
import Derived.Test.YtbhpafgoofkkmaaGreatDoorRxB
import Derived.Deep.DeepCutAuto
import Derived.Deep.CutBlock
set_option linter.all false
namespace Go.Proofs.YtbhpafgoofkkmaaGreatDoor
open Go.ChangeShapes Go.WideShapes Go.ChangeAt Go.RowKit
theorem wordsW_len {w0 wr : World} {K k : Nat} {L : XL} {S : XS} (h : LookAt w0 wr K L S k) (b : Int) : (Xd.wordsW S.d S.l S.ds b).length ≤ 32 := by
 unfold Xd.wordsW
 split
 ·rename_i hb
  rw [Xd.lookW_len h.e0.disk.linv h.e0.disk.len (by omega)]
  exact Nat.le_refl _
 ·simp
end Go.Proofs.YtbhpafgoofkkmaaGreatDoor
