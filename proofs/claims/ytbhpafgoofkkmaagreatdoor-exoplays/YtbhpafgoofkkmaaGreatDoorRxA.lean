import Derived.Test.YtbhpafgoofkkmaaGreatDoorRefMem
import Derived.Test.YtbhpafgoofkkmaaGreatDoorRefDisk
import Derived.Test.YtbhpafgoofkkmaaGreatDoorRfA
import Derived.Test.YtbhpafgoofkkmaaGreatDoorXoB
set_option linter.all false
namespace Go.Proofs.YtbhpafgoofkkmaaGreatDoor
open Go.RowKit
theorem rk_ne (b : Nat) (W : World) : (binOp .eql 58 (ptr b) (.pointer none)).run Tryz.prog W = .ok (.bool false) W := by kernel_rfl
theorem rx_ne (b : Nat) (W : World) : (binOp .eql 59 (ptr b) (.pointer none)).run Tryz.prog W = .ok (.bool false) W := by kernel_rfl
end Go.Proofs.YtbhpafgoofkkmaaGreatDoor
