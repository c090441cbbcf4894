/- The reference of package procs in the heap: Pid, Live, Parent, Begin, Fork. -/
import Derived.Test.YtnlhedpfhgoncabGreatDoorPcATPcB
import Derived.Test.YtnlhedpfhgoncabGreatDoorKinds
import Derived.Deep.RegionLaw
import Derived.Deep.RegionHeld3
import Derived.ProofKit
import Derived.OpenShut
import Derived.ChangeOld
import Derived.ChangeSlices
import Derived.Lib.SmallJoins
import Derived.Deep.Slices
import Derived.Below
import Derived.Laws.StructEq
set_option linter.all false
namespace Go.Proofs.YtnlhedpfhgoncabGreatDoor
open Go.RowKit Go.Lib
namespace Ow
end Ow
namespace Pc
open Ow
/-- What the reference's row says of a pid. -/
structure Tr where
  is : Int
  par : Int
  st : Int
abbrev TS := Nat → Tr
def TS.cell (T : TS) (j : Nat) : Int := if j % 3 = 0 then (T (j / 3)).is else if j % 3 = 1 then (T (j / 3)).par else (T (j / 3)).st
def rqL (T : TS) : List Int := (List.range 24).map T.cell
def TS.set (T : TS) (i : Nat) (t : Tr) : TS := fun j => if j = i then t else T j
/-- Block b holds this row. -/
def RT (w : World) (b : Nat) (T : TS) : Prop := w.heap[b]? = some (.cells (irow (rqL T)) 102)
section
variable {w w' : World} {b : Nat} {T : TS}
theorem RT.lt (h : RT w b T) : b < w.heap.size := lt_of_heap h
theorem RT.keep (h : RT w b T) (hb : w'.heap[b]? = w.heap[b]?) : RT w' b T := hb.trans h
theorem RT.below (h : RT w b T) (hb : Below w.heap.size w w') : RT w' b T := h.keep (hb.block _ h.lt)
theorem RT.free (h : RT w b T) (j : Nat) : w.frozen? ⟨b, j, none⟩ = false := frozen_of_heap h
end
/-- What processes are as a row. -/
def trO : Option Pr → Tr
  | none => ⟨0, 0, 0⟩
  | some p => ⟨if p.zom = true then 2 else 1, p.par, p.st⟩
def trS (S : St) : TS := fun i => trO (S ((i : Int) + 1))
end Pc
end Go.Proofs.YtnlhedpfhgoncabGreatDoor
