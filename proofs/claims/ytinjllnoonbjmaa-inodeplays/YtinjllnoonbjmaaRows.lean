/-
  No cell of these rows narrows 'for every input' (looked for: loops, veiled, ifaces, maps, wideKeys, modest, calm, conditions, laid).
  DERIVED. THE GIVEN ROWS OF THIS SEAT. 6 by the template 'for every input the law returns true; each argument reads behind the call as it read before'; 0 by the template 'total and deterministic' (their statements: YtinjllnoonbjmaaTotals.lean).
  GIVEN WITH THE SEED: the statements are not yours to turn. If you find one false, say at which input.
  Laid BY PROGRAM, IN A SANDBOX (cutbox-rows.mjs): the forced cells as the released guide's own fill.sh prints them over the translation e989704baab33fbe… (all of the seat's roots in one cut). By AI agents, Wed Nov 11 2026. No macro, syntax, notation, axiom, sorry.
-/
import Derived.Test.YtinjllnoonbjmaaChecked
import GoSem.Claim
import GoSem.ClaimJoined
import GoSem.ClaimMapViews
import Derived.JoinedTies
import Derived.KernelRfl
namespace Go.Proofs.Ytinjllnoonbjmaa
/- THE CELL 'sum', in the pinned program and in every row, IS THE sha256 OF THE DUMP (.gsa) THAT YtinjllnoonbjmaaProg.lean LOADS. Nothing in Lean hashes anything: it is a label: what it is worth is what the hold of that sum in a sandbox is worth. -/
noncomputable def Try.pinned : Pinned := { name := "ytinjllnoonbjmaa", sum := "e989704baab33fbec87611fee40d189a2796d491cd8f86eed8a182a65370cded", checked := Try.checked }
namespace Rows
def none {H : Type} : Left H := { results := [], args := [] }

/-- 'januslaw15.InodePlays': WHATEVER THE INPUT: true; the input reads as it did. -/
def inodePlaysSpec : ChangeSpec := { name := "inodePlays", fn := fun _ => fun
  | [d1, d2] => { results := [.lit (.bool true)], args := [d1, d2] }
  | _ => none }
def inodePlaysRow : OpenClaim := { program := "ytinjllnoonbjmaa", sum := "e989704baab33fbec87611fee40d189a2796d491cd8f86eed8a182a65370cded", func := "janus/januslaw15.InodePlays", spec := "inodePlays", unfollowed := true, recurses := true, apart := false }
def InodePlaysSaid : Prop := inodePlaysRow.holds Try.pinned (OpenSpec.ofChange inodePlaysSpec)

/-- ITS FALSE NEIGHBOUR: 'it returns false'. Refute it at one input. -/
def inodePlaysWrong : ChangeSpec := { name := "inodePlays", fn := fun _ => fun
  | [d1, d2] => { results := [.lit (.bool false)], args := [d1, d2] }
  | _ => none }
def InodePlaysWrongFalsely : Prop := inodePlaysRow.holds Try.pinned (OpenSpec.ofChange inodePlaysWrong)

/-- 'januslaw15.InodeFiles': WHATEVER THE INPUT: true; the input reads as it did. -/
def inodeFilesSpec : ChangeSpec := { name := "inodeFiles", fn := fun _ => fun
  | [d] => { results := [.lit (.bool true)], args := [d] }
  | _ => none }
def inodeFilesRow : OpenClaim := { program := "ytinjllnoonbjmaa", sum := "e989704baab33fbec87611fee40d189a2796d491cd8f86eed8a182a65370cded", func := "janus/januslaw15.InodeFiles", spec := "inodeFiles", unfollowed := true, recurses := true, apart := false }
def InodeFilesSaid : Prop := inodeFilesRow.holds Try.pinned (OpenSpec.ofChange inodeFilesSpec)

/-- ITS FALSE NEIGHBOUR: 'it returns false'. Refute it at one input. -/
def inodeFilesWrong : ChangeSpec := { name := "inodeFiles", fn := fun _ => fun
  | [d] => { results := [.lit (.bool false)], args := [d] }
  | _ => none }
def InodeFilesWrongFalsely : Prop := inodeFilesRow.holds Try.pinned (OpenSpec.ofChange inodeFilesWrong)

/-- 'januslaw15.InodeRoom': WHATEVER THE INPUT: true; the input reads as it did. -/
def inodeRoomSpec : ChangeSpec := { name := "inodeRoom", fn := fun _ => fun
  | [d1, d2] => { results := [.lit (.bool true)], args := [d1, d2] }
  | _ => none }
def inodeRoomRow : OpenClaim := { program := "ytinjllnoonbjmaa", sum := "e989704baab33fbec87611fee40d189a2796d491cd8f86eed8a182a65370cded", func := "janus/januslaw15.InodeRoom", spec := "inodeRoom", unfollowed := true, recurses := true, apart := false }
def InodeRoomSaid : Prop := inodeRoomRow.holds Try.pinned (OpenSpec.ofChange inodeRoomSpec)

/-- ITS FALSE NEIGHBOUR: 'it returns false'. Refute it at one input. -/
def inodeRoomWrong : ChangeSpec := { name := "inodeRoom", fn := fun _ => fun
  | [d1, d2] => { results := [.lit (.bool false)], args := [d1, d2] }
  | _ => none }
def InodeRoomWrongFalsely : Prop := inodeRoomRow.holds Try.pinned (OpenSpec.ofChange inodeRoomWrong)

/-- 'januslaw15.InodeBounds': WHATEVER THE INPUT: true; the input reads as it did. -/
def inodeBoundsSpec : ChangeSpec := { name := "inodeBounds", fn := fun _ => fun
  | [d] => { results := [.lit (.bool true)], args := [d] }
  | _ => none }
def inodeBoundsRow : OpenClaim := { program := "ytinjllnoonbjmaa", sum := "e989704baab33fbec87611fee40d189a2796d491cd8f86eed8a182a65370cded", func := "janus/januslaw15.InodeBounds", spec := "inodeBounds", unfollowed := true, recurses := true, apart := false }
def InodeBoundsSaid : Prop := inodeBoundsRow.holds Try.pinned (OpenSpec.ofChange inodeBoundsSpec)

/-- ITS FALSE NEIGHBOUR: 'it returns false'. Refute it at one input. -/
def inodeBoundsWrong : ChangeSpec := { name := "inodeBounds", fn := fun _ => fun
  | [d] => { results := [.lit (.bool false)], args := [d] }
  | _ => none }
def InodeBoundsWrongFalsely : Prop := inodeBoundsRow.holds Try.pinned (OpenSpec.ofChange inodeBoundsWrong)

/-- 'januslaw15.InodeShrinks': WHATEVER THE INPUT: true; the input reads as it did. -/
def inodeShrinksSpec : ChangeSpec := { name := "inodeShrinks", fn := fun _ => fun
  | [d1, d2, d3] => { results := [.lit (.bool true)], args := [d1, d2, d3] }
  | _ => none }
def inodeShrinksRow : OpenClaim := { program := "ytinjllnoonbjmaa", sum := "e989704baab33fbec87611fee40d189a2796d491cd8f86eed8a182a65370cded", func := "janus/januslaw15.InodeShrinks", spec := "inodeShrinks", unfollowed := true, recurses := true, apart := false }
def InodeShrinksSaid : Prop := inodeShrinksRow.holds Try.pinned (OpenSpec.ofChange inodeShrinksSpec)

/-- ITS FALSE NEIGHBOUR: 'it returns false'. Refute it at one input. -/
def inodeShrinksWrong : ChangeSpec := { name := "inodeShrinks", fn := fun _ => fun
  | [d1, d2, d3] => { results := [.lit (.bool false)], args := [d1, d2, d3] }
  | _ => none }
def InodeShrinksWrongFalsely : Prop := inodeShrinksRow.holds Try.pinned (OpenSpec.ofChange inodeShrinksWrong)

/-- 'januslaw15.InodePuts': WHATEVER THE INPUT: true; the input reads as it did. -/
def inodePutsSpec : ChangeSpec := { name := "inodePuts", fn := fun _ => fun
  | [d1, d2, d3] => { results := [.lit (.bool true)], args := [d1, d2, d3] }
  | _ => none }
def inodePutsRow : OpenClaim := { program := "ytinjllnoonbjmaa", sum := "e989704baab33fbec87611fee40d189a2796d491cd8f86eed8a182a65370cded", func := "janus/januslaw15.InodePuts", spec := "inodePuts", unfollowed := true, recurses := true, apart := false }
def InodePutsSaid : Prop := inodePutsRow.holds Try.pinned (OpenSpec.ofChange inodePutsSpec)

/-- ITS FALSE NEIGHBOUR: 'it returns false'. Refute it at one input. -/
def inodePutsWrong : ChangeSpec := { name := "inodePuts", fn := fun _ => fun
  | [d1, d2, d3] => { results := [.lit (.bool false)], args := [d1, d2, d3] }
  | _ => none }
def InodePutsWrongFalsely : Prop := inodePutsRow.holds Try.pinned (OpenSpec.ofChange inodePutsWrong)

/- THE SECOND FORM. 'bulk': how many values and letters a reading holds, each counted each time it is reached (what is shared counts as often as it is met; a slice's spare places count too). A statement '..UptoSaid' is the law's where the arguments, and the package variables that the reading takes, are together of bulk at most 1048576: NARROWER than '..Said'. Prove '..Said' where nothing that the law and all that it calls make is longer than what came in: it says more and counts as full. Else prove '..UptoSaid'. A law counts once. -/
mutual
def uptoBulk {H : Type} : DataW H → Nat
  | .lit (.string bytes) => bytes.length + 1
  | .lit _ => 1
  | .nil => 1
  | .ptr d => uptoBulk d + 1
  | .slice elems spare => uptoBulkAll elems + uptoBulkAll spare + 1
  | .agg parts => uptoBulkAll parts + 1
  | .iface _ d => uptoBulk d + 1
  | .map entries => uptoBulkEntries entries + 1
  | .held _ => 1
def uptoBulkAll {H : Type} : List (DataW H) → Nat
  | [] => 0
  | d :: r => uptoBulk d + uptoBulkAll r
def uptoBulkEntries {H : Type} : List (Lit × DataW H) → Nat
  | [] => 0
  | x :: r => uptoBulkEntry x + uptoBulkEntries r
def uptoBulkEntry {H : Type} : Lit × DataW H → Nat
  | (.string bytes, d) => bytes.length + uptoBulk d + 1
  | (_, d) => uptoBulk d + 1
 end
def uptoSmall : (H : Type) → List (DataW H) → Bool := fun _ ds => decide (uptoBulkAll ds ≤ 1048576)
def OpenSpec.upto (s : _root_.Go.ChangeSpec) : _root_.Go.OpenSpec := { _root_.Go.OpenSpec.ofChange s with cond := some uptoSmall }

/-- 'januslaw15.InodePlays', WHERE WHAT IT READS IS OF BULK AT MOST 1048576: true; the input reads as it did. -/
def inodePlaysUptoRow : OpenClaim := { program := "ytinjllnoonbjmaa", sum := "e989704baab33fbec87611fee40d189a2796d491cd8f86eed8a182a65370cded", func := "janus/januslaw15.InodePlays", spec := "inodePlays", unfollowed := true, recurses := true, apart := false, narrowed := true }
def InodePlaysUptoSaid : Prop := inodePlaysUptoRow.holds Try.pinned (OpenSpec.upto inodePlaysSpec)

/-- 'januslaw15.InodeFiles', WHERE WHAT IT READS IS OF BULK AT MOST 1048576: true; the input reads as it did. -/
def inodeFilesUptoRow : OpenClaim := { program := "ytinjllnoonbjmaa", sum := "e989704baab33fbec87611fee40d189a2796d491cd8f86eed8a182a65370cded", func := "janus/januslaw15.InodeFiles", spec := "inodeFiles", unfollowed := true, recurses := true, apart := false, narrowed := true }
def InodeFilesUptoSaid : Prop := inodeFilesUptoRow.holds Try.pinned (OpenSpec.upto inodeFilesSpec)

/-- 'januslaw15.InodeRoom', WHERE WHAT IT READS IS OF BULK AT MOST 1048576: true; the input reads as it did. -/
def inodeRoomUptoRow : OpenClaim := { program := "ytinjllnoonbjmaa", sum := "e989704baab33fbec87611fee40d189a2796d491cd8f86eed8a182a65370cded", func := "janus/januslaw15.InodeRoom", spec := "inodeRoom", unfollowed := true, recurses := true, apart := false, narrowed := true }
def InodeRoomUptoSaid : Prop := inodeRoomUptoRow.holds Try.pinned (OpenSpec.upto inodeRoomSpec)

/-- 'januslaw15.InodeBounds', WHERE WHAT IT READS IS OF BULK AT MOST 1048576: true; the input reads as it did. -/
def inodeBoundsUptoRow : OpenClaim := { program := "ytinjllnoonbjmaa", sum := "e989704baab33fbec87611fee40d189a2796d491cd8f86eed8a182a65370cded", func := "janus/januslaw15.InodeBounds", spec := "inodeBounds", unfollowed := true, recurses := true, apart := false, narrowed := true }
def InodeBoundsUptoSaid : Prop := inodeBoundsUptoRow.holds Try.pinned (OpenSpec.upto inodeBoundsSpec)

/-- 'januslaw15.InodeShrinks', WHERE WHAT IT READS IS OF BULK AT MOST 1048576: true; the input reads as it did. -/
def inodeShrinksUptoRow : OpenClaim := { program := "ytinjllnoonbjmaa", sum := "e989704baab33fbec87611fee40d189a2796d491cd8f86eed8a182a65370cded", func := "janus/januslaw15.InodeShrinks", spec := "inodeShrinks", unfollowed := true, recurses := true, apart := false, narrowed := true }
def InodeShrinksUptoSaid : Prop := inodeShrinksUptoRow.holds Try.pinned (OpenSpec.upto inodeShrinksSpec)

/-- 'januslaw15.InodePuts', WHERE WHAT IT READS IS OF BULK AT MOST 1048576: true; the input reads as it did. -/
def inodePutsUptoRow : OpenClaim := { program := "ytinjllnoonbjmaa", sum := "e989704baab33fbec87611fee40d189a2796d491cd8f86eed8a182a65370cded", func := "janus/januslaw15.InodePuts", spec := "inodePuts", unfollowed := true, recurses := true, apart := false, narrowed := true }
def InodePutsUptoSaid : Prop := inodePutsUptoRow.holds Try.pinned (OpenSpec.upto inodePutsSpec)

end Rows
end Go.Proofs.Ytinjllnoonbjmaa
