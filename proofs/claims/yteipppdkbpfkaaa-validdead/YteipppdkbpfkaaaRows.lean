/-
  No cell of these rows narrows 'for every input' (looked for: loops, veiled, ifaces, maps, wideKeys, modest, calm, conditions, laid).
  DERIVED. THE GIVEN ROWS OF THIS SEAT. 4 by the template 'for every input the law returns true; each argument reads behind the call as it read before'; 0 by the template 'total and deterministic' (their statements: YteipppdkbpfkaaaTotals.lean).
  GIVEN WITH THE SEED: the statements are not yours to turn. If you find one false, say at which input.
  Laid BY PROGRAM, IN A SANDBOX (cutbox-rows.mjs): the forced cells as the released guide's own fill.sh prints them over the translation 310dd787b49db83d… (all of the seat's roots in one cut). By AI agents, Wed Nov 11 2026. No macro, syntax, notation, axiom, sorry.
-/
import Derived.Test.YteipppdkbpfkaaaChecked
import GoSem.Claim
import GoSem.ClaimJoined
import GoSem.ClaimMapViews
import Derived.JoinedTies
import Derived.KernelRfl
namespace Go.Proofs.Yteipppdkbpfkaaa
/- THE CELL 'sum', in the pinned program and in every row, IS THE sha256 OF THE DUMP (.gsa) THAT YteipppdkbpfkaaaProg.lean LOADS. Nothing in Lean hashes anything: it is a label: what it is worth is what the hold of that sum in a sandbox is worth. -/
noncomputable def Try.pinned : Pinned := { name := "yteipppdkbpfkaaa", sum := "310dd787b49db83d86d78bb89f3576d7707d8b0784e5d0137734a6642ff1fd93", checked := Try.checked }
namespace Rows
def none {H : Type} : Left H := { results := [], args := [] }

/-- 'januslaw06.ValidChecks': WHATEVER THE INPUT: true; the input reads as it did. -/
def validChecksSpec : ChangeSpec := { name := "validChecks", fn := fun _ => fun
  | [d1, d2] => { results := [.lit (.bool true)], args := [d1, d2] }
  | _ => none }
def validChecksRow : OpenClaim := { program := "yteipppdkbpfkaaa", sum := "310dd787b49db83d86d78bb89f3576d7707d8b0784e5d0137734a6642ff1fd93", func := "janus/januslaw06.ValidChecks", spec := "validChecks", unfollowed := true, recurses := true, apart := false }
def ValidChecksSaid : Prop := validChecksRow.holds Try.pinned (OpenSpec.ofChange validChecksSpec)

/-- ITS FALSE NEIGHBOUR: 'it returns false'. Refute it at one input. -/
def validChecksWrong : ChangeSpec := { name := "validChecks", fn := fun _ => fun
  | [d1, d2] => { results := [.lit (.bool false)], args := [d1, d2] }
  | _ => none }
def ValidChecksWrongFalsely : Prop := validChecksRow.holds Try.pinned (OpenSpec.ofChange validChecksWrong)

/-- 'januslaw06.ValidStays': WHATEVER THE INPUT: true; the input reads as it did. -/
def validStaysSpec : ChangeSpec := { name := "validStays", fn := fun _ => fun
  | [d] => { results := [.lit (.bool true)], args := [d] }
  | _ => none }
def validStaysRow : OpenClaim := { program := "yteipppdkbpfkaaa", sum := "310dd787b49db83d86d78bb89f3576d7707d8b0784e5d0137734a6642ff1fd93", func := "janus/januslaw06.ValidStays", spec := "validStays", unfollowed := true, recurses := true, apart := false }
def ValidStaysSaid : Prop := validStaysRow.holds Try.pinned (OpenSpec.ofChange validStaysSpec)

/-- ITS FALSE NEIGHBOUR: 'it returns false'. Refute it at one input. -/
def validStaysWrong : ChangeSpec := { name := "validStays", fn := fun _ => fun
  | [d] => { results := [.lit (.bool false)], args := [d] }
  | _ => none }
def ValidStaysWrongFalsely : Prop := validStaysRow.holds Try.pinned (OpenSpec.ofChange validStaysWrong)

/-- 'januslaw06.ValidDead': WHATEVER THE INPUT: true; the input reads as it did. -/
def validDeadSpec : ChangeSpec := { name := "validDead", fn := fun _ => fun
  | [d1, d2] => { results := [.lit (.bool true)], args := [d1, d2] }
  | _ => none }
def validDeadRow : OpenClaim := { program := "yteipppdkbpfkaaa", sum := "310dd787b49db83d86d78bb89f3576d7707d8b0784e5d0137734a6642ff1fd93", func := "janus/januslaw06.ValidDead", spec := "validDead", unfollowed := true, recurses := true, apart := false }
def ValidDeadSaid : Prop := validDeadRow.holds Try.pinned (OpenSpec.ofChange validDeadSpec)

/-- ITS FALSE NEIGHBOUR: 'it returns false'. Refute it at one input. -/
def validDeadWrong : ChangeSpec := { name := "validDead", fn := fun _ => fun
  | [d1, d2] => { results := [.lit (.bool false)], args := [d1, d2] }
  | _ => none }
def ValidDeadWrongFalsely : Prop := validDeadRow.holds Try.pinned (OpenSpec.ofChange validDeadWrong)

/-- 'januslaw06.ValidEntries': WHATEVER THE INPUT: true; the input reads as it did. -/
def validEntriesSpec : ChangeSpec := { name := "validEntries", fn := fun _ => fun
  | [d] => { results := [.lit (.bool true)], args := [d] }
  | _ => none }
def validEntriesRow : OpenClaim := { program := "yteipppdkbpfkaaa", sum := "310dd787b49db83d86d78bb89f3576d7707d8b0784e5d0137734a6642ff1fd93", func := "janus/januslaw06.ValidEntries", spec := "validEntries", unfollowed := true, recurses := true, apart := false }
def ValidEntriesSaid : Prop := validEntriesRow.holds Try.pinned (OpenSpec.ofChange validEntriesSpec)

/-- ITS FALSE NEIGHBOUR: 'it returns false'. Refute it at one input. -/
def validEntriesWrong : ChangeSpec := { name := "validEntries", fn := fun _ => fun
  | [d] => { results := [.lit (.bool false)], args := [d] }
  | _ => none }
def ValidEntriesWrongFalsely : Prop := validEntriesRow.holds Try.pinned (OpenSpec.ofChange validEntriesWrong)

/- THE SECOND FORM. 'bulk': how many values and letters a reading holds, each counted each time it is reached (what is shared counts as often as it is met; a slice's spare places count too). A statement '..UptoSaid' is the law's where the arguments, and the package variables that the reading takes, are together of bulk at most 1048576: NARROWER than '..Said'. Prove '..Said' where nothing that the law and all that it calls make is longer than what came in: it says more and counts as full. Else prove '..UptoSaid'. A law counts once. -/
mutual
def uptoBulk {H : Type} : DataW H → Nat
  | .lit (.string bytes) => bytes.length + 1
  | .lit _ => 1
  | .nil => 1
  | .ptr d => uptoBulk d + 1
  | .slice elems spare => uptoBulkAll elems + uptoBulkAll spare + 1
  | .agg parts => uptoBulkAll parts + 1
  | .iface _ d => uptoBulk d + 1
  | .map entries => uptoBulkEntries entries + 1
  | .held _ => 1
def uptoBulkAll {H : Type} : List (DataW H) → Nat
  | [] => 0
  | d :: r => uptoBulk d + uptoBulkAll r
def uptoBulkEntries {H : Type} : List (Lit × DataW H) → Nat
  | [] => 0
  | x :: r => uptoBulkEntry x + uptoBulkEntries r
def uptoBulkEntry {H : Type} : Lit × DataW H → Nat
  | (.string bytes, d) => bytes.length + uptoBulk d + 1
  | (_, d) => uptoBulk d + 1
 end
def uptoSmall : (H : Type) → List (DataW H) → Bool := fun _ ds => decide (uptoBulkAll ds ≤ 1048576)
def OpenSpec.upto (s : _root_.Go.ChangeSpec) : _root_.Go.OpenSpec := { _root_.Go.OpenSpec.ofChange s with cond := some uptoSmall }

/-- 'januslaw06.ValidChecks', WHERE WHAT IT READS IS OF BULK AT MOST 1048576: true; the input reads as it did. -/
def validChecksUptoRow : OpenClaim := { program := "yteipppdkbpfkaaa", sum := "310dd787b49db83d86d78bb89f3576d7707d8b0784e5d0137734a6642ff1fd93", func := "janus/januslaw06.ValidChecks", spec := "validChecks", unfollowed := true, recurses := true, apart := false, narrowed := true }
def ValidChecksUptoSaid : Prop := validChecksUptoRow.holds Try.pinned (OpenSpec.upto validChecksSpec)

/-- 'januslaw06.ValidStays', WHERE WHAT IT READS IS OF BULK AT MOST 1048576: true; the input reads as it did. -/
def validStaysUptoRow : OpenClaim := { program := "yteipppdkbpfkaaa", sum := "310dd787b49db83d86d78bb89f3576d7707d8b0784e5d0137734a6642ff1fd93", func := "janus/januslaw06.ValidStays", spec := "validStays", unfollowed := true, recurses := true, apart := false, narrowed := true }
def ValidStaysUptoSaid : Prop := validStaysUptoRow.holds Try.pinned (OpenSpec.upto validStaysSpec)

/-- 'januslaw06.ValidDead', WHERE WHAT IT READS IS OF BULK AT MOST 1048576: true; the input reads as it did. -/
def validDeadUptoRow : OpenClaim := { program := "yteipppdkbpfkaaa", sum := "310dd787b49db83d86d78bb89f3576d7707d8b0784e5d0137734a6642ff1fd93", func := "janus/januslaw06.ValidDead", spec := "validDead", unfollowed := true, recurses := true, apart := false, narrowed := true }
def ValidDeadUptoSaid : Prop := validDeadUptoRow.holds Try.pinned (OpenSpec.upto validDeadSpec)

/-- 'januslaw06.ValidEntries', WHERE WHAT IT READS IS OF BULK AT MOST 1048576: true; the input reads as it did. -/
def validEntriesUptoRow : OpenClaim := { program := "yteipppdkbpfkaaa", sum := "310dd787b49db83d86d78bb89f3576d7707d8b0784e5d0137734a6642ff1fd93", func := "janus/januslaw06.ValidEntries", spec := "validEntries", unfollowed := true, recurses := true, apart := false, narrowed := true }
def ValidEntriesUptoSaid : Prop := validEntriesUptoRow.holds Try.pinned (OpenSpec.upto validEntriesSpec)

end Rows
end Go.Proofs.Yteipppdkbpfkaaa
