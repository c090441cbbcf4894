/-
  No cell of these rows narrows 'for every input' (looked for: loops, veiled, ifaces, maps, wideKeys, modest, calm, conditions, laid).
  DERIVED. THE GIVEN ROWS OF THIS SEAT. 5 by the template 'for every input the law returns true; each argument reads behind the call as it read before'; 0 by the template 'total and deterministic' (their statements: YtliifpknkdjgjaaTotals.lean).
  GIVEN WITH THE SEED: the statements are not yours to turn. If you find one false, say at which input.
  Laid BY PROGRAM, IN A SANDBOX (cutbox-rows.mjs): the forced cells as the released guide's own fill.sh prints them over the translation 60b8d85ffd6e2b55… (all of the seat's roots in one cut). By AI agents, Wed Nov 11 2026. No macro, syntax, notation, axiom, sorry.
-/
import Derived.Test.YtliifpknkdjgjaaChecked
import GoSem.Claim
import GoSem.ClaimJoined
import GoSem.ClaimMapViews
import Derived.JoinedTies
import Derived.KernelRfl
namespace Go.Proofs.Ytliifpknkdjgjaa
/- THE CELL 'sum', in the pinned program and in every row, IS THE sha256 OF THE DUMP (.gsa) THAT YtliifpknkdjgjaaProg.lean LOADS. Nothing in Lean hashes anything: it is a label: what it is worth is what the hold of that sum in a sandbox is worth. -/
noncomputable def Try.pinned : Pinned := { name := "ytliifpknkdjgjaa", sum := "60b8d85ffd6e2b55a374f6e48d11e2c5d0666b2b12af2ece4405aa00c7036621", checked := Try.checked }
namespace Rows
def none {H : Type} : Left H := { results := [], args := [] }

/-- 'januslaw20.SignalsPlays': WHATEVER THE INPUT: true; the input reads as it did. -/
def signalsPlaysSpec : ChangeSpec := { name := "signalsPlays", fn := fun _ => fun
  | [d] => { results := [.lit (.bool true)], args := [d] }
  | _ => none }
def signalsPlaysRow : OpenClaim := { program := "ytliifpknkdjgjaa", sum := "60b8d85ffd6e2b55a374f6e48d11e2c5d0666b2b12af2ece4405aa00c7036621", func := "janus/januslaw20.SignalsPlays", spec := "signalsPlays", unfollowed := true, recurses := true, apart := false }
def SignalsPlaysSaid : Prop := signalsPlaysRow.holds Try.pinned (OpenSpec.ofChange signalsPlaysSpec)

/-- ITS FALSE NEIGHBOUR: 'it returns false'. Refute it at one input. -/
def signalsPlaysWrong : ChangeSpec := { name := "signalsPlays", fn := fun _ => fun
  | [d] => { results := [.lit (.bool false)], args := [d] }
  | _ => none }
def SignalsPlaysWrongFalsely : Prop := signalsPlaysRow.holds Try.pinned (OpenSpec.ofChange signalsPlaysWrong)

/-- 'januslaw20.SignalsReads': WHATEVER THE INPUT: true; the input reads as it did. -/
def signalsReadsSpec : ChangeSpec := { name := "signalsReads", fn := fun _ => fun
  | [d] => { results := [.lit (.bool true)], args := [d] }
  | _ => none }
def signalsReadsRow : OpenClaim := { program := "ytliifpknkdjgjaa", sum := "60b8d85ffd6e2b55a374f6e48d11e2c5d0666b2b12af2ece4405aa00c7036621", func := "janus/januslaw20.SignalsReads", spec := "signalsReads", unfollowed := true, recurses := true, apart := false }
def SignalsReadsSaid : Prop := signalsReadsRow.holds Try.pinned (OpenSpec.ofChange signalsReadsSpec)

/-- ITS FALSE NEIGHBOUR: 'it returns false'. Refute it at one input. -/
def signalsReadsWrong : ChangeSpec := { name := "signalsReads", fn := fun _ => fun
  | [d] => { results := [.lit (.bool false)], args := [d] }
  | _ => none }
def SignalsReadsWrongFalsely : Prop := signalsReadsRow.holds Try.pinned (OpenSpec.ofChange signalsReadsWrong)

/-- 'januslaw20.SignalsOnce': WHATEVER THE INPUT: true; the input reads as it did. -/
def signalsOnceSpec : ChangeSpec := { name := "signalsOnce", fn := fun _ => fun
  | [d1, d2] => { results := [.lit (.bool true)], args := [d1, d2] }
  | _ => none }
def signalsOnceRow : OpenClaim := { program := "ytliifpknkdjgjaa", sum := "60b8d85ffd6e2b55a374f6e48d11e2c5d0666b2b12af2ece4405aa00c7036621", func := "janus/januslaw20.SignalsOnce", spec := "signalsOnce", unfollowed := true, recurses := true, apart := false }
def SignalsOnceSaid : Prop := signalsOnceRow.holds Try.pinned (OpenSpec.ofChange signalsOnceSpec)

/-- ITS FALSE NEIGHBOUR: 'it returns false'. Refute it at one input. -/
def signalsOnceWrong : ChangeSpec := { name := "signalsOnce", fn := fun _ => fun
  | [d1, d2] => { results := [.lit (.bool false)], args := [d1, d2] }
  | _ => none }
def SignalsOnceWrongFalsely : Prop := signalsOnceRow.holds Try.pinned (OpenSpec.ofChange signalsOnceWrong)

/-- 'januslaw20.SignalsHandlers': WHATEVER THE INPUT: true; the input reads as it did. -/
def signalsHandlersSpec : ChangeSpec := { name := "signalsHandlers", fn := fun _ => fun
  | [d1, d2, d3] => { results := [.lit (.bool true)], args := [d1, d2, d3] }
  | _ => none }
def signalsHandlersRow : OpenClaim := { program := "ytliifpknkdjgjaa", sum := "60b8d85ffd6e2b55a374f6e48d11e2c5d0666b2b12af2ece4405aa00c7036621", func := "janus/januslaw20.SignalsHandlers", spec := "signalsHandlers", unfollowed := true, recurses := true, apart := false }
def SignalsHandlersSaid : Prop := signalsHandlersRow.holds Try.pinned (OpenSpec.ofChange signalsHandlersSpec)

/-- ITS FALSE NEIGHBOUR: 'it returns false'. Refute it at one input. -/
def signalsHandlersWrong : ChangeSpec := { name := "signalsHandlers", fn := fun _ => fun
  | [d1, d2, d3] => { results := [.lit (.bool false)], args := [d1, d2, d3] }
  | _ => none }
def SignalsHandlersWrongFalsely : Prop := signalsHandlersRow.holds Try.pinned (OpenSpec.ofChange signalsHandlersWrong)

/-- 'januslaw20.SignalsNone': WHATEVER THE INPUT: true; the input reads as it did. -/
def signalsNoneSpec : ChangeSpec := { name := "signalsNone", fn := fun _ => fun
  | [d] => { results := [.lit (.bool true)], args := [d] }
  | _ => none }
def signalsNoneRow : OpenClaim := { program := "ytliifpknkdjgjaa", sum := "60b8d85ffd6e2b55a374f6e48d11e2c5d0666b2b12af2ece4405aa00c7036621", func := "janus/januslaw20.SignalsNone", spec := "signalsNone", unfollowed := true, recurses := true, apart := false }
def SignalsNoneSaid : Prop := signalsNoneRow.holds Try.pinned (OpenSpec.ofChange signalsNoneSpec)

/-- ITS FALSE NEIGHBOUR: 'it returns false'. Refute it at one input. -/
def signalsNoneWrong : ChangeSpec := { name := "signalsNone", fn := fun _ => fun
  | [d] => { results := [.lit (.bool false)], args := [d] }
  | _ => none }
def SignalsNoneWrongFalsely : Prop := signalsNoneRow.holds Try.pinned (OpenSpec.ofChange signalsNoneWrong)

/- THE SECOND FORM. 'bulk': how many values and letters a reading holds, each counted each time it is reached (what is shared counts as often as it is met; a slice's spare places count too). A statement '..UptoSaid' is the law's where the arguments, and the package variables that the reading takes, are together of bulk at most 1048576: NARROWER than '..Said'. Prove '..Said' where nothing that the law and all that it calls make is longer than what came in: it says more and counts as full. Else prove '..UptoSaid'. A law counts once. -/
mutual
def uptoBulk {H : Type} : DataW H → Nat
  | .lit (.string bytes) => bytes.length + 1
  | .lit _ => 1
  | .nil => 1
  | .ptr d => uptoBulk d + 1
  | .slice elems spare => uptoBulkAll elems + uptoBulkAll spare + 1
  | .agg parts => uptoBulkAll parts + 1
  | .iface _ d => uptoBulk d + 1
  | .map entries => uptoBulkEntries entries + 1
  | .held _ => 1
def uptoBulkAll {H : Type} : List (DataW H) → Nat
  | [] => 0
  | d :: r => uptoBulk d + uptoBulkAll r
def uptoBulkEntries {H : Type} : List (Lit × DataW H) → Nat
  | [] => 0
  | x :: r => uptoBulkEntry x + uptoBulkEntries r
def uptoBulkEntry {H : Type} : Lit × DataW H → Nat
  | (.string bytes, d) => bytes.length + uptoBulk d + 1
  | (_, d) => uptoBulk d + 1
 end
def uptoSmall : (H : Type) → List (DataW H) → Bool := fun _ ds => decide (uptoBulkAll ds ≤ 1048576)
def OpenSpec.upto (s : _root_.Go.ChangeSpec) : _root_.Go.OpenSpec := { _root_.Go.OpenSpec.ofChange s with cond := some uptoSmall }

/-- 'januslaw20.SignalsPlays', WHERE WHAT IT READS IS OF BULK AT MOST 1048576: true; the input reads as it did. -/
def signalsPlaysUptoRow : OpenClaim := { program := "ytliifpknkdjgjaa", sum := "60b8d85ffd6e2b55a374f6e48d11e2c5d0666b2b12af2ece4405aa00c7036621", func := "janus/januslaw20.SignalsPlays", spec := "signalsPlays", unfollowed := true, recurses := true, apart := false, narrowed := true }
def SignalsPlaysUptoSaid : Prop := signalsPlaysUptoRow.holds Try.pinned (OpenSpec.upto signalsPlaysSpec)

/-- 'januslaw20.SignalsReads', WHERE WHAT IT READS IS OF BULK AT MOST 1048576: true; the input reads as it did. -/
def signalsReadsUptoRow : OpenClaim := { program := "ytliifpknkdjgjaa", sum := "60b8d85ffd6e2b55a374f6e48d11e2c5d0666b2b12af2ece4405aa00c7036621", func := "janus/januslaw20.SignalsReads", spec := "signalsReads", unfollowed := true, recurses := true, apart := false, narrowed := true }
def SignalsReadsUptoSaid : Prop := signalsReadsUptoRow.holds Try.pinned (OpenSpec.upto signalsReadsSpec)

/-- 'januslaw20.SignalsOnce', WHERE WHAT IT READS IS OF BULK AT MOST 1048576: true; the input reads as it did. -/
def signalsOnceUptoRow : OpenClaim := { program := "ytliifpknkdjgjaa", sum := "60b8d85ffd6e2b55a374f6e48d11e2c5d0666b2b12af2ece4405aa00c7036621", func := "janus/januslaw20.SignalsOnce", spec := "signalsOnce", unfollowed := true, recurses := true, apart := false, narrowed := true }
def SignalsOnceUptoSaid : Prop := signalsOnceUptoRow.holds Try.pinned (OpenSpec.upto signalsOnceSpec)

/-- 'januslaw20.SignalsHandlers', WHERE WHAT IT READS IS OF BULK AT MOST 1048576: true; the input reads as it did. -/
def signalsHandlersUptoRow : OpenClaim := { program := "ytliifpknkdjgjaa", sum := "60b8d85ffd6e2b55a374f6e48d11e2c5d0666b2b12af2ece4405aa00c7036621", func := "janus/januslaw20.SignalsHandlers", spec := "signalsHandlers", unfollowed := true, recurses := true, apart := false, narrowed := true }
def SignalsHandlersUptoSaid : Prop := signalsHandlersUptoRow.holds Try.pinned (OpenSpec.upto signalsHandlersSpec)

/-- 'januslaw20.SignalsNone', WHERE WHAT IT READS IS OF BULK AT MOST 1048576: true; the input reads as it did. -/
def signalsNoneUptoRow : OpenClaim := { program := "ytliifpknkdjgjaa", sum := "60b8d85ffd6e2b55a374f6e48d11e2c5d0666b2b12af2ece4405aa00c7036621", func := "janus/januslaw20.SignalsNone", spec := "signalsNone", unfollowed := true, recurses := true, apart := false, narrowed := true }
def SignalsNoneUptoSaid : Prop := signalsNoneUptoRow.holds Try.pinned (OpenSpec.upto signalsNoneSpec)

end Rows
end Go.Proofs.Ytliifpknkdjgjaa
