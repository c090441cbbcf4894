/-
  No cell of these rows narrows 'for every input' (looked for: loops, veiled, ifaces, maps, wideKeys, modest, calm, conditions, laid).
  DERIVED. THE GIVEN ROWS OF THIS SEAT. 5 by the template 'for every input the law returns true; each argument reads behind the call as it read before'; 0 by the template 'total and deterministic' (their statements: YtfcpcncafopobaaTotals.lean).
  GIVEN WITH THE SEED: the statements are not yours to turn. If you find one false, say at which input.
  Laid BY PROGRAM, IN A SANDBOX (cutbox-rows.mjs): the forced cells as the released guide's own fill.sh prints them over the translation 97e20492dd5197ee… (all of the seat's roots in one cut). By AI agents, Wed Nov 11 2026. No macro, syntax, notation, axiom, sorry.
-/
import Derived.Test.YtfcpcncafopobaaChecked
import GoSem.Claim
import GoSem.ClaimJoined
import GoSem.ClaimMapViews
import Derived.JoinedTies
import Derived.KernelRfl
namespace Go.Proofs.Ytfcpcncafopobaa
/- THE CELL 'sum', in the pinned program and in every row, IS THE sha256 OF THE DUMP (.gsa) THAT YtfcpcncafopobaaProg.lean LOADS. Nothing in Lean hashes anything: it is a label: what it is worth is what the hold of that sum in a sandbox is worth. -/
noncomputable def Try.pinned : Pinned := { name := "ytfcpcncafopobaa", sum := "97e20492dd5197ee87de6c70f6f213608525a4779248e069d216c1807cacfb9b", checked := Try.checked }
namespace Rows
def none {H : Type} : Left H := { results := [], args := [] }

/-- 'januslaw21.ProcsPlays': WHATEVER THE INPUT: true; the input reads as it did. -/
def procsPlaysSpec : ChangeSpec := { name := "procsPlays", fn := fun _ => fun
  | [d1, d2] => { results := [.lit (.bool true)], args := [d1, d2] }
  | _ => none }
def procsPlaysRow : OpenClaim := { program := "ytfcpcncafopobaa", sum := "97e20492dd5197ee87de6c70f6f213608525a4779248e069d216c1807cacfb9b", func := "janus/januslaw21.ProcsPlays", spec := "procsPlays", unfollowed := true, recurses := true, apart := false }
def ProcsPlaysSaid : Prop := procsPlaysRow.holds Try.pinned (OpenSpec.ofChange procsPlaysSpec)

/-- ITS FALSE NEIGHBOUR: 'it returns false'. Refute it at one input. -/
def procsPlaysWrong : ChangeSpec := { name := "procsPlays", fn := fun _ => fun
  | [d1, d2] => { results := [.lit (.bool false)], args := [d1, d2] }
  | _ => none }
def ProcsPlaysWrongFalsely : Prop := procsPlaysRow.holds Try.pinned (OpenSpec.ofChange procsPlaysWrong)

/-- 'januslaw21.ProcsReads': WHATEVER THE INPUT: true; the input reads as it did. -/
def procsReadsSpec : ChangeSpec := { name := "procsReads", fn := fun _ => fun
  | [d] => { results := [.lit (.bool true)], args := [d] }
  | _ => none }
def procsReadsRow : OpenClaim := { program := "ytfcpcncafopobaa", sum := "97e20492dd5197ee87de6c70f6f213608525a4779248e069d216c1807cacfb9b", func := "janus/januslaw21.ProcsReads", spec := "procsReads", unfollowed := true, recurses := true, apart := false }
def ProcsReadsSaid : Prop := procsReadsRow.holds Try.pinned (OpenSpec.ofChange procsReadsSpec)

/-- ITS FALSE NEIGHBOUR: 'it returns false'. Refute it at one input. -/
def procsReadsWrong : ChangeSpec := { name := "procsReads", fn := fun _ => fun
  | [d] => { results := [.lit (.bool false)], args := [d] }
  | _ => none }
def ProcsReadsWrongFalsely : Prop := procsReadsRow.holds Try.pinned (OpenSpec.ofChange procsReadsWrong)

/-- 'januslaw21.ProcsOnce': WHATEVER THE INPUT: true; the input reads as it did. -/
def procsOnceSpec : ChangeSpec := { name := "procsOnce", fn := fun _ => fun
  | [d] => { results := [.lit (.bool true)], args := [d] }
  | _ => none }
def procsOnceRow : OpenClaim := { program := "ytfcpcncafopobaa", sum := "97e20492dd5197ee87de6c70f6f213608525a4779248e069d216c1807cacfb9b", func := "janus/januslaw21.ProcsOnce", spec := "procsOnce", unfollowed := true, recurses := true, apart := false }
def ProcsOnceSaid : Prop := procsOnceRow.holds Try.pinned (OpenSpec.ofChange procsOnceSpec)

/-- ITS FALSE NEIGHBOUR: 'it returns false'. Refute it at one input. -/
def procsOnceWrong : ChangeSpec := { name := "procsOnce", fn := fun _ => fun
  | [d] => { results := [.lit (.bool false)], args := [d] }
  | _ => none }
def ProcsOnceWrongFalsely : Prop := procsOnceRow.holds Try.pinned (OpenSpec.ofChange procsOnceWrong)

/-- 'januslaw21.ProcsOrphans': WHATEVER THE INPUT: true; the input reads as it did. -/
def procsOrphansSpec : ChangeSpec := { name := "procsOrphans", fn := fun _ => fun
  | [d1, d2] => { results := [.lit (.bool true)], args := [d1, d2] }
  | _ => none }
def procsOrphansRow : OpenClaim := { program := "ytfcpcncafopobaa", sum := "97e20492dd5197ee87de6c70f6f213608525a4779248e069d216c1807cacfb9b", func := "janus/januslaw21.ProcsOrphans", spec := "procsOrphans", unfollowed := true, recurses := true, apart := false }
def ProcsOrphansSaid : Prop := procsOrphansRow.holds Try.pinned (OpenSpec.ofChange procsOrphansSpec)

/-- ITS FALSE NEIGHBOUR: 'it returns false'. Refute it at one input. -/
def procsOrphansWrong : ChangeSpec := { name := "procsOrphans", fn := fun _ => fun
  | [d1, d2] => { results := [.lit (.bool false)], args := [d1, d2] }
  | _ => none }
def ProcsOrphansWrongFalsely : Prop := procsOrphansRow.holds Try.pinned (OpenSpec.ofChange procsOrphansWrong)

/-- 'januslaw21.ProcsNone': WHATEVER THE INPUT: true; the input reads as it did. -/
def procsNoneSpec : ChangeSpec := { name := "procsNone", fn := fun _ => fun
  | [d] => { results := [.lit (.bool true)], args := [d] }
  | _ => none }
def procsNoneRow : OpenClaim := { program := "ytfcpcncafopobaa", sum := "97e20492dd5197ee87de6c70f6f213608525a4779248e069d216c1807cacfb9b", func := "janus/januslaw21.ProcsNone", spec := "procsNone", unfollowed := true, recurses := true, apart := false }
def ProcsNoneSaid : Prop := procsNoneRow.holds Try.pinned (OpenSpec.ofChange procsNoneSpec)

/-- ITS FALSE NEIGHBOUR: 'it returns false'. Refute it at one input. -/
def procsNoneWrong : ChangeSpec := { name := "procsNone", fn := fun _ => fun
  | [d] => { results := [.lit (.bool false)], args := [d] }
  | _ => none }
def ProcsNoneWrongFalsely : Prop := procsNoneRow.holds Try.pinned (OpenSpec.ofChange procsNoneWrong)

/- THE SECOND FORM. 'bulk': how many values and letters a reading holds, each counted each time it is reached (what is shared counts as often as it is met; a slice's spare places count too). A statement '..UptoSaid' is the law's where the arguments, and the package variables that the reading takes, are together of bulk at most 1048576: NARROWER than '..Said'. Prove '..Said' where nothing that the law and all that it calls make is longer than what came in: it says more and counts as full. Else prove '..UptoSaid'. A law counts once. -/
mutual
def uptoBulk {H : Type} : DataW H → Nat
  | .lit (.string bytes) => bytes.length + 1
  | .lit _ => 1
  | .nil => 1
  | .ptr d => uptoBulk d + 1
  | .slice elems spare => uptoBulkAll elems + uptoBulkAll spare + 1
  | .agg parts => uptoBulkAll parts + 1
  | .iface _ d => uptoBulk d + 1
  | .map entries => uptoBulkEntries entries + 1
  | .held _ => 1
def uptoBulkAll {H : Type} : List (DataW H) → Nat
  | [] => 0
  | d :: r => uptoBulk d + uptoBulkAll r
def uptoBulkEntries {H : Type} : List (Lit × DataW H) → Nat
  | [] => 0
  | x :: r => uptoBulkEntry x + uptoBulkEntries r
def uptoBulkEntry {H : Type} : Lit × DataW H → Nat
  | (.string bytes, d) => bytes.length + uptoBulk d + 1
  | (_, d) => uptoBulk d + 1
 end
def uptoSmall : (H : Type) → List (DataW H) → Bool := fun _ ds => decide (uptoBulkAll ds ≤ 1048576)
def OpenSpec.upto (s : _root_.Go.ChangeSpec) : _root_.Go.OpenSpec := { _root_.Go.OpenSpec.ofChange s with cond := some uptoSmall }

/-- 'januslaw21.ProcsPlays', WHERE WHAT IT READS IS OF BULK AT MOST 1048576: true; the input reads as it did. -/
def procsPlaysUptoRow : OpenClaim := { program := "ytfcpcncafopobaa", sum := "97e20492dd5197ee87de6c70f6f213608525a4779248e069d216c1807cacfb9b", func := "janus/januslaw21.ProcsPlays", spec := "procsPlays", unfollowed := true, recurses := true, apart := false, narrowed := true }
def ProcsPlaysUptoSaid : Prop := procsPlaysUptoRow.holds Try.pinned (OpenSpec.upto procsPlaysSpec)

/-- 'januslaw21.ProcsReads', WHERE WHAT IT READS IS OF BULK AT MOST 1048576: true; the input reads as it did. -/
def procsReadsUptoRow : OpenClaim := { program := "ytfcpcncafopobaa", sum := "97e20492dd5197ee87de6c70f6f213608525a4779248e069d216c1807cacfb9b", func := "janus/januslaw21.ProcsReads", spec := "procsReads", unfollowed := true, recurses := true, apart := false, narrowed := true }
def ProcsReadsUptoSaid : Prop := procsReadsUptoRow.holds Try.pinned (OpenSpec.upto procsReadsSpec)

/-- 'januslaw21.ProcsOnce', WHERE WHAT IT READS IS OF BULK AT MOST 1048576: true; the input reads as it did. -/
def procsOnceUptoRow : OpenClaim := { program := "ytfcpcncafopobaa", sum := "97e20492dd5197ee87de6c70f6f213608525a4779248e069d216c1807cacfb9b", func := "janus/januslaw21.ProcsOnce", spec := "procsOnce", unfollowed := true, recurses := true, apart := false, narrowed := true }
def ProcsOnceUptoSaid : Prop := procsOnceUptoRow.holds Try.pinned (OpenSpec.upto procsOnceSpec)

/-- 'januslaw21.ProcsOrphans', WHERE WHAT IT READS IS OF BULK AT MOST 1048576: true; the input reads as it did. -/
def procsOrphansUptoRow : OpenClaim := { program := "ytfcpcncafopobaa", sum := "97e20492dd5197ee87de6c70f6f213608525a4779248e069d216c1807cacfb9b", func := "janus/januslaw21.ProcsOrphans", spec := "procsOrphans", unfollowed := true, recurses := true, apart := false, narrowed := true }
def ProcsOrphansUptoSaid : Prop := procsOrphansUptoRow.holds Try.pinned (OpenSpec.upto procsOrphansSpec)

/-- 'januslaw21.ProcsNone', WHERE WHAT IT READS IS OF BULK AT MOST 1048576: true; the input reads as it did. -/
def procsNoneUptoRow : OpenClaim := { program := "ytfcpcncafopobaa", sum := "97e20492dd5197ee87de6c70f6f213608525a4779248e069d216c1807cacfb9b", func := "janus/januslaw21.ProcsNone", spec := "procsNone", unfollowed := true, recurses := true, apart := false, narrowed := true }
def ProcsNoneUptoSaid : Prop := procsNoneUptoRow.holds Try.pinned (OpenSpec.upto procsNoneSpec)

end Rows
end Go.Proofs.Ytfcpcncafopobaa
