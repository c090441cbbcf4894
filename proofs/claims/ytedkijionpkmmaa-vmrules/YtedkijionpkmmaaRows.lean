/-
  No cell of these rows narrows 'for every input' (looked for: loops, veiled, ifaces, maps, wideKeys, modest, calm, conditions, laid).
  DERIVED. THE GIVEN ROWS OF THIS SEAT. 4 by the template 'for every input the law returns true; each argument reads behind the call as it read before'; 0 by the template 'total and deterministic' (their statements: YtedkijionpkmmaaTotals.lean).
  GIVEN WITH THE SEED: the statements are not yours to turn. If you find one false, say at which input.
  Laid BY PROGRAM, IN A SANDBOX (cutbox-rows.mjs): the forced cells as the released guide's own fill.sh prints them over the translation ff57de609ea55bd5… (all of the seat's roots in one cut). By AI agents, Wed Nov 11 2026. No macro, syntax, notation, axiom, sorry.
-/
import Derived.Test.YtedkijionpkmmaaChecked
import GoSem.Claim
import GoSem.ClaimJoined
import GoSem.ClaimMapViews
import Derived.JoinedTies
import Derived.KernelRfl
namespace Go.Proofs.Ytedkijionpkmmaa
/- THE CELL 'sum', in the pinned program and in every row, IS THE sha256 OF THE DUMP (.gsa) THAT YtedkijionpkmmaaProg.lean LOADS. Nothing in Lean hashes anything: it is a label: what it is worth is what the hold of that sum in a sandbox is worth. -/
noncomputable def Try.pinned : Pinned := { name := "ytedkijionpkmmaa", sum := "ff57de609ea55bd51386574328257448c2874eb5955deae939a403e5241097f7", checked := Try.checked }
namespace Rows
def none {H : Type} : Left H := { results := [], args := [] }

/-- 'januslaw07.VmSteps': WHATEVER THE INPUT: true; the input reads as it did. -/
def vmStepsSpec : ChangeSpec := { name := "vmSteps", fn := fun _ => fun
  | [d1, d2, d3] => { results := [.lit (.bool true)], args := [d1, d2, d3] }
  | _ => none }
def vmStepsRow : OpenClaim := { program := "ytedkijionpkmmaa", sum := "ff57de609ea55bd51386574328257448c2874eb5955deae939a403e5241097f7", func := "janus/januslaw07.VmSteps", spec := "vmSteps", unfollowed := true, recurses := true, apart := false }
def VmStepsSaid : Prop := vmStepsRow.holds Try.pinned (OpenSpec.ofChange vmStepsSpec)

/-- ITS FALSE NEIGHBOUR: 'it returns false'. Refute it at one input. -/
def vmStepsWrong : ChangeSpec := { name := "vmSteps", fn := fun _ => fun
  | [d1, d2, d3] => { results := [.lit (.bool false)], args := [d1, d2, d3] }
  | _ => none }
def VmStepsWrongFalsely : Prop := vmStepsRow.holds Try.pinned (OpenSpec.ofChange vmStepsWrong)

/-- 'januslaw07.VmSafe': WHATEVER THE INPUT: true; the input reads as it did. -/
def vmSafeSpec : ChangeSpec := { name := "vmSafe", fn := fun _ => fun
  | [d1, d2] => { results := [.lit (.bool true)], args := [d1, d2] }
  | _ => none }
def vmSafeRow : OpenClaim := { program := "ytedkijionpkmmaa", sum := "ff57de609ea55bd51386574328257448c2874eb5955deae939a403e5241097f7", func := "janus/januslaw07.VmSafe", spec := "vmSafe", unfollowed := true, recurses := true, apart := false }
def VmSafeSaid : Prop := vmSafeRow.holds Try.pinned (OpenSpec.ofChange vmSafeSpec)

/-- ITS FALSE NEIGHBOUR: 'it returns false'. Refute it at one input. -/
def vmSafeWrong : ChangeSpec := { name := "vmSafe", fn := fun _ => fun
  | [d1, d2] => { results := [.lit (.bool false)], args := [d1, d2] }
  | _ => none }
def VmSafeWrongFalsely : Prop := vmSafeRow.holds Try.pinned (OpenSpec.ofChange vmSafeWrong)

/-- 'januslaw07.VmPieces': WHATEVER THE INPUT: true; the input reads as it did. -/
def vmPiecesSpec : ChangeSpec := { name := "vmPieces", fn := fun _ => fun
  | [d1, d2, d3] => { results := [.lit (.bool true)], args := [d1, d2, d3] }
  | _ => none }
def vmPiecesRow : OpenClaim := { program := "ytedkijionpkmmaa", sum := "ff57de609ea55bd51386574328257448c2874eb5955deae939a403e5241097f7", func := "janus/januslaw07.VmPieces", spec := "vmPieces", unfollowed := true, recurses := true, apart := false }
def VmPiecesSaid : Prop := vmPiecesRow.holds Try.pinned (OpenSpec.ofChange vmPiecesSpec)

/-- ITS FALSE NEIGHBOUR: 'it returns false'. Refute it at one input. -/
def vmPiecesWrong : ChangeSpec := { name := "vmPieces", fn := fun _ => fun
  | [d1, d2, d3] => { results := [.lit (.bool false)], args := [d1, d2, d3] }
  | _ => none }
def VmPiecesWrongFalsely : Prop := vmPiecesRow.holds Try.pinned (OpenSpec.ofChange vmPiecesWrong)

/-- 'januslaw07.VmRules': WHATEVER THE INPUT: true; the input reads as it did. -/
def vmRulesSpec : ChangeSpec := { name := "vmRules", fn := fun _ => fun
  | [d1, d2] => { results := [.lit (.bool true)], args := [d1, d2] }
  | _ => none }
def vmRulesRow : OpenClaim := { program := "ytedkijionpkmmaa", sum := "ff57de609ea55bd51386574328257448c2874eb5955deae939a403e5241097f7", func := "janus/januslaw07.VmRules", spec := "vmRules", unfollowed := true, recurses := true, apart := false }
def VmRulesSaid : Prop := vmRulesRow.holds Try.pinned (OpenSpec.ofChange vmRulesSpec)

/-- ITS FALSE NEIGHBOUR: 'it returns false'. Refute it at one input. -/
def vmRulesWrong : ChangeSpec := { name := "vmRules", fn := fun _ => fun
  | [d1, d2] => { results := [.lit (.bool false)], args := [d1, d2] }
  | _ => none }
def VmRulesWrongFalsely : Prop := vmRulesRow.holds Try.pinned (OpenSpec.ofChange vmRulesWrong)

/- THE SECOND FORM. 'bulk': how many values and letters a reading holds, each counted each time it is reached (what is shared counts as often as it is met; a slice's spare places count too). A statement '..UptoSaid' is the law's where the arguments, and the package variables that the reading takes, are together of bulk at most 1048576: NARROWER than '..Said'. Prove '..Said' where nothing that the law and all that it calls make is longer than what came in: it says more and counts as full. Else prove '..UptoSaid'. A law counts once. -/
mutual
def uptoBulk {H : Type} : DataW H → Nat
  | .lit (.string bytes) => bytes.length + 1
  | .lit _ => 1
  | .nil => 1
  | .ptr d => uptoBulk d + 1
  | .slice elems spare => uptoBulkAll elems + uptoBulkAll spare + 1
  | .agg parts => uptoBulkAll parts + 1
  | .iface _ d => uptoBulk d + 1
  | .map entries => uptoBulkEntries entries + 1
  | .held _ => 1
def uptoBulkAll {H : Type} : List (DataW H) → Nat
  | [] => 0
  | d :: r => uptoBulk d + uptoBulkAll r
def uptoBulkEntries {H : Type} : List (Lit × DataW H) → Nat
  | [] => 0
  | x :: r => uptoBulkEntry x + uptoBulkEntries r
def uptoBulkEntry {H : Type} : Lit × DataW H → Nat
  | (.string bytes, d) => bytes.length + uptoBulk d + 1
  | (_, d) => uptoBulk d + 1
 end
def uptoSmall : (H : Type) → List (DataW H) → Bool := fun _ ds => decide (uptoBulkAll ds ≤ 1048576)
def OpenSpec.upto (s : _root_.Go.ChangeSpec) : _root_.Go.OpenSpec := { _root_.Go.OpenSpec.ofChange s with cond := some uptoSmall }

/-- 'januslaw07.VmSteps', WHERE WHAT IT READS IS OF BULK AT MOST 1048576: true; the input reads as it did. -/
def vmStepsUptoRow : OpenClaim := { program := "ytedkijionpkmmaa", sum := "ff57de609ea55bd51386574328257448c2874eb5955deae939a403e5241097f7", func := "janus/januslaw07.VmSteps", spec := "vmSteps", unfollowed := true, recurses := true, apart := false, narrowed := true }
def VmStepsUptoSaid : Prop := vmStepsUptoRow.holds Try.pinned (OpenSpec.upto vmStepsSpec)

/-- 'januslaw07.VmSafe', WHERE WHAT IT READS IS OF BULK AT MOST 1048576: true; the input reads as it did. -/
def vmSafeUptoRow : OpenClaim := { program := "ytedkijionpkmmaa", sum := "ff57de609ea55bd51386574328257448c2874eb5955deae939a403e5241097f7", func := "janus/januslaw07.VmSafe", spec := "vmSafe", unfollowed := true, recurses := true, apart := false, narrowed := true }
def VmSafeUptoSaid : Prop := vmSafeUptoRow.holds Try.pinned (OpenSpec.upto vmSafeSpec)

/-- 'januslaw07.VmPieces', WHERE WHAT IT READS IS OF BULK AT MOST 1048576: true; the input reads as it did. -/
def vmPiecesUptoRow : OpenClaim := { program := "ytedkijionpkmmaa", sum := "ff57de609ea55bd51386574328257448c2874eb5955deae939a403e5241097f7", func := "janus/januslaw07.VmPieces", spec := "vmPieces", unfollowed := true, recurses := true, apart := false, narrowed := true }
def VmPiecesUptoSaid : Prop := vmPiecesUptoRow.holds Try.pinned (OpenSpec.upto vmPiecesSpec)

/-- 'januslaw07.VmRules', WHERE WHAT IT READS IS OF BULK AT MOST 1048576: true; the input reads as it did. -/
def vmRulesUptoRow : OpenClaim := { program := "ytedkijionpkmmaa", sum := "ff57de609ea55bd51386574328257448c2874eb5955deae939a403e5241097f7", func := "janus/januslaw07.VmRules", spec := "vmRules", unfollowed := true, recurses := true, apart := false, narrowed := true }
def VmRulesUptoSaid : Prop := vmRulesUptoRow.holds Try.pinned (OpenSpec.upto vmRulesSpec)

end Rows
end Go.Proofs.Ytedkijionpkmmaa
