/-
  NARROWER THAN 'FOR EVERY INPUT', by the rows' own cells (each row's printed sentence says how): FscorePlays: laid · FscoreMakes: laid · FscoreAgain: laid · FscoreLinks: laid · FscoreOpen: laid · FscoreRenames: laid.
  DERIVED. THE GIVEN ROWS OF THIS SEAT. 6 by the template 'for every input the law returns true; each argument reads behind the call as it read before'; 0 by the template 'total and deterministic' (their statements: YtcjpahnlckfgoaaGreatDoorTotals.lean).
  GIVEN WITH THE SEED: the statements are not yours to turn. If you find one false, say at which input.
  Laid BY PROGRAM, IN A SANDBOX (cutbox-rows.mjs): the forced cells as the released guide's own fill.sh prints them over the translation 10eb31b43dd57d79… (all of the seat's roots in one cut). By AI agents, Wed Nov 11 2026. No macro, syntax, notation, axiom, sorry.
-/
import Derived.Test.YtcjpahnlckfgoaaGreatDoorChecked
import GoSem.PinnedTables
import GoSem.Claim
import GoSem.ClaimJoined
import GoSem.ClaimMapViews
import Derived.JoinedTies
import Derived.KernelRfl
namespace Go.Proofs.YtcjpahnlckfgoaaGreatDoor
/- THE CELL 'sum', in the pinned program and in every row, IS THE sha256 OF THE DUMP (.gsa) THAT YtcjpahnlckfgoaaGreatDoorProg.lean LOADS. Nothing in Lean hashes anything: it is a label: what it is worth is what the hold of that sum in a sandbox is worth. -/
noncomputable def Tryz.pinned : Pinned := { name := "ytcjpahnlckfgoaagreatdoor", sum := "10eb31b43dd57d79235f6de9d8390a36cbf78a086cb0d53019caa9122e454d8a", checked := Tryz.checked }
namespace Rows
def none {H : Type} : Left H := { results := [], args := [] }

/- WHAT THE LISTED PACKAGE-LEVEL VARIABLES READ AS WHEN THE CALL BEGINS. Each datum BY PROGRAM (the guide's laid-datum.mjs) off the statement by which the dump's own 'gosem.cut.vars' lays the variable. In a bare row this is a premise. The card (YtcjpahnlckfgoaaGreatDoorCards.lean) ties it to the program's text. -/
def laid_unicode_utf8_acceptRanges {H : Type} : DataW H := .agg [.agg [.lit (.int .u8 128), .lit (.int .u8 191)], .agg [.lit (.int .u8 160), .lit (.int .u8 191)], .agg [.lit (.int .u8 128), .lit (.int .u8 159)], .agg [.lit (.int .u8 144), .lit (.int .u8 191)], .agg [.lit (.int .u8 128), .lit (.int .u8 143)], .agg [.lit (.int .u8 0), .lit (.int .u8 0)], .agg [.lit (.int .u8 0), .lit (.int .u8 0)], .agg [.lit (.int .u8 0), .lit (.int .u8 0)], .agg [.lit (.int .u8 0), .lit (.int .u8 0)], .agg [.lit (.int .u8 0), .lit (.int .u8 0)], .agg [.lit (.int .u8 0), .lit (.int .u8 0)], .agg [.lit (.int .u8 0), .lit (.int .u8 0)], .agg [.lit (.int .u8 0), .lit (.int .u8 0)], .agg [.lit (.int .u8 0), .lit (.int .u8 0)], .agg [.lit (.int .u8 0), .lit (.int .u8 0)], .agg [.lit (.int .u8 0), .lit (.int .u8 0)]]
/-- One of Go's own tables, pinned by name: the form's constant. -/
def laid_unicode_utf8_first : DataW Unit := Go.Pinned.utf8First

/-- 'januslaw17.FscorePlays': WHATEVER THE INPUT: true; the input reads as it did. -/
def fscorePlaysSpec : ChangeSpec := { name := "fscorePlays", fn := fun _ => fun
  | [d1, d2] => { results := [.lit (.bool true)], args := [d1, d2] }
  | _ => none }
def fscorePlaysRow : OpenClaim := { program := "ytcjpahnlckfgoaagreatdoor", sum := "10eb31b43dd57d79235f6de9d8390a36cbf78a086cb0d53019caa9122e454d8a", func := "janus/januslaw17.FscorePlays", spec := "fscorePlays", inPlace := ["internal/bytealg.IndexByteString", "internal/bytealg.IndexString", "internal/abi.NoEscape", "internal/bytealg.MakeNoZero", "internal/bytealg.abigen_runtime_cmpstring"], unfollowed := true, recurses := true, named := ["unicode/utf8.first", "unicode/utf8.acceptRanges", "internal/bytealg.MaxLen"], apart := false, laid := [("unicode/utf8.acceptRanges", laid_unicode_utf8_acceptRanges), ("unicode/utf8.first", laid_unicode_utf8_first)] }
def FscorePlaysSaid : Prop := fscorePlaysRow.holds Tryz.pinned (OpenSpec.ofChange fscorePlaysSpec)

/-- ITS FALSE NEIGHBOUR: 'it returns false'. Refute it at one input. -/
def fscorePlaysWrong : ChangeSpec := { name := "fscorePlays", fn := fun _ => fun
  | [d1, d2] => { results := [.lit (.bool false)], args := [d1, d2] }
  | _ => none }
def FscorePlaysWrongFalsely : Prop := fscorePlaysRow.holds Tryz.pinned (OpenSpec.ofChange fscorePlaysWrong)

/-- 'januslaw17.FscoreMakes': WHATEVER THE INPUT: true; the input reads as it did. -/
def fscoreMakesSpec : ChangeSpec := { name := "fscoreMakes", fn := fun _ => fun
  | [d1, d2] => { results := [.lit (.bool true)], args := [d1, d2] }
  | _ => none }
def fscoreMakesRow : OpenClaim := { program := "ytcjpahnlckfgoaagreatdoor", sum := "10eb31b43dd57d79235f6de9d8390a36cbf78a086cb0d53019caa9122e454d8a", func := "janus/januslaw17.FscoreMakes", spec := "fscoreMakes", inPlace := ["internal/bytealg.IndexByteString", "internal/bytealg.IndexString", "internal/abi.NoEscape", "internal/bytealg.MakeNoZero", "internal/bytealg.abigen_runtime_cmpstring"], unfollowed := true, recurses := true, named := ["unicode/utf8.first", "unicode/utf8.acceptRanges", "internal/bytealg.MaxLen"], apart := false, laid := [("unicode/utf8.acceptRanges", laid_unicode_utf8_acceptRanges), ("unicode/utf8.first", laid_unicode_utf8_first)] }
def FscoreMakesSaid : Prop := fscoreMakesRow.holds Tryz.pinned (OpenSpec.ofChange fscoreMakesSpec)

/-- ITS FALSE NEIGHBOUR: 'it returns false'. Refute it at one input. -/
def fscoreMakesWrong : ChangeSpec := { name := "fscoreMakes", fn := fun _ => fun
  | [d1, d2] => { results := [.lit (.bool false)], args := [d1, d2] }
  | _ => none }
def FscoreMakesWrongFalsely : Prop := fscoreMakesRow.holds Tryz.pinned (OpenSpec.ofChange fscoreMakesWrong)

/-- 'januslaw17.FscoreAgain': WHATEVER THE INPUT: true; the input reads as it did. -/
def fscoreAgainSpec : ChangeSpec := { name := "fscoreAgain", fn := fun _ => fun
  | [d] => { results := [.lit (.bool true)], args := [d] }
  | _ => none }
def fscoreAgainRow : OpenClaim := { program := "ytcjpahnlckfgoaagreatdoor", sum := "10eb31b43dd57d79235f6de9d8390a36cbf78a086cb0d53019caa9122e454d8a", func := "janus/januslaw17.FscoreAgain", spec := "fscoreAgain", inPlace := ["internal/bytealg.IndexByteString", "internal/bytealg.IndexString", "internal/abi.NoEscape", "internal/bytealg.MakeNoZero", "internal/bytealg.abigen_runtime_cmpstring"], unfollowed := true, recurses := true, named := ["unicode/utf8.first", "unicode/utf8.acceptRanges", "internal/bytealg.MaxLen"], apart := false, laid := [("unicode/utf8.acceptRanges", laid_unicode_utf8_acceptRanges), ("unicode/utf8.first", laid_unicode_utf8_first)] }
def FscoreAgainSaid : Prop := fscoreAgainRow.holds Tryz.pinned (OpenSpec.ofChange fscoreAgainSpec)

/-- ITS FALSE NEIGHBOUR: 'it returns false'. Refute it at one input. -/
def fscoreAgainWrong : ChangeSpec := { name := "fscoreAgain", fn := fun _ => fun
  | [d] => { results := [.lit (.bool false)], args := [d] }
  | _ => none }
def FscoreAgainWrongFalsely : Prop := fscoreAgainRow.holds Tryz.pinned (OpenSpec.ofChange fscoreAgainWrong)

/-- 'januslaw17.FscoreLinks': WHATEVER THE INPUT: true; the input reads as it did. -/
def fscoreLinksSpec : ChangeSpec := { name := "fscoreLinks", fn := fun _ => fun
  | [d1, d2, d3] => { results := [.lit (.bool true)], args := [d1, d2, d3] }
  | _ => none }
def fscoreLinksRow : OpenClaim := { program := "ytcjpahnlckfgoaagreatdoor", sum := "10eb31b43dd57d79235f6de9d8390a36cbf78a086cb0d53019caa9122e454d8a", func := "janus/januslaw17.FscoreLinks", spec := "fscoreLinks", inPlace := ["internal/bytealg.IndexByteString", "internal/bytealg.IndexString", "internal/abi.NoEscape", "internal/bytealg.MakeNoZero", "internal/bytealg.abigen_runtime_cmpstring"], unfollowed := true, recurses := true, named := ["unicode/utf8.first", "unicode/utf8.acceptRanges", "internal/bytealg.MaxLen"], apart := false, laid := [("unicode/utf8.acceptRanges", laid_unicode_utf8_acceptRanges), ("unicode/utf8.first", laid_unicode_utf8_first)] }
def FscoreLinksSaid : Prop := fscoreLinksRow.holds Tryz.pinned (OpenSpec.ofChange fscoreLinksSpec)

/-- ITS FALSE NEIGHBOUR: 'it returns false'. Refute it at one input. -/
def fscoreLinksWrong : ChangeSpec := { name := "fscoreLinks", fn := fun _ => fun
  | [d1, d2, d3] => { results := [.lit (.bool false)], args := [d1, d2, d3] }
  | _ => none }
def FscoreLinksWrongFalsely : Prop := fscoreLinksRow.holds Tryz.pinned (OpenSpec.ofChange fscoreLinksWrong)

/-- 'januslaw17.FscoreOpen': WHATEVER THE INPUT: true; the input reads as it did. -/
def fscoreOpenSpec : ChangeSpec := { name := "fscoreOpen", fn := fun _ => fun
  | [d1, d2] => { results := [.lit (.bool true)], args := [d1, d2] }
  | _ => none }
def fscoreOpenRow : OpenClaim := { program := "ytcjpahnlckfgoaagreatdoor", sum := "10eb31b43dd57d79235f6de9d8390a36cbf78a086cb0d53019caa9122e454d8a", func := "janus/januslaw17.FscoreOpen", spec := "fscoreOpen", inPlace := ["internal/bytealg.IndexByteString", "internal/bytealg.IndexString", "internal/abi.NoEscape", "internal/bytealg.MakeNoZero", "internal/bytealg.abigen_runtime_cmpstring"], unfollowed := true, recurses := true, named := ["unicode/utf8.first", "unicode/utf8.acceptRanges", "internal/bytealg.MaxLen"], apart := false, laid := [("unicode/utf8.acceptRanges", laid_unicode_utf8_acceptRanges), ("unicode/utf8.first", laid_unicode_utf8_first)] }
def FscoreOpenSaid : Prop := fscoreOpenRow.holds Tryz.pinned (OpenSpec.ofChange fscoreOpenSpec)

/-- ITS FALSE NEIGHBOUR: 'it returns false'. Refute it at one input. -/
def fscoreOpenWrong : ChangeSpec := { name := "fscoreOpen", fn := fun _ => fun
  | [d1, d2] => { results := [.lit (.bool false)], args := [d1, d2] }
  | _ => none }
def FscoreOpenWrongFalsely : Prop := fscoreOpenRow.holds Tryz.pinned (OpenSpec.ofChange fscoreOpenWrong)

/-- 'januslaw17.FscoreRenames': WHATEVER THE INPUT: true; the input reads as it did. -/
def fscoreRenamesSpec : ChangeSpec := { name := "fscoreRenames", fn := fun _ => fun
  | [d1, d2, d3] => { results := [.lit (.bool true)], args := [d1, d2, d3] }
  | _ => none }
def fscoreRenamesRow : OpenClaim := { program := "ytcjpahnlckfgoaagreatdoor", sum := "10eb31b43dd57d79235f6de9d8390a36cbf78a086cb0d53019caa9122e454d8a", func := "janus/januslaw17.FscoreRenames", spec := "fscoreRenames", inPlace := ["internal/bytealg.IndexByteString", "internal/bytealg.IndexString", "internal/abi.NoEscape", "internal/bytealg.MakeNoZero", "internal/bytealg.abigen_runtime_cmpstring"], unfollowed := true, recurses := true, named := ["unicode/utf8.first", "unicode/utf8.acceptRanges", "internal/bytealg.MaxLen"], apart := false, laid := [("unicode/utf8.acceptRanges", laid_unicode_utf8_acceptRanges), ("unicode/utf8.first", laid_unicode_utf8_first)] }
def FscoreRenamesSaid : Prop := fscoreRenamesRow.holds Tryz.pinned (OpenSpec.ofChange fscoreRenamesSpec)

/-- ITS FALSE NEIGHBOUR: 'it returns false'. Refute it at one input. -/
def fscoreRenamesWrong : ChangeSpec := { name := "fscoreRenames", fn := fun _ => fun
  | [d1, d2, d3] => { results := [.lit (.bool false)], args := [d1, d2, d3] }
  | _ => none }
def FscoreRenamesWrongFalsely : Prop := fscoreRenamesRow.holds Tryz.pinned (OpenSpec.ofChange fscoreRenamesWrong)

/- THE SECOND FORM. 'bulk': how many values and letters a reading holds, each counted each time it is reached (what is shared counts as often as it is met; a slice's spare places count too). A statement '..UptoSaid' is the law's where the arguments, and the package variables that the reading takes, are together of bulk at most 1048576: NARROWER than '..Said'. Prove '..Said' where nothing that the law and all that it calls make is longer than what came in: it says more and counts as full. Else prove '..UptoSaid'. A law counts once. -/
mutual
def uptoBulk {H : Type} : DataW H → Nat
  | .lit (.string bytes) => bytes.length + 1
  | .lit _ => 1
  | .nil => 1
  | .ptr d => uptoBulk d + 1
  | .slice elems spare => uptoBulkAll elems + uptoBulkAll spare + 1
  | .agg parts => uptoBulkAll parts + 1
  | .iface _ d => uptoBulk d + 1
  | .map entries => uptoBulkEntries entries + 1
  | .held _ => 1
def uptoBulkAll {H : Type} : List (DataW H) → Nat
  | [] => 0
  | d :: r => uptoBulk d + uptoBulkAll r
def uptoBulkEntries {H : Type} : List (Lit × DataW H) → Nat
  | [] => 0
  | x :: r => uptoBulkEntry x + uptoBulkEntries r
def uptoBulkEntry {H : Type} : Lit × DataW H → Nat
  | (.string bytes, d) => bytes.length + uptoBulk d + 1
  | (_, d) => uptoBulk d + 1
 end
def uptoSmall : (H : Type) → List (DataW H) → Bool := fun _ ds => decide (uptoBulkAll ds ≤ 1048576)
def OpenSpec.upto (s : _root_.Go.ChangeSpec) : _root_.Go.OpenSpec := { _root_.Go.OpenSpec.ofChange s with cond := some uptoSmall }

/-- 'januslaw17.FscorePlays', WHERE WHAT IT READS IS OF BULK AT MOST 1048576: true; the input reads as it did. -/
def fscorePlaysUptoRow : OpenClaim := { program := "ytcjpahnlckfgoaagreatdoor", sum := "10eb31b43dd57d79235f6de9d8390a36cbf78a086cb0d53019caa9122e454d8a", func := "janus/januslaw17.FscorePlays", spec := "fscorePlays", inPlace := ["internal/bytealg.IndexByteString", "internal/bytealg.IndexString", "internal/abi.NoEscape", "internal/bytealg.MakeNoZero", "internal/bytealg.abigen_runtime_cmpstring"], unfollowed := true, recurses := true, named := ["unicode/utf8.first", "unicode/utf8.acceptRanges", "internal/bytealg.MaxLen"], apart := false, laid := [("unicode/utf8.acceptRanges", laid_unicode_utf8_acceptRanges), ("unicode/utf8.first", laid_unicode_utf8_first)], narrowed := true }
def FscorePlaysUptoSaid : Prop := fscorePlaysUptoRow.holds Tryz.pinned (OpenSpec.upto fscorePlaysSpec)

/-- 'januslaw17.FscoreMakes', WHERE WHAT IT READS IS OF BULK AT MOST 1048576: true; the input reads as it did. -/
def fscoreMakesUptoRow : OpenClaim := { program := "ytcjpahnlckfgoaagreatdoor", sum := "10eb31b43dd57d79235f6de9d8390a36cbf78a086cb0d53019caa9122e454d8a", func := "janus/januslaw17.FscoreMakes", spec := "fscoreMakes", inPlace := ["internal/bytealg.IndexByteString", "internal/bytealg.IndexString", "internal/abi.NoEscape", "internal/bytealg.MakeNoZero", "internal/bytealg.abigen_runtime_cmpstring"], unfollowed := true, recurses := true, named := ["unicode/utf8.first", "unicode/utf8.acceptRanges", "internal/bytealg.MaxLen"], apart := false, laid := [("unicode/utf8.acceptRanges", laid_unicode_utf8_acceptRanges), ("unicode/utf8.first", laid_unicode_utf8_first)], narrowed := true }
def FscoreMakesUptoSaid : Prop := fscoreMakesUptoRow.holds Tryz.pinned (OpenSpec.upto fscoreMakesSpec)

/-- 'januslaw17.FscoreAgain', WHERE WHAT IT READS IS OF BULK AT MOST 1048576: true; the input reads as it did. -/
def fscoreAgainUptoRow : OpenClaim := { program := "ytcjpahnlckfgoaagreatdoor", sum := "10eb31b43dd57d79235f6de9d8390a36cbf78a086cb0d53019caa9122e454d8a", func := "janus/januslaw17.FscoreAgain", spec := "fscoreAgain", inPlace := ["internal/bytealg.IndexByteString", "internal/bytealg.IndexString", "internal/abi.NoEscape", "internal/bytealg.MakeNoZero", "internal/bytealg.abigen_runtime_cmpstring"], unfollowed := true, recurses := true, named := ["unicode/utf8.first", "unicode/utf8.acceptRanges", "internal/bytealg.MaxLen"], apart := false, laid := [("unicode/utf8.acceptRanges", laid_unicode_utf8_acceptRanges), ("unicode/utf8.first", laid_unicode_utf8_first)], narrowed := true }
def FscoreAgainUptoSaid : Prop := fscoreAgainUptoRow.holds Tryz.pinned (OpenSpec.upto fscoreAgainSpec)

/-- 'januslaw17.FscoreLinks', WHERE WHAT IT READS IS OF BULK AT MOST 1048576: true; the input reads as it did. -/
def fscoreLinksUptoRow : OpenClaim := { program := "ytcjpahnlckfgoaagreatdoor", sum := "10eb31b43dd57d79235f6de9d8390a36cbf78a086cb0d53019caa9122e454d8a", func := "janus/januslaw17.FscoreLinks", spec := "fscoreLinks", inPlace := ["internal/bytealg.IndexByteString", "internal/bytealg.IndexString", "internal/abi.NoEscape", "internal/bytealg.MakeNoZero", "internal/bytealg.abigen_runtime_cmpstring"], unfollowed := true, recurses := true, named := ["unicode/utf8.first", "unicode/utf8.acceptRanges", "internal/bytealg.MaxLen"], apart := false, laid := [("unicode/utf8.acceptRanges", laid_unicode_utf8_acceptRanges), ("unicode/utf8.first", laid_unicode_utf8_first)], narrowed := true }
def FscoreLinksUptoSaid : Prop := fscoreLinksUptoRow.holds Tryz.pinned (OpenSpec.upto fscoreLinksSpec)

/-- 'januslaw17.FscoreOpen', WHERE WHAT IT READS IS OF BULK AT MOST 1048576: true; the input reads as it did. -/
def fscoreOpenUptoRow : OpenClaim := { program := "ytcjpahnlckfgoaagreatdoor", sum := "10eb31b43dd57d79235f6de9d8390a36cbf78a086cb0d53019caa9122e454d8a", func := "janus/januslaw17.FscoreOpen", spec := "fscoreOpen", inPlace := ["internal/bytealg.IndexByteString", "internal/bytealg.IndexString", "internal/abi.NoEscape", "internal/bytealg.MakeNoZero", "internal/bytealg.abigen_runtime_cmpstring"], unfollowed := true, recurses := true, named := ["unicode/utf8.first", "unicode/utf8.acceptRanges", "internal/bytealg.MaxLen"], apart := false, laid := [("unicode/utf8.acceptRanges", laid_unicode_utf8_acceptRanges), ("unicode/utf8.first", laid_unicode_utf8_first)], narrowed := true }
def FscoreOpenUptoSaid : Prop := fscoreOpenUptoRow.holds Tryz.pinned (OpenSpec.upto fscoreOpenSpec)

/-- 'januslaw17.FscoreRenames', WHERE WHAT IT READS IS OF BULK AT MOST 1048576: true; the input reads as it did. -/
def fscoreRenamesUptoRow : OpenClaim := { program := "ytcjpahnlckfgoaagreatdoor", sum := "10eb31b43dd57d79235f6de9d8390a36cbf78a086cb0d53019caa9122e454d8a", func := "janus/januslaw17.FscoreRenames", spec := "fscoreRenames", inPlace := ["internal/bytealg.IndexByteString", "internal/bytealg.IndexString", "internal/abi.NoEscape", "internal/bytealg.MakeNoZero", "internal/bytealg.abigen_runtime_cmpstring"], unfollowed := true, recurses := true, named := ["unicode/utf8.first", "unicode/utf8.acceptRanges", "internal/bytealg.MaxLen"], apart := false, laid := [("unicode/utf8.acceptRanges", laid_unicode_utf8_acceptRanges), ("unicode/utf8.first", laid_unicode_utf8_first)], narrowed := true }
def FscoreRenamesUptoSaid : Prop := fscoreRenamesUptoRow.holds Tryz.pinned (OpenSpec.upto fscoreRenamesSpec)

end Rows
end Go.Proofs.YtcjpahnlckfgoaaGreatDoor
