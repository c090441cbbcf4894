/-
  DERIVED. GIVEN WITH THE SEED: THE CARDS: each row of YtinaeifpoljfoaaGreatDoorRows.lean that lists a variable, with what it lists TIED to the program's text (the seventh form; the later family's looks); each row that meets fmt, with fmt's text TOLD by the authors' own Lean function (tested against real Go, not proved from fmt's source: count such statements apart). THE CARD IS WHAT COUNTS. Prove the row's statement (the work); the ties are given (YtinaeifpoljfoaaGreatDoorTie.lean); close each card by the builder's one call (the guide's Derived/Test/ToyasCard.lean, 'card_holds'). Laid BY PROGRAM, IN A SANDBOX (cutbox-door.mjs). By AI agents, Wed Nov 11 2026. No macro, syntax, notation, axiom, sorry.
-/
import Derived.Test.YtinaeifpoljfoaaGreatDoorRows
import GoSem.ClaimSeven
namespace Go.Proofs.YtinaeifpoljfoaaGreatDoor
namespace Rows

/-- THE TIED CARD OF 'januslaw22.UnixReads'. -/
def unixReadsCard : Claim7 := { stood := { row := unixReadsRow, standIns := [], harness := (true, "14e5dcbd96c647b87caf029ba5f76166dd2c47f97a5e11e598a167b6a735371f"), looks := true }, kinds := [], alts := [], laidByText := true, laidKinds := [.data, .pinned], laidTests := true, laidLooks := .later }
def UnixReadsCardSaid : Prop := Claim7.holds Tryz.pinned (.plain (OpenSpec.ofChange unixReadsSpec)) unixReadsCard

/-- THE SECOND FORM's CARD OF 'januslaw22.UnixReads'. -/
def unixReadsUptoCard : Claim7 := { stood := { row := unixReadsUptoRow, standIns := [], harness := (true, "14e5dcbd96c647b87caf029ba5f76166dd2c47f97a5e11e598a167b6a735371f"), looks := true }, kinds := [], alts := [], laidByText := true, laidKinds := [.data, .pinned], laidTests := true, laidLooks := .later }
def UnixReadsUptoCardSaid : Prop := Claim7.holds Tryz.pinned (.plain (OpenSpec.upto unixReadsSpec)) unixReadsUptoCard
end Rows
end Go.Proofs.YtinaeifpoljfoaaGreatDoor
