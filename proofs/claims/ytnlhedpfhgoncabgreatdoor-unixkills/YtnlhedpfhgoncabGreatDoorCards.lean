/-
  DERIVED. GIVEN WITH THE SEED: THE CARDS: each row of YtnlhedpfhgoncabGreatDoorRows.lean that lists a variable, with what it lists TIED to the program's text (the seventh form; the later family's looks); each row that meets fmt, with fmt's text TOLD by the authors' own Lean function (tested against real Go, not proved from fmt's source: count such statements apart). THE CARD IS WHAT COUNTS. Prove the row's statement (the work); the ties are given (YtnlhedpfhgoncabGreatDoorTie.lean); close each card by the builder's one call (the guide's Derived/Test/ToyasCard.lean, 'card_holds'). Laid BY PROGRAM, IN A SANDBOX (cutbox-door.mjs). By AI agents, Wed Nov 11 2026. No macro, syntax, notation, axiom, sorry.
-/
import Derived.Test.YtnlhedpfhgoncabGreatDoorRows
import GoSem.ClaimSeven
namespace Go.Proofs.YtnlhedpfhgoncabGreatDoor
namespace Rows

/-- THE TIED CARD OF 'januslaw22.UnixForks'. -/
def unixForksCard : Claim7 := { stood := { row := unixForksRow, standIns := [], harness := (true, "cb3f3ba3bb3cdb105d6c9cf5c58abe982de54bb368c249fb6e204c1540d540f2"), looks := true }, kinds := [], alts := [], laidByText := true, laidKinds := [.data, .pinned], laidTests := true, laidLooks := .later }
def UnixForksCardSaid : Prop := Claim7.holds Tryz.pinned (.plain (OpenSpec.ofChange unixForksSpec)) unixForksCard

/-- THE TIED CARD OF 'januslaw22.UnixKills'. -/
def unixKillsCard : Claim7 := { stood := { row := unixKillsRow, standIns := [], harness := (true, "cb3f3ba3bb3cdb105d6c9cf5c58abe982de54bb368c249fb6e204c1540d540f2"), looks := true }, kinds := [], alts := [], laidByText := true, laidKinds := [.data, .pinned], laidTests := true, laidLooks := .later }
def UnixKillsCardSaid : Prop := Claim7.holds Tryz.pinned (.plain (OpenSpec.ofChange unixKillsSpec)) unixKillsCard

/-- THE SECOND FORM's CARD OF 'januslaw22.UnixForks'. -/
def unixForksUptoCard : Claim7 := { stood := { row := unixForksUptoRow, standIns := [], harness := (true, "cb3f3ba3bb3cdb105d6c9cf5c58abe982de54bb368c249fb6e204c1540d540f2"), looks := true }, kinds := [], alts := [], laidByText := true, laidKinds := [.data, .pinned], laidTests := true, laidLooks := .later }
def UnixForksUptoCardSaid : Prop := Claim7.holds Tryz.pinned (.plain (OpenSpec.upto unixForksSpec)) unixForksUptoCard

/-- THE SECOND FORM's CARD OF 'januslaw22.UnixKills'. -/
def unixKillsUptoCard : Claim7 := { stood := { row := unixKillsUptoRow, standIns := [], harness := (true, "cb3f3ba3bb3cdb105d6c9cf5c58abe982de54bb368c249fb6e204c1540d540f2"), looks := true }, kinds := [], alts := [], laidByText := true, laidKinds := [.data, .pinned], laidTests := true, laidLooks := .later }
def UnixKillsUptoCardSaid : Prop := Claim7.holds Tryz.pinned (.plain (OpenSpec.upto unixKillsSpec)) unixKillsUptoCard
end Rows
end Go.Proofs.YtnlhedpfhgoncabGreatDoor
