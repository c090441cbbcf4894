/-
  DERIVED. GIVEN WITH THE SEED: THE CARDS: each row of YtcjpahnlckfgoaaGreatDoorRows.lean that lists a variable, with what it lists TIED to the program's text (the seventh form; the later family's looks); each row that meets fmt, with fmt's text TOLD by the authors' own Lean function (tested against real Go, not proved from fmt's source: count such statements apart). THE CARD IS WHAT COUNTS. Prove the row's statement (the work); the ties are given (YtcjpahnlckfgoaaGreatDoorTie.lean); close each card by the builder's one call (the guide's Derived/Test/ToyasCard.lean, 'card_holds'). Laid BY PROGRAM, IN A SANDBOX (cutbox-door.mjs). By AI agents, Wed Nov 11 2026. No macro, syntax, notation, axiom, sorry.
-/
import Derived.Test.YtcjpahnlckfgoaaGreatDoorRows
import GoSem.ClaimSeven
namespace Go.Proofs.YtcjpahnlckfgoaaGreatDoor
namespace Rows

/-- THE TIED CARD OF 'januslaw17.FscorePlays'. -/
def fscorePlaysCard : Claim7 := { stood := { row := fscorePlaysRow, standIns := [], harness := (true, "6b8c5fb6193b8b3ee9431c33c0d35e6d4134cb321849a4489b2fcdef1ef85439"), looks := true }, kinds := [], alts := [], laidByText := true, laidKinds := [.data, .pinned], laidTests := true, laidLooks := .later }
def FscorePlaysCardSaid : Prop := Claim7.holds Tryz.pinned (.plain (OpenSpec.ofChange fscorePlaysSpec)) fscorePlaysCard

/-- THE TIED CARD OF 'januslaw17.FscoreMakes'. -/
def fscoreMakesCard : Claim7 := { stood := { row := fscoreMakesRow, standIns := [], harness := (true, "6b8c5fb6193b8b3ee9431c33c0d35e6d4134cb321849a4489b2fcdef1ef85439"), looks := true }, kinds := [], alts := [], laidByText := true, laidKinds := [.data, .pinned], laidTests := true, laidLooks := .later }
def FscoreMakesCardSaid : Prop := Claim7.holds Tryz.pinned (.plain (OpenSpec.ofChange fscoreMakesSpec)) fscoreMakesCard

/-- THE TIED CARD OF 'januslaw17.FscoreAgain'. -/
def fscoreAgainCard : Claim7 := { stood := { row := fscoreAgainRow, standIns := [], harness := (true, "6b8c5fb6193b8b3ee9431c33c0d35e6d4134cb321849a4489b2fcdef1ef85439"), looks := true }, kinds := [], alts := [], laidByText := true, laidKinds := [.data, .pinned], laidTests := true, laidLooks := .later }
def FscoreAgainCardSaid : Prop := Claim7.holds Tryz.pinned (.plain (OpenSpec.ofChange fscoreAgainSpec)) fscoreAgainCard

/-- THE TIED CARD OF 'januslaw17.FscoreLinks'. -/
def fscoreLinksCard : Claim7 := { stood := { row := fscoreLinksRow, standIns := [], harness := (true, "6b8c5fb6193b8b3ee9431c33c0d35e6d4134cb321849a4489b2fcdef1ef85439"), looks := true }, kinds := [], alts := [], laidByText := true, laidKinds := [.data, .pinned], laidTests := true, laidLooks := .later }
def FscoreLinksCardSaid : Prop := Claim7.holds Tryz.pinned (.plain (OpenSpec.ofChange fscoreLinksSpec)) fscoreLinksCard

/-- THE TIED CARD OF 'januslaw17.FscoreOpen'. -/
def fscoreOpenCard : Claim7 := { stood := { row := fscoreOpenRow, standIns := [], harness := (true, "6b8c5fb6193b8b3ee9431c33c0d35e6d4134cb321849a4489b2fcdef1ef85439"), looks := true }, kinds := [], alts := [], laidByText := true, laidKinds := [.data, .pinned], laidTests := true, laidLooks := .later }
def FscoreOpenCardSaid : Prop := Claim7.holds Tryz.pinned (.plain (OpenSpec.ofChange fscoreOpenSpec)) fscoreOpenCard

/-- THE TIED CARD OF 'januslaw17.FscoreRenames'. -/
def fscoreRenamesCard : Claim7 := { stood := { row := fscoreRenamesRow, standIns := [], harness := (true, "6b8c5fb6193b8b3ee9431c33c0d35e6d4134cb321849a4489b2fcdef1ef85439"), looks := true }, kinds := [], alts := [], laidByText := true, laidKinds := [.data, .pinned], laidTests := true, laidLooks := .later }
def FscoreRenamesCardSaid : Prop := Claim7.holds Tryz.pinned (.plain (OpenSpec.ofChange fscoreRenamesSpec)) fscoreRenamesCard

/-- THE SECOND FORM's CARD OF 'januslaw17.FscorePlays'. -/
def fscorePlaysUptoCard : Claim7 := { stood := { row := fscorePlaysUptoRow, standIns := [], harness := (true, "6b8c5fb6193b8b3ee9431c33c0d35e6d4134cb321849a4489b2fcdef1ef85439"), looks := true }, kinds := [], alts := [], laidByText := true, laidKinds := [.data, .pinned], laidTests := true, laidLooks := .later }
def FscorePlaysUptoCardSaid : Prop := Claim7.holds Tryz.pinned (.plain (OpenSpec.upto fscorePlaysSpec)) fscorePlaysUptoCard

/-- THE SECOND FORM's CARD OF 'januslaw17.FscoreMakes'. -/
def fscoreMakesUptoCard : Claim7 := { stood := { row := fscoreMakesUptoRow, standIns := [], harness := (true, "6b8c5fb6193b8b3ee9431c33c0d35e6d4134cb321849a4489b2fcdef1ef85439"), looks := true }, kinds := [], alts := [], laidByText := true, laidKinds := [.data, .pinned], laidTests := true, laidLooks := .later }
def FscoreMakesUptoCardSaid : Prop := Claim7.holds Tryz.pinned (.plain (OpenSpec.upto fscoreMakesSpec)) fscoreMakesUptoCard

/-- THE SECOND FORM's CARD OF 'januslaw17.FscoreAgain'. -/
def fscoreAgainUptoCard : Claim7 := { stood := { row := fscoreAgainUptoRow, standIns := [], harness := (true, "6b8c5fb6193b8b3ee9431c33c0d35e6d4134cb321849a4489b2fcdef1ef85439"), looks := true }, kinds := [], alts := [], laidByText := true, laidKinds := [.data, .pinned], laidTests := true, laidLooks := .later }
def FscoreAgainUptoCardSaid : Prop := Claim7.holds Tryz.pinned (.plain (OpenSpec.upto fscoreAgainSpec)) fscoreAgainUptoCard

/-- THE SECOND FORM's CARD OF 'januslaw17.FscoreLinks'. -/
def fscoreLinksUptoCard : Claim7 := { stood := { row := fscoreLinksUptoRow, standIns := [], harness := (true, "6b8c5fb6193b8b3ee9431c33c0d35e6d4134cb321849a4489b2fcdef1ef85439"), looks := true }, kinds := [], alts := [], laidByText := true, laidKinds := [.data, .pinned], laidTests := true, laidLooks := .later }
def FscoreLinksUptoCardSaid : Prop := Claim7.holds Tryz.pinned (.plain (OpenSpec.upto fscoreLinksSpec)) fscoreLinksUptoCard

/-- THE SECOND FORM's CARD OF 'januslaw17.FscoreOpen'. -/
def fscoreOpenUptoCard : Claim7 := { stood := { row := fscoreOpenUptoRow, standIns := [], harness := (true, "6b8c5fb6193b8b3ee9431c33c0d35e6d4134cb321849a4489b2fcdef1ef85439"), looks := true }, kinds := [], alts := [], laidByText := true, laidKinds := [.data, .pinned], laidTests := true, laidLooks := .later }
def FscoreOpenUptoCardSaid : Prop := Claim7.holds Tryz.pinned (.plain (OpenSpec.upto fscoreOpenSpec)) fscoreOpenUptoCard

/-- THE SECOND FORM's CARD OF 'januslaw17.FscoreRenames'. -/
def fscoreRenamesUptoCard : Claim7 := { stood := { row := fscoreRenamesUptoRow, standIns := [], harness := (true, "6b8c5fb6193b8b3ee9431c33c0d35e6d4134cb321849a4489b2fcdef1ef85439"), looks := true }, kinds := [], alts := [], laidByText := true, laidKinds := [.data, .pinned], laidTests := true, laidLooks := .later }
def FscoreRenamesUptoCardSaid : Prop := Claim7.holds Tryz.pinned (.plain (OpenSpec.upto fscoreRenamesSpec)) fscoreRenamesUptoCard
end Rows
end Go.Proofs.YtcjpahnlckfgoaaGreatDoor
