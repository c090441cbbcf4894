/-
  DERIVED. GIVEN WITH THE SEED: THE CARDS: each row of YtbhpafgoofkkmaaGreatDoorRows.lean that lists a variable, with what it lists TIED to the program's text (the seventh form; the later family's looks); each row that meets fmt, with fmt's text TOLD by the authors' own Lean function (tested against real Go, not proved from fmt's source: count such statements apart). THE CARD IS WHAT COUNTS. Prove the row's statement (the work); the ties are given (YtbhpafgoofkkmaaGreatDoorTie.lean); close each card by the builder's one call (the guide's Derived/Test/ToyasCard.lean, 'card_holds'). Laid BY PROGRAM, IN A SANDBOX (cutbox-door.mjs). By AI agents, Wed Nov 11 2026. No macro, syntax, notation, axiom, sorry.
-/
import Derived.Test.YtbhpafgoofkkmaaGreatDoorRows
import GoSem.ClaimSeven
namespace Go.Proofs.YtbhpafgoofkkmaaGreatDoor
namespace Rows

/-- THE TIED CARD OF 'januslaw13.ExoPlays'. -/
def exoPlaysCard : Claim7 := { stood := { row := exoPlaysRow, standIns := [], harness := (true, "d08abb9c67d3e0fc98c00c244eae468c4bee822194dc92f3f3259bc7f0cd7f4f"), looks := false }, kinds := [], alts := [], laidByText := true, laidKinds := [.data], laidTests := true, laidLooks := .later }
def ExoPlaysCardSaid : Prop := Claim7.holds Tryz.pinned (.plain (OpenSpec.ofChange exoPlaysSpec)) exoPlaysCard

/-- THE TIED CARD OF 'januslaw13.ExoRefuses'. -/
def exoRefusesCard : Claim7 := { stood := { row := exoRefusesRow, standIns := [], harness := (true, "d08abb9c67d3e0fc98c00c244eae468c4bee822194dc92f3f3259bc7f0cd7f4f"), looks := false }, kinds := [], alts := [], laidByText := true, laidKinds := [.data], laidTests := true, laidLooks := .later }
def ExoRefusesCardSaid : Prop := Claim7.holds Tryz.pinned (.plain (OpenSpec.ofChange exoRefusesSpec)) exoRefusesCard

/-- THE TIED CARD OF 'januslaw13.ExoApart'. -/
def exoApartCard : Claim7 := { stood := { row := exoApartRow, standIns := [], harness := (true, "d08abb9c67d3e0fc98c00c244eae468c4bee822194dc92f3f3259bc7f0cd7f4f"), looks := false }, kinds := [], alts := [], laidByText := true, laidKinds := [.data], laidTests := true, laidLooks := .later }
def ExoApartCardSaid : Prop := Claim7.holds Tryz.pinned (.plain (OpenSpec.ofChange exoApartSpec)) exoApartCard

/-- THE TIED CARD OF 'januslaw13.ExoWrites'. -/
def exoWritesCard : Claim7 := { stood := { row := exoWritesRow, standIns := [], harness := (true, "d08abb9c67d3e0fc98c00c244eae468c4bee822194dc92f3f3259bc7f0cd7f4f"), looks := false }, kinds := [], alts := [], laidByText := true, laidKinds := [.data], laidTests := true, laidLooks := .later }
def ExoWritesCardSaid : Prop := Claim7.holds Tryz.pinned (.plain (OpenSpec.ofChange exoWritesSpec)) exoWritesCard

/-- THE TIED CARD OF 'januslaw13.ExoNone'. -/
def exoNoneCard : Claim7 := { stood := { row := exoNoneRow, standIns := [], harness := (true, "d08abb9c67d3e0fc98c00c244eae468c4bee822194dc92f3f3259bc7f0cd7f4f"), looks := false }, kinds := [], alts := [], laidByText := true, laidKinds := [.data], laidTests := true, laidLooks := .later }
def ExoNoneCardSaid : Prop := Claim7.holds Tryz.pinned (.plain (OpenSpec.ofChange exoNoneSpec)) exoNoneCard

/-- THE SECOND FORM's CARD OF 'januslaw13.ExoPlays'. -/
def exoPlaysUptoCard : Claim7 := { stood := { row := exoPlaysUptoRow, standIns := [], harness := (true, "d08abb9c67d3e0fc98c00c244eae468c4bee822194dc92f3f3259bc7f0cd7f4f"), looks := false }, kinds := [], alts := [], laidByText := true, laidKinds := [.data], laidTests := true, laidLooks := .later }
def ExoPlaysUptoCardSaid : Prop := Claim7.holds Tryz.pinned (.plain (OpenSpec.upto exoPlaysSpec)) exoPlaysUptoCard

/-- THE SECOND FORM's CARD OF 'januslaw13.ExoRefuses'. -/
def exoRefusesUptoCard : Claim7 := { stood := { row := exoRefusesUptoRow, standIns := [], harness := (true, "d08abb9c67d3e0fc98c00c244eae468c4bee822194dc92f3f3259bc7f0cd7f4f"), looks := false }, kinds := [], alts := [], laidByText := true, laidKinds := [.data], laidTests := true, laidLooks := .later }
def ExoRefusesUptoCardSaid : Prop := Claim7.holds Tryz.pinned (.plain (OpenSpec.upto exoRefusesSpec)) exoRefusesUptoCard

/-- THE SECOND FORM's CARD OF 'januslaw13.ExoApart'. -/
def exoApartUptoCard : Claim7 := { stood := { row := exoApartUptoRow, standIns := [], harness := (true, "d08abb9c67d3e0fc98c00c244eae468c4bee822194dc92f3f3259bc7f0cd7f4f"), looks := false }, kinds := [], alts := [], laidByText := true, laidKinds := [.data], laidTests := true, laidLooks := .later }
def ExoApartUptoCardSaid : Prop := Claim7.holds Tryz.pinned (.plain (OpenSpec.upto exoApartSpec)) exoApartUptoCard

/-- THE SECOND FORM's CARD OF 'januslaw13.ExoWrites'. -/
def exoWritesUptoCard : Claim7 := { stood := { row := exoWritesUptoRow, standIns := [], harness := (true, "d08abb9c67d3e0fc98c00c244eae468c4bee822194dc92f3f3259bc7f0cd7f4f"), looks := false }, kinds := [], alts := [], laidByText := true, laidKinds := [.data], laidTests := true, laidLooks := .later }
def ExoWritesUptoCardSaid : Prop := Claim7.holds Tryz.pinned (.plain (OpenSpec.upto exoWritesSpec)) exoWritesUptoCard

/-- THE SECOND FORM's CARD OF 'januslaw13.ExoNone'. -/
def exoNoneUptoCard : Claim7 := { stood := { row := exoNoneUptoRow, standIns := [], harness := (true, "d08abb9c67d3e0fc98c00c244eae468c4bee822194dc92f3f3259bc7f0cd7f4f"), looks := false }, kinds := [], alts := [], laidByText := true, laidKinds := [.data], laidTests := true, laidLooks := .later }
def ExoNoneUptoCardSaid : Prop := Claim7.holds Tryz.pinned (.plain (OpenSpec.upto exoNoneSpec)) exoNoneUptoCard
end Rows
end Go.Proofs.YtbhpafgoofkkmaaGreatDoor
