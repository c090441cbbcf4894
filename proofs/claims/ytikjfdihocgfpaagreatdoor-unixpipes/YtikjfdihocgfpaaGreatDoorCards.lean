/-
  DERIVED. GIVEN WITH THE SEED: THE CARDS: each row of YtikjfdihocgfpaaGreatDoorRows.lean that lists a variable, with what it lists TIED to the program's text (the seventh form; the later family's looks); each row that meets fmt, with fmt's text TOLD by the authors' own Lean function (tested against real Go, not proved from fmt's source: count such statements apart). THE CARD IS WHAT COUNTS. Prove the row's statement (the work); the ties are given (YtikjfdihocgfpaaGreatDoorTie.lean); close each card by the builder's one call (the guide's Derived/Test/ToyasCard.lean, 'card_holds'). Laid BY PROGRAM, IN A SANDBOX (cutbox-door.mjs). By AI agents, Wed Nov 11 2026. No macro, syntax, notation, axiom, sorry.
-/
import Derived.Test.YtikjfdihocgfpaaGreatDoorRows
import GoSem.ClaimSeven
namespace Go.Proofs.YtikjfdihocgfpaaGreatDoor
namespace Rows

/-- THE TIED CARD OF 'januslaw22.UnixReads'. -/
def unixReadsCard : Claim7 := { stood := { row := unixReadsRow, standIns := [], harness := (true, "8bad3ad67efe0206447d33535fef8cc8b71449002c906b9acf6e740a6e6ed9ff"), looks := true }, kinds := [], alts := [], laidByText := true, laidKinds := [.data, .pinned], laidTests := true, laidLooks := .later }
def UnixReadsCardSaid : Prop := Claim7.holds Tryz.pinned (.plain (OpenSpec.ofChange unixReadsSpec)) unixReadsCard

/-- THE TIED CARD OF 'januslaw22.UnixPipes'. -/
def unixPipesCard : Claim7 := { stood := { row := unixPipesRow, standIns := [], harness := (true, "8bad3ad67efe0206447d33535fef8cc8b71449002c906b9acf6e740a6e6ed9ff"), looks := true }, kinds := [], alts := [], laidByText := true, laidKinds := [.data, .pinned], laidTests := true, laidLooks := .later }
def UnixPipesCardSaid : Prop := Claim7.holds Tryz.pinned (.plain (OpenSpec.ofChange unixPipesSpec)) unixPipesCard

/-- THE TIED CARD OF 'januslaw22.UnixNone'. -/
def unixNoneCard : Claim7 := { stood := { row := unixNoneRow, standIns := [], harness := (true, "8bad3ad67efe0206447d33535fef8cc8b71449002c906b9acf6e740a6e6ed9ff"), looks := true }, kinds := [], alts := [], laidByText := true, laidKinds := [.data, .pinned], laidTests := true, laidLooks := .later }
def UnixNoneCardSaid : Prop := Claim7.holds Tryz.pinned (.plain (OpenSpec.ofChange unixNoneSpec)) unixNoneCard

/-- THE SECOND FORM's CARD OF 'januslaw22.UnixReads'. -/
def unixReadsUptoCard : Claim7 := { stood := { row := unixReadsUptoRow, standIns := [], harness := (true, "8bad3ad67efe0206447d33535fef8cc8b71449002c906b9acf6e740a6e6ed9ff"), looks := true }, kinds := [], alts := [], laidByText := true, laidKinds := [.data, .pinned], laidTests := true, laidLooks := .later }
def UnixReadsUptoCardSaid : Prop := Claim7.holds Tryz.pinned (.plain (OpenSpec.upto unixReadsSpec)) unixReadsUptoCard

/-- THE SECOND FORM's CARD OF 'januslaw22.UnixPipes'. -/
def unixPipesUptoCard : Claim7 := { stood := { row := unixPipesUptoRow, standIns := [], harness := (true, "8bad3ad67efe0206447d33535fef8cc8b71449002c906b9acf6e740a6e6ed9ff"), looks := true }, kinds := [], alts := [], laidByText := true, laidKinds := [.data, .pinned], laidTests := true, laidLooks := .later }
def UnixPipesUptoCardSaid : Prop := Claim7.holds Tryz.pinned (.plain (OpenSpec.upto unixPipesSpec)) unixPipesUptoCard

/-- THE SECOND FORM's CARD OF 'januslaw22.UnixNone'. -/
def unixNoneUptoCard : Claim7 := { stood := { row := unixNoneUptoRow, standIns := [], harness := (true, "8bad3ad67efe0206447d33535fef8cc8b71449002c906b9acf6e740a6e6ed9ff"), looks := true }, kinds := [], alts := [], laidByText := true, laidKinds := [.data, .pinned], laidTests := true, laidLooks := .later }
def UnixNoneUptoCardSaid : Prop := Claim7.holds Tryz.pinned (.plain (OpenSpec.upto unixNoneSpec)) unixNoneUptoCard
end Rows
end Go.Proofs.YtikjfdihocgfpaaGreatDoor
