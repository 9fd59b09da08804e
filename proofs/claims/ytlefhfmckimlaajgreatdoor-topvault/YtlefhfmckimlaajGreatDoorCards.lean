/-
  DERIVED. GIVEN WITH THE SEED: THE CARDS: each row of YtlefhfmckimlaajGreatDoorRows.lean that lists a variable, with what it lists TIED to the program's text (the seventh form; the later family's looks); each row that meets fmt, with fmt's text TOLD by the authors' own Lean function (tested against real Go, not proved from fmt's source: count such statements apart). THE CARD IS WHAT COUNTS. Prove the row's statement (the work); the ties are given (YtlefhfmckimlaajGreatDoorTie.lean); close each card by the builder's one call (the guide's Derived/Test/ToyasCard.lean, 'card_holds'). Laid BY PROGRAM, IN A SANDBOX (cutbox-door.mjs). By AI agents, Wed Nov 11 2026. No macro, syntax, notation, axiom, sorry.
-/
import Derived.Test.YtlefhfmckimlaajGreatDoorRows
import GoSem.ClaimSeven
namespace Go.Proofs.YtlefhfmckimlaajGreatDoor
namespace Rows

/-- THE TIED CARD OF 'tupletop.TopVault'. -/
def topVaultCard : Claim7 := { stood := { row := topVaultRow, standIns := [], harness := (true, "dc2aedda2f82139b8dd4ebc77104f7edceeda9e36e654a1d63683f9f5466e742"), looks := true }, kinds := [], alts := [], laidByText := true, laidKinds := [.data, .data, .data, .handle], laidTests := true, laidLooks := .later }
def TopVaultCardSaid : Prop := Claim7.holds Tryz.pinned (.plain (OpenSpec.ofChange topVaultSpec)) topVaultCard

/-- THE TIED CARD OF 'tuplelaw3.LogStops'. -/
def logStopsCard : Claim7 := { stood := { row := logStopsRow, standIns := [], harness := (true, "dc2aedda2f82139b8dd4ebc77104f7edceeda9e36e654a1d63683f9f5466e742"), looks := true }, kinds := [], alts := [], laidByText := true, laidKinds := [.data, .data, .data, .handle, .sentinel, .sentinel], laidTests := true, laidLooks := .later }
def LogStopsCardSaid : Prop := Claim7.holds Tryz.pinned (.plain (OpenSpec.ofChange logStopsSpec)) logStopsCard

/-- THE SECOND FORM's CARD OF 'tupletop.TopVault'. -/
def topVaultUptoCard : Claim7 := { stood := { row := topVaultUptoRow, standIns := [], harness := (true, "dc2aedda2f82139b8dd4ebc77104f7edceeda9e36e654a1d63683f9f5466e742"), looks := true }, kinds := [], alts := [], laidByText := true, laidKinds := [.data, .data, .data, .handle], laidTests := true, laidLooks := .later }
def TopVaultUptoCardSaid : Prop := Claim7.holds Tryz.pinned (.plain (OpenSpec.upto topVaultSpec)) topVaultUptoCard

/-- THE SECOND FORM's CARD OF 'tuplelaw3.LogStops'. -/
def logStopsUptoCard : Claim7 := { stood := { row := logStopsUptoRow, standIns := [], harness := (true, "dc2aedda2f82139b8dd4ebc77104f7edceeda9e36e654a1d63683f9f5466e742"), looks := true }, kinds := [], alts := [], laidByText := true, laidKinds := [.data, .data, .data, .handle, .sentinel, .sentinel], laidTests := true, laidLooks := .later }
def LogStopsUptoCardSaid : Prop := Claim7.holds Tryz.pinned (.plain (OpenSpec.upto logStopsSpec)) logStopsUptoCard
end Rows
end Go.Proofs.YtlefhfmckimlaajGreatDoor
