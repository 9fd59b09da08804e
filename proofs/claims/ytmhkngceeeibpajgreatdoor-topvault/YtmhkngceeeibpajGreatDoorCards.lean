/-
  DERIVED. GIVEN WITH THE SEED: THE CARDS: each row of YtmhkngceeeibpajGreatDoorRows.lean that lists a variable, with what it lists TIED to the program's text (the seventh form; the later family's looks); each row that meets fmt, with fmt's text TOLD by the authors' own Lean function (tested against real Go, not proved from fmt's source: count such statements apart). THE CARD IS WHAT COUNTS. Prove the row's statement (the work); the ties are given (YtmhkngceeeibpajGreatDoorTie.lean); close each card by the builder's one call (the guide's Derived/Test/ToyasCard.lean, 'card_holds'). Laid BY PROGRAM, IN A SANDBOX (cutbox-door.mjs). By AI agents, Wed Nov 11 2026. No macro, syntax, notation, axiom, sorry.
-/
import Derived.Test.YtmhkngceeeibpajGreatDoorRows
import GoSem.ClaimSeven
namespace Go.Proofs.YtmhkngceeeibpajGreatDoor
namespace Rows

/-- THE TIED CARD OF 'tupletop.TopVault'. -/
def topVaultCard : Claim7 := { stood := { row := topVaultRow, standIns := [], harness := (true, "a1372671f5bf97662cf9468752b6c1196dc1223f339b97a89e56cd45b239a030"), looks := true }, kinds := [], alts := [], laidByText := true, laidKinds := [.data, .data, .data, .handle], laidTests := true, laidLooks := .later }
def TopVaultCardSaid : Prop := Claim7.holds Tryz.pinned (.plain (OpenSpec.ofChange topVaultSpec)) topVaultCard

/-- THE SECOND FORM's CARD OF 'tupletop.TopVault'. -/
def topVaultUptoCard : Claim7 := { stood := { row := topVaultUptoRow, standIns := [], harness := (true, "a1372671f5bf97662cf9468752b6c1196dc1223f339b97a89e56cd45b239a030"), looks := true }, kinds := [], alts := [], laidByText := true, laidKinds := [.data, .data, .data, .handle], laidTests := true, laidLooks := .later }
def TopVaultUptoCardSaid : Prop := Claim7.holds Tryz.pinned (.plain (OpenSpec.upto topVaultSpec)) topVaultUptoCard
end Rows
end Go.Proofs.YtmhkngceeeibpajGreatDoor
