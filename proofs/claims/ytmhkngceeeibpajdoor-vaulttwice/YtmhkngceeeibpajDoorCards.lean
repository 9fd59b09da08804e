/-
  DERIVED. GIVEN WITH THE SEED: THE CARDS: each row of YtmhkngceeeibpajDoorRows.lean that lists a variable, with what it lists TIED to the program's text (the seventh form; the later family's looks); each row that meets fmt, with fmt's text TOLD by the authors' own Lean function (tested against real Go, not proved from fmt's source: count such statements apart). THE CARD IS WHAT COUNTS. Prove the row's statement (the work); the ties are given (YtmhkngceeeibpajDoorTie.lean); close each card by the builder's one call (the guide's Derived/Test/ToyasCard.lean, 'card_holds'). Laid BY PROGRAM, IN A SANDBOX (cutbox-door.mjs). By AI agents, Wed Nov 11 2026. No macro, syntax, notation, axiom, sorry.
-/
import Derived.Test.YtmhkngceeeibpajDoorRows
import GoSem.ClaimSeven
namespace Go.Proofs.YtmhkngceeeibpajDoor
namespace Rows

/-- THE TIED CARD OF 'tuplelaw2.VaultKeeps'. -/
def vaultKeepsCard : Claim7 := { stood := { row := vaultKeepsRow, standIns := [], harness := (true, "ebc782e8f3429dc2bd3f14b47d58f18f4fff18e7d58df30d174c8ce765600c37"), looks := true }, kinds := [], alts := [], laidByText := true, laidKinds := [.handle], laidTests := true, laidLooks := .later }
def VaultKeepsCardSaid : Prop := Claim7.holds Tryd.pinned (.plain (OpenSpec.ofChange vaultKeepsSpec)) vaultKeepsCard

/-- THE TIED CARD OF 'tuplelaw4.VaultTwice'. -/
def vaultTwiceCard : Claim7 := { stood := { row := vaultTwiceRow, standIns := [], harness := (true, "ebc782e8f3429dc2bd3f14b47d58f18f4fff18e7d58df30d174c8ce765600c37"), looks := true }, kinds := [], alts := [], laidByText := true, laidKinds := [.handle], laidTests := true, laidLooks := .later }
def VaultTwiceCardSaid : Prop := Claim7.holds Tryd.pinned (.plain (OpenSpec.ofChange vaultTwiceSpec)) vaultTwiceCard

/-- THE TIED CARD OF 'tuplelaw2.VaultPlays'. -/
def vaultPlaysCard : Claim7 := { stood := { row := vaultPlaysRow, standIns := [], harness := (true, "ebc782e8f3429dc2bd3f14b47d58f18f4fff18e7d58df30d174c8ce765600c37"), looks := true }, kinds := [], alts := [], laidByText := true, laidKinds := [.handle], laidTests := true, laidLooks := .later }
def VaultPlaysCardSaid : Prop := Claim7.holds Tryd.pinned (.plain (OpenSpec.ofChange vaultPlaysSpec)) vaultPlaysCard

/-- THE SECOND FORM's CARD OF 'tuplelaw2.VaultKeeps'. -/
def vaultKeepsUptoCard : Claim7 := { stood := { row := vaultKeepsUptoRow, standIns := [], harness := (true, "ebc782e8f3429dc2bd3f14b47d58f18f4fff18e7d58df30d174c8ce765600c37"), looks := true }, kinds := [], alts := [], laidByText := true, laidKinds := [.handle], laidTests := true, laidLooks := .later }
def VaultKeepsUptoCardSaid : Prop := Claim7.holds Tryd.pinned (.plain (OpenSpec.upto vaultKeepsSpec)) vaultKeepsUptoCard

/-- THE SECOND FORM's CARD OF 'tuplelaw4.VaultTwice'. -/
def vaultTwiceUptoCard : Claim7 := { stood := { row := vaultTwiceUptoRow, standIns := [], harness := (true, "ebc782e8f3429dc2bd3f14b47d58f18f4fff18e7d58df30d174c8ce765600c37"), looks := true }, kinds := [], alts := [], laidByText := true, laidKinds := [.handle], laidTests := true, laidLooks := .later }
def VaultTwiceUptoCardSaid : Prop := Claim7.holds Tryd.pinned (.plain (OpenSpec.upto vaultTwiceSpec)) vaultTwiceUptoCard

/-- THE SECOND FORM's CARD OF 'tuplelaw2.VaultPlays'. -/
def vaultPlaysUptoCard : Claim7 := { stood := { row := vaultPlaysUptoRow, standIns := [], harness := (true, "ebc782e8f3429dc2bd3f14b47d58f18f4fff18e7d58df30d174c8ce765600c37"), looks := true }, kinds := [], alts := [], laidByText := true, laidKinds := [.handle], laidTests := true, laidLooks := .later }
def VaultPlaysUptoCardSaid : Prop := Claim7.holds Tryd.pinned (.plain (OpenSpec.upto vaultPlaysSpec)) vaultPlaysUptoCard
end Rows
end Go.Proofs.YtmhkngceeeibpajDoor
