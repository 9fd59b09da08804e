/-
  DERIVED. GIVEN WITH THE SEED: THE CARDS: each row of YtbdledlpbdhieahDoorRows.lean that lists a variable, with what it lists TIED to the program's text (the seventh form; the later family's looks); each row that meets fmt, with fmt's text TOLD by the authors' own Lean function (tested against real Go, not proved from fmt's source: count such statements apart). THE CARD IS WHAT COUNTS. Prove the row's statement (the work); the ties are given (YtbdledlpbdhieahDoorTie.lean); close each card by the builder's one call (the guide's Derived/Test/ToyasCard.lean, 'card_holds'). Laid BY PROGRAM, IN A SANDBOX (cutbox-door.mjs). By AI agents, Wed Nov 11 2026. No macro, syntax, notation, axiom, sorry.
-/
import Derived.Test.YtbdledlpbdhieahDoorRows
import GoSem.ClaimSeven
namespace Go.Proofs.YtbdledlpbdhieahDoor
namespace Rows

/-- THE TIED CARD OF 'tuplelaw2.VoteTells'. -/
def voteTellsCard : Claim7 := { stood := { row := voteTellsRow, standIns := [], harness := (true, "2fafef3b43e8024e6c4420b972b164bade022dd8993c5f3fddb5e475524c0b9c"), looks := true }, kinds := [], alts := [], laidByText := true, laidKinds := [.handle], laidTests := true, laidLooks := .later }
def VoteTellsCardSaid : Prop := Claim7.holds Tryd.pinned (.plain (OpenSpec.ofChange voteTellsSpec)) voteTellsCard

/-- THE SECOND FORM's CARD OF 'tuplelaw2.VoteTells'. -/
def voteTellsUptoCard : Claim7 := { stood := { row := voteTellsUptoRow, standIns := [], harness := (true, "2fafef3b43e8024e6c4420b972b164bade022dd8993c5f3fddb5e475524c0b9c"), looks := true }, kinds := [], alts := [], laidByText := true, laidKinds := [.handle], laidTests := true, laidLooks := .later }
def VoteTellsUptoCardSaid : Prop := Claim7.holds Tryd.pinned (.plain (OpenSpec.upto voteTellsSpec)) voteTellsUptoCard
end Rows
end Go.Proofs.YtbdledlpbdhieahDoor
