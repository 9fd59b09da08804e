/-
  DERIVED. GIVEN WITH THE SEED: THE CARDS: each row of YtoddfhebhpipcacDoorRows.lean that lists a variable, with what it lists TIED to the program's text (the seventh form; the later family's looks); each row that meets fmt, with fmt's text TOLD by the authors' own Lean function (tested against real Go, not proved from fmt's source: count such statements apart). THE CARD IS WHAT COUNTS. Prove the row's statement (the work); the ties are given (YtoddfhebhpipcacDoorTie.lean); close each card by the builder's one call (the guide's Derived/Test/ToyasCard.lean, 'card_holds'). Laid BY PROGRAM, IN A SANDBOX (cutbox-door.mjs). By AI agents, Wed Nov 11 2026. No macro, syntax, notation, axiom, sorry.
-/
import Derived.Test.YtoddfhebhpipcacDoorRows
import GoSem.ClaimSeven
namespace Go.Proofs.YtoddfhebhpipcacDoor
namespace Rows

/-- THE TIED CARD OF 'tuplelaw1.OncePlays'. -/
def oncePlaysCard : Claim7 := { stood := { row := oncePlaysRow, standIns := [], harness := (true, "c0765fa1162c16e907d53ab02e2f33d51a2b2c3663d9408e85aa42d7b262f0b6"), looks := true }, kinds := [], alts := [], laidByText := true, laidKinds := [.handle], laidTests := true, laidLooks := .later }
def OncePlaysCardSaid : Prop := Claim7.holds Tryd.pinned (.plain (OpenSpec.ofChange oncePlaysSpec)) oncePlaysCard

/-- THE SECOND FORM's CARD OF 'tuplelaw1.OncePlays'. -/
def oncePlaysUptoCard : Claim7 := { stood := { row := oncePlaysUptoRow, standIns := [], harness := (true, "c0765fa1162c16e907d53ab02e2f33d51a2b2c3663d9408e85aa42d7b262f0b6"), looks := true }, kinds := [], alts := [], laidByText := true, laidKinds := [.handle], laidTests := true, laidLooks := .later }
def OncePlaysUptoCardSaid : Prop := Claim7.holds Tryd.pinned (.plain (OpenSpec.upto oncePlaysSpec)) oncePlaysUptoCard
end Rows
end Go.Proofs.YtoddfhebhpipcacDoor
