/-
  DERIVED. GIVEN WITH THE SEED: THE CARDS: each row of YtebjgopjdgiifaiDoorRows.lean that lists a variable, with what it lists TIED to the program's text (the seventh form; the later family's looks); each row that meets fmt, with fmt's text TOLD by the authors' own Lean function (tested against real Go, not proved from fmt's source: count such statements apart). THE CARD IS WHAT COUNTS. Prove the row's statement (the work); the ties are given (YtebjgopjdgiifaiDoorTie.lean); close each card by the builder's one call (the guide's Derived/Test/ToyasCard.lean, 'card_holds'). Laid BY PROGRAM, IN A SANDBOX (cutbox-door.mjs). By AI agents, Wed Nov 11 2026. No macro, syntax, notation, axiom, sorry.
-/
import Derived.Test.YtebjgopjdgiifaiDoorRows
import GoSem.ClaimSeven
namespace Go.Proofs.YtebjgopjdgiifaiDoor
namespace Rows

/-- THE TIED CARD OF 'tuplelaw2.CopyTwice'. -/
def copyTwiceCard : Claim7 := { stood := { row := copyTwiceRow, standIns := [], harness := (true, "de9a2d19d0521ffd7b268a13501c11803fddfb0047c973a52c666e2eb796b04a"), looks := false }, kinds := [], alts := [], laidByText := true, laidKinds := [.data, .data, .data], laidTests := true, laidLooks := .later }
def CopyTwiceCardSaid : Prop := Claim7.holds Tryd.pinned (.plain (OpenSpec.ofChange copyTwiceSpec)) copyTwiceCard

/-- THE TIED CARD OF 'tuplelaw4.CopyDenied'. -/
def copyDeniedCard : Claim7 := { stood := { row := copyDeniedRow, standIns := [], harness := (true, "de9a2d19d0521ffd7b268a13501c11803fddfb0047c973a52c666e2eb796b04a"), looks := false }, kinds := [], alts := [], laidByText := true, laidKinds := [.data, .data, .data], laidTests := true, laidLooks := .later }
def CopyDeniedCardSaid : Prop := Claim7.holds Tryd.pinned (.plain (OpenSpec.ofChange copyDeniedSpec)) copyDeniedCard

/-- THE SECOND FORM's CARD OF 'tuplelaw2.CopyTwice'. -/
def copyTwiceUptoCard : Claim7 := { stood := { row := copyTwiceUptoRow, standIns := [], harness := (true, "de9a2d19d0521ffd7b268a13501c11803fddfb0047c973a52c666e2eb796b04a"), looks := false }, kinds := [], alts := [], laidByText := true, laidKinds := [.data, .data, .data], laidTests := true, laidLooks := .later }
def CopyTwiceUptoCardSaid : Prop := Claim7.holds Tryd.pinned (.plain (OpenSpec.upto copyTwiceSpec)) copyTwiceUptoCard

/-- THE SECOND FORM's CARD OF 'tuplelaw4.CopyDenied'. -/
def copyDeniedUptoCard : Claim7 := { stood := { row := copyDeniedUptoRow, standIns := [], harness := (true, "de9a2d19d0521ffd7b268a13501c11803fddfb0047c973a52c666e2eb796b04a"), looks := false }, kinds := [], alts := [], laidByText := true, laidKinds := [.data, .data, .data], laidTests := true, laidLooks := .later }
def CopyDeniedUptoCardSaid : Prop := Claim7.holds Tryd.pinned (.plain (OpenSpec.upto copyDeniedSpec)) copyDeniedUptoCard
end Rows
end Go.Proofs.YtebjgopjdgiifaiDoor
