/-
  DERIVED. GIVEN WITH THE SEED: THE CARDS: each row of YtccddgaagogkhagDoorRows.lean that lists a variable, with what it lists TIED to the program's text (the seventh form; the later family's looks); each row that meets fmt, with fmt's text TOLD by the authors' own Lean function (tested against real Go, not proved from fmt's source: count such statements apart). THE CARD IS WHAT COUNTS. Prove the row's statement (the work); the ties are given (YtccddgaagogkhagDoorTie.lean); close each card by the builder's one call (the guide's Derived/Test/ToyasCard.lean, 'card_holds'). Laid BY PROGRAM, IN A SANDBOX (cutbox-door.mjs). By AI agents, Wed Nov 11 2026. No macro, syntax, notation, axiom, sorry.
-/
import Derived.Test.YtccddgaagogkhagDoorRows
import GoSem.ClaimSeven
namespace Go.Proofs.YtccddgaagogkhagDoor
namespace Rows

/-- THE TIED CARD OF 'tuplelaw2.CoverFinds'. -/
def coverFindsCard : Claim7 := { stood := { row := coverFindsRow, standIns := [], harness := (true, "225a128a962e9e350b8cf7999b313dcaebbecf216bd11f2c7623e033988b9c09"), looks := false }, kinds := [], alts := [], laidByText := true, laidKinds := [.data, .data, .data], laidTests := true, laidLooks := .later }
def CoverFindsCardSaid : Prop := Claim7.holds Tryd.pinned (.plain (OpenSpec.ofChange coverFindsSpec)) coverFindsCard

/-- THE TIED CARD OF 'tuplelaw4.CoverClosed'. -/
def coverClosedCard : Claim7 := { stood := { row := coverClosedRow, standIns := [], harness := (true, "225a128a962e9e350b8cf7999b313dcaebbecf216bd11f2c7623e033988b9c09"), looks := false }, kinds := [], alts := [], laidByText := true, laidKinds := [.data, .data, .data], laidTests := true, laidLooks := .later }
def CoverClosedCardSaid : Prop := Claim7.holds Tryd.pinned (.plain (OpenSpec.ofChange coverClosedSpec)) coverClosedCard

/-- THE TIED CARD OF 'tupletop.TopHidden'. -/
def topHiddenCard : Claim7 := { stood := { row := topHiddenRow, standIns := [], harness := (true, "225a128a962e9e350b8cf7999b313dcaebbecf216bd11f2c7623e033988b9c09"), looks := false }, kinds := [], alts := [], laidByText := true, laidKinds := [.data, .data, .data], laidTests := true, laidLooks := .later }
def TopHiddenCardSaid : Prop := Claim7.holds Tryd.pinned (.plain (OpenSpec.ofChange topHiddenSpec)) topHiddenCard

/-- THE SECOND FORM's CARD OF 'tuplelaw2.CoverFinds'. -/
def coverFindsUptoCard : Claim7 := { stood := { row := coverFindsUptoRow, standIns := [], harness := (true, "225a128a962e9e350b8cf7999b313dcaebbecf216bd11f2c7623e033988b9c09"), looks := false }, kinds := [], alts := [], laidByText := true, laidKinds := [.data, .data, .data], laidTests := true, laidLooks := .later }
def CoverFindsUptoCardSaid : Prop := Claim7.holds Tryd.pinned (.plain (OpenSpec.upto coverFindsSpec)) coverFindsUptoCard

/-- THE SECOND FORM's CARD OF 'tuplelaw4.CoverClosed'. -/
def coverClosedUptoCard : Claim7 := { stood := { row := coverClosedUptoRow, standIns := [], harness := (true, "225a128a962e9e350b8cf7999b313dcaebbecf216bd11f2c7623e033988b9c09"), looks := false }, kinds := [], alts := [], laidByText := true, laidKinds := [.data, .data, .data], laidTests := true, laidLooks := .later }
def CoverClosedUptoCardSaid : Prop := Claim7.holds Tryd.pinned (.plain (OpenSpec.upto coverClosedSpec)) coverClosedUptoCard

/-- THE SECOND FORM's CARD OF 'tupletop.TopHidden'. -/
def topHiddenUptoCard : Claim7 := { stood := { row := topHiddenUptoRow, standIns := [], harness := (true, "225a128a962e9e350b8cf7999b313dcaebbecf216bd11f2c7623e033988b9c09"), looks := false }, kinds := [], alts := [], laidByText := true, laidKinds := [.data, .data, .data], laidTests := true, laidLooks := .later }
def TopHiddenUptoCardSaid : Prop := Claim7.holds Tryd.pinned (.plain (OpenSpec.upto topHiddenSpec)) topHiddenUptoCard
end Rows
end Go.Proofs.YtccddgaagogkhagDoor
