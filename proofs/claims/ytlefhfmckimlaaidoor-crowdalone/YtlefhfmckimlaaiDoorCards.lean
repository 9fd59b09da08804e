/-
  DERIVED. GIVEN WITH THE SEED: THE CARDS: each row of YtlefhfmckimlaaiDoorRows.lean that lists a variable, with what it lists TIED to the program's text (the seventh form; the later family's looks); each row that meets fmt, with fmt's text TOLD by the authors' own Lean function (tested against real Go, not proved from fmt's source: count such statements apart). THE CARD IS WHAT COUNTS. Prove the row's statement (the work); the ties are given (YtlefhfmckimlaaiDoorTie.lean); close each card by the builder's one call (the guide's Derived/Test/ToyasCard.lean, 'card_holds'). Laid BY PROGRAM, IN A SANDBOX (cutbox-door.mjs). By AI agents, Wed Nov 11 2026. No macro, syntax, notation, axiom, sorry.
-/
import Derived.Test.YtlefhfmckimlaaiDoorRows
import GoSem.ClaimSeven
namespace Go.Proofs.YtlefhfmckimlaaiDoor
namespace Rows

/-- THE TIED CARD OF 'tuplelaw2.CopyTwice'. -/
def copyTwiceCard : Claim7 := { stood := { row := copyTwiceRow, standIns := [], harness := (true, "2bf26a743b44d580db75c36097646b7aba948d5bdb6f5ae3c7455cbe5141461e"), looks := false }, kinds := [], alts := [], laidByText := true, laidKinds := [.data, .data, .data], laidTests := true, laidLooks := .later }
def CopyTwiceCardSaid : Prop := Claim7.holds Tryd.pinned (.plain (OpenSpec.ofChange copyTwiceSpec)) copyTwiceCard

/-- THE TIED CARD OF 'tuplelaw4.CopyDenied'. -/
def copyDeniedCard : Claim7 := { stood := { row := copyDeniedRow, standIns := [], harness := (true, "2bf26a743b44d580db75c36097646b7aba948d5bdb6f5ae3c7455cbe5141461e"), looks := false }, kinds := [], alts := [], laidByText := true, laidKinds := [.data, .data, .data], laidTests := true, laidLooks := .later }
def CopyDeniedCardSaid : Prop := Claim7.holds Tryd.pinned (.plain (OpenSpec.ofChange copyDeniedSpec)) copyDeniedCard

/-- THE TIED CARD OF 'tuplelaw2.CrowdTrue'. -/
def crowdTrueCard : Claim7 := { stood := { row := crowdTrueRow, standIns := [], harness := (true, "2bf26a743b44d580db75c36097646b7aba948d5bdb6f5ae3c7455cbe5141461e"), looks := false }, kinds := [], alts := [], laidByText := true, laidKinds := [.data, .data, .data], laidTests := true, laidLooks := .later }
def CrowdTrueCardSaid : Prop := Claim7.holds Tryd.pinned (.plain (OpenSpec.ofChange crowdTrueSpec)) crowdTrueCard

/-- THE TIED CARD OF 'tuplelaw4.CrowdAlone'. -/
def crowdAloneCard : Claim7 := { stood := { row := crowdAloneRow, standIns := [], harness := (true, "2bf26a743b44d580db75c36097646b7aba948d5bdb6f5ae3c7455cbe5141461e"), looks := false }, kinds := [], alts := [], laidByText := true, laidKinds := [.data, .data, .data], laidTests := true, laidLooks := .later }
def CrowdAloneCardSaid : Prop := Claim7.holds Tryd.pinned (.plain (OpenSpec.ofChange crowdAloneSpec)) crowdAloneCard

/-- THE SECOND FORM's CARD OF 'tuplelaw2.CopyTwice'. -/
def copyTwiceUptoCard : Claim7 := { stood := { row := copyTwiceUptoRow, standIns := [], harness := (true, "2bf26a743b44d580db75c36097646b7aba948d5bdb6f5ae3c7455cbe5141461e"), looks := false }, kinds := [], alts := [], laidByText := true, laidKinds := [.data, .data, .data], laidTests := true, laidLooks := .later }
def CopyTwiceUptoCardSaid : Prop := Claim7.holds Tryd.pinned (.plain (OpenSpec.upto copyTwiceSpec)) copyTwiceUptoCard

/-- THE SECOND FORM's CARD OF 'tuplelaw4.CopyDenied'. -/
def copyDeniedUptoCard : Claim7 := { stood := { row := copyDeniedUptoRow, standIns := [], harness := (true, "2bf26a743b44d580db75c36097646b7aba948d5bdb6f5ae3c7455cbe5141461e"), looks := false }, kinds := [], alts := [], laidByText := true, laidKinds := [.data, .data, .data], laidTests := true, laidLooks := .later }
def CopyDeniedUptoCardSaid : Prop := Claim7.holds Tryd.pinned (.plain (OpenSpec.upto copyDeniedSpec)) copyDeniedUptoCard

/-- THE SECOND FORM's CARD OF 'tuplelaw2.CrowdTrue'. -/
def crowdTrueUptoCard : Claim7 := { stood := { row := crowdTrueUptoRow, standIns := [], harness := (true, "2bf26a743b44d580db75c36097646b7aba948d5bdb6f5ae3c7455cbe5141461e"), looks := false }, kinds := [], alts := [], laidByText := true, laidKinds := [.data, .data, .data], laidTests := true, laidLooks := .later }
def CrowdTrueUptoCardSaid : Prop := Claim7.holds Tryd.pinned (.plain (OpenSpec.upto crowdTrueSpec)) crowdTrueUptoCard

/-- THE SECOND FORM's CARD OF 'tuplelaw4.CrowdAlone'. -/
def crowdAloneUptoCard : Claim7 := { stood := { row := crowdAloneUptoRow, standIns := [], harness := (true, "2bf26a743b44d580db75c36097646b7aba948d5bdb6f5ae3c7455cbe5141461e"), looks := false }, kinds := [], alts := [], laidByText := true, laidKinds := [.data, .data, .data], laidTests := true, laidLooks := .later }
def CrowdAloneUptoCardSaid : Prop := Claim7.holds Tryd.pinned (.plain (OpenSpec.upto crowdAloneSpec)) crowdAloneUptoCard
end Rows
end Go.Proofs.YtlefhfmckimlaaiDoor
