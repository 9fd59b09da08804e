/-
  DERIVED. GIVEN WITH THE SEED: THE CARDS: each row of YtlefhfmckimlaagDoorRows.lean that lists a variable, with what it lists TIED to the program's text (the seventh form; the later family's looks); each row that meets fmt, with fmt's text TOLD by the authors' own Lean function (tested against real Go, not proved from fmt's source: count such statements apart). THE CARD IS WHAT COUNTS. Prove the row's statement (the work); the ties are given (YtlefhfmckimlaagDoorTie.lean); close each card by the builder's one call (the guide's Derived/Test/ToyasCard.lean, 'card_holds'). Laid BY PROGRAM, IN A SANDBOX (cutbox-door.mjs). By AI agents, Wed Nov 11 2026. No macro, syntax, notation, axiom, sorry.
-/
import Derived.Test.YtlefhfmckimlaagDoorRows
import GoSem.ClaimSeven
namespace Go.Proofs.YtlefhfmckimlaagDoor
namespace Rows

/-- THE TIED CARD OF 'tuplelaw2.CoverFinds'. -/
def coverFindsCard : Claim7 := { stood := { row := coverFindsRow, standIns := [], harness := (true, "fd3b76d4f85c03a784c1f2fe3b3117a647eedfe83e1e7c94beca37361a668e83"), looks := true }, kinds := [], alts := [], laidByText := true, laidKinds := [.data, .data, .data], laidTests := true, laidLooks := .later }
def CoverFindsCardSaid : Prop := Claim7.holds Tryd.pinned (.plain (OpenSpec.ofChange coverFindsSpec)) coverFindsCard

/-- THE TIED CARD OF 'tuplelaw4.CoverClosed'. -/
def coverClosedCard : Claim7 := { stood := { row := coverClosedRow, standIns := [], harness := (true, "fd3b76d4f85c03a784c1f2fe3b3117a647eedfe83e1e7c94beca37361a668e83"), looks := true }, kinds := [], alts := [], laidByText := true, laidKinds := [.data, .data, .data], laidTests := true, laidLooks := .later }
def CoverClosedCardSaid : Prop := Claim7.holds Tryd.pinned (.plain (OpenSpec.ofChange coverClosedSpec)) coverClosedCard

/-- THE TIED CARD OF 'tupletop.TopHidden'. -/
def topHiddenCard : Claim7 := { stood := { row := topHiddenRow, standIns := [], harness := (true, "fd3b76d4f85c03a784c1f2fe3b3117a647eedfe83e1e7c94beca37361a668e83"), looks := true }, kinds := [], alts := [], laidByText := true, laidKinds := [.data, .data, .data], laidTests := true, laidLooks := .later }
def TopHiddenCardSaid : Prop := Claim7.holds Tryd.pinned (.plain (OpenSpec.ofChange topHiddenSpec)) topHiddenCard

/-- THE TIED CARD OF 'tuplelaw2.RuleTells'. -/
def ruleTellsCard : Claim7 := { stood := { row := ruleTellsRow, standIns := [], harness := (true, "fd3b76d4f85c03a784c1f2fe3b3117a647eedfe83e1e7c94beca37361a668e83"), looks := true }, kinds := [], alts := [], laidByText := true, laidKinds := [.handle], laidTests := true, laidLooks := .later }
def RuleTellsCardSaid : Prop := Claim7.holds Tryd.pinned (.plain (OpenSpec.ofChange ruleTellsSpec)) ruleTellsCard

/-- THE TIED CARD OF 'tuplelaw2.RuleFirst'. -/
def ruleFirstCard : Claim7 := { stood := { row := ruleFirstRow, standIns := [], harness := (true, "fd3b76d4f85c03a784c1f2fe3b3117a647eedfe83e1e7c94beca37361a668e83"), looks := true }, kinds := [], alts := [], laidByText := true, laidKinds := [.handle], laidTests := true, laidLooks := .later }
def RuleFirstCardSaid : Prop := Claim7.holds Tryd.pinned (.plain (OpenSpec.ofChange ruleFirstSpec)) ruleFirstCard

/-- THE TIED CARD OF 'tuplelaw4.RuleNone'. -/
def ruleNoneCard : Claim7 := { stood := { row := ruleNoneRow, standIns := [], harness := (true, "fd3b76d4f85c03a784c1f2fe3b3117a647eedfe83e1e7c94beca37361a668e83"), looks := true }, kinds := [], alts := [], laidByText := true, laidKinds := [.handle], laidTests := true, laidLooks := .later }
def RuleNoneCardSaid : Prop := Claim7.holds Tryd.pinned (.plain (OpenSpec.ofChange ruleNoneSpec)) ruleNoneCard

/-- THE SECOND FORM's CARD OF 'tuplelaw2.CoverFinds'. -/
def coverFindsUptoCard : Claim7 := { stood := { row := coverFindsUptoRow, standIns := [], harness := (true, "fd3b76d4f85c03a784c1f2fe3b3117a647eedfe83e1e7c94beca37361a668e83"), looks := true }, kinds := [], alts := [], laidByText := true, laidKinds := [.data, .data, .data], laidTests := true, laidLooks := .later }
def CoverFindsUptoCardSaid : Prop := Claim7.holds Tryd.pinned (.plain (OpenSpec.upto coverFindsSpec)) coverFindsUptoCard

/-- THE SECOND FORM's CARD OF 'tuplelaw4.CoverClosed'. -/
def coverClosedUptoCard : Claim7 := { stood := { row := coverClosedUptoRow, standIns := [], harness := (true, "fd3b76d4f85c03a784c1f2fe3b3117a647eedfe83e1e7c94beca37361a668e83"), looks := true }, kinds := [], alts := [], laidByText := true, laidKinds := [.data, .data, .data], laidTests := true, laidLooks := .later }
def CoverClosedUptoCardSaid : Prop := Claim7.holds Tryd.pinned (.plain (OpenSpec.upto coverClosedSpec)) coverClosedUptoCard

/-- THE SECOND FORM's CARD OF 'tupletop.TopHidden'. -/
def topHiddenUptoCard : Claim7 := { stood := { row := topHiddenUptoRow, standIns := [], harness := (true, "fd3b76d4f85c03a784c1f2fe3b3117a647eedfe83e1e7c94beca37361a668e83"), looks := true }, kinds := [], alts := [], laidByText := true, laidKinds := [.data, .data, .data], laidTests := true, laidLooks := .later }
def TopHiddenUptoCardSaid : Prop := Claim7.holds Tryd.pinned (.plain (OpenSpec.upto topHiddenSpec)) topHiddenUptoCard

/-- THE SECOND FORM's CARD OF 'tuplelaw2.RuleTells'. -/
def ruleTellsUptoCard : Claim7 := { stood := { row := ruleTellsUptoRow, standIns := [], harness := (true, "fd3b76d4f85c03a784c1f2fe3b3117a647eedfe83e1e7c94beca37361a668e83"), looks := true }, kinds := [], alts := [], laidByText := true, laidKinds := [.handle], laidTests := true, laidLooks := .later }
def RuleTellsUptoCardSaid : Prop := Claim7.holds Tryd.pinned (.plain (OpenSpec.upto ruleTellsSpec)) ruleTellsUptoCard

/-- THE SECOND FORM's CARD OF 'tuplelaw2.RuleFirst'. -/
def ruleFirstUptoCard : Claim7 := { stood := { row := ruleFirstUptoRow, standIns := [], harness := (true, "fd3b76d4f85c03a784c1f2fe3b3117a647eedfe83e1e7c94beca37361a668e83"), looks := true }, kinds := [], alts := [], laidByText := true, laidKinds := [.handle], laidTests := true, laidLooks := .later }
def RuleFirstUptoCardSaid : Prop := Claim7.holds Tryd.pinned (.plain (OpenSpec.upto ruleFirstSpec)) ruleFirstUptoCard

/-- THE SECOND FORM's CARD OF 'tuplelaw4.RuleNone'. -/
def ruleNoneUptoCard : Claim7 := { stood := { row := ruleNoneUptoRow, standIns := [], harness := (true, "fd3b76d4f85c03a784c1f2fe3b3117a647eedfe83e1e7c94beca37361a668e83"), looks := true }, kinds := [], alts := [], laidByText := true, laidKinds := [.handle], laidTests := true, laidLooks := .later }
def RuleNoneUptoCardSaid : Prop := Claim7.holds Tryd.pinned (.plain (OpenSpec.upto ruleNoneSpec)) ruleNoneUptoCard
end Rows
end Go.Proofs.YtlefhfmckimlaagDoor
