/-
  No cell of these rows narrows 'for every input' (looked for: loops, veiled, ifaces, maps, wideKeys, modest, calm, conditions, laid).
  DERIVED. THE GIVEN ROWS OF THIS SEAT. 2 by the template 'for every input the law returns true; each argument reads behind the call as it read before'; 0 by the template 'total and deterministic' (their statements: YtlefhfmckimlaahTotals.lean).
  GIVEN WITH THE SEED: the statements are not yours to turn. If you find one false, say at which input.
  Laid BY PROGRAM, IN A SANDBOX (cutbox-rows.mjs): the forced cells as the released guide's own fill.sh prints them over the translation 9af722ea9f92c0bc… (all of the seat's roots in one cut). By AI agents, Wed Nov 11 2026. No macro, syntax, notation, axiom, sorry.
-/
import Derived.Test.YtlefhfmckimlaahChecked
import GoSem.Claim
import GoSem.ClaimJoined
import GoSem.ClaimMapViews
import Derived.JoinedTies
import Derived.KernelRfl
namespace Go.Proofs.Ytlefhfmckimlaah
/- THE CELL 'sum', in the pinned program and in every row, IS THE sha256 OF THE DUMP (.gsa) THAT YtlefhfmckimlaahProg.lean LOADS. Nothing in Lean hashes anything: it is a label: what it is worth is what the hold of that sum in a sandbox is worth. -/
noncomputable def Try.pinned : Pinned := { name := "ytlefhfmckimlaah", sum := "9af722ea9f92c0bc6a95397aa6e056a4b7ba3d39dde3bd86d4852fb8a235ce92", checked := Try.checked }
namespace Rows
def none {H : Type} : Left H := { results := [], args := [] }

/-- 'tuplelaw2.VoteTrue': WHATEVER THE INPUT: true; the input reads as it did. -/
def voteTrueSpec : ChangeSpec := { name := "voteTrue", fn := fun _ => fun
  | [d1, d2, d3, d4] => { results := [.lit (.bool true)], args := [d1, d2, d3, d4] }
  | _ => none }
def voteTrueRow : OpenClaim := { program := "ytlefhfmckimlaah", sum := "9af722ea9f92c0bc6a95397aa6e056a4b7ba3d39dde3bd86d4852fb8a235ce92", func := "tuplestead/tuplelaw2.VoteTrue", spec := "voteTrue", apart := false }
def VoteTrueSaid : Prop := voteTrueRow.holds Try.pinned (OpenSpec.ofChange voteTrueSpec)

/-- ITS FALSE NEIGHBOUR: 'it returns false'. Refute it at one input. -/
def voteTrueWrong : ChangeSpec := { name := "voteTrue", fn := fun _ => fun
  | [d1, d2, d3, d4] => { results := [.lit (.bool false)], args := [d1, d2, d3, d4] }
  | _ => none }
def VoteTrueWrongFalsely : Prop := voteTrueRow.holds Try.pinned (OpenSpec.ofChange voteTrueWrong)

/-- 'tuplelaw4.VoteAlone': WHATEVER THE INPUT: true; the input reads as it did. -/
def voteAloneSpec : ChangeSpec := { name := "voteAlone", fn := fun _ => fun
  | [d1, d2] => { results := [.lit (.bool true)], args := [d1, d2] }
  | _ => none }
def voteAloneRow : OpenClaim := { program := "ytlefhfmckimlaah", sum := "9af722ea9f92c0bc6a95397aa6e056a4b7ba3d39dde3bd86d4852fb8a235ce92", func := "tuplestead/tuplelaw4.VoteAlone", spec := "voteAlone", apart := false }
def VoteAloneSaid : Prop := voteAloneRow.holds Try.pinned (OpenSpec.ofChange voteAloneSpec)

/-- ITS FALSE NEIGHBOUR: 'it returns false'. Refute it at one input. -/
def voteAloneWrong : ChangeSpec := { name := "voteAlone", fn := fun _ => fun
  | [d1, d2] => { results := [.lit (.bool false)], args := [d1, d2] }
  | _ => none }
def VoteAloneWrongFalsely : Prop := voteAloneRow.holds Try.pinned (OpenSpec.ofChange voteAloneWrong)

/- THE SECOND FORM. 'bulk': how many values and letters a reading holds, each counted each time it is reached (what is shared counts as often as it is met; a slice's spare places count too). A statement '..UptoSaid' is the law's where the arguments, and the package variables that the reading takes, are together of bulk at most 1048576: NARROWER than '..Said'. Prove '..Said' where nothing that the law and all that it calls make is longer than what came in: it says more and counts as full. Else prove '..UptoSaid'. A law counts once. -/
mutual
def uptoBulk {H : Type} : DataW H → Nat
  | .lit (.string bytes) => bytes.length + 1
  | .lit _ => 1
  | .nil => 1
  | .ptr d => uptoBulk d + 1
  | .slice elems spare => uptoBulkAll elems + uptoBulkAll spare + 1
  | .agg parts => uptoBulkAll parts + 1
  | .iface _ d => uptoBulk d + 1
  | .map entries => uptoBulkEntries entries + 1
  | .held _ => 1
def uptoBulkAll {H : Type} : List (DataW H) → Nat
  | [] => 0
  | d :: r => uptoBulk d + uptoBulkAll r
def uptoBulkEntries {H : Type} : List (Lit × DataW H) → Nat
  | [] => 0
  | x :: r => uptoBulkEntry x + uptoBulkEntries r
def uptoBulkEntry {H : Type} : Lit × DataW H → Nat
  | (.string bytes, d) => bytes.length + uptoBulk d + 1
  | (_, d) => uptoBulk d + 1
 end
def uptoSmall : (H : Type) → List (DataW H) → Bool := fun _ ds => decide (uptoBulkAll ds ≤ 1048576)
def OpenSpec.upto (s : _root_.Go.ChangeSpec) : _root_.Go.OpenSpec := { _root_.Go.OpenSpec.ofChange s with cond := some uptoSmall }

/-- 'tuplelaw2.VoteTrue', WHERE WHAT IT READS IS OF BULK AT MOST 1048576: true; the input reads as it did. -/
def voteTrueUptoRow : OpenClaim := { program := "ytlefhfmckimlaah", sum := "9af722ea9f92c0bc6a95397aa6e056a4b7ba3d39dde3bd86d4852fb8a235ce92", func := "tuplestead/tuplelaw2.VoteTrue", spec := "voteTrue", apart := false, narrowed := true }
def VoteTrueUptoSaid : Prop := voteTrueUptoRow.holds Try.pinned (OpenSpec.upto voteTrueSpec)

/-- 'tuplelaw4.VoteAlone', WHERE WHAT IT READS IS OF BULK AT MOST 1048576: true; the input reads as it did. -/
def voteAloneUptoRow : OpenClaim := { program := "ytlefhfmckimlaah", sum := "9af722ea9f92c0bc6a95397aa6e056a4b7ba3d39dde3bd86d4852fb8a235ce92", func := "tuplestead/tuplelaw4.VoteAlone", spec := "voteAlone", apart := false, narrowed := true }
def VoteAloneUptoSaid : Prop := voteAloneUptoRow.holds Try.pinned (OpenSpec.upto voteAloneSpec)

end Rows
end Go.Proofs.Ytlefhfmckimlaah
