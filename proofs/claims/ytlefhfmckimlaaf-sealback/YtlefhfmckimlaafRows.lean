/-
  No cell of these rows narrows 'for every input' (looked for: loops, veiled, ifaces, maps, wideKeys, modest, calm, conditions, laid).
  DERIVED. THE GIVEN ROWS OF THIS SEAT. 4 by the template 'for every input the law returns true; each argument reads behind the call as it read before'; 0 by the template 'total and deterministic' (their statements: YtlefhfmckimlaafTotals.lean).
  GIVEN WITH THE SEED: the statements are not yours to turn. If you find one false, say at which input.
  Laid BY PROGRAM, IN A SANDBOX (cutbox-rows.mjs): the forced cells as the released guide's own fill.sh prints them over the translation 62af61a48acbbde7… (all of the seat's roots in one cut). By AI agents, Wed Nov 11 2026. No macro, syntax, notation, axiom, sorry.
-/
import Derived.Test.YtlefhfmckimlaafChecked
import GoSem.Claim
import GoSem.ClaimJoined
import GoSem.ClaimMapViews
import Derived.JoinedTies
import Derived.KernelRfl
namespace Go.Proofs.Ytlefhfmckimlaaf
/- THE CELL 'sum', in the pinned program and in every row, IS THE sha256 OF THE DUMP (.gsa) THAT YtlefhfmckimlaafProg.lean LOADS. Nothing in Lean hashes anything: it is a label: what it is worth is what the hold of that sum in a sandbox is worth. -/
noncomputable def Try.pinned : Pinned := { name := "ytlefhfmckimlaaf", sum := "62af61a48acbbde7c364412f3b4ed66df031ab4b76300ac3272592f78da19317", checked := Try.checked }
namespace Rows
def none {H : Type} : Left H := { results := [], args := [] }

/-- 'tuplelaw1.ProofCatches': WHATEVER THE INPUT: true; the input reads as it did. -/
def proofCatchesSpec : ChangeSpec := { name := "proofCatches", fn := fun _ => fun
  | [d1, d2, d3] => { results := [.lit (.bool true)], args := [d1, d2, d3] }
  | _ => none }
def proofCatchesRow : OpenClaim := { program := "ytlefhfmckimlaaf", sum := "62af61a48acbbde7c364412f3b4ed66df031ab4b76300ac3272592f78da19317", func := "tuplestead/tuplelaw1.ProofCatches", spec := "proofCatches", unfollowed := true, recurses := true, apart := false }
def ProofCatchesSaid : Prop := proofCatchesRow.holds Try.pinned (OpenSpec.ofChange proofCatchesSpec)

/-- ITS FALSE NEIGHBOUR: 'it returns false'. Refute it at one input. -/
def proofCatchesWrong : ChangeSpec := { name := "proofCatches", fn := fun _ => fun
  | [d1, d2, d3] => { results := [.lit (.bool false)], args := [d1, d2, d3] }
  | _ => none }
def ProofCatchesWrongFalsely : Prop := proofCatchesRow.holds Try.pinned (OpenSpec.ofChange proofCatchesWrong)

/-- 'tuplelaw4.ProofNought': WHATEVER THE INPUT: true; the input reads as it did. -/
def proofNoughtSpec : ChangeSpec := { name := "proofNought", fn := fun _ => fun
  | [d1, d2] => { results := [.lit (.bool true)], args := [d1, d2] }
  | _ => none }
def proofNoughtRow : OpenClaim := { program := "ytlefhfmckimlaaf", sum := "62af61a48acbbde7c364412f3b4ed66df031ab4b76300ac3272592f78da19317", func := "tuplestead/tuplelaw4.ProofNought", spec := "proofNought", unfollowed := true, recurses := true, apart := false }
def ProofNoughtSaid : Prop := proofNoughtRow.holds Try.pinned (OpenSpec.ofChange proofNoughtSpec)

/-- ITS FALSE NEIGHBOUR: 'it returns false'. Refute it at one input. -/
def proofNoughtWrong : ChangeSpec := { name := "proofNought", fn := fun _ => fun
  | [d1, d2] => { results := [.lit (.bool false)], args := [d1, d2] }
  | _ => none }
def ProofNoughtWrongFalsely : Prop := proofNoughtRow.holds Try.pinned (OpenSpec.ofChange proofNoughtWrong)

/-- 'tuplelaw2.SealBack': WHATEVER THE INPUT: true; the input reads as it did. -/
def sealBackSpec : ChangeSpec := { name := "sealBack", fn := fun _ => fun
  | [d1, d2, d3, d4] => { results := [.lit (.bool true)], args := [d1, d2, d3, d4] }
  | _ => none }
def sealBackRow : OpenClaim := { program := "ytlefhfmckimlaaf", sum := "62af61a48acbbde7c364412f3b4ed66df031ab4b76300ac3272592f78da19317", func := "tuplestead/tuplelaw2.SealBack", spec := "sealBack", unfollowed := true, recurses := true, apart := false }
def SealBackSaid : Prop := sealBackRow.holds Try.pinned (OpenSpec.ofChange sealBackSpec)

/-- ITS FALSE NEIGHBOUR: 'it returns false'. Refute it at one input. -/
def sealBackWrong : ChangeSpec := { name := "sealBack", fn := fun _ => fun
  | [d1, d2, d3, d4] => { results := [.lit (.bool false)], args := [d1, d2, d3, d4] }
  | _ => none }
def SealBackWrongFalsely : Prop := sealBackRow.holds Try.pinned (OpenSpec.ofChange sealBackWrong)

/-- 'tuplelaw4.SealNone': WHATEVER THE INPUT: true; the input reads as it did. -/
def sealNoneSpec : ChangeSpec := { name := "sealNone", fn := fun _ => fun
  | [d1, d2] => { results := [.lit (.bool true)], args := [d1, d2] }
  | _ => none }
def sealNoneRow : OpenClaim := { program := "ytlefhfmckimlaaf", sum := "62af61a48acbbde7c364412f3b4ed66df031ab4b76300ac3272592f78da19317", func := "tuplestead/tuplelaw4.SealNone", spec := "sealNone", unfollowed := true, recurses := true, apart := false }
def SealNoneSaid : Prop := sealNoneRow.holds Try.pinned (OpenSpec.ofChange sealNoneSpec)

/-- ITS FALSE NEIGHBOUR: 'it returns false'. Refute it at one input. -/
def sealNoneWrong : ChangeSpec := { name := "sealNone", fn := fun _ => fun
  | [d1, d2] => { results := [.lit (.bool false)], args := [d1, d2] }
  | _ => none }
def SealNoneWrongFalsely : Prop := sealNoneRow.holds Try.pinned (OpenSpec.ofChange sealNoneWrong)

/- THE SECOND FORM. 'bulk': how many values and letters a reading holds, each counted each time it is reached (what is shared counts as often as it is met; a slice's spare places count too). A statement '..UptoSaid' is the law's where the arguments, and the package variables that the reading takes, are together of bulk at most 1048576: NARROWER than '..Said'. Prove '..Said' where nothing that the law and all that it calls make is longer than what came in: it says more and counts as full. Else prove '..UptoSaid'. A law counts once. -/
mutual
def uptoBulk {H : Type} : DataW H → Nat
  | .lit (.string bytes) => bytes.length + 1
  | .lit _ => 1
  | .nil => 1
  | .ptr d => uptoBulk d + 1
  | .slice elems spare => uptoBulkAll elems + uptoBulkAll spare + 1
  | .agg parts => uptoBulkAll parts + 1
  | .iface _ d => uptoBulk d + 1
  | .map entries => uptoBulkEntries entries + 1
  | .held _ => 1
def uptoBulkAll {H : Type} : List (DataW H) → Nat
  | [] => 0
  | d :: r => uptoBulk d + uptoBulkAll r
def uptoBulkEntries {H : Type} : List (Lit × DataW H) → Nat
  | [] => 0
  | x :: r => uptoBulkEntry x + uptoBulkEntries r
def uptoBulkEntry {H : Type} : Lit × DataW H → Nat
  | (.string bytes, d) => bytes.length + uptoBulk d + 1
  | (_, d) => uptoBulk d + 1
 end
def uptoSmall : (H : Type) → List (DataW H) → Bool := fun _ ds => decide (uptoBulkAll ds ≤ 1048576)
def OpenSpec.upto (s : _root_.Go.ChangeSpec) : _root_.Go.OpenSpec := { _root_.Go.OpenSpec.ofChange s with cond := some uptoSmall }

/-- 'tuplelaw1.ProofCatches', WHERE WHAT IT READS IS OF BULK AT MOST 1048576: true; the input reads as it did. -/
def proofCatchesUptoRow : OpenClaim := { program := "ytlefhfmckimlaaf", sum := "62af61a48acbbde7c364412f3b4ed66df031ab4b76300ac3272592f78da19317", func := "tuplestead/tuplelaw1.ProofCatches", spec := "proofCatches", unfollowed := true, recurses := true, apart := false, narrowed := true }
def ProofCatchesUptoSaid : Prop := proofCatchesUptoRow.holds Try.pinned (OpenSpec.upto proofCatchesSpec)

/-- 'tuplelaw4.ProofNought', WHERE WHAT IT READS IS OF BULK AT MOST 1048576: true; the input reads as it did. -/
def proofNoughtUptoRow : OpenClaim := { program := "ytlefhfmckimlaaf", sum := "62af61a48acbbde7c364412f3b4ed66df031ab4b76300ac3272592f78da19317", func := "tuplestead/tuplelaw4.ProofNought", spec := "proofNought", unfollowed := true, recurses := true, apart := false, narrowed := true }
def ProofNoughtUptoSaid : Prop := proofNoughtUptoRow.holds Try.pinned (OpenSpec.upto proofNoughtSpec)

/-- 'tuplelaw2.SealBack', WHERE WHAT IT READS IS OF BULK AT MOST 1048576: true; the input reads as it did. -/
def sealBackUptoRow : OpenClaim := { program := "ytlefhfmckimlaaf", sum := "62af61a48acbbde7c364412f3b4ed66df031ab4b76300ac3272592f78da19317", func := "tuplestead/tuplelaw2.SealBack", spec := "sealBack", unfollowed := true, recurses := true, apart := false, narrowed := true }
def SealBackUptoSaid : Prop := sealBackUptoRow.holds Try.pinned (OpenSpec.upto sealBackSpec)

/-- 'tuplelaw4.SealNone', WHERE WHAT IT READS IS OF BULK AT MOST 1048576: true; the input reads as it did. -/
def sealNoneUptoRow : OpenClaim := { program := "ytlefhfmckimlaaf", sum := "62af61a48acbbde7c364412f3b4ed66df031ab4b76300ac3272592f78da19317", func := "tuplestead/tuplelaw4.SealNone", spec := "sealNone", unfollowed := true, recurses := true, apart := false, narrowed := true }
def SealNoneUptoSaid : Prop := sealNoneUptoRow.holds Try.pinned (OpenSpec.upto sealNoneSpec)

end Rows
end Go.Proofs.Ytlefhfmckimlaaf
