/-
  The switch of OncePlays, taken out of the law's text by a function; what each way through it leaves.
-/
import Derived.Test.YtlefhfmckimlaacDoorOnceFour2
namespace Go.Proofs.YtlefhfmckimlaacDoor
open Go.RowKit

/-- the block of a number, in a function's text -/
def blockAt (n : Nat) : Code → Option Code
  | .block m c => if m = n then some (.block m c) else blockAt n c
  | .seq a b => match blockAt n a with
    | some c => some c
    | none => blockAt n b
  | .loop c => blockAt n c
  | .cond _ a b => match blockAt n a with
    | some c => some c
    | none => blockAt n b
  | _ => none

/-- the lists of the program and of the document are the same -/
def Done (w w' : World) (O R K : Nat) : Prop := ∃ vs vo um uk LN LoN, Q4 w w' w.heap.size O R K vs vo um uk LN LoN LN LoN
/-- the state at the switch: both pairs of lists are the same; two tuples that came in, and where they lie -/
structure Tuned (w w1 : World) (O R K b off k mx kx my ky : Nat) (ax ay : Option Addr) (vs vo um uk : Value) (a l : List M.Val) (L Lo : List (List M.Val)) : Prop where
  q : Q4 w w1 w.heap.size O R K vs vo um uk L Lo L Lo
  xr : ∀ wr : World, Below w.heap.size w wr → wr.cell? ⟨b, off + k, none⟩ = some (.slice ax mx kx)
  yr : ∀ wr : World, Below w.heap.size w wr → wr.cell? ⟨b, off + (k + 1), none⟩ = some (.slice ay my ky)
  xv : IsVals w (.slice ax mx kx) a
  yv : IsVals w (.slice ay my ky) l
  hand : Hand w

end Go.Proofs.YtlefhfmckimlaacDoor

