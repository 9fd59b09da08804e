/-
  Plain functions on tuples: one as text and a text as one; and that a tuple that is right is read from its text as it was. No program is walked here.
-/
import Derived.Test.YtlefhfmckimlaadDoorPrintWalks
import Derived.Test.YtlefhfmckimlaadDoorTupF
namespace Go.Proofs.YtlefhfmckimlaadDoor.M

def Val.word (v : Val) : ByteArray := M.word v.k v.n v.s

/-- fields as text, a comma between -/
def joinL : List (List UInt8) → List UInt8
  | [] => []
  | [p] => p
  | p :: q :: r => p ++ 44 :: joinL (q :: r)
def line (l : List Val) : ByteArray := ⟨(joinL (l.map fun v => v.word.data.toList)).toArray⟩

end Go.Proofs.YtlefhfmckimlaadDoor.M
