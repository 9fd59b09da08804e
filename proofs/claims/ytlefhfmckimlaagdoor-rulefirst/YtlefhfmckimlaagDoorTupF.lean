/-
  Plain functions on tuples: which fault one has, whether one fits. No program is walked here.
-/
import Derived.Test.YtlefhfmckimlaagDoorValMath
namespace Go.Proofs.YtlefhfmckimlaagDoor.M

/-- a value: its kind, its number, its text -/
structure Val where
  k : Int
  n : Int
  s : ByteArray

def Val.fault (v : Val) : Int := M.fault v.k v.n v.s
def Val.same (a b : Val) : Bool := M.same a.k a.n a.s b.k b.n b.s

/-- the first fault of some values -/
def firstF : List Val → Int
  | [] => 0
  | v :: r => if v.fault ≠ 0 then v.fault else firstF r
/-- the fault of what is asked for, and of a tuple -/
def likeF (l : List Val) : Int := if l.length = 0 then 5 else if 5 < l.length then 4 else firstF l
def hasAny (l : List Val) : Bool := l.any fun v => v.k == 2
def tupF (l : List Val) : Int := if likeF l ≠ 0 then likeF l else if hasAny l then 3 else 0

/-- does a value fit, field by field -/
def fit1 (a b : Val) : Bool := a.k == 2 || a.same b
def fitAll : List Val → List Val → Bool
  | [], [] => true
  | a :: l, b :: t => fit1 a b && fitAll l t
  | _, _ => false

theorem firstF_zero : ∀ {l : List Val}, firstF l = 0 → ∀ v ∈ l, v.fault = 0
  | [], _, v, hv => by simp at hv
  | a :: l, h, v, hv => by
    unfold firstF at h
    by_cases ha : a.fault ≠ 0
    · rw [if_pos ha] at h; exact absurd h ha
    · rw [if_neg ha] at h
      rcases List.mem_cons.1 hv with rfl | hx
      · simpa using ha
      · exact firstF_zero h v hx

end Go.Proofs.YtlefhfmckimlaagDoor.M
