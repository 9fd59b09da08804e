/-
  Plain functions on values: which fault a value has, and how two byte lists are ordered. No program is named here.
-/
import Derived.WalkKit
namespace Go.Proofs.YtlefhfmckimlaajDoor.M

/-- a byte that is none of a to z -/
def badC (c : UInt8) : Bool := decide (c.toNat < 97) || decide (122 < c.toNat)
def bad (s : ByteArray) : Bool := s.data.toList.any badC

/-- the number of a value's fault, 0 for none: of a number, of a text, of anything, of any value -/
def faultN (n : Int) (s : ByteArray) : Int := if n < -1000000 ∨ 1000000 < n then 1 else if s.size = 0 then 0 else 3
def faultT (n : Int) (s : ByteArray) : Int := if 12 < s.size then 4 else if n = 0 then (if bad s then 3 else 0) else 3
def faultA (n : Int) (s : ByteArray) : Int := if n = 0 ∧ s.size = 0 then 0 else 3
def fault (k n : Int) (s : ByteArray) : Int := if k = 0 then faultN n s else if k = 1 then faultT n s else if k = 2 then faultA n s else 1

theorem fault_range (k n : Int) (s : ByteArray) : fault k n s = 0 ∨ fault k n s = 1 ∨ fault k n s = 3 ∨ fault k n s = 4 := by
  unfold fault faultN faultT faultA; repeat' split
  all_goals simp

def cmpI (a b : Int) : Int := if a < b then -1 else if b < a then 1 else 0
def cmpS (a b : ByteArray) : Int := if Op.bytesLess a.toList b.toList then -1 else if a.toList == b.toList then 0 else 1

/-- the first of two faults -/
def both (a b : Int) : Int := if a = 0 then b else a

def ord (k1 n1 : Int) (s1 : ByteArray) (k2 n2 : Int) (s2 : ByteArray) : Int :=
  if cmpI k1 k2 ≠ 0 then cmpI k1 k2 else if cmpI n1 n2 ≠ 0 then cmpI n1 n2 else cmpS s1 s2
def same (k1 n1 : Int) (s1 : ByteArray) (k2 n2 : Int) (s2 : ByteArray) : Bool := k1 == k2 && n1 == n2 && s1.toList == s2.toList

end Go.Proofs.YtlefhfmckimlaajDoor.M
