/-
  Plain facts on the number that is made of bytes. No program is walked here.
-/
import Derived.Test.YtlefhfmckimlaagDoorValMath
namespace Go.Proofs.YtlefhfmckimlaagDoor.M

/-- one byte more -/
def hashC (h : Int) (c : UInt8) : Int := (31 * h + c.toNat) % 10007
def hashL (l : List UInt8) : Int := l.foldl hashC 7
def hash (s : ByteArray) : Int := hashL s.data.toList

theorem hashC_range (h : Int) (c : UInt8) : 0 ≤ hashC h c ∧ hashC h c ≤ 10006 := by unfold hashC; omega
theorem hashL_snoc (l : List UInt8) (c : UInt8) : hashL (l ++ [c]) = hashC (hashL l) c := by simp [hashL]
theorem hashL_range (l : List UInt8) : 0 ≤ hashL l ∧ hashL l ≤ 10006 := by
  by_cases h : l = []
  · subst h; exact ⟨by decide, by decide⟩
  · rw [← List.dropLast_concat_getLast h, hashL_snoc]; exact hashC_range _ _
theorem hash_range (s : ByteArray) : 0 ≤ hash s ∧ hash s ≤ 10006 := hashL_range _
/-- of two bytes behind the same bytes each has its own -/
theorem hashC_own {h : Int} {c d : UInt8} (e : hashC h c = hashC h d) : c = d := by
  unfold hashC at e
  have h1 := c.toNat_lt
  have h2 := d.toNat_lt
  exact UInt8.toNat_inj.1 (by omega)
theorem hash_one (c : UInt8) : hash ⟨#[c]⟩ = 217 + c.toNat := by
  have h1 := c.toNat_lt
  show (31 * 7 + (c.toNat : Int)) % 10007 = _
  omega

end Go.Proofs.YtlefhfmckimlaagDoor.M
