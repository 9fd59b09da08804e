/-
  The walk of the Go function PrintOne: it returns true, whatever the number, if the library's table of powers of ten reads as its text lays it.
-/
import Derived.Test.YtlefhfmckimlaadDoorDigest
namespace Go.Proofs.YtlefhfmckimlaadDoor.printOne
open Go.RowKit

theorem digit_word (n : Int) (h0 : 0 ≤ n) (h9 : n ≤ 9) : M.hash (M.word 0 n ⟨#[]⟩) = 265 + n := by
  have e : M.word 0 n ⟨#[]⟩ = ⟨#[UInt8.ofNat (48 + n.toNat)]⟩ := by
    show (⟨(Lib.itoa n).toArray⟩ : ByteArray) = _
    unfold Lib.itoa
    rw [if_neg (by omega), Lib.decDigits_one (by omega)]
  rw [e, M.hash_one]
  have : (UInt8.ofNat (48 + n.toNat)).toNat = 48 + n.toNat := by simp; omega
  omega
theorem digit_fault (n : Int) (h0 : 0 ≤ n) (h9 : n ≤ 9) : M.fault 0 n ⟨#[]⟩ = 0 := by
  unfold M.fault M.faultN
  rw [if_pos rfl, if_neg (by omega)]; rfl
theorem star (w : World) (ht : Tab w) : Calls Tryd.prog 7 #[.agg #[.int .i64 2, .int .i64 0, .string ⟨#[]⟩]] w fun e w' => e = .returned (.tuple #[.int .i64 259, .nilIface]) ∧ Below w.heap.size w w' := by
  have h := dvalOk 2 0 ⟨#[]⟩ w (by decide) (by decide) ht
  have e : M.hash (M.word 2 0 ⟨#[]⟩) = 259 := M.hash_one 42
  rwa [e] at h
theorem digit (n : Int) (w : World) (h0 : 0 ≤ n) (h9 : n ≤ 9) (ht : Tab w) : Calls Tryd.prog 7 #[.agg #[.int .i64 0, .int .i64 n, .string ⟨#[]⟩]] w fun e w' => e = .returned (.tuple #[.int .i64 (265 + n), .nilIface]) ∧ Below w.heap.size w w' := by
  have h := dvalOk 0 n ⟨#[]⟩ w (by decide) (digit_fault n h0 h9) ht
  rwa [digit_word n h0 h9] at h

theorem walk (n : Int) (w : World) (ht : Tab w) : Calls Tryd.prog 4 #[.int .i64 n] w fun e w' => e = .returned (.bool true) ∧ Below w.heap.size w w' := by
  have HT := hide ht
  clear ht
  by_cases h0 : n < 0
  · go_enter Tryd.func4, Tryd.ntmps4
    go_wp2_with fail
    refine (star _ HT.out).mono ?_
    rintro e w1 ⟨rfl, hb⟩
    go_wp2_with fail
    go_ret
    exact ⟨rfl, hb⟩
  · by_cases h9 : 9 < n
    · go_enter Tryd.func4, Tryd.ntmps4
      go_wp2_with fail
      refine (star _ HT.out).mono ?_
      rintro e w1 ⟨rfl, hb⟩
      go_wp2_with fail
      go_ret
      exact ⟨rfl, hb⟩
    · have HD : Hid (Calls Tryd.prog 7 #[.agg #[.int .i64 0, .int .i64 n, .string ⟨#[]⟩]] w fun e w' => e = .returned (.tuple #[.int .i64 (265 + n), .nilIface]) ∧ Below w.heap.size w w') := hide (digit n w (by omega) (by omega) HT.out)
      go_enter Tryd.func4, Tryd.ntmps4
      go_wp2_with fail
      refine (unhide HD).mono ?_
      rintro e w1 ⟨rfl, hb⟩
      go_wp2_with fail
      go_ret
      exact ⟨rfl, hb⟩

end Go.Proofs.YtlefhfmckimlaadDoor.printOne
