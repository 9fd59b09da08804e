/-
  Plain: what a session answers that is written down, and what it takes that it put. No program is walked here.
-/
import Derived.Test.YtlefhfmckimlaakGreatDoorRunMath
import Derived.Test.YtlefhfmckimlaakGreatDoorJPrint
set_option linter.unusedVariables false
namespace Go.Proofs.YtlefhfmckimlaakGreatDoor.M

set_option maxRecDepth 100000 in
theorem run_fact : runR [112, 117, 116, 32, 49, 44, 58, 97, 10, 112, 117, 116, 32, 50, 44, 58, 97, 10, 114, 101, 97, 100, 32, 42, 44, 58, 97, 10, 102, 108, 121, 10, 116, 97, 107, 101, 32, 42, 44, 42, 10, 99, 111, 117, 110, 116, 32, 42, 44, 42, 10, 111, 110, 99, 101, 32, 51, 44, 42, 32, 51, 44, 58, 98, 10, 111, 110, 99, 101, 32, 51, 44, 42, 32, 51, 44, 58, 99, 10, 114, 101, 97, 100, 32, 55, 10, 112, 114, 105, 110, 116, 32, 53, 10, 100, 101, 97, 108, 32, 53, 32, 50, 32, 51, 10] = [111, 107, 10, 111, 107, 10, 49, 44, 58, 97, 10, 98, 97, 100, 10, 49, 44, 58, 97, 10, 49, 10, 121, 101, 115, 10, 110, 111, 10, 69, 114, 114, 78, 111, 110, 101, 10, 50, 55, 48, 10, 55, 32, 57, 32, 49, 49, 10] := by decide +kernel
theorem run_empty : runR [116, 97, 107, 101, 32, 42, 10] = [69, 114, 114, 78, 111, 110, 101, 10] := by decide +kernel

/-- a number's text: no line's end, no blank, no comma, and it is read back -/
theorem dig_none {a : Nat} {c : UInt8} (hc : digC c = false) : c ∉ Lib.decDigits a := fun h => by
  have := List.all_eq_true.1 (spelt a).1 c h
  rw [hc] at this
  cases this
def numV (a : Nat) : Val := ⟨0, a, ⟨#[]⟩⟩
theorem num_fine {a : Nat} (h : a ≤ 9999) : fault 0 (a : Int) ⟨#[]⟩ = 0 := by
  unfold fault faultN
  rw [if_pos rfl, if_neg (by omega)]
  rfl
theorem num_word (a : Nat) : word 0 (a : Int) ⟨#[]⟩ = ⟨(Lib.decDigits a).toArray⟩ := by
  unfold word
  rw [← Lib.itoa_nonneg]
  rfl
theorem read_num {a : Nat} (h : a ≤ 9999) : readE (Lib.decDigits a) = 0 ∧ readV (Lib.decDigits a) = [numV a] := by
  obtain ⟨b1, b2, b3, b4⟩ := back_value (num_fine h)
  rw [num_word] at b1 b2 b3 b4
  have hc := cutL_none (Lib.decDigits a) (dig_none (by decide))
  have hl : (Lib.decDigits a).length ≠ 0 := by have := (spelt a).2.2.1; omega
  have e1 : firstP (cutL (Lib.decDigits a)) = 0 := by
    rw [hc]
    show (if pErrL (Lib.decDigits a) ≠ 0 then pErrL (Lib.decDigits a) else 0) = 0
    rw [show pErrL (Lib.decDigits a) = 0 from b1]
    rfl
  have e2 : readE (Lib.decDigits a) = 0 := by
    unfold readE
    rw [if_neg hl, e1, hc]
    rfl
  refine ⟨e2, ?_⟩
  unfold readV
  rw [if_neg (by rw [e2]; decide), hc]
  show [pVal (Lib.decDigits a)] = _
  unfold pVal numV
  rw [b2, b3, b4]
theorem line_num (a : Nat) : (line [numV a]).data.toList = Lib.decDigits a := by
  show (word 0 (a : Int) ⟨#[]⟩).data.toList = _
  rw [num_word]
theorem tup_num {a : Nat} (h : a ≤ 9999) : tupF [numV a] = 0 := by
  have e : likeF [numV a] = 0 := by
    show firstF [numV a] = 0
    have : (numV a).fault = 0 := num_fine h
    unfold firstF
    rw [this]
    rfl
  unfold tupF
  rw [e]
  rfl
theorem lines_next {a : List UInt8} (b : List UInt8) (h : 10 ∉ a) : linesL (a ++ 10 :: b) = a :: linesL b := by
  rw [linesL_append, linesL_one, cutB_none 10 a h]
  rfl
def wTakeAny : List UInt8 := wTake ++ [32, 42]
def takes : List UInt8 := wTakeAny ++ 10 :: (wTakeAny ++ 10 :: (wTakeAny ++ 10 :: []))
theorem line_put (L : List (List Val)) {a : Nat} (h : a ≤ 9999) (hL : L.length < 20) : lineR L (wPut ++ 32 :: Lib.decDigits a) = (wOk, L ++ [[numV a]]) := by
  have e : cutB 32 (wPut ++ 32 :: Lib.decDigits a) = [wPut, Lib.decDigits a] := by
    rw [cutB_append, cutB_none 32 (Lib.decDigits a) (dig_none (by decide))]
    rfl
  obtain ⟨r1, r2⟩ := read_num h
  have hp : putF L [numV a] = 0 := by unfold putF; rw [tup_num h, if_neg (by decide), if_neg (by omega)]
  unfold lineR
  rw [e]
  show (if wPut = wOnce ∨ wPut = wDeal then _ else if readE (Lib.decDigits a) ≠ 0 then _ else oneR L wPut (readV (Lib.decDigits a))) = _
  rw [if_neg (by decide), if_neg (by rw [r1]; decide), r2]
  unfold oneR putL
  rw [if_pos rfl, hp]
  rfl
theorem line_take (a : Nat) (r : List (List Val)) : lineR ([numV a] :: r) wTakeAny = (Lib.decDigits a, r) := by
  have c1 : cutB 32 wTakeAny = [wTake, [42]] := by decide +kernel
  have r1 : readE [42] = 0 := by decide +kernel
  have r2 : readV [42] = [⟨2, 0, ⟨#[]⟩⟩] := by kernel_rfl
  have e : lineR ([numV a] :: r) wTakeAny = oneR ([numV a] :: r) wTake [⟨2, 0, ⟨#[]⟩⟩] := by
    unfold lineR
    rw [c1]
    show (if wTake = wOnce ∨ wTake = wDeal then _ else if readE [42] ≠ 0 then _ else oneR ([numV a] :: r) wTake (readV [42])) = _
    rw [if_neg (by decide), if_neg (by rw [r1]; decide), r2]
  rw [e, show oneR ([numV a] :: r) wTake [⟨2, 0, ⟨#[]⟩⟩] = ((line [numV a]).data.toList, r) from rfl, line_num]
/-- it takes what it put, in the order in which it was put, and then no more -/
theorem run_takes {a b : Nat} (ha : a ≤ 9999) (hb : b ≤ 9999) :
    runR ((wPut ++ 32 :: Lib.decDigits a) ++ 10 :: ((wPut ++ 32 :: Lib.decDigits b) ++ 10 :: takes)) = wOk ++ 10 :: (wOk ++ 10 :: (Lib.decDigits a ++ 10 :: (Lib.decDigits b ++ 10 :: (errN 5 ++ 10 :: [])))) := by
  have la := len_le a (by omega)
  have lb := len_le b (by omega)
  have n1 : ∀ n, 10 ∉ wPut ++ 32 :: Lib.decDigits n := fun n h => by
    rcases List.mem_append.1 h with h | h
    · exact absurd h (by decide)
    · rcases List.mem_cons.1 h with h | h
      · exact absurd h (by decide)
      · exact dig_none (by decide) h
  have el : linesL takes = [wTakeAny, wTakeAny, wTakeAny] := by decide +kernel
  unfold runR
  rw [if_neg (by simp [wPut, takes, wTakeAny, wTake]; omega), lines_next _ (n1 a), lines_next _ (n1 b), el]
  show (lineR [] _).1 ++ 10 :: runL (lineR [] _).2 _ = _
  rw [line_put [] ha (by decide)]
  show wOk ++ 10 :: ((lineR [[numV a]] _).1 ++ 10 :: runL (lineR [[numV a]] _).2 _) = _
  rw [line_put [[numV a]] hb (by show 1 < 20; decide)]
  show wOk ++ 10 :: (wOk ++ 10 :: ((lineR ([numV a] :: [[numV b]]) wTakeAny).1 ++ 10 :: runL (lineR ([numV a] :: [[numV b]]) wTakeAny).2 _)) = _
  rw [line_take]
  show wOk ++ 10 :: (wOk ++ 10 :: (Lib.decDigits a ++ 10 :: ((lineR ([numV b] :: []) wTakeAny).1 ++ 10 :: runL (lineR ([numV b] :: []) wTakeAny).2 _))) = _
  rw [line_take]
  show wOk ++ 10 :: (wOk ++ 10 :: (Lib.decDigits a ++ 10 :: (Lib.decDigits b ++ 10 :: runL [] [wTakeAny]))) = _
  rw [show runL [] [wTakeAny] = errN 5 ++ 10 :: [] by decide +kernel]

end Go.Proofs.YtlefhfmckimlaakGreatDoor.M
