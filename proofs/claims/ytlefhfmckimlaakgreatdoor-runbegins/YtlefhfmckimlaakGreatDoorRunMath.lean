/-
  Plain facts on a session: a text cut into lines and a line into words, what a line answers, and what all of them do; the answers to the first lines are a beginning of the answers to all. No program is walked here.
-/
import Derived.Test.YtlefhfmckimlaakGreatDoorJPrint
import Derived.Test.YtlefhfmckimlaakGreatDoorJHash
import Derived.Test.YtlefhfmckimlaakGreatDoorJSp
import Derived.Test.YtlefhfmckimlaakGreatDoorJShM
set_option linter.unusedVariables false
namespace Go.Proofs.YtlefhfmckimlaakGreatDoor.M

/-- a text cut at each byte c -/
def cutB (c : UInt8) : List UInt8 → List (List UInt8)
  | [] => [[]]
  | x :: r => if x = c then [] :: cutB c r else match cutB c r with
    | [] => [[x]]
    | p :: ps => (x :: p) :: ps
theorem cutB_ne (c : UInt8) (l : List UInt8) : cutB c l ≠ [] := by
  cases l with
  | nil => simp [cutB]
  | cons x r => unfold cutB; split
                · simp
                · split <;> simp
theorem cutB_append (c : UInt8) : ∀ (p r : List UInt8), cutB c (p ++ c :: r) = cutB c p ++ cutB c r
  | [], r => by simp [cutB]
  | x :: p, r => by
    by_cases h : x = c
    · subst h
      have e : ∀ l, cutB x (x :: l) = [] :: cutB x l := fun l => if_pos rfl
      rw [List.cons_append, e, e, cutB_append x p r]; rfl
    · have e : ∀ l, cutB c (x :: l) = match cutB c l with
          | [] => [[x]]
          | p :: ps => (x :: p) :: ps := fun l => if_neg h
      rw [List.cons_append, e, e, cutB_append c p r]
      cases hp : cutB c p with
      | nil => exact absurd hp (cutB_ne c p)
      | cons q qs => rfl
theorem cutB_none (c : UInt8) : ∀ (l : List UInt8), c ∉ l → cutB c l = [l]
  | [], _ => rfl
  | x :: r, h => by
    have hc : ¬ x = c := fun e => h (by simp [e])
    have hr : c ∉ r := fun e => h (by simp [e])
    unfold cutB; rw [if_neg hc, cutB_none c r hr]
/-- a last piece that is empty is none -/
def noLast (l : List (List UInt8)) : List (List UInt8) := if l.getLastD [] = [] then l.dropLast else l
theorem noLast_append (a : List (List UInt8)) {b : List (List UInt8)} (h : b ≠ []) : noLast (a ++ b) = a ++ noLast b := by
  unfold noLast
  have e : (a ++ b).getLastD [] = b.getLastD [] := by
    rw [List.getLastD_eq_getLast?, List.getLastD_eq_getLast?, List.getLast?_append]
    cases hb : b.getLast? with
    | none => exact absurd (List.getLast?_eq_none_iff.1 hb) h
    | some x => rfl
  rw [e]
  split
  · rw [List.dropLast_append_of_ne_nil h]
  · rfl
/-- a text's lines -/
def linesL (l : List UInt8) : List (List UInt8) := noLast (cutB 10 l)
theorem linesL_nil : linesL [] = [] := rfl
theorem linesL_one (a : List UInt8) : linesL (a ++ [10]) = cutB 10 a := by
  unfold linesL
  rw [cutB_append, noLast_append _ (cutB_ne _ _)]
  show cutB 10 a ++ noLast [[]] = _
  simp [noLast]
theorem linesL_append (a b : List UInt8) : linesL (a ++ 10 :: b) = linesL (a ++ [10]) ++ linesL b := by
  rw [linesL_one]
  unfold linesL
  rw [cutB_append, noLast_append _ (cutB_ne _ _)]

/-- a number of at most four digits, without a needless 0 -/
def numB (l : List UInt8) : Bool := decide (1 ≤ l.length) && decide (l.length ≤ 4) && !(l.head? == some 48 && decide (1 < l.length)) && l.all fun c => decide (48 ≤ c.toNat) && decide (c.toNat ≤ 57)
def numI (l : List UInt8) : Int := l.foldl (fun a c => a * 10 + c.toNat - 48) 0
/-- an error's name -/
def errN (e : Int) : List UInt8 :=
  if e = 1 then [69, 114, 114, 82, 97, 110, 103, 101] else if e = 2 then [69, 114, 114, 83, 121, 110, 116, 97, 120] else if e = 3 then [69, 114, 114, 83, 104, 97, 112, 101] else if e = 4 then [69, 114, 114, 70, 117, 108, 108]
  else if e = 5 then [69, 114, 114, 78, 111, 110, 101] else if e = 6 then [69, 114, 114, 83, 116, 97, 116, 101] else if e = 7 then [69, 114, 114, 67, 108, 97, 115, 104] else if e = 8 then [69, 114, 114, 68, 101, 110, 105, 101, 100] else [79, 75]
def wBad : List UInt8 := [98, 97, 100]
def wOk : List UInt8 := [111, 107]
def wYes : List UInt8 := [121, 101, 115]
def wNo : List UInt8 := [110, 111]
def wPut : List UInt8 := [112, 117, 116]
def wRead : List UInt8 := [114, 101, 97, 100]
def wTake : List UInt8 := [116, 97, 107, 101]
def wCount : List UInt8 := [99, 111, 117, 110, 116]
def wPrint : List UInt8 := [112, 114, 105, 110, 116]
def wOnce : List UInt8 := [111, 110, 99, 101]
def wDeal : List UInt8 := [100, 101, 97, 108]
def wLong : List UInt8 := [116, 111, 111, 32, 108, 111, 110, 103, 10]
/-- what a word with one tuple answers, and the space behind it -/
def oneR (L : List (List Val)) (k : List UInt8) (t : List Val) : List UInt8 × List (List Val) :=
  if k = wPut then (if putF L t ≠ 0 then errN (putF L t) else wOk, putL L t)
  else if k = wRead then (if getF t L ≠ 0 then errN (getF t L) else (line (getV t L)).data.toList, L)
  else if k = wTake then (if getF t L ≠ 0 then errN (getF t L) else (line (getV t L)).data.toList, lessL t L)
  else if k = wCount then (Lib.decDigits (many t L), L)
  else if k = wPrint then (Lib.decDigits (hash (line t)).toNat, L)
  else (wBad, L)
def onceR (L : List (List Val)) (a t : List Val) : List UInt8 × List (List Val) :=
  if tupF t ≠ 0 then (errN (tupF t), L) else if 0 < many a L then (wNo, L) else if putF L t ≠ 0 then (errN (putF L t), L) else (wYes, putL L t)
/-- numbers, a blank between -/
def blanks : List Int → List UInt8
  | [] => []
  | [n] => Lib.decDigits n.toNat
  | n :: m :: r => Lib.decDigits n.toNat ++ 32 :: blanks (m :: r)
def dealT (s r m : Int) : List UInt8 := if dealE s [r] m ≠ 0 then errN (dealE s [r] m) else blanks ((dealR s [r] m).map (·.2))
/-- what a line answers, and the space behind it -/
def lineR (L : List (List Val)) (s : List UInt8) : List UInt8 × List (List Val) :=
  match cutB 32 s with
  | [k, a] => if k = wOnce ∨ k = wDeal then (wBad, L) else if readE a ≠ 0 then (wBad, L) else oneR L k (readV a)
  | [k, a, b] => if k = wOnce then (if readE a ≠ 0 ∨ readE b ≠ 0 then (wBad, L) else onceR L (readV a) (readV b)) else (wBad, L)
  | [k, a, b, c] => if k = wDeal then (if numB a = true ∧ numB b = true ∧ numB c = true then dealT (numI a) (numI b) (numI c) else wBad, L) else (wBad, L)
  | _ => (wBad, L)
/-- what the lines answer, one behind the other, and the space behind them -/
def runL (L : List (List Val)) : List (List UInt8) → List UInt8
  | [] => []
  | s :: r => (lineR L s).1 ++ 10 :: runL (lineR L s).2 r
def runS (L : List (List Val)) : List (List UInt8) → List (List Val)
  | [] => L
  | s :: r => runS (lineR L s).2 r
theorem runL_append : ∀ (L : List (List Val)) (a b : List (List UInt8)), runL L (a ++ b) = runL L a ++ runL (runS L a) b
  | L, [], b => rfl
  | L, s :: r, b => by
    show (lineR L s).1 ++ 10 :: runL (lineR L s).2 (r ++ b) = (lineR L s).1 ++ 10 :: runL (lineR L s).2 r ++ runL (runS (lineR L s).2 r) b
    rw [runL_append _ r b]
    simp
theorem runS_append : ∀ (L : List (List Val)) (a b : List (List UInt8)), runS L (a ++ b) = runS (runS L a) b
  | L, [], b => rfl
  | L, s :: r, b => runS_append _ r b
/-- what a session answers -/
def runR (l : List UInt8) : List UInt8 := if 3000 < l.length then wLong else runL [] (linesL l)
/-- the answers to the first lines are the beginning of the answers to all -/
theorem run_begins (a b : List UInt8) (h : (a ++ 10 :: b).length ≤ 3000) : ∃ r, runR (a ++ 10 :: b) = runR (a ++ [10]) ++ r := by
  have h2 : (a ++ [10]).length ≤ 3000 := by simp at h ⊢; omega
  refine ⟨runL (runS [] (linesL (a ++ [10]))) (linesL b), ?_⟩
  unfold runR
  rw [if_neg (by omega), if_neg (by omega), linesL_append, runL_append]
theorem run_none : runR [] = [] := rfl
theorem run_long {l : List UInt8} (h : 3000 < l.length) : runR l = wLong := if_pos h
/-- where k bytes are all of a text, none of it, or end with a line's end, what they answer is a beginning -/
theorem run_take (l : List UInt8) (k : Nat) (h : l.length ≤ 3000) (hk : k = 0 ∨ l.length ≤ k ∨ ∃ (h1 : k - 1 < l.length), 0 < k ∧ l[k - 1] = 10) : ∃ r, runR l = runR (l.take k) ++ r := by
  rcases hk with rfl | hk | ⟨h1, h0, h2⟩
  · exact ⟨runR l, by rw [List.take_zero, run_none]; rfl⟩
  · exact ⟨[], by rw [List.take_of_length_le hk]; simp⟩
  · obtain ⟨j, rfl⟩ : ∃ j, k = j + 1 := ⟨k - 1, by omega⟩
    simp only [Nat.add_sub_cancel] at h1 h2
    have e : l = l.take j ++ 10 :: l.drop (j + 1) := by
      rw [← h2, ← List.drop_eq_getElem_cons h1, List.take_append_drop]
    have e2 : l.take (j + 1) = l.take j ++ [10] := by rw [List.take_succ_eq_append_getElem h1, h2]
    obtain ⟨r, hr⟩ := run_begins (l.take j) (l.drop (j + 1)) (by rw [← e]; exact h)
    exact ⟨r, by rw [e2, ← hr, ← e]⟩

end Go.Proofs.YtlefhfmckimlaakGreatDoor.M
