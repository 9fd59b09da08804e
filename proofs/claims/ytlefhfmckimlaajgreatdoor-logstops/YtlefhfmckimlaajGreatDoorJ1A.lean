/-
  Plain functions on tuples: which fault one has, whether one fits. No program is walked here.
  Plain facts on a queue: what is wrong with what is asked, what a push answers, what is to come; that what was pushed by each goes from 1 on without a gap. No program is walked here.
-/
import Derived.Test.YtlefhfmckimlaajGreatDoorValMath
namespace Go.Proofs.YtlefhfmckimlaajGreatDoor.M

/-- a value: its kind, its number, its text -/
structure Val where
  k : Int
  n : Int
  s : ByteArray

def Val.fault (v : Val) : Int := M.fault v.k v.n v.s
def Val.same (a b : Val) : Bool := M.same a.k a.n a.s b.k b.n b.s

/-- the first fault of some values -/
def firstF : List Val → Int
  | [] => 0
  | v :: r => if v.fault ≠ 0 then v.fault else firstF r
/-- the fault of what is asked for, and of a tuple -/
def likeF (l : List Val) : Int := if l.length = 0 then 5 else if 5 < l.length then 4 else firstF l
def hasAny (l : List Val) : Bool := l.any fun v => v.k == 2
def tupF (l : List Val) : Int := if likeF l ≠ 0 then likeF l else if hasAny l then 3 else 0

/-- does a value fit, field by field -/
def fit1 (a b : Val) : Bool := a.k == 2 || a.same b
def fitAll : List Val → List Val → Bool
  | [], [] => true
  | a :: l, b :: t => fit1 a b && fitAll l t
  | _, _ => false

theorem firstF_zero : ∀ {l : List Val}, firstF l = 0 → ∀ v ∈ l, v.fault = 0
  | [], _, v, hv => by simp at hv
  | a :: l, h, v, hv => by
    unfold firstF at h
    by_cases ha : a.fault ≠ 0
    · rw [if_pos ha] at h; exact absurd h ha
    · rw [if_neg ha] at h
      rcases List.mem_cons.1 hv with rfl | hx
      · simpa using ha
      · exact firstF_zero h v hx

end Go.Proofs.YtlefhfmckimlaajGreatDoor.M

namespace Go.Proofs.YtlefhfmckimlaajGreatDoor.M

/-- what is asked: by whom, which one of his, what is to be done, and with what -/
structure Ask where
  who : Int
  seq : Int
  deed : Int
  t : List Val

/-- what is wrong with one -/
def askF (a : Ask) : Int := if a.who < 0 ∨ 1000000 < a.who ∨ a.deed < 0 ∨ 2 < a.deed then 1 else if a.deed = 0 then tupF a.t else likeF a.t
theorem askF_range {a : Ask} (h : a.who < 0 ∨ 1000000 < a.who ∨ a.deed < 0 ∨ 2 < a.deed) : askF a = 1 := by unfold askF; rw [if_pos h]
theorem askF_put {a : Ask} (h : ¬ (a.who < 0 ∨ 1000000 < a.who ∨ a.deed < 0 ∨ 2 < a.deed)) (h0 : a.deed = 0) : askF a = tupF a.t := by unfold askF; rw [if_neg h, if_pos h0]
theorem askF_else {a : Ask} (h : ¬ (a.who < 0 ∨ 1000000 < a.who ∨ a.deed < 0 ∨ 2 < a.deed)) (h0 : a.deed ≠ 0) : askF a = likeF a.t := by unfold askF; rw [if_neg h, if_neg h0]
theorem tupF_like {l : List Val} (h : tupF l = 0) : likeF l = 0 := by
  unfold tupF at h
  by_cases hl : likeF l = 0
  · exact hl
  · rw [if_pos hl] at h; exact h
theorem askF_ok {a : Ask} (h : askF a = 0) : (0 ≤ a.who ∧ a.who ≤ 1000000) ∧ (0 ≤ a.deed ∧ a.deed ≤ 2) ∧ likeF a.t = 0 := by
  by_cases hr : a.who < 0 ∨ 1000000 < a.who ∨ a.deed < 0 ∨ 2 < a.deed
  · rw [askF_range hr] at h; exact absurd h (by decide)
  · by_cases h0 : a.deed = 0
    · rw [askF_put hr h0] at h; exact ⟨by omega, by omega, tupF_like h⟩
    · rw [askF_else hr h0] at h; exact ⟨by omega, by omega, h⟩

/-- what a push answers: f says the last one of each, n are there -/
def pushE (f : Int → Int) (n : Nat) (a : Ask) : Int := if askF a ≠ 0 then askF a else if a.seq < f a.who + 1 then 7 else if f a.who + 1 < a.seq then 6 else if 30 ≤ n then 4 else 0
section
variable {f : Int → Int} {n : Nat} {a : Ask}
theorem pushE_bad (h : askF a ≠ 0) : pushE f n a = askF a := by unfold pushE; rw [if_pos h]
theorem pushE_clash (h : askF a = 0) (h1 : a.seq < f a.who + 1) : pushE f n a = 7 := by unfold pushE; rw [if_neg (by simpa using h), if_pos h1]
theorem pushE_state (h : askF a = 0) (h1 : f a.who + 1 < a.seq) : pushE f n a = 6 := by unfold pushE; rw [if_neg (by simpa using h), if_neg (by omega), if_pos h1]
theorem pushE_full (h : askF a = 0) (h1 : a.seq = f a.who + 1) (hn : 30 ≤ n) : pushE f n a = 4 := by unfold pushE; rw [if_neg (by simpa using h), if_neg (by omega), if_neg (by omega), if_pos hn]
theorem pushE_goes (h : askF a = 0) (h1 : a.seq = f a.who + 1) (hn : ¬ 30 ≤ n) : pushE f n a = 0 := by unfold pushE; rw [if_neg (by simpa using h), if_neg (by omega), if_neg (by omega), if_neg hn]
theorem pushE_ok (h : pushE f n a = 0) : askF a = 0 ∧ a.seq = f a.who + 1 ∧ n < 30 := by
  by_cases h0 : askF a = 0
  · rcases Int.lt_trichotomy a.seq (f a.who + 1) with h1 | h1 | h1
    · rw [pushE_clash h0 h1] at h; exact absurd h (by decide)
    · by_cases hn : 30 ≤ n
      · rw [pushE_full h0 h1 hn] at h; exact absurd h (by decide)
      · exact ⟨h0, h1, by omega⟩
    · rw [pushE_state h0 h1] at h; exact absurd h (by decide)
  · rw [pushE_bad h0] at h; exact absurd h h0
end
/-- the last one of each behind a push that goes -/
def upF (f : Int → Int) (a : Ask) : Int → Int := fun k => if k = a.who then a.seq else f k
theorem upF_same {f : Int → Int} {a : Ask} : upF f a a.who = a.seq := by unfold upF; rw [if_pos rfl]
theorem upF_other {f : Int → Int} {a : Ask} {k : Int} (h : k ≠ a.who) : upF f a k = f k := by unfold upF; rw [if_neg h]
/-- how many of somebody's there are -/
def his (k : Int) (l : List Ask) : Nat := l.countP fun a => a.who == k
theorem his_nil (k : Int) : his k [] = 0 := rfl
theorem his_snoc (k : Int) (l : List Ask) (a : Ask) : his k (l ++ [a]) = his k l + if a.who = k then 1 else 0 := by
  unfold his
  rw [List.countP_append, List.countP_singleton]
  simp
/-- pushed one by one, each as its turn came -/
def Turn (l : List Ask) : Prop := ∀ i (h : i < l.length), l[i].seq = his l[i].who (l.take (i + 1))
theorem turn_nil : Turn [] := fun i h => absurd h (by simp)
theorem Turn.snoc {l : List Ask} {a : Ask} (h : Turn l) (ha : a.seq = his a.who l + 1) : Turn (l ++ [a]) := fun i hi => by
  by_cases hl : i < l.length
  · have e : (l ++ [a])[i] = l[i] := List.getElem_append_left hl
    rw [e, List.take_append_of_le_length (by omega)]
    exact h i hl
  · have e : i = l.length := by simp at hi; omega
    subst e
    rw [List.getElem_append_right (Nat.le_refl _), List.take_of_length_le (by simp)]
    simp only [Nat.sub_self, List.getElem_cons_zero]
    rw [his_snoc, if_pos rfl, ha]
    simp
/-- the last one of each is how many there are of his -/
theorem upF_his {f : Int → Int} {l : List Ask} {a : Ask} (h : ∀ k, f k = his k l) (ha : a.seq = f a.who + 1) : ∀ k, upF f a k = his k (l ++ [a]) := fun k => by
  rw [his_snoc]
  by_cases hk : k = a.who
  · subst hk
    rw [upF_same, ha, h, if_pos rfl]
    simp
  · rw [upF_other hk, h, if_neg (fun e => hk e.symm)]
    simp
theorem his_le (k : Int) (l : List Ask) : his k l ≤ l.length := List.countP_le_length

end Go.Proofs.YtlefhfmckimlaajGreatDoor.M
