/-
  Plain facts on a copy that does what it is told: what it answers, and what it is behind it; asked again it answers again. No program is walked here.
-/
import Derived.Test.YtlefhfmckimlaakGreatDoorJQue
import Derived.Test.YtlefhfmckimlaakGreatDoorJRule
import Derived.Test.YtlefhfmckimlaakGreatDoorJSp
import Derived.Test.YtlefhfmckimlaakGreatDoorJPrint
import Derived.Test.YtlefhfmckimlaakGreatDoorJHash
namespace Go.Proofs.YtlefhfmckimlaakGreatDoor.M

/-- a copy: its tuples by age, the last that was done of each with its answer, and how often something was done -/
structure Cop where
  l : List (List Val)
  g : Int → Int × ByteArray
  n : Nat
def Cop.new : Cop := ⟨[], fun _ => (0, ⟨#[]⟩), 0⟩
def sNo : ByteArray := ⟨#[]⟩
def sOk : ByteArray := ⟨#[111, 107]⟩
def sFull : ByteArray := ⟨#[102, 117, 108, 108]⟩
def sNone : ByteArray := ⟨#[110, 111, 110, 101]⟩
/-- the last of each behind a deed -/
def upG (g : Int → Int × ByteArray) (a : Ask) (s : ByteArray) : Int → Int × ByteArray := fun k => if k = a.who then (a.seq, s) else g k
theorem upG_same {g : Int → Int × ByteArray} {a : Ask} {s : ByteArray} : upG g a s a.who = (a.seq, s) := by unfold upG; rw [if_pos rfl]
theorem upG_other {g : Int → Int × ByteArray} {a : Ask} {s : ByteArray} {k : Int} (h : k ≠ a.who) : upG g a s k = g k := by unfold upG; rw [if_neg h]
def Cop.did (c : Cop) (a : Ask) (s : ByteArray) (l : List (List Val)) : Cop := ⟨l, upG c.g a s, c.n + 1⟩

/-- may it be done -/
def allowB (R : List Rul) (l : List (List Val)) (a : Ask) : Bool := if a.deed = 0 then mayR R a.who 0 a.t else if getF a.t l = 0 then mayR R a.who a.deed (getV a.t l) else true
/-- what is answered, and the tuples behind it -/
def deedS (l : List (List Val)) (a : Ask) : ByteArray := if a.deed = 0 then (if putF l a.t = 0 then sOk else sFull) else if getF a.t l = 0 then line (getV a.t l) else sNone
def deedL (l : List (List Val)) (a : Ask) : List (List Val) := if a.deed = 0 then putL l a.t else if a.deed = 2 then lessL a.t l else l

/-- it is the last one again -/
def againB (g : Int → Int × ByteArray) (a : Ask) : Bool := decide (a.seq = (g a.who).1 ∧ 0 < (g a.who).1)
/-- what a copy answers: the fault, the text, and what it is then -/
def doR (R : List Rul) (c : Cop) (a : Ask) : Int × ByteArray × Cop :=
  if askF a ≠ 0 then (askF a, sNo, c)
  else if againB c.g a = true then (0, (c.g a.who).2, c)
  else if a.seq ≠ (c.g a.who).1 + 1 then (6, sNo, c)
  else if allowB R c.l a = true then (0, deedS c.l a, c.did a (deedS c.l a) (deedL c.l a))
  else (8, sNo, c)
section
variable {R : List Rul} {c : Cop} {a : Ask}
theorem doR_bad (h : askF a ≠ 0) : doR R c a = (askF a, sNo, c) := by unfold doR; rw [if_pos h]
theorem doR_again (h : askF a = 0) (h1 : againB c.g a = true) : doR R c a = (0, (c.g a.who).2, c) := by unfold doR; rw [if_neg (by simpa using h), if_pos h1]
theorem doR_state (h : askF a = 0) (h1 : againB c.g a = false) (h2 : a.seq ≠ (c.g a.who).1 + 1) : doR R c a = (6, sNo, c) := by unfold doR; rw [if_neg (by simpa using h), if_neg (by simp [h1]), if_pos h2]
theorem doR_did (h : askF a = 0) (h1 : againB c.g a = false) (h2 : a.seq = (c.g a.who).1 + 1) (h3 : allowB R c.l a = true) : doR R c a = (0, deedS c.l a, c.did a (deedS c.l a) (deedL c.l a)) := by unfold doR; rw [if_neg (by simpa using h), if_neg (by simp [h1]), if_neg (by simpa using h2), if_pos h3]
theorem doR_denied (h : askF a = 0) (h1 : againB c.g a = false) (h2 : a.seq = (c.g a.who).1 + 1) (h3 : allowB R c.l a = false) : doR R c a = (8, sNo, c) := by unfold doR; rw [if_neg (by simpa using h), if_neg (by simp [h1]), if_neg (by simpa using h2), if_neg (by simp [h3])]
/-- the five ways -/
theorem doR_ways (R : List Rul) (c : Cop) (a : Ask) : askF a ≠ 0 ∨ (askF a = 0 ∧ againB c.g a = true) ∨ (askF a = 0 ∧ againB c.g a = false ∧ a.seq ≠ (c.g a.who).1 + 1) ∨ (askF a = 0 ∧ againB c.g a = false ∧ a.seq = (c.g a.who).1 + 1 ∧ allowB R c.l a = true) ∨ (askF a = 0 ∧ againB c.g a = false ∧ a.seq = (c.g a.who).1 + 1 ∧ allowB R c.l a = false) := by
  by_cases h : askF a = 0
  · cases h1 : againB c.g a
    · by_cases h2 : a.seq = (c.g a.who).1 + 1
      · cases h3 : allowB R c.l a
        · exact Or.inr (Or.inr (Or.inr (Or.inr ⟨h, rfl, h2, rfl⟩)))
        · exact Or.inr (Or.inr (Or.inr (Or.inl ⟨h, rfl, h2, rfl⟩)))
      · exact Or.inr (Or.inr (Or.inl ⟨h, rfl, h2⟩))
    · exact Or.inr (Or.inl ⟨h, rfl⟩)
  · exact Or.inl h
/-- it is the last one again, and there is nothing wrong with it -/
def agB (c : Cop) (a : Ask) : Bool := decide (askF a = 0) && againB c.g a
theorem agB_bad (h : askF a ≠ 0) : agB c a = false := by unfold agB; simp [h]
theorem agB_ok (h : askF a = 0) : agB c a = againB c.g a := by unfold agB; simp [h]
theorem again_no {g : Int → Int × ByteArray} (h : a.seq = (g a.who).1 + 1) : againB g a = false := by unfold againB; simp; omega
theorem again_not {g : Int → Int × ByteArray} (h : ¬ (a.seq = (g a.who).1 ∧ 0 < (g a.who).1)) : againB g a = false := by unfold againB; exact decide_eq_false h
theorem again_yes {g : Int → Int × ByteArray} (h : againB g a = true) : a.seq = (g a.who).1 ∧ 0 < (g a.who).1 := of_decide_eq_true h
theorem again_non {g : Int → Int × ByteArray} (h : againB g a = false) : ¬ (a.seq = (g a.who).1 ∧ 0 < (g a.who).1) := of_decide_eq_false h

/-- the ways in which something is done -/
def Way (R : List Rul) (L : List (List Val)) (who deed : Int) (t : List Val) (s : ByteArray) (L' : List (List Val)) : Prop :=
  (deed = 0 ∧ mayR R who 0 t = true ∧ putF L t = 0 ∧ s = sOk ∧ L' = putL L t) ∨ (deed = 0 ∧ mayR R who 0 t = true ∧ putF L t ≠ 0 ∧ s = sFull ∧ L' = putL L t) ∨ (deed ≠ 0 ∧ getF t L ≠ 0 ∧ s = sNone ∧ L' = L) ∨ (deed = 1 ∧ getF t L = 0 ∧ mayR R who 1 (getV t L) = true ∧ s = line (getV t L) ∧ L' = L) ∨ (deed = 2 ∧ getF t L = 0 ∧ mayR R who 2 (getV t L) = true ∧ s = line (getV t L) ∧ L' = lessL t L)
theorem allow_way {L : List (List Val)} (hf : askF a = 0) (h : allowB R L a = true) : Way R L a.who a.deed a.t (deedS L a) (deedL L a) := by
  obtain ⟨_, h2, _⟩ := askF_ok hf
  unfold allowB at h
  unfold Way deedS deedL
  by_cases h0 : a.deed = 0
  · rw [if_pos h0] at h
    simp only [if_pos h0]
    by_cases hp : putF L a.t = 0
    · exact Or.inl ⟨h0, h, hp, by rw [if_pos hp], trivial⟩
    · exact Or.inr (Or.inl ⟨h0, h, hp, by rw [if_neg hp], trivial⟩)
  · rw [if_neg h0] at h
    simp only [if_neg h0]
    by_cases hg : getF a.t L = 0
    · rw [if_pos hg] at h
      by_cases h1 : a.deed = 2
      · exact Or.inr (Or.inr (Or.inr (Or.inr ⟨h1, hg, by rw [← h1]; exact h, by rw [if_pos hg], by rw [if_pos h1]⟩)))
      · have h3 : a.deed = 1 := by omega
        exact Or.inr (Or.inr (Or.inr (Or.inl ⟨h3, hg, by rw [← h3]; exact h, by rw [if_pos hg], by rw [if_neg h1]⟩)))
    · refine Or.inr (Or.inr (Or.inl ⟨h0, hg, by rw [if_neg hg], ?_⟩))
      split
      · exact lessL_no hg
      · rfl
/-- the ways in which it may not be done -/
theorem allow_no {L : List (List Val)} (h : allowB R L a = false) : (a.deed = 0 ∧ mayR R a.who 0 a.t = false) ∨ (a.deed ≠ 0 ∧ getF a.t L = 0 ∧ mayR R a.who a.deed (getV a.t L) = false) := by
  unfold allowB at h
  by_cases h0 : a.deed = 0
  · rw [if_pos h0] at h; exact Or.inl ⟨h0, h⟩
  · rw [if_neg h0] at h
    by_cases hg : getF a.t L = 0
    · rw [if_pos hg] at h; exact Or.inr ⟨h0, hg, h⟩
    · rw [if_neg hg] at h; cases h

theorem sNo_small : sNo.size ≤ 70 := by decide
/-- a copy as it may come to be -/
structure Cop.Ok (c : Cop) : Prop where
  fine : Fine c.l
  lo : ∀ k, 0 ≤ (c.g k).1
  hi : ∀ k, (c.g k).1 ≤ c.n
  small : ∀ k, (c.g k).2.size ≤ 70
theorem Cop.new_ok : Cop.new.Ok := ⟨Fine.nil, fun _ => Int.le_refl _, fun _ => Int.le_refl _, fun _ => sNo_small⟩
theorem line_small {l : List Val} (h : likeF l = 0) : (line l).size ≤ 70 := by
  obtain ⟨_, h5⟩ := likeF_len h
  have h1 := words_len (likeF_each h)
  have : (line l).size = (joinL (words l)).length := by rw [line_eq]; simp [ByteArray.size]
  omega
theorem getV_tup {t : List Val} {L : List (List Val)} (hL : Fine L) (h : getF t L = 0) : tupF (getV t L) = 0 := by
  have hl : likeF t = 0 := by
    by_cases hl : likeF t = 0
    · exact hl
    · rw [getF_bad hl] at h; exact h
  by_cases hs : spot t L < L.length
  · rw [getV_hit hl hs]; exact hL.1 _ (List.getElem_mem hs)
  · rw [getF_miss hl hs] at h; exact absurd h (by decide)
theorem deedS_small (hL : Fine c.l) : (deedS c.l a).size ≤ 70 := by
  unfold deedS
  split
  · split <;> decide
  · split
    · rename_i h; exact line_small (tupF_like (getV_tup hL h))
    · decide
theorem deedL_fine {l : List (List Val)} (h : Fine l) : Fine (deedL l a) := by
  unfold deedL
  split
  · exact Fine.put h
  · split
    · exact Fine.less h
    · exact h
theorem Cop.Ok.did (h : c.Ok) (h2 : a.seq = (c.g a.who).1 + 1) : (c.did a (deedS c.l a) (deedL c.l a)).Ok := by
  refine ⟨deedL_fine h.fine, fun k => ?_, fun k => ?_, fun k => ?_⟩
  all_goals
    show _
    have h1 := h.lo a.who
    have h3 := h.hi a.who
    have h4 := h.lo k
    have h5 := h.hi k
    have h6 := h.small k
    have h7 := deedS_small (a := a) h.fine
    unfold Cop.did
    simp only
    by_cases e : k = a.who
    · subst e
      rw [upG_same]
      first | omega | exact h7
    · rw [upG_other e]
      first | omega | exact h6
theorem Cop.Ok.next (h : c.Ok) : (doR R c a).2.2.Ok := by
  rcases doR_ways R c a with h1 | ⟨h1, h2⟩ | ⟨h1, h2, h3⟩ | ⟨h1, h2, h3, h4⟩ | ⟨h1, h2, h3, h4⟩
  · rw [doR_bad h1]; exact h
  · rw [doR_again h1 h2]; exact h
  · rw [doR_state h1 h2 h3]; exact h
  · rw [doR_did h1 h2 h3 h4]; exact h.did h3
  · rw [doR_denied h1 h2 h3 h4]; exact h
theorem doR_many (R : List Rul) (c : Cop) (a : Ask) : (doR R c a).2.2.n ≤ c.n + 1 := by
  rcases doR_ways R c a with h1 | ⟨h1, h2⟩ | ⟨h1, h2, h3⟩ | ⟨h1, h2, h3, h4⟩ | ⟨h1, h2, h3, h4⟩
  · rw [doR_bad h1]; exact Nat.le_succ _
  · rw [doR_again h1 h2]; exact Nat.le_succ _
  · rw [doR_state h1 h2 h3]; exact Nat.le_succ _
  · rw [doR_did h1 h2 h3 h4]; exact Nat.le_refl _
  · rw [doR_denied h1 h2 h3 h4]; exact Nat.le_succ _
theorem doR_small (h : c.Ok) : (doR R c a).2.1.size ≤ 70 := by
  rcases doR_ways R c a with h1 | ⟨h1, h2⟩ | ⟨h1, h2, h3⟩ | ⟨h1, h2, h3, h4⟩ | ⟨h1, h2, h3, h4⟩
  · rw [doR_bad h1]; exact sNo_small
  · rw [doR_again h1 h2]; exact h.small _
  · rw [doR_state h1 h2 h3]; exact sNo_small
  · rw [doR_did h1 h2 h3 h4]; exact deedS_small h.fine
  · rw [doR_denied h1 h2 h3 h4]; exact sNo_small
/-- asked again it answers again, and does nothing -/
theorem doR_twice (h : c.Ok) (h0 : (doR R c a).1 = 0) : doR R (doR R c a).2.2 a = (0, (doR R c a).2.1, (doR R c a).2.2) := by
  rcases doR_ways R c a with h1 | ⟨h1, h2⟩ | ⟨h1, h2, h3⟩ | ⟨h1, h2, h3, h4⟩ | ⟨h1, h2, h3, h4⟩
  · rw [doR_bad h1] at h0; exact absurd h0 h1
  · rw [doR_again h1 h2]; exact doR_again h1 h2
  · rw [doR_state h1 h2 h3] at h0; exact absurd (show (6 : Int) = 0 from h0) (by decide)
  · rw [doR_did h1 h2 h3 h4]
    have e : (c.did a (deedS c.l a) (deedL c.l a)).g a.who = (a.seq, deedS c.l a) := upG_same
    have := h.lo a.who
    rw [doR_again h1 (by unfold againB; rw [e]; exact decide_eq_true ⟨rfl, by show 0 < a.seq; omega⟩), e]
  · rw [doR_denied h1 h2 h3 h4] at h0; exact absurd (show (8 : Int) = 0 from h0) (by decide)
end

/-- the Prints of all, byte 10 behind each -/
def markL : List (List Val) → List UInt8
  | [] => []
  | t :: L => (line t).data.toList ++ 10 :: markL L
theorem markL_append : ∀ (A B : List (List Val)), markL (A ++ B) = markL A ++ markL B
  | [], B => rfl
  | t :: A, B => by simp [markL, markL_append A B]
theorem markL_take {L : List (List Val)} {k : Nat} (h : k < L.length) : markL (L.take (k + 1)) = markL (L.take k) ++ ((line L[k]).data.toList ++ [10]) := by
  rw [List.take_succ_eq_append_getElem h, markL_append]; rfl
theorem markL_len : ∀ {L : List (List Val)}, (∀ t ∈ L, tupF t = 0) → (markL L).length ≤ L.length * 71
  | [], _ => Nat.zero_le _
  | t :: L, h => by
    have h1 := markL_len (L := L) (fun x hx => h x (by simp [hx]))
    have h2 := line_small (tupF_like (h t (by simp)))
    have h3 : (line t).data.toList.length = (line t).size := Array.length_toList
    simp only [markL, List.length_append, List.length_cons]
    omega
/-- the number of all -/
def mark (L : List (List Val)) : Int := hashL (markL L)

end Go.Proofs.YtlefhfmckimlaakGreatDoor.M
