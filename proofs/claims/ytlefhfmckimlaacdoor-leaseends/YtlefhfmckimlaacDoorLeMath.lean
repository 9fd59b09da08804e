/-
  Plain functions on leases: what each call answers, and what is held behind it. No program is walked here.
-/
import Derived.Test.YtlefhfmckimlaacDoorLeOwn
namespace Go.Proofs.YtlefhfmckimlaacDoor

/-- a lease may last until then -/
def M.may (tm u : Int) : Bool := decide (tm < u) && decide (u ≤ 10000)
theorem may_yes {tm u : Int} (h1 : tm < u) (h2 : u ≤ 10000) : M.may tm u = true := by simp [M.may, h1, h2]
theorem may_no {tm u : Int} (h : u ≤ tm ∨ 10000 < u) : M.may tm u = false := by
  unfold M.may
  rcases h with h | h
  · rw [decide_eq_false (by omega)]; rfl
  · rw [decide_eq_false (p := u ≤ 10000) (by omega)]; exact Bool.and_false _
theorem may_iff {tm u : Int} : M.may tm u = true ↔ tm < u ∧ u ≤ 10000 := by simp [M.may]

/-- where the one of a number is, and the first that fits (as many as there are: none) -/
def M.numb (id : Int) (E : List Ent) : Nat := E.findIdx fun x => x.i == id
def M.oldest (a : List M.Val) (E : List Ent) : Nat := E.findIdx fun x => M.fitAll a x.t
/-- the fault of putting one -/
def M.lputF (tm gv : Int) (E : List Ent) (l : List M.Val) (u : Int) : Int := if M.tupF l ≠ 0 then M.tupF l else if M.may tm u = false then 1 else if 20 ≤ E.length ∨ 10000 ≤ gv then 4 else 0
/-- the fault of renewing one -/
def M.reF (tm : Int) (E : List Ent) (id u : Int) : Int := if h : M.numb id E < E.length then (if M.may tm u = true ∧ E[M.numb id E].u ≤ u then 0 else 1) else 5
/-- one renewed -/
def Ent.till (x : Ent) (u : Int) : Ent := { x with u := u }
def M.reE (tm : Int) (E : List Ent) (id u : Int) : List Ent := if h : M.reF tm E id u = 0 ∧ M.numb id E < E.length then E.set (M.numb id E) (E[M.numb id E].till u) else E
/-- the fault of a time, and those that are still there -/
def M.nowF (tm x : Int) : Int := if x < tm ∨ 10000 < x then 1 else 0
def M.nowE (E : List Ent) (x : Int) : List Ent := E.filter fun e => decide (x < e.u)
/-- the fault of reading one, and the one -/
def M.rdF (a : List M.Val) (E : List Ent) : Int := if M.likeF a ≠ 0 then M.likeF a else if M.oldest a E < E.length then 0 else 5

theorem findIdx_hit {p : Ent → Bool} {E : List Ent} {k : Nat} (hk : k < E.length) (h : ∀ j (hj : j < k), p (E[j]'(by omega)) = false) (h1 : p E[k] = true) : E.findIdx p = k := by
  rw [List.findIdx_eq hk]
  exact ⟨h1, fun j hj => by simpa using h j hj⟩
theorem findIdx_miss {p : Ent → Bool} {E : List Ent} (h : ∀ j (hj : j < E.length), p E[j] = false) : E.findIdx p = E.length := by
  rw [List.findIdx_eq_length]
  intro x hx
  obtain ⟨i, hi, rfl⟩ := List.mem_iff_getElem.1 hx
  simpa using h i hi
/-- what the library's search answers -/
def M.where (p : Ent → Bool) (E : List Ent) : Int := if E.findIdx p < E.length then (E.findIdx p : Int) else -1
theorem where_hit {p : Ent → Bool} {E : List Ent} (h : E.findIdx p < E.length) : M.where p E = (E.findIdx p : Int) := by unfold M.where; rw [if_pos h]
theorem where_miss {p : Ent → Bool} {E : List Ent} (h : ¬ E.findIdx p < E.length) : M.where p E = -1 := by unfold M.where; rw [if_neg h]

/-- the library's deleting, half way: of the first j those that are kept lie at the head, i of them; from j on all is as it was -/
structure Half (p : Ent → Bool) (E K : List Ent) (i j : Nat) : Prop where
  len : K.length = E.length
  lt : i < j
  le : j ≤ E.length
  head : K.take i = (E.take j).filter fun x => !p x
  tail : K.drop j = E.drop j
theorem Half.at {p : Ent → Bool} {E K : List Ent} {i j : Nat} (h : Half p E K i j) (hj : j < E.length) : K[j]'(by have := h.len; omega) = E[j] := by
  have hl := h.len
  have h1 := congrArg (·[0]?) h.tail
  simp only [List.getElem?_drop, Nat.add_zero] at h1
  rw [List.getElem?_eq_getElem (by omega), List.getElem?_eq_getElem hj] at h1
  exact Option.some.inj h1
theorem Half.start {p : Ent → Bool} {E : List Ent} (hk : E.findIdx p < E.length) : Half p E E (E.findIdx p) (E.findIdx p + 1) := by
  refine ⟨rfl, Nat.lt_succ_self _, hk, ?_, rfl⟩
  have h1 : p E[E.findIdx p] = true := List.findIdx_getElem (w := hk)
  rw [List.take_succ_eq_append_getElem hk, List.filter_append]
  have h2 : (E.take (E.findIdx p)).filter (fun x => !p x) = E.take (E.findIdx p) := by
    rw [List.filter_eq_self]
    intro x hx
    obtain ⟨i, hi, rfl⟩ := List.mem_iff_getElem.1 hx
    simp only [List.length_take] at hi
    rw [List.getElem_take]
    have := List.not_of_lt_findIdx (p := p) (xs := E) (i := i) (by omega)
    simpa using this
  rw [h2]
  simp [h1]
theorem Half.keep {p : Ent → Bool} {E K : List Ent} {i j : Nat} (h : Half p E K i j) (hj : j < E.length) (hp : p E[j] = false) : Half p E (K.set i E[j]) (i + 1) (j + 1) := by
  have hl := h.len
  have := h.lt
  refine ⟨by simpa using hl, by omega, hj, ?_, ?_⟩
  · rw [List.take_succ_eq_append_getElem hj, List.filter_append, ← h.head, List.take_succ_eq_append_getElem (by simp; omega)]
    simp [hp, List.take_set]
    rw [List.set_eq_of_length_le (by simp; omega)]
  · rw [List.drop_set_of_lt (by omega)]
    have := congrArg (List.drop 1) h.tail
    simpa [List.drop_drop] using this
theorem Half.skip {p : Ent → Bool} {E K : List Ent} {i j : Nat} (h : Half p E K i j) (hj : j < E.length) (hp : p E[j] = true) : Half p E K i (j + 1) := by
  refine ⟨h.len, by have := h.lt; omega, hj, ?_, ?_⟩
  · rw [List.take_succ_eq_append_getElem hj, List.filter_append, ← h.head]
    simp [hp]
  · have := congrArg (List.drop 1) h.tail
    simpa [List.drop_drop] using this
theorem Half.done {p : Ent → Bool} {E K : List Ent} {i : Nat} (h : Half p E K i E.length) : K.take i = E.filter (fun x => !p x) ∧ i = (E.filter fun x => !p x).length := by
  have h1 := h.head
  rw [List.take_length] at h1
  refine ⟨h1, ?_⟩
  have := congrArg List.length h1
  rw [List.length_take] at this
  have := h.len
  have := h.lt
  omega
theorem Half.mem {p : Ent → Bool} {E K : List Ent} {i : Nat} (h : Half p E K i E.length) : ∀ x ∈ K.take i, x ∈ E := fun x hx => by
  rw [h.done.1] at hx
  exact (List.mem_filter.1 hx).1

theorem filter_not (E : List Ent) (x : Int) : (E.filter fun e => !(decide (e.u ≤ x))) = M.nowE E x := by
  unfold M.nowE
  congr 1
  funext e
  rw [← decide_not]
  congr 1
  apply propext
  omega

end Go.Proofs.YtlefhfmckimlaacDoor
