/-
  Plain facts on votes: how often something is said, what wins, how many say the same at most; where all but few say the same that wins. No program is walked here.
  A map of a call's own that holds how often each text was said: its datum, and what one more makes of it. For any program.
-/
import Derived.ProofKit
import Derived.Maps.Views
import Derived.Maps.Own
import Derived.Maps.OwnOps
set_option linter.unusedVariables false
namespace Go.Proofs.YtlefhfmckimlaajDoor.M

section
variable {α : Type} [DecidableEq α]

/-- how often it is said -/
def cntV (l : List α) (s : α) : Nat := l.countP (fun x => decide (x = s))
theorem cntV_nil (s : α) : cntV ([] : List α) s = 0 := rfl
theorem cntV_cons (x : α) (l : List α) (s : α) : cntV (x :: l) s = cntV l s + if x = s then 1 else 0 := by
  unfold cntV; rw [List.countP_cons]; by_cases h : x = s <;> simp [h]
theorem cntV_append (l m : List α) (s : α) : cntV (l ++ m) s = cntV l s + cntV m s := List.countP_append
theorem cntV_le (l : List α) (s : α) : cntV l s ≤ l.length := List.countP_le_length
theorem cntV_take {l : List α} {k : Nat} (h : k < l.length) (s : α) : cntV (l.take (k + 1)) s = cntV (l.take k) s + if l[k] = s then 1 else 0 := by
  rw [List.take_succ_eq_append_getElem h, cntV_append, cntV_cons, cntV_nil, Nat.zero_add]
theorem cntV_take_le (l : List α) (k : Nat) (s : α) : cntV (l.take k) s ≤ cntV l s := (List.take_sublist k l).countP_le
theorem cntV_take_full {l : List α} {k : Nat} (h : l.length ≤ k) (s : α) : cntV (l.take k) s = cntV l s := by rw [List.take_of_length_le h]
theorem cntV_take_mono (l : List α) {j k : Nat} (h : j ≤ k) (s : α) : cntV (l.take j) s ≤ cntV (l.take k) s := by
  have := cntV_take_le (l.take k) j s
  rwa [List.take_take, Nat.min_eq_left h] at this

/-- at this place it is said for the need-th time -/
def hitB (l : List α) (need : Int) (i : Nat) : Bool := if h : i < l.length then decide ((cntV (l.take (i + 1)) l[i] : Int) = need) else false
theorem hitB_at {l : List α} {need : Int} {i : Nat} (h : i < l.length) : hitB l need i = decide ((cntV (l.take (i + 1)) l[i] : Int) = need) := by unfold hitB; rw [dif_pos h]
/-- the first such place (as many as there are: none) -/
def winI (l : List α) (need : Int) : Nat := (List.range l.length).findIdx (hitB l need)
theorem winI_le (l : List α) (need : Int) : winI l need ≤ l.length := by
  have := List.findIdx_le_length (xs := List.range l.length) (p := hitB l need)
  rwa [List.length_range] at this
theorem winI_hit {l : List α} {need : Int} {k : Nat} (hk : k < l.length) (h : ∀ j, j < k → hitB l need j = false) (h1 : hitB l need k = true) : winI l need = k := by
  unfold winI
  rw [List.findIdx_eq (by rw [List.length_range]; exact hk)]
  refine ⟨by rw [List.getElem_range]; exact h1, fun j hj => ?_⟩
  rw [List.getElem_range]; simpa using h j hj
theorem winI_none {l : List α} {need : Int} (h : ∀ j, j < l.length → hitB l need j = false) : winI l need = l.length := by
  unfold winI
  have : (List.range l.length).findIdx (hitB l need) = (List.range l.length).length := by
    rw [List.findIdx_eq_length]
    intro x hx
    simpa using h x (List.mem_range.1 hx)
  rwa [List.length_range] at this
theorem winI_goes {l : List α} {need : Int} (h : winI l need < l.length) : hitB l need (winI l need) = true := by
  have := List.findIdx_getElem (xs := List.range l.length) (p := hitB l need) (w := by rw [List.length_range]; exact h)
  rwa [List.getElem_range] at this
theorem winI_ahead {l : List α} {need : Int} {j : Nat} (h : j < winI l need) : hitB l need j = false := by
  have := List.not_of_lt_findIdx (xs := List.range l.length) (p := hitB l need) h
  rw [List.getElem_range] at this
  simpa using this
/-- what is said so often is said for that time somewhere -/
theorem hit_some (l : List α) (s : α) (need : Nat) (h0 : 0 < need) : ∀ k, k ≤ l.length → need ≤ cntV (l.take k) s → ∃ i, ∃ h : i < l.length, i < k ∧ l[i] = s ∧ cntV (l.take (i + 1)) s = need
  | 0, _, h => by rw [List.take_zero, cntV_nil] at h; omega
  | k + 1, hk, h => by
    rcases Nat.lt_or_ge (cntV (l.take k) s) need with g | g
    · have e := cntV_take (l := l) (k := k) (by omega) s
      by_cases hs : l[k] = s
      · rw [if_pos hs] at e
        exact ⟨k, by omega, by omega, hs, by omega⟩
      · rw [if_neg hs] at e; omega
    · obtain ⟨i, hi, h1, h2, h3⟩ := hit_some l s need h0 k (by omega) g
      exact ⟨i, hi, by omega, h2, h3⟩
/-- what wins is said so often -/
theorem win_often {l : List α} {need : Int} (h : winI l need < l.length) : need ≤ cntV l l[winI l need] := by
  have h1 := winI_goes h
  rw [hitB_at h] at h1
  have h2 := of_decide_eq_true h1
  have h3 := cntV_take_le l (winI l need + 1) l[winI l need]
  omega
/-- what is said so often, and nothing else, wins -/
theorem win_is {l : List α} {need : Nat} {s : α} (h0 : 0 < need) (hs : need ≤ cntV l s) (ho : ∀ x, x ≠ s → cntV l x < need) : ∃ h : winI l need < l.length, l[winI l need] = s := by
  obtain ⟨i, hi, _, h2, h3⟩ := hit_some l s need h0 l.length (Nat.le_refl _) (by rw [List.take_length]; exact hs)
  have hh : winI l need < l.length := by
    rcases Nat.lt_or_ge (winI l need) l.length with g | g
    · exact g
    · have := winI_ahead (l := l) (need := need) (j := i) (by omega)
      rw [hitB_at hi, h2, h3] at this
      simp at this
  refine ⟨hh, ?_⟩
  by_cases e : l[winI l need] = s
  · exact e
  · have h4 := ho _ e
    have h5 := win_often hh
    omega

/-- how many say the same at most, of the first so many -/
def mostT (l : List α) : Nat → Nat
  | 0 => 0
  | k + 1 => if h : k < l.length then max (mostT l k) (cntV l l[k]) else mostT l k
def mostN (l : List α) : Nat := mostT l l.length
theorem mostT_next {l : List α} {k : Nat} (h : k < l.length) : mostT l (k + 1) = max (mostT l k) (cntV l l[k]) := by show (if h : k < l.length then _ else _) = _; rw [dif_pos h]
theorem mostT_le (l : List α) : ∀ k, mostT l k ≤ l.length
  | 0 => Nat.zero_le _
  | k + 1 => by
    unfold mostT
    split
    · exact Nat.max_le.2 ⟨mostT_le l k, cntV_le _ _⟩
    · exact mostT_le l k
theorem mostT_ge (l : List α) : ∀ {k i : Nat} (hi : i < l.length), i < k → cntV l l[i] ≤ mostT l k
  | k + 1, i, hi, h => by
    by_cases hk : k < l.length
    · rw [mostT_next hk]
      rcases Nat.lt_succ_iff_lt_or_eq.1 h with g | g
      · exact Nat.le_trans (mostT_ge l hi g) (Nat.le_max_left _ _)
      · subst g; exact Nat.le_max_right _ _
    · have : mostT l (k + 1) = mostT l k := by show (if h : k < l.length then _ else _) = _; rw [dif_neg hk]
      rw [this]
      exact mostT_ge l hi (by omega)
theorem most_ge (l : List α) {s : α} (h : s ∈ l) : cntV l s ≤ mostN l := by
  obtain ⟨i, hi, rfl⟩ := List.mem_iff_getElem.1 h
  exact mostT_ge l hi hi
theorem cntV_none {l : List α} {s : α} (h : s ∉ l) : cntV l s = 0 := by
  unfold cntV
  rw [List.countP_eq_zero]
  intro x hx e
  have : x = s := of_decide_eq_true e
  subst this
  exact h hx
theorem most_all (l : List α) (s : α) : cntV l s ≤ mostN l := by
  by_cases h : s ∈ l
  · exact most_ge l h
  · rw [cntV_none h]; exact Nat.zero_le _
theorem mostT_some (l : List α) : ∀ k, mostT l k = 0 ∨ ∃ i, ∃ h : i < l.length, i < k ∧ mostT l k = cntV l l[i]
  | 0 => Or.inl rfl
  | k + 1 => by
    by_cases hk : k < l.length
    · rw [mostT_next hk]
      by_cases hm : cntV l l[k] ≤ mostT l k
      · rw [Nat.max_eq_left hm]
        rcases mostT_some l k with h | ⟨i, hi, h1, h2⟩
        · exact Or.inl h
        · exact Or.inr ⟨i, hi, by omega, h2⟩
      · rw [Nat.max_eq_right (by omega)]
        exact Or.inr ⟨k, hk, by omega, rfl⟩
    · have : mostT l (k + 1) = mostT l k := by show (if h : k < l.length then _ else _) = _; rw [dif_neg hk]
      rw [this]
      rcases mostT_some l k with h | ⟨i, hi, h1, h2⟩
      · exact Or.inl h
      · exact Or.inr ⟨i, hi, by omega, h2⟩
/-- the same, by how often each was said till then -/
def upT (l : List α) : Nat → Nat
  | 0 => 0
  | k + 1 => if h : k < l.length then max (upT l k) (cntV (l.take (k + 1)) l[k]) else upT l k
theorem upT_next {l : List α} {k : Nat} (h : k < l.length) : upT l (k + 1) = max (upT l k) (cntV (l.take (k + 1)) l[k]) := by show (if h : k < l.length then _ else _) = _; rw [dif_pos h]
theorem upT_most (l : List α) : ∀ k, k ≤ l.length → upT l k = mostN (l.take k)
  | 0, _ => by rw [List.take_zero]; rfl
  | k + 1, hk => by
    have hkl : k < l.length := by omega
    rw [upT_next hkl, upT_most l k (by omega)]
    apply Nat.le_antisymm
    · refine Nat.max_le.2 ⟨?_, most_all _ _⟩
      rcases mostT_some (l.take k) (l.take k).length with h | ⟨i, hi, _, h2⟩
      · show mostT (l.take k) (l.take k).length ≤ _
        rw [h]; exact Nat.zero_le _
      · show mostT (l.take k) (l.take k).length ≤ _
        rw [h2]
        exact Nat.le_trans (cntV_take_mono l (Nat.le_succ k) _) (most_all _ _)
    · rcases mostT_some (l.take (k + 1)) (l.take (k + 1)).length with h | ⟨i, hi, _, h2⟩
      · show mostT (l.take (k + 1)) (l.take (k + 1)).length ≤ _
        rw [h]; exact Nat.zero_le _
      · show mostT (l.take (k + 1)) (l.take (k + 1)).length ≤ _
        rw [h2]
        by_cases e : (l.take (k + 1))[i] = l[k]
        · rw [e]; exact Nat.le_max_right _ _
        · refine Nat.le_trans ?_ (Nat.le_max_left _ _)
          rw [cntV_take hkl, if_neg (fun h => e h.symm), Nat.add_zero]
          exact most_all _ _

/-- what Win, and Most, answer -/
def winE (l : List α) (need : Int) : Int := if need < 1 ∨ 7 < need then 1 else if 7 < l.length then 4 else if winI l need < l.length then 0 else 5
theorem winE_range {l : List α} {need : Int} (h : need < 1 ∨ 7 < need) : winE l need = 1 := by unfold winE; rw [if_pos h]
theorem winE_full {l : List α} {need : Int} (h : ¬ (need < 1 ∨ 7 < need)) (h7 : 7 < l.length) : winE l need = 4 := by unfold winE; rw [if_neg h, if_pos h7]
theorem winE_none {l : List α} {need : Int} (h : ¬ (need < 1 ∨ 7 < need)) (h7 : ¬ 7 < l.length) (hw : ¬ winI l need < l.length) : winE l need = 5 := by unfold winE; rw [if_neg h, if_neg h7, if_neg hw]
theorem winE_hit {l : List α} {need : Int} (h : ¬ (need < 1 ∨ 7 < need)) (h7 : ¬ 7 < l.length) (hw : winI l need < l.length) : winE l need = 0 := by unfold winE; rw [if_neg h, if_neg h7, if_pos hw]
def mostE (l : List α) : Int := if 7 < l.length then 4 else 0
def mostR (l : List α) : Int := if 7 < l.length then 0 else mostN l

theorem mostR_full {l : List α} (h : 7 < l.length) : mostR l = 0 := by unfold mostR; rw [if_pos h]
theorem mostR_ok {l : List α} (h : ¬ 7 < l.length) : mostR l = mostN l := by unfold mostR; rw [if_neg h]

/-- a list of which all but few are the same -/
theorem cntV_set {l : List α} {j : Nat} (h : j < l.length) (x s : α) : cntV (l.set j x) s + (if l[j] = s then 1 else 0) = cntV l s + if x = s then 1 else 0 := by
  have e1 : l = l.take j ++ l[j] :: l.drop (j + 1) := by rw [List.getElem_cons_drop, List.take_append_drop]
  have e2 : l.set j x = l.take j ++ x :: l.drop (j + 1) := List.set_eq_take_append_cons_drop.trans (if_pos h)
  have c1 : cntV l s = cntV (l.take j) s + (cntV (l.drop (j + 1)) s + if l[j] = s then 1 else 0) := by
    conv => lhs; rw [e1]
    rw [cntV_append, cntV_cons]
  rw [e2, cntV_append, cntV_cons, c1]
  omega
theorem cntV_replicate (n : Nat) (x : α) : cntV (List.replicate n x) x = n := by
  induction n with
  | zero => rfl
  | succ n ih => rw [List.replicate_succ, cntV_cons, ih, if_pos rfl]
/-- so many others at the most -/
def Few (l : List α) (s : α) (f : Nat) : Prop := l.length ≤ cntV l s + f
theorem few_start (n : Nat) (s : α) : Few (List.replicate n s) s 0 := by unfold Few; rw [cntV_replicate, List.length_replicate]; exact Nat.le_refl _
theorem Few.set {l : List α} {s : α} {f : Nat} (h : Few l s f) {j : Nat} (hj : j < l.length) (x : α) : Few (l.set j x) s (f + 1) := by
  unfold Few at h ⊢
  have := cntV_set hj x s
  rw [List.length_set]
  generalize cntV (l.set j x) s = c at this ⊢
  by_cases e1 : l[j] = s
  · rw [if_pos e1] at this
    split at this <;> omega
  · rw [if_neg e1] at this
    split at this <;> omega
theorem Few.more {l : List α} {s : α} {f g : Nat} (h : Few l s f) (hg : f ≤ g) : Few l s g := by unfold Few at h ⊢; omega
theorem cntV_two (l : List α) {x s : α} (h : x ≠ s) : cntV l x + cntV l s ≤ l.length := by
  induction l with
  | nil => exact Nat.le_refl _
  | cons a l ih =>
    rw [cntV_cons, cntV_cons, List.length_cons]
    by_cases e1 : a = x
    · have e2 : ¬ a = s := fun e => h (e1.symm.trans e)
      rw [if_pos e1, if_neg e2]; omega
    · rw [if_neg e1]
      by_cases e2 : a = s
      · rw [if_pos e2]; omega
      · rw [if_neg e2]; omega
/-- as many as may lie cannot make it -/
theorem few_win {l : List α} {s : α} {f : Nat} (h : Few l s f) (hn : 3 * f + 1 ≤ l.length) : ∃ g : winI l ((f : Int) + 1) < l.length, l[winI l ((f : Int) + 1)] = s := by
  unfold Few at h
  have := win_is (l := l) (need := f + 1) (s := s) (by omega) (by omega) (fun x hx => by have := cntV_two l hx; omega)
  simpa using this
theorem few_most {l : List α} {s : α} {f : Nat} (h : Few l s f) : l.length ≤ mostN l + f := by
  unfold Few at h
  have := most_all l s
  omega
end

theorem mostE_full {α : Type} {l : List α} (h : 7 < l.length) : mostE l = 4 := by unfold mostE; rw [if_pos h]
theorem mostE_ok {α : Type} {l : List α} (h : ¬ 7 < l.length) : mostE l = 0 := by unfold mostE; rw [if_neg h]
/-- what wins: no text beside an error -/
def winS (l : List ByteArray) (need : Int) : ByteArray := if winE l need = 0 then (if h : winI l need < l.length then l[winI l need] else ⟨#[]⟩) else ⟨#[]⟩
theorem winS_bad {l : List ByteArray} {need : Int} (h : winE l need ≠ 0) : winS l need = ⟨#[]⟩ := by unfold winS; rw [if_neg h]
theorem winS_hit {l : List ByteArray} {need : Int} (h : winE l need = 0) (hw : winI l need < l.length) : winS l need = l[winI l need] := by unfold winS; rw [if_pos h, dif_pos hw]
/-- how many of n may lie -/
def fltE (n : Int) : Int := if n < 1 ∨ 7 < n then 1 else 0
def fltR (n : Int) : Int := if n < 1 ∨ 7 < n then 0 else (n - 1) / 3
theorem fltE_bad {n : Int} (h : n < 1 ∨ 7 < n) : fltE n = 1 := by unfold fltE; rw [if_pos h]
theorem fltE_ok {n : Int} (h : ¬ (n < 1 ∨ 7 < n)) : fltE n = 0 := by unfold fltE; rw [if_neg h]
theorem fltR_bad {n : Int} (h : n < 1 ∨ 7 < n) : fltR n = 0 := by unfold fltR; rw [if_pos h]
theorem fltR_ok {n : Int} (h : ¬ (n < 1 ∨ 7 < n)) : fltR n = (n - 1) / 3 := by unfold fltR; rw [if_neg h]

end Go.Proofs.YtlefhfmckimlaajDoor.M

set_option linter.unusedVariables false
namespace Go.Proofs.YtlefhfmckimlaajDoor
open Go.RowKit Go.WideMaps Go.Maps

/-- a text as a key -/
def keyS (s : ByteArray) : Lit := .string s.data.toList
theorem keyS_own {a b : ByteArray} (h : keyS a = keyS b) : a = b := by
  obtain ⟨a⟩ := a
  obtain ⟨b⟩ := b
  have h1 : a.toList = b.toList := by simpa [keyS] using h
  rw [Array.toList_inj.1 h1]
/-- the map says how often each was said -/
def Tally (D : DataW Unit) (l : List ByteArray) : Prop := IsMap D ∧ ∀ s, D.atKey (keyS s) (.lit (.int .i64 0)) = .lit (.int .i64 (M.cntV l s))
theorem tally_none : Tally (.map []) [] := ⟨isMap_empty, fun s => rfl⟩
theorem Tally.said {D : DataW Unit} {l : List ByteArray} (h : Tally D l) {s : ByteArray} {c : Int} (hc : D.atKey (keyS s) (.lit (.int .i64 0)) = .lit (.int .i64 c)) : c = M.cntV l s := by
  rw [h.2 s] at hc
  simpa using hc.symm
theorem Tally.snoc {D : DataW Unit} {l : List ByteArray} (h : Tally D l) (x : ByteArray) {c : Int} (hc : c = M.cntV l x + 1) : Tally (D.put (keyS x) (.lit (.int .i64 c))) (l ++ [x]) := by
  refine ⟨h.1.put _ _, fun s => ?_⟩
  rw [M.cntV_append, M.cntV_cons, M.cntV_nil, Nat.zero_add]
  by_cases e : s = x
  · subst e
    rw [atKey_put_same h.1 (by simp [keyS, WideAt.IsKeyLit]), if_pos rfl, hc]
    simp
  · rw [atKey_put_other (fun g => e (keyS_own g)), if_neg (fun g => e g.symm), h.2 s]
    simp
theorem Tally.next {D : DataW Unit} {l : List ByteArray} {k : Nat} (h : Tally D (l.take k)) (hk : k < l.length) {c : Int} (hc : c = M.cntV (l.take k) l[k] + 1) : Tally (D.put (keyS l[k]) (.lit (.int .i64 c))) (l.take (k + 1)) := by
  rw [List.take_succ_eq_append_getElem hk]
  exact h.snoc _ hc

end Go.Proofs.YtlefhfmckimlaajDoor
