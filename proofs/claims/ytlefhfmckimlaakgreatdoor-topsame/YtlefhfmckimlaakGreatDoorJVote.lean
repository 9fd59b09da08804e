/-
  Plain facts on votes: how often something is said, what wins, how many say the same at most; where all but few say the same that wins. No program is walked here.
  Texts that lie in memory behind a slice: what a walk is told of some that came in, that they stay while only new memory is written, and a row of them that a call puts together itself. For any program.
  A map of a call's own that holds how often each text was said: its datum, and what one more makes of it. For any program.
  What Faults, Win and Most of package vote do, each as one law of its call.
-/
import Derived.ProofKit
import Derived.Deep.Slices
import Derived.Deep.Strs
import Derived.ChangeSame
import Derived.Below
import Derived.WideShapes
import Derived.Laws.OwnMore
import Derived.OwnWalk
import Derived.SizedLaws
import Derived.Maps.Views
import Derived.Maps.Own
import Derived.Maps.OwnOps
import Derived.Test.YtlefhfmckimlaakGreatDoorJVal
import Derived.Test.YtlefhfmckimlaakGreatDoorShelf
set_option linter.unusedVariables false
namespace Go.Proofs.YtlefhfmckimlaakGreatDoor.M

section
variable {α : Type} [DecidableEq α]

/-- how often it is said -/
def cntV (l : List α) (s : α) : Nat := l.countP (fun x => decide (x = s))
theorem cntV_nil (s : α) : cntV ([] : List α) s = 0 := rfl
theorem cntV_cons (x : α) (l : List α) (s : α) : cntV (x :: l) s = cntV l s + if x = s then 1 else 0 := by
  unfold cntV; rw [List.countP_cons]; by_cases h : x = s <;> simp [h]
theorem cntV_append (l m : List α) (s : α) : cntV (l ++ m) s = cntV l s + cntV m s := List.countP_append
theorem cntV_le (l : List α) (s : α) : cntV l s ≤ l.length := List.countP_le_length
theorem cntV_take {l : List α} {k : Nat} (h : k < l.length) (s : α) : cntV (l.take (k + 1)) s = cntV (l.take k) s + if l[k] = s then 1 else 0 := by
  rw [List.take_succ_eq_append_getElem h, cntV_append, cntV_cons, cntV_nil, Nat.zero_add]
theorem cntV_take_le (l : List α) (k : Nat) (s : α) : cntV (l.take k) s ≤ cntV l s := (List.take_sublist k l).countP_le
theorem cntV_take_full {l : List α} {k : Nat} (h : l.length ≤ k) (s : α) : cntV (l.take k) s = cntV l s := by rw [List.take_of_length_le h]
theorem cntV_take_mono (l : List α) {j k : Nat} (h : j ≤ k) (s : α) : cntV (l.take j) s ≤ cntV (l.take k) s := by
  have := cntV_take_le (l.take k) j s
  rwa [List.take_take, Nat.min_eq_left h] at this

/-- at this place it is said for the need-th time -/
def hitB (l : List α) (need : Int) (i : Nat) : Bool := if h : i < l.length then decide ((cntV (l.take (i + 1)) l[i] : Int) = need) else false
theorem hitB_at {l : List α} {need : Int} {i : Nat} (h : i < l.length) : hitB l need i = decide ((cntV (l.take (i + 1)) l[i] : Int) = need) := by unfold hitB; rw [dif_pos h]
/-- the first such place (as many as there are: none) -/
def winI (l : List α) (need : Int) : Nat := (List.range l.length).findIdx (hitB l need)
theorem winI_le (l : List α) (need : Int) : winI l need ≤ l.length := by
  have := List.findIdx_le_length (xs := List.range l.length) (p := hitB l need)
  rwa [List.length_range] at this
theorem winI_hit {l : List α} {need : Int} {k : Nat} (hk : k < l.length) (h : ∀ j, j < k → hitB l need j = false) (h1 : hitB l need k = true) : winI l need = k := by
  unfold winI
  rw [List.findIdx_eq (by rw [List.length_range]; exact hk)]
  refine ⟨by rw [List.getElem_range]; exact h1, fun j hj => ?_⟩
  rw [List.getElem_range]; simpa using h j hj
theorem winI_none {l : List α} {need : Int} (h : ∀ j, j < l.length → hitB l need j = false) : winI l need = l.length := by
  unfold winI
  have : (List.range l.length).findIdx (hitB l need) = (List.range l.length).length := by
    rw [List.findIdx_eq_length]
    intro x hx
    simpa using h x (List.mem_range.1 hx)
  rwa [List.length_range] at this
theorem winI_goes {l : List α} {need : Int} (h : winI l need < l.length) : hitB l need (winI l need) = true := by
  have := List.findIdx_getElem (xs := List.range l.length) (p := hitB l need) (w := by rw [List.length_range]; exact h)
  rwa [List.getElem_range] at this
theorem winI_ahead {l : List α} {need : Int} {j : Nat} (h : j < winI l need) : hitB l need j = false := by
  have := List.not_of_lt_findIdx (xs := List.range l.length) (p := hitB l need) h
  rw [List.getElem_range] at this
  simpa using this
/-- what is said so often is said for that time somewhere -/
theorem hit_some (l : List α) (s : α) (need : Nat) (h0 : 0 < need) : ∀ k, k ≤ l.length → need ≤ cntV (l.take k) s → ∃ i, ∃ h : i < l.length, i < k ∧ l[i] = s ∧ cntV (l.take (i + 1)) s = need
  | 0, _, h => by rw [List.take_zero, cntV_nil] at h; omega
  | k + 1, hk, h => by
    rcases Nat.lt_or_ge (cntV (l.take k) s) need with g | g
    · have e := cntV_take (l := l) (k := k) (by omega) s
      by_cases hs : l[k] = s
      · rw [if_pos hs] at e
        exact ⟨k, by omega, by omega, hs, by omega⟩
      · rw [if_neg hs] at e; omega
    · obtain ⟨i, hi, h1, h2, h3⟩ := hit_some l s need h0 k (by omega) g
      exact ⟨i, hi, by omega, h2, h3⟩
/-- what wins is said so often -/
theorem win_often {l : List α} {need : Int} (h : winI l need < l.length) : need ≤ cntV l l[winI l need] := by
  have h1 := winI_goes h
  rw [hitB_at h] at h1
  have h2 := of_decide_eq_true h1
  have h3 := cntV_take_le l (winI l need + 1) l[winI l need]
  omega
/-- what is said so often, and nothing else, wins -/
theorem win_is {l : List α} {need : Nat} {s : α} (h0 : 0 < need) (hs : need ≤ cntV l s) (ho : ∀ x, x ≠ s → cntV l x < need) : ∃ h : winI l need < l.length, l[winI l need] = s := by
  obtain ⟨i, hi, _, h2, h3⟩ := hit_some l s need h0 l.length (Nat.le_refl _) (by rw [List.take_length]; exact hs)
  have hh : winI l need < l.length := by
    rcases Nat.lt_or_ge (winI l need) l.length with g | g
    · exact g
    · have := winI_ahead (l := l) (need := need) (j := i) (by omega)
      rw [hitB_at hi, h2, h3] at this
      simp at this
  refine ⟨hh, ?_⟩
  by_cases e : l[winI l need] = s
  · exact e
  · have h4 := ho _ e
    have h5 := win_often hh
    omega

/-- how many say the same at most, of the first so many -/
def mostT (l : List α) : Nat → Nat
  | 0 => 0
  | k + 1 => if h : k < l.length then max (mostT l k) (cntV l l[k]) else mostT l k
def mostN (l : List α) : Nat := mostT l l.length
theorem mostT_next {l : List α} {k : Nat} (h : k < l.length) : mostT l (k + 1) = max (mostT l k) (cntV l l[k]) := by show (if h : k < l.length then _ else _) = _; rw [dif_pos h]
theorem mostT_le (l : List α) : ∀ k, mostT l k ≤ l.length
  | 0 => Nat.zero_le _
  | k + 1 => by
    unfold mostT
    split
    · exact Nat.max_le.2 ⟨mostT_le l k, cntV_le _ _⟩
    · exact mostT_le l k
theorem mostT_ge (l : List α) : ∀ {k i : Nat} (hi : i < l.length), i < k → cntV l l[i] ≤ mostT l k
  | k + 1, i, hi, h => by
    by_cases hk : k < l.length
    · rw [mostT_next hk]
      rcases Nat.lt_succ_iff_lt_or_eq.1 h with g | g
      · exact Nat.le_trans (mostT_ge l hi g) (Nat.le_max_left _ _)
      · subst g; exact Nat.le_max_right _ _
    · have : mostT l (k + 1) = mostT l k := by show (if h : k < l.length then _ else _) = _; rw [dif_neg hk]
      rw [this]
      exact mostT_ge l hi (by omega)
theorem most_ge (l : List α) {s : α} (h : s ∈ l) : cntV l s ≤ mostN l := by
  obtain ⟨i, hi, rfl⟩ := List.mem_iff_getElem.1 h
  exact mostT_ge l hi hi
theorem cntV_none {l : List α} {s : α} (h : s ∉ l) : cntV l s = 0 := by
  unfold cntV
  rw [List.countP_eq_zero]
  intro x hx e
  have : x = s := of_decide_eq_true e
  subst this
  exact h hx
theorem most_all (l : List α) (s : α) : cntV l s ≤ mostN l := by
  by_cases h : s ∈ l
  · exact most_ge l h
  · rw [cntV_none h]; exact Nat.zero_le _
theorem mostT_some (l : List α) : ∀ k, mostT l k = 0 ∨ ∃ i, ∃ h : i < l.length, i < k ∧ mostT l k = cntV l l[i]
  | 0 => Or.inl rfl
  | k + 1 => by
    by_cases hk : k < l.length
    · rw [mostT_next hk]
      by_cases hm : cntV l l[k] ≤ mostT l k
      · rw [Nat.max_eq_left hm]
        rcases mostT_some l k with h | ⟨i, hi, h1, h2⟩
        · exact Or.inl h
        · exact Or.inr ⟨i, hi, by omega, h2⟩
      · rw [Nat.max_eq_right (by omega)]
        exact Or.inr ⟨k, hk, by omega, rfl⟩
    · have : mostT l (k + 1) = mostT l k := by show (if h : k < l.length then _ else _) = _; rw [dif_neg hk]
      rw [this]
      rcases mostT_some l k with h | ⟨i, hi, h1, h2⟩
      · exact Or.inl h
      · exact Or.inr ⟨i, hi, by omega, h2⟩
/-- the same, by how often each was said till then -/
def upT (l : List α) : Nat → Nat
  | 0 => 0
  | k + 1 => if h : k < l.length then max (upT l k) (cntV (l.take (k + 1)) l[k]) else upT l k
theorem upT_next {l : List α} {k : Nat} (h : k < l.length) : upT l (k + 1) = max (upT l k) (cntV (l.take (k + 1)) l[k]) := by show (if h : k < l.length then _ else _) = _; rw [dif_pos h]
theorem upT_most (l : List α) : ∀ k, k ≤ l.length → upT l k = mostN (l.take k)
  | 0, _ => by rw [List.take_zero]; rfl
  | k + 1, hk => by
    have hkl : k < l.length := by omega
    rw [upT_next hkl, upT_most l k (by omega)]
    apply Nat.le_antisymm
    · refine Nat.max_le.2 ⟨?_, most_all _ _⟩
      rcases mostT_some (l.take k) (l.take k).length with h | ⟨i, hi, _, h2⟩
      · show mostT (l.take k) (l.take k).length ≤ _
        rw [h]; exact Nat.zero_le _
      · show mostT (l.take k) (l.take k).length ≤ _
        rw [h2]
        exact Nat.le_trans (cntV_take_mono l (Nat.le_succ k) _) (most_all _ _)
    · rcases mostT_some (l.take (k + 1)) (l.take (k + 1)).length with h | ⟨i, hi, _, h2⟩
      · show mostT (l.take (k + 1)) (l.take (k + 1)).length ≤ _
        rw [h]; exact Nat.zero_le _
      · show mostT (l.take (k + 1)) (l.take (k + 1)).length ≤ _
        rw [h2]
        by_cases e : (l.take (k + 1))[i] = l[k]
        · rw [e]; exact Nat.le_max_right _ _
        · refine Nat.le_trans ?_ (Nat.le_max_left _ _)
          rw [cntV_take hkl, if_neg (fun h => e h.symm), Nat.add_zero]
          exact most_all _ _

/-- what Win, and Most, answer -/
def winE (l : List α) (need : Int) : Int := if need < 1 ∨ 7 < need then 1 else if 7 < l.length then 4 else if winI l need < l.length then 0 else 5
theorem winE_range {l : List α} {need : Int} (h : need < 1 ∨ 7 < need) : winE l need = 1 := by unfold winE; rw [if_pos h]
theorem winE_full {l : List α} {need : Int} (h : ¬ (need < 1 ∨ 7 < need)) (h7 : 7 < l.length) : winE l need = 4 := by unfold winE; rw [if_neg h, if_pos h7]
theorem winE_none {l : List α} {need : Int} (h : ¬ (need < 1 ∨ 7 < need)) (h7 : ¬ 7 < l.length) (hw : ¬ winI l need < l.length) : winE l need = 5 := by unfold winE; rw [if_neg h, if_neg h7, if_neg hw]
theorem winE_hit {l : List α} {need : Int} (h : ¬ (need < 1 ∨ 7 < need)) (h7 : ¬ 7 < l.length) (hw : winI l need < l.length) : winE l need = 0 := by unfold winE; rw [if_neg h, if_neg h7, if_pos hw]
def mostE (l : List α) : Int := if 7 < l.length then 4 else 0
def mostR (l : List α) : Int := if 7 < l.length then 0 else mostN l

theorem mostR_full {l : List α} (h : 7 < l.length) : mostR l = 0 := by unfold mostR; rw [if_pos h]
theorem mostR_ok {l : List α} (h : ¬ 7 < l.length) : mostR l = mostN l := by unfold mostR; rw [if_neg h]

/-- a list of which all but few are the same -/
theorem cntV_set {l : List α} {j : Nat} (h : j < l.length) (x s : α) : cntV (l.set j x) s + (if l[j] = s then 1 else 0) = cntV l s + if x = s then 1 else 0 := by
  have e1 : l = l.take j ++ l[j] :: l.drop (j + 1) := by rw [List.getElem_cons_drop, List.take_append_drop]
  have e2 : l.set j x = l.take j ++ x :: l.drop (j + 1) := List.set_eq_take_append_cons_drop.trans (if_pos h)
  have c1 : cntV l s = cntV (l.take j) s + (cntV (l.drop (j + 1)) s + if l[j] = s then 1 else 0) := by
    conv => lhs; rw [e1]
    rw [cntV_append, cntV_cons]
  rw [e2, cntV_append, cntV_cons, c1]
  omega
theorem cntV_replicate (n : Nat) (x : α) : cntV (List.replicate n x) x = n := by
  induction n with
  | zero => rfl
  | succ n ih => rw [List.replicate_succ, cntV_cons, ih, if_pos rfl]
/-- so many others at the most -/
def Few (l : List α) (s : α) (f : Nat) : Prop := l.length ≤ cntV l s + f
theorem few_start (n : Nat) (s : α) : Few (List.replicate n s) s 0 := by unfold Few; rw [cntV_replicate, List.length_replicate]; exact Nat.le_refl _
theorem Few.set {l : List α} {s : α} {f : Nat} (h : Few l s f) {j : Nat} (hj : j < l.length) (x : α) : Few (l.set j x) s (f + 1) := by
  unfold Few at h ⊢
  have := cntV_set hj x s
  rw [List.length_set]
  generalize cntV (l.set j x) s = c at this ⊢
  by_cases e1 : l[j] = s
  · rw [if_pos e1] at this
    split at this <;> omega
  · rw [if_neg e1] at this
    split at this <;> omega
theorem Few.more {l : List α} {s : α} {f g : Nat} (h : Few l s f) (hg : f ≤ g) : Few l s g := by unfold Few at h ⊢; omega
theorem cntV_two (l : List α) {x s : α} (h : x ≠ s) : cntV l x + cntV l s ≤ l.length := by
  induction l with
  | nil => exact Nat.le_refl _
  | cons a l ih =>
    rw [cntV_cons, cntV_cons, List.length_cons]
    by_cases e1 : a = x
    · have e2 : ¬ a = s := fun e => h (e1.symm.trans e)
      rw [if_pos e1, if_neg e2]; omega
    · rw [if_neg e1]
      by_cases e2 : a = s
      · rw [if_pos e2]; omega
      · rw [if_neg e2]; omega
/-- as many as may lie cannot make it -/
theorem few_win {l : List α} {s : α} {f : Nat} (h : Few l s f) (hn : 3 * f + 1 ≤ l.length) : ∃ g : winI l ((f : Int) + 1) < l.length, l[winI l ((f : Int) + 1)] = s := by
  unfold Few at h
  have := win_is (l := l) (need := f + 1) (s := s) (by omega) (by omega) (fun x hx => by have := cntV_two l hx; omega)
  simpa using this
theorem few_most {l : List α} {s : α} {f : Nat} (h : Few l s f) : l.length ≤ mostN l + f := by
  unfold Few at h
  have := most_all l s
  omega
end

theorem mostE_full {α : Type} {l : List α} (h : 7 < l.length) : mostE l = 4 := by unfold mostE; rw [if_pos h]
theorem mostE_ok {α : Type} {l : List α} (h : ¬ 7 < l.length) : mostE l = 0 := by unfold mostE; rw [if_neg h]
/-- what wins: no text beside an error -/
def winS (l : List ByteArray) (need : Int) : ByteArray := if winE l need = 0 then (if h : winI l need < l.length then l[winI l need] else ⟨#[]⟩) else ⟨#[]⟩
theorem winS_bad {l : List ByteArray} {need : Int} (h : winE l need ≠ 0) : winS l need = ⟨#[]⟩ := by unfold winS; rw [if_neg h]
theorem winS_hit {l : List ByteArray} {need : Int} (h : winE l need = 0) (hw : winI l need < l.length) : winS l need = l[winI l need] := by unfold winS; rw [if_pos h, dif_pos hw]
/-- how many of n may lie -/
def fltE (n : Int) : Int := if n < 1 ∨ 7 < n then 1 else 0
def fltR (n : Int) : Int := if n < 1 ∨ 7 < n then 0 else (n - 1) / 3
theorem fltE_bad {n : Int} (h : n < 1 ∨ 7 < n) : fltE n = 1 := by unfold fltE; rw [if_pos h]
theorem fltE_ok {n : Int} (h : ¬ (n < 1 ∨ 7 < n)) : fltE n = 0 := by unfold fltE; rw [if_neg h]
theorem fltR_bad {n : Int} (h : n < 1 ∨ 7 < n) : fltR n = 0 := by unfold fltR; rw [if_pos h]
theorem fltR_ok {n : Int} (h : ¬ (n < 1 ∨ 7 < n)) : fltR n = (n - 1) / 3 := by unfold fltR; rw [if_neg h]

end Go.Proofs.YtlefhfmckimlaakGreatDoor.M

namespace Go.Proofs.YtlefhfmckimlaakGreatDoor
open Go.RowKit Go.Deep

/-- the texts l lie in w from cell off of block b on -/
def LieS (w : World) (b off : Nat) (l : List ByteArray) : Prop := ∀ i (h : i < l.length), w.cell? ⟨b, off + i, none⟩ = some (.string l[i]) ∧ l[i].size ≤ reachBytes
/-- where a slice has its texts: nowhere, if there are none -/
def AtS (w : World) (a : Option Addr) (l : List ByteArray) : Prop := 0 < l.length → ∃ b off, a = some ⟨b, off, none⟩ ∧ LieS w b off l
theorem LieS.stays {w w' : World} {b off B : Nat} {l : List ByteArray} (h : LieS w b off l) (hb : Below B w w') (hB : w.heap.size ≤ B) : LieS w' b off l := fun i hi => by
  obtain ⟨g, g2⟩ := h i hi
  exact ⟨(hb.cell (p := ⟨b, off + i, none⟩) (Nat.lt_of_lt_of_le (World.block_lt_of_cell? w _ g) hB)).trans g, g2⟩
theorem AtS.stays {w w' : World} {a : Option Addr} {B : Nat} {l : List ByteArray} (h : AtS w a l) (hb : Below B w w') (hB : w.heap.size ≤ B) : AtS w' a l := fun h0 => by
  obtain ⟨b, off, e, g⟩ := h h0
  exact ⟨b, off, e, g.stays hb hB⟩

theorem weightsAll_mem {H : Type} {P : Program} {e : TypeId} : ∀ {L : List (DataW H)} {d : DataW H}, d ∈ L → ∀ m ∈ d.weights P e, m ∈ DataW.weightsAll P e L
  | d0 :: L, d, h, m, hm => by
    simp only [DataW.weightsAll, List.mem_append]
    rcases List.mem_cons.1 h with rfl | h
    · exact Or.inl hm
    · exact Or.inr (weightsAll_mem h m hm)
  | [], _, h, _, _ => by cases h
/-- an argument's own sizes, out of all of them -/
theorem sized_at {H : Type} {P : Program} {ts : List TypeId} {ds : List (DataW H)} (h : (DataW.weightsEach P ts ds).all (· ≤ reachBytes) = true) {j : Nat} {t : TypeId} {d : DataW H} (ht : ts[j]? = some t) (hd : ds[j]? = some d) : ∀ m ∈ d.weights P t, m ≤ reachBytes := fun m hm => by
  simpa using List.all_eq_true.1 h m (DataW.weights_mem_each ht hd m hm)
/-- an argument of type []string -/
theorem open_strs {H : Type} {enc : TypeId × Value → H} {P : Program} {w : World} {tt t : TypeId} {a : Option Addr} {len cap : Nat} {d : DataW H} {p : List MemPlace}
    (htt : P.underlying tt = some (.slice t)) (ct : P.cellsOf t = 1) (ht : P.underlying t = some .string) (h : DataW.Trod enc P w 0 (fun _ => true) true tt (.slice a len cap) d p) (hw : ∀ m ∈ d.weights P tt, m ≤ reachBytes) :
    ∃ l : List ByteArray, len = l.length ∧ len ≤ cap ∧ cap ≤ maxLen ∧ AtS w a l ∧ (a = none → len = 0 ∧ cap = 0) := by
  obtain ⟨fuel, hf⟩ := h
  rcases open_slice1 htt ct hf with ⟨hcs, hd⟩ | ⟨x, len', cap', m, n, V, D, Pl, hcs, _, hl, hm, hmm, hd, hx⟩
  · simp [Value.cells] at hcs
    obtain ⟨rfl, rfl, rfl⟩ := hcs
    exact ⟨[], rfl, Nat.zero_le _, Nat.zero_le _, fun h => absurd h (by decide), fun _ => ⟨rfl, rfl⟩⟩
  · simp [Value.cells] at hcs
    obtain ⟨rfl, rfl, rfl⟩ := hcs
    have hmc : m = cap := by rw [hmm]; simp
    have each : ∀ i, i < len → ∃ z : ByteArray, w.cell? (x.add i) = some (.string z) ∧ z.size ≤ reachBytes := by
      intro i hi
      obtain ⟨h1, h2⟩ := hx i (by omega)
      obtain ⟨z, hz, hdz, _⟩ := DataW.trod_string ht h2
      simp at hz
      rw [hz] at h1
      have hdi : D i = .lit (.string z.data.toList) := by simpa using congrArg Prod.fst hdz
      refine ⟨z, h1, hw _ ?_⟩
      rw [(Prod.mk.inj hd).1]
      simp only [DataW.weights, htt, List.mem_cons, List.mem_append]
      refine Or.inr (Or.inl (weightsAll_mem (d := D i) (List.mem_map.2 ⟨i, List.mem_range.2 hi, rfl⟩) _ ?_))
      rw [hdi]
      simp [DataW.weights]
    rcases Nat.eq_zero_or_pos len with h0 | h0
    · subst h0; exact ⟨[], rfl, hl, by omega, fun h => absurd h (by simp), fun e => by cases e⟩
    haveI : Inhabited ByteArray := ⟨⟨#[]⟩⟩
    obtain ⟨f, hfe⟩ := choose_lt each
    obtain ⟨b, off, spot⟩ := x
    have hspot : spot = none := by simpa [Addr.add] using World.cell?_spot (hfe 0 h0).1
    subst hspot
    have hll : ((List.range len).map f).length = len := by simp
    refine ⟨(List.range len).map f, hll.symm, hl, by omega, fun _ => ⟨b, off, rfl, fun i hi => ?_⟩, fun e => by cases e⟩
    have hi' : i < len := by rw [hll] at hi; exact hi
    have e : ((List.range len).map f)[i] = f i := by simp
    rw [e]
    have g := hfe i hi'
    rw [WideShapes.add_plain] at g
    exact g

/-- the cells of some texts, in a row -/
def cellsS (l : List ByteArray) : List Value := l.map fun z => .string z
theorem cellsS_len (l : List ByteArray) : (cellsS l).length = l.length := by simp [cellsS]
theorem cellsS_at {l : List ByteArray} {j : Nat} (h : j < l.length) : (cellsS l)[j]? = some (.string l[j]) := by simp [cellsS, h]
theorem cellsS_oneCell (l : List ByteArray) : ∀ u ∈ cellsS l, u.oneCell' = true := fun u h => by
  simp only [cellsS, List.mem_map] at h
  obtain ⟨z, _, rfl⟩ := h
  rfl
theorem cellsS_set (l : List ByteArray) (j : Nat) (x : ByteArray) : cellsS (l.set j x) = (cellsS l).set j (.string x) := by unfold cellsS; rw [List.map_set]
/-- texts that a call has put together itself -/
theorem atS_own {w : World} {base : Nat} {e : TypeId} {v : Value} {m : Nat} {l : List ByteArray} (hm : m = l.length) (hs : ∀ x ∈ l, x.size ≤ reachBytes) (h : w.ownsRow base e 1 v m (cellsS l)) : ∃ a cap, v = .slice a m cap ∧ m ≤ cap ∧ cap ≤ maxLen ∧ AtS w a l := by
  have hc := h
  rcases h.2 with ⟨hv, hn⟩ | ⟨g, cap, cur, hv, _, _, hn, hcm, _⟩
  · exact ⟨none, 0, by rw [hv, hn], by omega, Nat.zero_le _, fun h0 => by omega⟩
  · refine ⟨some ⟨g, 0, none⟩, cap, hv, hn, hcm, fun _ => ⟨g, 0, rfl, fun i hi => ?_⟩⟩
    have g1 := hc.cells (g := g) (by rw [hv]; rfl) _ _ (cellsS_at hi)
    rw [WideShapes.add_plain] at g1
    exact ⟨g1, hs _ (List.getElem_mem hi)⟩
/-- the cells of texts that lie somewhere -/
theorem AtS.news {w : World} {ad : Addr} {l : List ByteArray} (h : AtS w (some ad) l) : ∀ j u, (cellsS l)[j]? = some u → w.cell? (ad.add j) = some u := fun j u hu => by
  have hj : j < l.length := by
    have := (List.getElem?_eq_some_iff.1 hu).1
    rwa [cellsS_len] at this
  obtain ⟨b, off, e, g⟩ := h (by omega)
  cases e
  rw [cellsS_at hj] at hu
  cases hu
  rw [WideShapes.add_plain]
  exact (g j hj).1

end Go.Proofs.YtlefhfmckimlaakGreatDoor

set_option linter.unusedVariables false
namespace Go.Proofs.YtlefhfmckimlaakGreatDoor
open Go.RowKit Go.WideMaps Go.Maps

/-- a text as a key -/
def keyS (s : ByteArray) : Lit := .string s.data.toList
theorem keyS_own {a b : ByteArray} (h : keyS a = keyS b) : a = b := by
  obtain ⟨a⟩ := a
  obtain ⟨b⟩ := b
  have h1 : a.toList = b.toList := by simpa [keyS] using h
  rw [Array.toList_inj.1 h1]
/-- the map says how often each was said -/
def Tally (D : DataW Unit) (l : List ByteArray) : Prop := IsMap D ∧ ∀ s, D.atKey (keyS s) (.lit (.int .i64 0)) = .lit (.int .i64 (M.cntV l s))
theorem tally_none : Tally (.map []) [] := ⟨isMap_empty, fun s => rfl⟩
theorem Tally.said {D : DataW Unit} {l : List ByteArray} (h : Tally D l) {s : ByteArray} {c : Int} (hc : D.atKey (keyS s) (.lit (.int .i64 0)) = .lit (.int .i64 c)) : c = M.cntV l s := by
  rw [h.2 s] at hc
  simpa using hc.symm
theorem Tally.snoc {D : DataW Unit} {l : List ByteArray} (h : Tally D l) (x : ByteArray) {c : Int} (hc : c = M.cntV l x + 1) : Tally (D.put (keyS x) (.lit (.int .i64 c))) (l ++ [x]) := by
  refine ⟨h.1.put _ _, fun s => ?_⟩
  rw [M.cntV_append, M.cntV_cons, M.cntV_nil, Nat.zero_add]
  by_cases e : s = x
  · subst e
    rw [atKey_put_same h.1 (by simp [keyS, WideAt.IsKeyLit]), if_pos rfl, hc]
    simp
  · rw [atKey_put_other (fun g => e (keyS_own g)), if_neg (fun g => e g.symm), h.2 s]
    simp
theorem Tally.next {D : DataW Unit} {l : List ByteArray} {k : Nat} (h : Tally D (l.take k)) (hk : k < l.length) {c : Int} (hc : c = M.cntV (l.take k) l[k] + 1) : Tally (D.put (keyS l[k]) (.lit (.int .i64 c))) (l.take (k + 1)) := by
  rw [List.take_succ_eq_append_getElem hk]
  exact h.snoc _ hc

end Go.Proofs.YtlefhfmckimlaakGreatDoor

set_option linter.unusedVariables false
namespace Go.Proofs.YtlefhfmckimlaakGreatDoor
open Go.RowKit Go.WideMaps Go.Maps

theorem lawS : Keyed Tryz.prog 9 := string_keyed Tryz.underlying9
theorem zeroI (w : World) : (zeroValue 3).run Tryz.prog w = .ok (.int .i64 0) w := by kernel_rfl

/-- a copy of a text -/
theorem cloneT (s : ByteArray) (w : World) (hs : s.size ≤ 281474976710656) : Calls Tryz.prog 61 #[.string s] w fun e w' => e = .returned (.string s) ∧ Below w.heap.size w w' := by
  go_enter Tryz.func61, Tryz.ntmps61
  go_wp2_with fail
  refine (Tryz.stringslite_Clone s _ hs).mono ?_
  rintro e w1 ⟨rfl, hb⟩
  go_wp2_with fail
  go_ret
  exact ⟨rfl, hb⟩

theorem isCopies_no (n : Int) (w : World) (h : n < 1 ∨ 7 < n) : Calls Tryz.prog 96 #[.int .i64 n] w fun e w' => e = .returned (.bool false) ∧ w' = w := by
  by_cases h1 : n < 1
  · clear h
    go_enter Tryz.func96, Tryz.ntmps96
    go_wp2
    go_ret
    exact ⟨rfl, rfl⟩
  · have h2 : 7 < n := by omega
    clear h
    go_enter Tryz.func96, Tryz.ntmps96
    go_wp2
    go_ret
    exact ⟨by simp; omega, rfl⟩
theorem isCopies_yes (n : Int) (w : World) (h1 : ¬ n < 1) (h2 : ¬ 7 < n) : Calls Tryz.prog 96 #[.int .i64 n] w fun e w' => e = .returned (.bool true) ∧ w' = w := by
  go_enter Tryz.func96, Tryz.ntmps96
  go_wp2
  go_ret
  exact ⟨rfl, rfl⟩

theorem isCopies_hid (n : Int) (h1 : ¬ n < 1) (h2 : ¬ 7 < n) : Hid (∀ w, Calls Tryz.prog 96 #[.int .i64 n] w fun e w' => e = .returned (.bool true) ∧ w' = w) := hide fun w => isCopies_yes n w h1 h2

theorem vFaults (n : Int) (w : World) : Calls Tryz.prog 56 #[.int .i64 n] w fun e w' => e = .returned (.tuple #[.int .i64 (M.fltR n), errV (M.fltE n)]) ∧ w' = w := by
  by_cases h : n < 1 ∨ 7 < n
  · rw [M.fltR_bad h, M.fltE_bad h]
    have H := hide h
    clear h
    go_enter Tryz.func56, Tryz.ntmps56
    go_wp2_with fail
    refine (isCopies_no n w H.out).mono ?_
    rintro e w1 ⟨rfl, rfl⟩
    go_wp2_with fail
    go_ret2
    exact ⟨rfl, rfl⟩
  · rw [M.fltR_ok h, M.fltE_ok h]
    rcases (by omega : n = 1 ∨ n = 2 ∨ n = 3 ∨ n = 4 ∨ n = 5 ∨ n = 6 ∨ n = 7) with rfl | rfl | rfl | rfl | rfl | rfl | rfl
    all_goals
      clear h
      go_enter Tryz.func56, Tryz.ntmps56
      go_wp2_with fail
      refine (isCopies_yes _ w (by decide) (by decide)).mono ?_
      rintro e w1 ⟨rfl, rfl⟩
      go_wp2_with fail
      go_ret2
      exact ⟨rfl, rfl⟩

theorem vWin_range (av : Option Addr) (n cap : Nat) (need : Int) (w : World) (h : need < 1 ∨ 7 < need) :
    Calls Tryz.prog 62 #[.slice av n cap, .int .i64 need] w fun e w' => e = .returned (.tuple #[.string ⟨#[]⟩, errV 1]) ∧ Below w.heap.size w w' := by
  have H := hide h
  clear h
  go_enter Tryz.func62, Tryz.ntmps62
  go_wp2_with fail
  refine (isCopies_no need w H.out).mono ?_
  rintro e w1 ⟨rfl, rfl⟩
  go_wp2_with fail
  go_ret2
  exact ⟨rfl, Below.refl _ _⟩

theorem vWin_full (av : Option Addr) (n cap : Nat) (need : Int) (w : World) (h1 : ¬ need < 1) (h2 : ¬ 7 < need) (h7 : 7 < n) (hn : n ≤ maxLen) :
    Calls Tryz.prog 62 #[.slice av n cap, .int .i64 need] w fun e w' => e = .returned (.tuple #[.string ⟨#[]⟩, errV 4]) ∧ Below w.heap.size w w' := by
  unfold maxLen at hn
  have h7' : (7 : Int) < n := by omega
  have HY := isCopies_hid need h1 h2
  clear h1 h2
  go_enter Tryz.func62, Tryz.ntmps62
  go_wp2_with fail
  refine (HY.out _).mono ?_
  rintro e w1 ⟨rfl, rfl⟩
  go_wp2_with fail
  go_ret2
  exact ⟨rfl, Below.refl _ _⟩

set_option maxRecDepth 100000 in
set_option maxHeartbeats 1000000 in
theorem vWin_some (av : Option Addr) (n cap : Nat) (l : List ByteArray) (need : Int) (w : World) (hn : n = l.length) (h7 : n ≤ 7) (hl : AtS w av l) (h1 : ¬ need < 1) (h2 : ¬ 7 < need) :
    Calls Tryz.prog 62 #[.slice av n cap, .int .i64 need] w fun e w' => e = .returned (.tuple #[.string (M.winS l need), errV (M.winE l need)]) ∧ Below w.heap.size w w' := by
  have HL := hide hl
  have HN := hide hn
  have h7' : ¬ (7 : Int) < n := by omega
  have HR : Hid (¬ (need < 1 ∨ 7 < need)) := hide (by omega)
  have hmm := @run_makeMap Tryz.prog
  have HY := isCopies_hid need h1 h2
  clear hl hn h1 h2
  go_enter Tryz.func62, Tryz.ntmps62
  go_wp2_with fail
  refine (HY.out _).mono ?_
  rintro e w1 ⟨rfl, hw1⟩
  obtain rfl := hw1.symm
  clear HY
  go_wp2
  go_loopw [20] (fun i wr => ∃ (k : Nat) (D : DataW Unit), k ≤ n ∧ i = .int .i64 k ∧ Hid (∀ j, j < k → M.hitB l need j = false) ∧ Hid (Tally D (l.take k)) ∧ Hid (wr.ownsMap Tryz.prog 9 (plainElem (H := Unit) Tryz.prog 3) w.heap.size k D) ∧ Hid (Below w.heap.size w wr)) (fun i _ => n - (intOf i).toNat)
  case atStart => exact ⟨0, .map [], Nat.zero_le _, rfl, hide (fun j hj => by omega), hide tally_none, hide (World.ownsMap_made _ _ _ _), hide ((Below.refl _ _).alloc (Nat.le_refl _) _)⟩
  case round =>
    obtain ⟨k, D, hk, rfl, hno, htl, hown, hbel⟩ := hrel
    by_cases hlt : k < n
    · have hkl : k < l.length := HN.out ▸ hlt
      obtain ⟨b, off, rfl, hlie⟩ := HL.out (by omega)
      obtain ⟨c1, c2⟩ := (hlie.stays hbel.out (Nat.le_refl _)) k hkl
      have HH := hide (M.hitB_at (need := need) hkl)
      have HC : Hid (M.cntV (l.take (k + 1)) l[k] = M.cntV (l.take k) l[k] + 1) := hide (by rw [M.cntV_take hkl, if_pos rfl])
      have HT : Hid (∀ c : Int, c = M.cntV (l.take k) l[k] + 1 → Tally (D.put (keyS l[k]) (.lit (.int .i64 c))) (l.take (k + 1))) := hide fun c hc => htl.out.next hkl hc
      have HW : Hid (M.hitB l need k = true → M.winE l need = 0 ∧ M.winS l need = l[k]) := hide fun h => by
        have hw : M.winI l need = k := M.winI_hit hkl hno.out h
        have hw2 : M.winI l need < l.length := by omega
        have he := M.winE_hit HR.out (by have := HN.out; omega) hw2
        refine ⟨he, ?_⟩
        rw [M.winS_hit he hw2]
        simp only [hw]
      clear hlie
      generalize l[k] = s at *
      have HSZ : Hid (s.size ≤ 281474976710656) := hide (Nat.le_trans c2 (by unfold reachBytes; decide))
      have hkey : keyOf Tryz.prog 9 (.string s) = some (keyS s) := keyOf_string_mk Tryz.underlying9 (Nat.le_trans c2 (by unfold reachBytes maxLen; decide))
      have HKEY := hide hkey
      have HLE := hide (M.cntV_le (l.take k) s)
      have HLT : Hid ((l.take k).length ≤ 7) := hide (by rw [List.length_take]; omega)
      clear hkey c2
      go_wp2_with (at_lookup; refine wpList_lookup_own_int _ rfl _ _ 168 rfl 9 3 .i64 lawS Tryz.underlying168 Tryz.underlying3 (zeroI _) w.heap.size k _ rfl hown.out _ _ rfl HKEY.out ?_)
      intro c hat hwc
      have hc := htl.out.said hat
      clear hat hwc
      subst hc
      have hq : M.cntV (l.take k) s ≤ 7 := Nat.le_trans HLE.out HLT.out
      have HSB : Hid (M.hitB l need k = decide (((M.cntV (l.take k) s : Int) + 1) = need)) := hide (by rw [HH.out, HC.out]; simp)
      have HC2 : Hid (((M.cntV (l.take (k + 1)) s : Nat) : Int) = (M.cntV (l.take k) s : Int) + 1) := hide (by rw [HC.out]; simp)
      generalize M.cntV (l.take k) s = q at *
      clear HLE HLT HH HC htl
      go_wp2_with (at_mapUpdate; refine wpList_mapUpdate_own _ rfl _ _ _ 168 rfl 9 3 lawS Tryz.underlying168 _ w.heap.size k _ rfl hown.out (by unfold maxLen; omega) _ _ _ rfl rfl HKEY.out _ [] (plainElem_int Tryz.underlying3 (WalkArith.wf_i64 (by omega))) ?_)
      intro w1 hown1 hgrow1
      have HB1 := hide (hbel.out.grown hgrow1 hbel.out.size (fun j hj => by cases hj; exact Nat.le_refl _))
      have HO1 := hide hown1
      have HT1 := hide (HT.out _ rfl)
      clear hown1 hgrow1 HT hown hbel
      go_wp2_with (at_lookup; refine wpList_lookup_own_int _ rfl _ _ 168 rfl 9 3 .i64 lawS Tryz.underlying168 Tryz.underlying3 (zeroI _) w.heap.size (k + 1) _ rfl HO1.out _ _ rfl HKEY.out ?_)
      intro c hat hwc
      have hc : c = (q : Int) + 1 := (HT1.out.said hat).trans HC2.out
      clear hat hwc HC2
      subst hc
      cases hb : decide (((q : Int) + 1) = need)
      · have hb' : ((q : Int) + 1 == need) = false := by simpa using hb
        have HNX : Hid (∀ j, j < k + 1 → M.hitB l need j = false) := hide fun j hj => by
          rcases Nat.lt_succ_iff_lt_or_eq.1 hj with h | h
          · exact hno.out j h
          · subst h; rw [HSB.out, hb]
        clear hb
        go_wp2_with fail
        go_roundw
        case rel => exact ⟨k + 1, _, by omega, by go_num, HNX, HT1, HO1, HB1⟩
        case measure => simp [intOf]; omega
      · have hb' : ((q : Int) + 1 == need) = true := by simpa using hb
        obtain ⟨e1, e2⟩ := HW.out (by rw [HSB.out, hb])
        have E1 := hide e1
        have E2 := hide e2
        clear hb e1 e2
        go_wp2_with fail
        refine (cloneT s _ HSZ.out).mono ?_
        rintro e w2 ⟨rfl, hb2⟩
        have HB2 := hide (HB1.out.trans (hb2.mono HB1.out.size))
        clear hb2
        go_wp2_with fail
        go_ret2
        exact ⟨by rw [E1.out, E2.out]; rfl, HB2.out⟩
    · have hw : M.winI l need = l.length := M.winI_none (fun j hj => hno.out j (by have := HN.out; omega))
      have he := M.winE_none HR.out (by have := HN.out; omega) (by omega : ¬ M.winI l need < l.length)
      have E1 := hide he
      have E2 : Hid (M.winS l need = ⟨#[]⟩) := hide (M.winS_bad (by rw [he]; decide))
      clear hw he
      go_wp2
      go_ret2
      exact ⟨by rw [E1.out, E2.out]; rfl, hbel.out⟩

/-- Win, whatever comes in -/
theorem vWin (av : Option Addr) (n cap : Nat) (l : List ByteArray) (need : Int) (w : World) (hn : n = l.length) (hm : n ≤ maxLen) (hl : AtS w av l) :
    Calls Tryz.prog 62 #[.slice av n cap, .int .i64 need] w fun e w' => e = .returned (.tuple #[.string (M.winS l need), errV (M.winE l need)]) ∧ Below w.heap.size w w' := by
  by_cases h : need < 1 ∨ 7 < need
  · have e := M.winE_range (l := l) h
    rw [M.winS_bad (by rw [e]; decide), e]
    exact vWin_range av n cap need w h
  · by_cases h7 : 7 < n
    · have e := M.winE_full h (hn ▸ h7)
      rw [M.winS_bad (by rw [e]; decide), e]
      exact vWin_full av n cap need w (by omega) (by omega) h7 hm
    · exact vWin_some av n cap l need w hn (by omega) hl (by omega) (by omega)




end Go.Proofs.YtlefhfmckimlaakGreatDoor
