/-
  A row of rules that a call puts together itself.
  Plain facts on a queue: what is wrong with what is asked, what a push answers, what is to come; that what was pushed by each goes from 1 on without a gap. No program is walked here.
  Plain functions on lists of tuples: what putting one answers, and which is the first that fits. No program is walked here.
-/
import Derived.Test.YtlefhfmckimlaaiGreatDoorRuleWalks
import Derived.Laws.OwnMore
import Derived.OwnWalk
import Derived.Test.YtlefhfmckimlaaiGreatDoorJ0A
import Derived.Test.YtlefhfmckimlaaiGreatDoorTupFits
set_option linter.unusedVariables false
namespace Go.Proofs.YtlefhfmckimlaaiGreatDoor
open Go.RowKit

/-- the cells of some rules, in a row -/
def RowR (w : World) : List Value → List M.Rul → Prop
  | xs, [] => xs = []
  | xs, r :: l => ∃ v ys, xs = .int .i64 r.deed :: .int .i64 r.who :: v :: .bool r.may :: ys ∧ IsVals w v r.like ∧ RowR w ys l

theorem RowR.len {w : World} : ∀ {l : List M.Rul} {xs : List Value}, RowR w xs l → xs.length = l.length * 4
  | [], xs, h => by have h' : xs = [] := h; subst h'; rfl
  | r :: l, xs, h => by
    obtain ⟨v, ys, rfl, _, h2⟩ := h
    have := RowR.len h2
    simp only [List.length_cons]
    omega
theorem RowR.stays {w w' : World} {B : Nat} (hb : Below B w w') (hB : w.heap.size ≤ B) : ∀ {l : List M.Rul} {xs : List Value}, RowR w xs l → RowR w' xs l
  | [], xs, h => h
  | r :: l, xs, h => by
    obtain ⟨v, ys, e, h1, h2⟩ := h
    exact ⟨v, ys, e, h1.stays hb hB, RowR.stays hb hB h2⟩
theorem RowR.append {w : World} {m : List M.Rul} {zs : List Value} (hm : RowR w zs m) : ∀ {l : List M.Rul} {xs : List Value}, RowR w xs l → RowR w (xs ++ zs) (l ++ m)
  | [], xs, h => by have h' : xs = [] := h; subst h'; exact hm
  | r :: l, xs, h => by
    obtain ⟨v, ys, rfl, h1, h2⟩ := h
    exact ⟨v, ys ++ zs, rfl, h1, RowR.append hm h2⟩
theorem RowR.oneCell {w : World} : ∀ {l : List M.Rul} {xs : List Value}, RowR w xs l → ∀ u ∈ xs, u.oneCell' = true
  | [], xs, h, u, hu => by have h' : xs = [] := h; subst h'; cases hu
  | r :: l, xs, h, u, hu => by
    obtain ⟨v, ys, rfl, h1, h2⟩ := h
    obtain ⟨a, n, c, rfl⟩ := h1.isSlice
    simp only [List.mem_cons] at hu
    rcases hu with rfl | rfl | rfl | rfl | hu
    · rfl
    · rfl
    · rfl
    · rfl
    · exact RowR.oneCell h2 u hu
theorem RowR.get {w : World} : ∀ {l : List M.Rul} {xs : List Value}, RowR w xs l → ∀ i (hi : i < l.length), xs[i * 4]? = some (.int .i64 l[i].deed) ∧ xs[i * 4 + 1]? = some (.int .i64 l[i].who) ∧ (∃ v, xs[i * 4 + 2]? = some v ∧ IsVals w v l[i].like) ∧ xs[i * 4 + 3]? = some (.bool l[i].may)
  | [], _, _, i, hi => absurd hi (by simp)
  | r :: l, xs, h, 0, _ => by
    obtain ⟨v, ys, rfl, h1, _⟩ := h
    exact ⟨rfl, rfl, ⟨v, rfl, h1⟩, rfl⟩
  | r :: l, xs, h, i + 1, hi => by
    obtain ⟨v, ys, rfl, _, h2⟩ := h
    have := RowR.get h2 i (by simpa using hi)
    have e : (i + 1) * 4 = i * 4 + 4 := by omega
    rw [e]
    exact this

theorem LieR.tail {w : World} {b off : Nat} {r : M.Rul} {l : List M.Rul} (h : LieR w b off (r :: l)) : LieR w b (off + 4) l := fun i hi => by
  have := h (i + 1) (by simpa using hi)
  simp only [List.getElem_cons_succ] at this
  rw [show off + (i + 1) * 4 = off + 4 + i * 4 by omega] at this
  exact this
/-- the cells of rules that lie somewhere -/
theorem LieR.row {w : World} {b : Nat} : ∀ {l : List M.Rul} {off : Nat}, LieR w b off l → ∃ xs, RowR w xs l ∧ ∀ j u, xs[j]? = some u → w.cell? ((⟨b, off, none⟩ : Addr).add j) = some u
  | [], off, _ => ⟨[], rfl, fun j u hu => by simp at hu⟩
  | r :: l, off, h => by
    obtain ⟨ys, h1, h2⟩ := LieR.row h.tail
    obtain ⟨g1, g2, ⟨v, g3, gv⟩, g4⟩ := h 0 (by simp)
    refine ⟨.int .i64 r.deed :: .int .i64 r.who :: v :: .bool r.may :: ys, ⟨v, ys, rfl, gv, h1⟩, fun j u hu => ?_⟩
    rw [WideShapes.add_plain]
    simp only [List.getElem_cons_zero, Nat.zero_mul, Nat.add_zero] at g1 g2 g3 g4
    match j with
    | 0 => simp at hu; subst hu; exact g1
    | 1 => simp at hu; subst hu; exact g2
    | 2 => simp at hu; subst hu; exact g3
    | 3 => simp at hu; subst hu; exact g4
    | j + 4 =>
      have := h2 j u (by simpa using hu)
      rw [WideShapes.add_plain] at this
      rw [show off + (j + 4) = off + 4 + j by omega]
      exact this
theorem AtR.row {w : World} {a : Option Addr} {l : List M.Rul} (h : AtR w a l) : ∃ xs, RowR w xs l ∧ ∀ ad, a = some ad → ∀ j u, xs[j]? = some u → w.cell? (ad.add j) = some u := by
  rcases Nat.eq_zero_or_pos l.length with h0 | h0
  · have hl := List.length_eq_zero_iff.1 h0
    subst hl
    exact ⟨[], rfl, fun _ _ j u hu => by simp at hu⟩
  · obtain ⟨b, off, e, hl⟩ := h h0
    obtain ⟨xs, h1, h2⟩ := hl.row
    refine ⟨xs, h1, fun ad he => ?_⟩
    rw [e] at he
    cases he
    exact h2
/-- rules that a call has put together itself -/
theorem atR_own {w : World} {base : Nat} {e : TypeId} {v : Value} {m : Nat} {xs : List Value} {l : List M.Rul} (hm : m = l.length) (hr : RowR w xs l) (h : w.ownsRow base e 4 v m xs) : ∃ a cap, v = .slice a m cap ∧ AtR w a l := by
  have hc := h
  rcases h.2 with ⟨hv, hn⟩ | ⟨g, cap, cur, hv, _, _, hn, hcm, _⟩
  · exact ⟨none, 0, by rw [hv, hn], fun h0 => by omega⟩
  · refine ⟨some ⟨g, 0, none⟩, cap, hv, fun _ => ⟨g, 0, rfl, fun i hi => ?_⟩⟩
    obtain ⟨g1, g2, ⟨x, g3, gv⟩, g4⟩ := hr.get i hi
    have c1 := hc.cells (g := g) (by rw [hv]; rfl) _ _ g1
    have c2 := hc.cells (g := g) (by rw [hv]; rfl) _ _ g2
    have c3 := hc.cells (g := g) (by rw [hv]; rfl) _ _ g3
    have c4 := hc.cells (g := g) (by rw [hv]; rfl) _ _ g4
    rw [WideShapes.add_plain] at c1 c2 c3 c4
    exact ⟨c1, by rw [Nat.add_assoc]; exact c2, ⟨x, by rw [Nat.add_assoc]; exact c3, gv⟩, by rw [Nat.add_assoc]; exact c4⟩
theorem infoR : (Tryz.prog.info? 65).map (fun i => (i.zero, i.size, i.bytes)) = some (some (.agg #[.int .i64 0, .int .i64 0, .slice none 0 0, .bool false]), 4, 48) := by kernel_rfl
/-- one rule written down -/
theorem rowR_one {w : World} (r : M.Rul) {v : Value} (h : IsVals w v r.like) : RowR w [.int .i64 r.deed, .int .i64 r.who, v, .bool r.may] [r] := ⟨v, [], rfl, h, rfl⟩

end Go.Proofs.YtlefhfmckimlaaiGreatDoor

namespace Go.Proofs.YtlefhfmckimlaaiGreatDoor.M

/-- what is asked: by whom, which one of his, what is to be done, and with what -/
structure Ask where
  who : Int
  seq : Int
  deed : Int
  t : List Val

/-- what is wrong with one -/
def askF (a : Ask) : Int := if a.who < 0 ∨ 1000000 < a.who ∨ a.deed < 0 ∨ 2 < a.deed then 1 else if a.deed = 0 then tupF a.t else likeF a.t
theorem askF_range {a : Ask} (h : a.who < 0 ∨ 1000000 < a.who ∨ a.deed < 0 ∨ 2 < a.deed) : askF a = 1 := by unfold askF; rw [if_pos h]
theorem askF_put {a : Ask} (h : ¬ (a.who < 0 ∨ 1000000 < a.who ∨ a.deed < 0 ∨ 2 < a.deed)) (h0 : a.deed = 0) : askF a = tupF a.t := by unfold askF; rw [if_neg h, if_pos h0]
theorem askF_else {a : Ask} (h : ¬ (a.who < 0 ∨ 1000000 < a.who ∨ a.deed < 0 ∨ 2 < a.deed)) (h0 : a.deed ≠ 0) : askF a = likeF a.t := by unfold askF; rw [if_neg h, if_neg h0]
theorem tupF_like {l : List Val} (h : tupF l = 0) : likeF l = 0 := by
  unfold tupF at h
  by_cases hl : likeF l = 0
  · exact hl
  · rw [if_pos hl] at h; exact h
theorem askF_ok {a : Ask} (h : askF a = 0) : (0 ≤ a.who ∧ a.who ≤ 1000000) ∧ (0 ≤ a.deed ∧ a.deed ≤ 2) ∧ likeF a.t = 0 := by
  by_cases hr : a.who < 0 ∨ 1000000 < a.who ∨ a.deed < 0 ∨ 2 < a.deed
  · rw [askF_range hr] at h; exact absurd h (by decide)
  · by_cases h0 : a.deed = 0
    · rw [askF_put hr h0] at h; exact ⟨by omega, by omega, tupF_like h⟩
    · rw [askF_else hr h0] at h; exact ⟨by omega, by omega, h⟩

/-- what a push answers: f says the last one of each, n are there -/
def pushE (f : Int → Int) (n : Nat) (a : Ask) : Int := if askF a ≠ 0 then askF a else if a.seq < f a.who + 1 then 7 else if f a.who + 1 < a.seq then 6 else if 30 ≤ n then 4 else 0
section
variable {f : Int → Int} {n : Nat} {a : Ask}
theorem pushE_bad (h : askF a ≠ 0) : pushE f n a = askF a := by unfold pushE; rw [if_pos h]
theorem pushE_clash (h : askF a = 0) (h1 : a.seq < f a.who + 1) : pushE f n a = 7 := by unfold pushE; rw [if_neg (by simpa using h), if_pos h1]
theorem pushE_state (h : askF a = 0) (h1 : f a.who + 1 < a.seq) : pushE f n a = 6 := by unfold pushE; rw [if_neg (by simpa using h), if_neg (by omega), if_pos h1]
theorem pushE_full (h : askF a = 0) (h1 : a.seq = f a.who + 1) (hn : 30 ≤ n) : pushE f n a = 4 := by unfold pushE; rw [if_neg (by simpa using h), if_neg (by omega), if_neg (by omega), if_pos hn]
theorem pushE_goes (h : askF a = 0) (h1 : a.seq = f a.who + 1) (hn : ¬ 30 ≤ n) : pushE f n a = 0 := by unfold pushE; rw [if_neg (by simpa using h), if_neg (by omega), if_neg (by omega), if_neg hn]
theorem pushE_ok (h : pushE f n a = 0) : askF a = 0 ∧ a.seq = f a.who + 1 ∧ n < 30 := by
  by_cases h0 : askF a = 0
  · rcases Int.lt_trichotomy a.seq (f a.who + 1) with h1 | h1 | h1
    · rw [pushE_clash h0 h1] at h; exact absurd h (by decide)
    · by_cases hn : 30 ≤ n
      · rw [pushE_full h0 h1 hn] at h; exact absurd h (by decide)
      · exact ⟨h0, h1, by omega⟩
    · rw [pushE_state h0 h1] at h; exact absurd h (by decide)
  · rw [pushE_bad h0] at h; exact absurd h h0
end
/-- the last one of each behind a push that goes -/
def upF (f : Int → Int) (a : Ask) : Int → Int := fun k => if k = a.who then a.seq else f k
theorem upF_same {f : Int → Int} {a : Ask} : upF f a a.who = a.seq := by unfold upF; rw [if_pos rfl]
theorem upF_other {f : Int → Int} {a : Ask} {k : Int} (h : k ≠ a.who) : upF f a k = f k := by unfold upF; rw [if_neg h]
/-- how many of somebody's there are -/
def his (k : Int) (l : List Ask) : Nat := l.countP fun a => a.who == k
theorem his_nil (k : Int) : his k [] = 0 := rfl
theorem his_snoc (k : Int) (l : List Ask) (a : Ask) : his k (l ++ [a]) = his k l + if a.who = k then 1 else 0 := by
  unfold his
  rw [List.countP_append, List.countP_singleton]
  simp
/-- pushed one by one, each as its turn came -/
def Turn (l : List Ask) : Prop := ∀ i (h : i < l.length), l[i].seq = his l[i].who (l.take (i + 1))
theorem turn_nil : Turn [] := fun i h => absurd h (by simp)
theorem Turn.snoc {l : List Ask} {a : Ask} (h : Turn l) (ha : a.seq = his a.who l + 1) : Turn (l ++ [a]) := fun i hi => by
  by_cases hl : i < l.length
  · have e : (l ++ [a])[i] = l[i] := List.getElem_append_left hl
    rw [e, List.take_append_of_le_length (by omega)]
    exact h i hl
  · have e : i = l.length := by simp at hi; omega
    subst e
    rw [List.getElem_append_right (Nat.le_refl _), List.take_of_length_le (by simp)]
    simp only [Nat.sub_self, List.getElem_cons_zero]
    rw [his_snoc, if_pos rfl, ha]
    simp
/-- the last one of each is how many there are of his -/
theorem upF_his {f : Int → Int} {l : List Ask} {a : Ask} (h : ∀ k, f k = his k l) (ha : a.seq = f a.who + 1) : ∀ k, upF f a k = his k (l ++ [a]) := fun k => by
  rw [his_snoc]
  by_cases hk : k = a.who
  · subst hk
    rw [upF_same, ha, h, if_pos rfl]
    simp
  · rw [upF_other hk, h, if_neg (fun e => hk e.symm)]
    simp
theorem his_le (k : Int) (l : List Ask) : his k l ≤ l.length := List.countP_le_length

end Go.Proofs.YtlefhfmckimlaaiGreatDoor.M

namespace Go.Proofs.YtlefhfmckimlaaiGreatDoor

/-- the fault of putting a tuple to a list, and the list behind it -/
def M.putF (L : List (List M.Val)) (t : List M.Val) : Int := if M.tupF t ≠ 0 then M.tupF t else if 20 ≤ L.length then 4 else 0
def M.putL (L : List (List M.Val)) (t : List M.Val) : List (List M.Val) := if M.putF L t = 0 then L ++ [t] else L
/-- where the first is that fits (as many as there are: none does) -/
def M.spot (a : List M.Val) (L : List (List M.Val)) : Nat := L.findIdx fun t => M.fitAll a t
/-- the fault of asking for one, the one, and the list without it -/
def M.getF (a : List M.Val) (L : List (List M.Val)) : Int := if M.likeF a ≠ 0 then M.likeF a else if M.spot a L < L.length then 0 else 5
def M.getV (a : List M.Val) (L : List (List M.Val)) : List M.Val := if M.getF a L = 0 then L.getD (M.spot a L) [] else []
def M.lessL (a : List M.Val) (L : List (List M.Val)) : List (List M.Val) := if M.getF a L = 0 then L.eraseIdx (M.spot a L) else L
def M.many (a : List M.Val) (L : List (List M.Val)) : Nat := L.countP fun t => M.fitAll a t
/-- all are right, and no more than may be -/
def M.Fine (L : List (List M.Val)) : Prop := (∀ t ∈ L, M.tupF t = 0) ∧ L.length ≤ 20

theorem Fine.nil : M.Fine [] := ⟨fun t h => by simp at h, by simp⟩
theorem Fine.put {L : List (List M.Val)} {t : List M.Val} (h : M.Fine L) : M.Fine (M.putL L t) := by
  unfold M.putL
  by_cases hf : M.putF L t = 0
  · rw [if_pos hf]
    unfold M.putF at hf
    by_cases h1 : M.tupF t ≠ 0
    · rw [if_pos h1] at hf; exact absurd hf h1
    · rw [if_neg h1] at hf
      by_cases h2 : 20 ≤ L.length
      · rw [if_pos h2] at hf; exact absurd hf (by decide)
      · refine ⟨fun x hx => ?_, by simp; omega⟩
        rcases List.mem_append.1 hx with hx | hx
        · exact h.1 x hx
        · simp at hx; subst hx; simpa using h1
  · rw [if_neg hf]; exact h
theorem Fine.erase {L : List (List M.Val)} {k : Nat} (h : M.Fine L) : M.Fine (L.eraseIdx k) := by
  refine ⟨fun t ht => h.1 t (List.mem_of_mem_eraseIdx ht), ?_⟩
  have := List.length_eraseIdx_le L k
  have := h.2
  omega
theorem Fine.less {L : List (List M.Val)} {a : List M.Val} (h : M.Fine L) : M.Fine (M.lessL a L) := by
  unfold M.lessL
  split
  · exact Fine.erase h
  · exact h

theorem spot_hit {a : List M.Val} {L : List (List M.Val)} {k : Nat} (hk : k < L.length) (h : ∀ j (hj : j < k), M.fitAll a (L[j]'(by omega)) = false) (h1 : M.fitAll a L[k] = true) : M.spot a L = k := by
  unfold M.spot
  rw [List.findIdx_eq hk]
  exact ⟨h1, fun j hj => by simpa using h j hj⟩
theorem spot_none {a : List M.Val} {L : List (List M.Val)} (h : ∀ j (hj : j < L.length), M.fitAll a L[j] = false) : M.spot a L = L.length := by
  unfold M.spot
  rw [List.findIdx_eq_length]
  intro x hx
  obtain ⟨i, hi, rfl⟩ := List.mem_iff_getElem.1 hx
  simpa using h i hi
theorem many_snoc {a : List M.Val} {L : List (List M.Val)} {k : Nat} (hk : k < L.length) : M.many a (L.take (k + 1)) = M.many a (L.take k) + (if M.fitAll a L[k] then 1 else 0) := by
  unfold M.many
  rw [List.take_succ_eq_append_getElem hk, List.countP_append, List.countP_singleton]
theorem many_le (a : List M.Val) (L : List (List M.Val)) : M.many a L ≤ L.length := List.countP_le_length
theorem putF_bad {L : List (List M.Val)} {t : List M.Val} (h : M.tupF t ≠ 0) : M.putF L t = M.tupF t := by unfold M.putF; rw [if_pos h]
theorem putF_full {L : List (List M.Val)} {t : List M.Val} (h : M.tupF t = 0) (hl : 20 ≤ L.length) : M.putF L t = 4 := by unfold M.putF; rw [if_neg (by simpa using h), if_pos hl]
theorem putF_ok {L : List (List M.Val)} {t : List M.Val} (h : M.tupF t = 0) (hl : L.length < 20) : M.putF L t = 0 := by unfold M.putF; rw [if_neg (by simpa using h), if_neg (by omega)]
theorem putL_no {L : List (List M.Val)} {t : List M.Val} (h : M.putF L t ≠ 0) : M.putL L t = L := by unfold M.putL; rw [if_neg h]
theorem putL_yes {L : List (List M.Val)} {t : List M.Val} (h : M.putF L t = 0) : M.putL L t = L ++ [t] := by unfold M.putL; rw [if_pos h]
theorem text_small {v : M.Val} (h : v.fault = 0) : v.s.size ≤ 12 := by
  obtain ⟨k, n, s⟩ := v
  simp only [M.Val.fault] at h ⊢
  unfold M.fault M.faultN M.faultT M.faultA at h
  repeat' split at h
  all_goals first | omega | (rename_i g; omega) | skip

theorem getF_bad {a : List M.Val} {L : List (List M.Val)} (h : M.likeF a ≠ 0) : M.getF a L = M.likeF a := by unfold M.getF; rw [if_pos h]
theorem getF_hit {a : List M.Val} {L : List (List M.Val)} (h : M.likeF a = 0) (hs : M.spot a L < L.length) : M.getF a L = 0 := by unfold M.getF; rw [if_neg (by simpa using h), if_pos hs]
theorem getF_miss {a : List M.Val} {L : List (List M.Val)} (h : M.likeF a = 0) (hs : ¬ M.spot a L < L.length) : M.getF a L = 5 := by unfold M.getF; rw [if_neg (by simpa using h), if_neg hs]
theorem getV_hit {a : List M.Val} {L : List (List M.Val)} (h : M.likeF a = 0) (hs : M.spot a L < L.length) : M.getV a L = L[M.spot a L] := by unfold M.getV; rw [if_pos (getF_hit h hs), List.getD_eq_getElem?_getD, List.getElem?_eq_getElem hs]; rfl
theorem getV_no {a : List M.Val} {L : List (List M.Val)} (h : M.getF a L ≠ 0) : M.getV a L = [] := by unfold M.getV; rw [if_neg h]
theorem lessL_no {a : List M.Val} {L : List (List M.Val)} (h : M.getF a L ≠ 0) : M.lessL a L = L := by unfold M.lessL; rw [if_neg h]
theorem lessL_hit {a : List M.Val} {L : List (List M.Val)} (h : M.likeF a = 0) (hs : M.spot a L < L.length) : M.lessL a L = L.eraseIdx (M.spot a L) := by unfold M.lessL; rw [if_pos (getF_hit h hs)]

end Go.Proofs.YtlefhfmckimlaaiGreatDoor
