/-
  A row of rules that a call puts together itself.
  A list of tuples out of which one was deleted in place: what the row is behind it. For any program.
-/
import Derived.Test.YtlefhfmckimlaajDoorRuleWalks
import Derived.Laws.OwnMore
import Derived.OwnWalk
import Derived.Test.YtlefhfmckimlaajDoorJ18A
import Derived.Sort.Row
set_option linter.unusedVariables false
namespace Go.Proofs.YtlefhfmckimlaajDoor
open Go.RowKit

/-- the cells of some rules, in a row -/
def RowR (w : World) : List Value → List M.Rul → Prop
  | xs, [] => xs = []
  | xs, r :: l => ∃ v ys, xs = .int .i64 r.deed :: .int .i64 r.who :: v :: .bool r.may :: ys ∧ IsVals w v r.like ∧ RowR w ys l

theorem RowR.len {w : World} : ∀ {l : List M.Rul} {xs : List Value}, RowR w xs l → xs.length = l.length * 4
  | [], xs, h => by have h' : xs = [] := h; subst h'; rfl
  | r :: l, xs, h => by
    obtain ⟨v, ys, rfl, _, h2⟩ := h
    have := RowR.len h2
    simp only [List.length_cons]
    omega
theorem RowR.stays {w w' : World} {B : Nat} (hb : Below B w w') (hB : w.heap.size ≤ B) : ∀ {l : List M.Rul} {xs : List Value}, RowR w xs l → RowR w' xs l
  | [], xs, h => h
  | r :: l, xs, h => by
    obtain ⟨v, ys, e, h1, h2⟩ := h
    exact ⟨v, ys, e, h1.stays hb hB, RowR.stays hb hB h2⟩
theorem RowR.append {w : World} {m : List M.Rul} {zs : List Value} (hm : RowR w zs m) : ∀ {l : List M.Rul} {xs : List Value}, RowR w xs l → RowR w (xs ++ zs) (l ++ m)
  | [], xs, h => by have h' : xs = [] := h; subst h'; exact hm
  | r :: l, xs, h => by
    obtain ⟨v, ys, rfl, h1, h2⟩ := h
    exact ⟨v, ys ++ zs, rfl, h1, RowR.append hm h2⟩
theorem RowR.oneCell {w : World} : ∀ {l : List M.Rul} {xs : List Value}, RowR w xs l → ∀ u ∈ xs, u.oneCell' = true
  | [], xs, h, u, hu => by have h' : xs = [] := h; subst h'; cases hu
  | r :: l, xs, h, u, hu => by
    obtain ⟨v, ys, rfl, h1, h2⟩ := h
    obtain ⟨a, n, c, rfl⟩ := h1.isSlice
    simp only [List.mem_cons] at hu
    rcases hu with rfl | rfl | rfl | rfl | hu
    · rfl
    · rfl
    · rfl
    · rfl
    · exact RowR.oneCell h2 u hu
theorem RowR.get {w : World} : ∀ {l : List M.Rul} {xs : List Value}, RowR w xs l → ∀ i (hi : i < l.length), xs[i * 4]? = some (.int .i64 l[i].deed) ∧ xs[i * 4 + 1]? = some (.int .i64 l[i].who) ∧ (∃ v, xs[i * 4 + 2]? = some v ∧ IsVals w v l[i].like) ∧ xs[i * 4 + 3]? = some (.bool l[i].may)
  | [], _, _, i, hi => absurd hi (by simp)
  | r :: l, xs, h, 0, _ => by
    obtain ⟨v, ys, rfl, h1, _⟩ := h
    exact ⟨rfl, rfl, ⟨v, rfl, h1⟩, rfl⟩
  | r :: l, xs, h, i + 1, hi => by
    obtain ⟨v, ys, rfl, _, h2⟩ := h
    have := RowR.get h2 i (by simpa using hi)
    have e : (i + 1) * 4 = i * 4 + 4 := by omega
    rw [e]
    exact this

theorem LieR.tail {w : World} {b off : Nat} {r : M.Rul} {l : List M.Rul} (h : LieR w b off (r :: l)) : LieR w b (off + 4) l := fun i hi => by
  have := h (i + 1) (by simpa using hi)
  simp only [List.getElem_cons_succ] at this
  rw [show off + (i + 1) * 4 = off + 4 + i * 4 by omega] at this
  exact this
/-- the cells of rules that lie somewhere -/
theorem LieR.row {w : World} {b : Nat} : ∀ {l : List M.Rul} {off : Nat}, LieR w b off l → ∃ xs, RowR w xs l ∧ ∀ j u, xs[j]? = some u → w.cell? ((⟨b, off, none⟩ : Addr).add j) = some u
  | [], off, _ => ⟨[], rfl, fun j u hu => by simp at hu⟩
  | r :: l, off, h => by
    obtain ⟨ys, h1, h2⟩ := LieR.row h.tail
    obtain ⟨g1, g2, ⟨v, g3, gv⟩, g4⟩ := h 0 (by simp)
    refine ⟨.int .i64 r.deed :: .int .i64 r.who :: v :: .bool r.may :: ys, ⟨v, ys, rfl, gv, h1⟩, fun j u hu => ?_⟩
    rw [WideShapes.add_plain]
    simp only [List.getElem_cons_zero, Nat.zero_mul, Nat.add_zero] at g1 g2 g3 g4
    match j with
    | 0 => simp at hu; subst hu; exact g1
    | 1 => simp at hu; subst hu; exact g2
    | 2 => simp at hu; subst hu; exact g3
    | 3 => simp at hu; subst hu; exact g4
    | j + 4 =>
      have := h2 j u (by simpa using hu)
      rw [WideShapes.add_plain] at this
      rw [show off + (j + 4) = off + 4 + j by omega]
      exact this
theorem AtR.row {w : World} {a : Option Addr} {l : List M.Rul} (h : AtR w a l) : ∃ xs, RowR w xs l ∧ ∀ ad, a = some ad → ∀ j u, xs[j]? = some u → w.cell? (ad.add j) = some u := by
  rcases Nat.eq_zero_or_pos l.length with h0 | h0
  · have hl := List.length_eq_zero_iff.1 h0
    subst hl
    exact ⟨[], rfl, fun _ _ j u hu => by simp at hu⟩
  · obtain ⟨b, off, e, hl⟩ := h h0
    obtain ⟨xs, h1, h2⟩ := hl.row
    refine ⟨xs, h1, fun ad he => ?_⟩
    rw [e] at he
    cases he
    exact h2
/-- rules that a call has put together itself -/
theorem atR_own {w : World} {base : Nat} {e : TypeId} {v : Value} {m : Nat} {xs : List Value} {l : List M.Rul} (hm : m = l.length) (hr : RowR w xs l) (h : w.ownsRow base e 4 v m xs) : ∃ a cap, v = .slice a m cap ∧ AtR w a l := by
  have hc := h
  rcases h.2 with ⟨hv, hn⟩ | ⟨g, cap, cur, hv, _, _, hn, hcm, _⟩
  · exact ⟨none, 0, by rw [hv, hn], fun h0 => by omega⟩
  · refine ⟨some ⟨g, 0, none⟩, cap, hv, fun _ => ⟨g, 0, rfl, fun i hi => ?_⟩⟩
    obtain ⟨g1, g2, ⟨x, g3, gv⟩, g4⟩ := hr.get i hi
    have c1 := hc.cells (g := g) (by rw [hv]; rfl) _ _ g1
    have c2 := hc.cells (g := g) (by rw [hv]; rfl) _ _ g2
    have c3 := hc.cells (g := g) (by rw [hv]; rfl) _ _ g3
    have c4 := hc.cells (g := g) (by rw [hv]; rfl) _ _ g4
    rw [WideShapes.add_plain] at c1 c2 c3 c4
    exact ⟨c1, by rw [Nat.add_assoc]; exact c2, ⟨x, by rw [Nat.add_assoc]; exact c3, gv⟩, by rw [Nat.add_assoc]; exact c4⟩
theorem infoR : (Tryd.prog.info? 92).map (fun i => (i.zero, i.size, i.bytes)) = some (some (.agg #[.int .i64 0, .int .i64 0, .slice none 0 0, .bool false]), 4, 48) := by kernel_rfl
/-- one rule written down -/
theorem rowR_one {w : World} (r : M.Rul) {v : Value} (h : IsVals w v r.like) : RowR w [.int .i64 r.deed, .int .i64 r.who, v, .bool r.may] [r] := ⟨v, [], rfl, h, rfl⟩

end Go.Proofs.YtlefhfmckimlaajDoor

namespace Go.Proofs.YtlefhfmckimlaajDoor
open Go.RowKit Go.Sort

/-- a slice, told by its three parts -/
def encS (x : Option Addr × Nat × Nat) : Value := .slice x.1 x.2.1 x.2.2
theorem encS_all : ∀ {xs : List Value}, (∀ v ∈ xs, ∃ a n c, v = .slice a n c) → ∃ ds : List (Option Addr × Nat × Nat), xs = ds.map encS
  | [], _ => ⟨[], rfl⟩
  | v :: xs, h => by
    obtain ⟨ds, hd⟩ := encS_all (xs := xs) fun u hu => h u (List.mem_cons_of_mem _ hu)
    obtain ⟨a, n, c, hv⟩ := h v (List.mem_cons_self ..)
    exact ⟨(a, n, c) :: ds, by rw [hv, hd]; rfl⟩
theorem ownsRow_slice {w : World} {base k n : Nat} {e : TypeId} {v : Value} {xs : List Value} (h : w.ownsRow base e k v n xs) : ∃ a n c, v = .slice a n c := by
  rcases h.2 with ⟨hv, _⟩ | ⟨g, cap, cur, hv, _⟩
  · exact ⟨_, _, _, hv⟩
  · exact ⟨_, _, _, hv⟩

theorem ownsRow_holds {w : World} {base g n cap : Nat} {e : TypeId} {ds : List (Option Addr × Nat × Nat)} (h : w.ownsRow base e 1 (.slice (some ⟨g, 0, none⟩) n cap) n (ds.map encS)) : Holds encS w g 0 ds.toArray := by
  intro j hj
  have hlen := h.1
  simp at hj hlen
  have := h.cellAt j (by omega)
  rw [Nat.zero_add, this, h.frozenAt]
  refine ⟨?_, rfl⟩
  rw [List.getElem?_map, List.getElem?_eq_getElem hj]
  simp [hj]

theorem row_delete {w : World} {base g n cap i q : Nat} {e : TypeId} {ds : List (Option Addr × Nat × Nat)} (zr : Option Addr × Nat × Nat) (h : w.ownsRow base e 1 (.slice (some ⟨g, 0, none⟩) n cap) n (ds.map encS)) (hi : i < n) {w' : World}
    (hw : w' = putRow encS (Sort.ahead w q) g 0 (ds.take i ++ ds.drop (i + 1) ++ List.replicate 1 zr).toArray) :
    w'.ownsRow base e 1 (.slice (some ⟨g, 0, none⟩) (n - 1) cap) (n - 1) ((ds.eraseIdx i).map encS) ∧ w.grownBy w' (some g) := by
  have hlen := h.1
  simp at hlen
  have hel : ds.eraseIdx i = ds.take i ++ ds.drop (i + 1) := List.eraseIdx_eq_take_drop_succ ..
  rcases h.2 with ⟨h', _⟩ | ⟨g', cap', cur, h', hb, hg, hnc, hcm, hcs, htake⟩
  · simp at h'
  · simp only [Value.slice.injEq, Option.some.injEq, Addr.mk.injEq, and_true, true_and] at h'
    obtain ⟨rfl, rfl⟩ := h'
    have hheap : w'.heap[g]? = some (.cells (putCells encS 0 (ds.take i ++ ds.drop (i + 1) ++ List.replicate 1 zr).toArray cur) e (0, 0)) := by
      subst hw
      show (w.heap.modify g _)[g]? = _
      rw [Array.getElem?_modify, if_pos rfl, hg]
      rfl
    have hother : ∀ k, k ≠ g → w'.heap[k]? = w.heap[k]? := fun k hk => by
      subst hw
      show (w.heap.modify g _)[k]? = _
      rw [Array.getElem?_modify, if_neg (Ne.symm hk)]
    refine ⟨⟨by rw [List.length_map, hel]; simp; omega, Or.inr ⟨g, cap, _, rfl, hb, hheap, by omega, hcm, by simp [putCells]; omega, ?_⟩⟩, ?_⟩
    · rw [hel]
      apply List.ext_getElem?
      intro j
      rw [List.getElem?_take]
      by_cases hj : j < n - 1
      · rw [if_pos (by omega)]
        have hsz : cur.size = cap := by omega
        have hl1 : (ds.take i ++ ds.drop (i + 1)).length = n - 1 := by simp; omega
        have hl2 : (ds.take i ++ ds.drop (i + 1) ++ List.replicate 1 zr).length = n := by rw [List.length_append, hl1]; simp; omega
        rw [Array.getElem?_toList]
        unfold putCells
        rw [Array.getElem?_mapIdx, Array.getElem?_eq_getElem (by omega), Option.map_some, if_pos ⟨Nat.zero_le _, by simp only [List.size_toArray, hl2]; omega⟩, List.getElem?_map, List.getElem?_eq_getElem (by omega), Option.map_some]
        congr 2
        rw [Nat.sub_zero, getElem!_pos _ j (by simp only [List.size_toArray, hl2]; omega), List.getElem_toArray, List.getElem_append_left (by omega)]
      · rw [if_neg (by omega), eq_comm, List.getElem?_eq_none_iff, List.length_map]
        simp; omega
    · subst hw
      exact ⟨rfl, rfl, rfl, by simp [putRow, mapBlock, Sort.ahead], fun k _ hk => hother k (fun e => hk (by rw [e]))⟩

end Go.Proofs.YtlefhfmckimlaajDoor
