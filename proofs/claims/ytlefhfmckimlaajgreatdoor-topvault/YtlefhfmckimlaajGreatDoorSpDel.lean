/-
  A list of tuples out of which one was deleted in place: what the row is behind it. For any program.
-/
import Derived.Test.YtlefhfmckimlaajGreatDoorJ20A
import Derived.Sort.Row
namespace Go.Proofs.YtlefhfmckimlaajGreatDoor
open Go.RowKit Go.Sort

/-- a slice, told by its three parts -/
def encS (x : Option Addr × Nat × Nat) : Value := .slice x.1 x.2.1 x.2.2
theorem encS_all : ∀ {xs : List Value}, (∀ v ∈ xs, ∃ a n c, v = .slice a n c) → ∃ ds : List (Option Addr × Nat × Nat), xs = ds.map encS
  | [], _ => ⟨[], rfl⟩
  | v :: xs, h => by
    obtain ⟨ds, hd⟩ := encS_all (xs := xs) fun u hu => h u (List.mem_cons_of_mem _ hu)
    obtain ⟨a, n, c, hv⟩ := h v (List.mem_cons_self ..)
    exact ⟨(a, n, c) :: ds, by rw [hv, hd]; rfl⟩
theorem ownsRow_slice {w : World} {base k n : Nat} {e : TypeId} {v : Value} {xs : List Value} (h : w.ownsRow base e k v n xs) : ∃ a n c, v = .slice a n c := by
  rcases h.2 with ⟨hv, _⟩ | ⟨g, cap, cur, hv, _⟩
  · exact ⟨_, _, _, hv⟩
  · exact ⟨_, _, _, hv⟩

theorem ownsRow_holds {w : World} {base g n cap : Nat} {e : TypeId} {ds : List (Option Addr × Nat × Nat)} (h : w.ownsRow base e 1 (.slice (some ⟨g, 0, none⟩) n cap) n (ds.map encS)) : Holds encS w g 0 ds.toArray := by
  intro j hj
  have hlen := h.1
  simp at hj hlen
  have := h.cellAt j (by omega)
  rw [Nat.zero_add, this, h.frozenAt]
  refine ⟨?_, rfl⟩
  rw [List.getElem?_map, List.getElem?_eq_getElem hj]
  simp [hj]

theorem row_delete {w : World} {base g n cap i q : Nat} {e : TypeId} {ds : List (Option Addr × Nat × Nat)} (zr : Option Addr × Nat × Nat) (h : w.ownsRow base e 1 (.slice (some ⟨g, 0, none⟩) n cap) n (ds.map encS)) (hi : i < n) {w' : World}
    (hw : w' = putRow encS (Sort.ahead w q) g 0 (ds.take i ++ ds.drop (i + 1) ++ List.replicate 1 zr).toArray) :
    w'.ownsRow base e 1 (.slice (some ⟨g, 0, none⟩) (n - 1) cap) (n - 1) ((ds.eraseIdx i).map encS) ∧ w.grownBy w' (some g) := by
  have hlen := h.1
  simp at hlen
  have hel : ds.eraseIdx i = ds.take i ++ ds.drop (i + 1) := List.eraseIdx_eq_take_drop_succ ..
  rcases h.2 with ⟨h', _⟩ | ⟨g', cap', cur, h', hb, hg, hnc, hcm, hcs, htake⟩
  · simp at h'
  · simp only [Value.slice.injEq, Option.some.injEq, Addr.mk.injEq, and_true, true_and] at h'
    obtain ⟨rfl, rfl⟩ := h'
    have hheap : w'.heap[g]? = some (.cells (putCells encS 0 (ds.take i ++ ds.drop (i + 1) ++ List.replicate 1 zr).toArray cur) e (0, 0)) := by
      subst hw
      show (w.heap.modify g _)[g]? = _
      rw [Array.getElem?_modify, if_pos rfl, hg]
      rfl
    have hother : ∀ k, k ≠ g → w'.heap[k]? = w.heap[k]? := fun k hk => by
      subst hw
      show (w.heap.modify g _)[k]? = _
      rw [Array.getElem?_modify, if_neg (Ne.symm hk)]
    refine ⟨⟨by rw [List.length_map, hel]; simp; omega, Or.inr ⟨g, cap, _, rfl, hb, hheap, by omega, hcm, by simp [putCells]; omega, ?_⟩⟩, ?_⟩
    · rw [hel]
      apply List.ext_getElem?
      intro j
      rw [List.getElem?_take]
      by_cases hj : j < n - 1
      · rw [if_pos (by omega)]
        have hsz : cur.size = cap := by omega
        have hl1 : (ds.take i ++ ds.drop (i + 1)).length = n - 1 := by simp; omega
        have hl2 : (ds.take i ++ ds.drop (i + 1) ++ List.replicate 1 zr).length = n := by rw [List.length_append, hl1]; simp; omega
        rw [Array.getElem?_toList]
        unfold putCells
        rw [Array.getElem?_mapIdx, Array.getElem?_eq_getElem (by omega), Option.map_some, if_pos ⟨Nat.zero_le _, by simp only [List.size_toArray, hl2]; omega⟩, List.getElem?_map, List.getElem?_eq_getElem (by omega), Option.map_some]
        congr 2
        rw [Nat.sub_zero, getElem!_pos _ j (by simp only [List.size_toArray, hl2]; omega), List.getElem_toArray, List.getElem_append_left (by omega)]
      · rw [if_neg (by omega), eq_comm, List.getElem?_eq_none_iff, List.length_map]
        simp; omega
    · subst hw
      exact ⟨rfl, rfl, rfl, by simp [putRow, mapBlock, Sort.ahead], fun k _ hk => hother k (fun e => hk (by rw [e]))⟩

end Go.Proofs.YtlefhfmckimlaajGreatDoor
