/-
  Memory of a call's own that it goes on writing to: tuples, lists of tuples, and a struct that holds such a list; what a call on one leaves as it was. For any program.
  Plain functions on lists of tuples: what putting one answers, and which is the first that fits. No program is walked here.
  A list of tuples out of which one was deleted in place: what the row is behind it. For any program.
  Things in memory of a call's own that stand beside each other: each has its blocks; what a call on one leaves of another. For any program.
  Rows and spaces whose blocks are as they were. For any program.
-/
import Derived.Test.YtlefhfmckimlaakGreatDoorJTup
import Derived.Deep.AppendLies
import Derived.Sort.Row
namespace Go.Proofs.YtlefhfmckimlaakGreatDoor
open Go.RowKit

/-- every block of values stays as it is -/
def Solid (w w' : World) : Prop := ∀ (b : Nat) (cur : Array Value) (fr : Nat × Nat), w.heap[b]? = some (.cells cur 31 fr) → w'.heap[b]? = some (.cells cur 31 fr)
theorem Solid.refl (w : World) : Solid w w := fun _ _ _ h => h
theorem Solid.trans {a b c : World} (h : Solid a b) (k : Solid b c) : Solid a c := fun i cur fr hi => k i cur fr (h i cur fr hi)
theorem heap_lt {w : World} {b : Nat} {o : Obj} (h : w.heap[b]? = some o) : b < w.heap.size := by
  rcases Nat.lt_or_ge b w.heap.size with g | g
  · exact g
  · rw [Array.getElem?_eq_none g] at h; cases h
theorem tag_eq {c1 c2 : Array Value} {t1 t2 : TypeId} {f1 f2 : Nat × Nat} (h : some (Obj.cells c1 t1 f1) = some (Obj.cells c2 t2 f2)) : t1 = t2 := by cases h; rfl
theorem Solid.below {w w' : World} (h : Below w.heap.size w w') : Solid w w' := fun b _ _ hb => (h.block b (heap_lt hb)).trans hb

/-- a tuple in memory of the call's own -/
def OwnT (base : Nat) (w : World) (v : Value) (l : List M.Val) : Prop := w.ownsRow base 31 3 v l.length (flat l) ∧ ∀ x ∈ l, x.s.size ≤ maxLen
theorem OwnT.vals {base : Nat} {w : World} {v : Value} {l : List M.Val} (h : OwnT base w v l) : IsVals w v l := isVals_own h.2 h.1
theorem ownsRow_solid {base : Nat} {w w' : World} {v : Value} {n k : Nat} {xs : List Value} (h : w.ownsRow base 31 k v n xs) (hs : Solid w w') : w'.ownsRow base 31 k v n xs := by
  refine ⟨h.1, ?_⟩
  rcases h.2 with h2 | ⟨g, cap, cur, hv, hg, hh, r⟩
  · exact Or.inl h2
  · exact Or.inr ⟨g, cap, cur, hv, hg, hs _ _ _ hh, r⟩
theorem OwnT.solid {base : Nat} {w w' : World} {v : Value} {l : List M.Val} (h : OwnT base w v l) (hs : Solid w w') : OwnT base w' v l := ⟨ownsRow_solid h.1 hs, h.2⟩
theorem OwnT.mono {base b2 : Nat} {w : World} {v : Value} {l : List M.Val} (h : OwnT base w v l) (hb : b2 ≤ base) : OwnT b2 w v l := by
  refine ⟨⟨h.1.1, ?_⟩, h.2⟩
  rcases h.1.2 with h2 | ⟨g, cap, cur, hv, hg, hh, r⟩
  · exact Or.inl h2
  · exact Or.inr ⟨g, cap, cur, hv, Nat.le_trans hb hg, hh, r⟩

/-- a list of tuples, whose row is the call's own; of each tuple Q is known -/
def RowOf (Q : Value → List M.Val → Prop) (base : Nat) (w : World) (v : Value) (L : List (List M.Val)) : Prop :=
  ∃ xs : List Value, w.ownsRow base 32 1 v L.length xs ∧ ∀ i (h1 : i < xs.length) (h2 : i < L.length), Q xs[i] L[i]
theorem RowOf.mono {Q Q' : Value → List M.Val → Prop} {base : Nat} {w : World} {v : Value} {L : List (List M.Val)} (h : RowOf Q base w v L) (hq : ∀ x l, Q x l → Q' x l) : RowOf Q' base w v L := by
  obtain ⟨xs, h1, h2⟩ := h
  exact ⟨xs, h1, fun i a b => hq _ _ (h2 i a b)⟩
theorem RowOf.tups {Q : Value → List M.Val → Prop} {base : Nat} {w : World} {v : Value} {L : List (List M.Val)} (h : RowOf Q base w v L) (hq : ∀ x l, Q x l → IsVals w x l) : IsTups w v L := by
  obtain ⟨xs, h1, h2⟩ := h
  exact isTups_own h1 fun i a b => hq _ _ (h2 i a b)
theorem RowOf.nil (Q : Value → List M.Val → Prop) (base : Nat) (w : World) : RowOf Q base w (.slice none 0 0) [] := ⟨[], World.ownsRow_nil _ _ _ _, fun i h => by simp at h⟩
theorem RowOf.lt {Q : Value → List M.Val → Prop} {base : Nat} {w : World} {v : Value} {L : List (List M.Val)} (h : RowOf Q base w v L) : ∀ k, v.ownBlock = some k → base ≤ k ∧ k < w.heap.size := by
  obtain ⟨xs, h1, _⟩ := h
  exact h1.lt
/-- behind an append of one -/
theorem RowOf.snoc {Q : Value → List M.Val → Prop} {base : Nat} {w' : World} {v x : Value} {L : List (List M.Val)} {l : List M.Val} {xs : List Value} (hxs : ∀ i (h1 : i < xs.length) (h2 : i < L.length), Q xs[i] L[i]) (hlen : xs.length = L.length)
    (h : w'.ownsRow base 32 1 v (L.length + 1) (xs ++ [x])) (hx : Q x l) : RowOf Q base w' v (L ++ [l]) := by
  refine ⟨xs ++ [x], by simpa using h, fun i h1 h2 => ?_⟩
  by_cases hi : i < xs.length
  · rw [List.getElem_append_left hi, List.getElem_append_left (by omega)]
    exact hxs i hi (by omega)
  · have : i = xs.length := by simp at h1; omega
    subst this
    rw [List.getElem_append_right (Nat.le_refl _), List.getElem_append_right (by omega)]
    simpa [hlen] using hx

/-- what is kept but for a struct's block and its list's row -/
structure Touch (S : Nat) (v : Value) (w w' : World) : Prop where
  os : w'.os = w.os
  tape : w'.tape = w.tape
  output : w'.output = w.output
  size : w.heap.size ≤ w'.heap.size
  block : ∀ k, k < w.heap.size → k ≠ S → v.ownBlock ≠ some k → w'.heap[k]? = w.heap[k]?
theorem Touch.of_below {S : Nat} {v : Value} {w w' : World} (h : Below w.heap.size w w') : Touch S v w w' := ⟨h.os, h.tape, h.output, h.size, fun k hk _ _ => h.block k hk⟩
theorem Touch.after {S : Nat} {v : Value} {a b c : World} (h : Below a.heap.size a b) (k : Touch S v b c) : Touch S v a c :=
  ⟨k.os.trans h.os, k.tape.trans h.tape, k.output.trans h.output, Nat.le_trans h.size k.size, fun i hi h1 h2 => (k.block i (Nat.lt_of_lt_of_le hi h.size) h1 h2).trans (h.block i hi)⟩
theorem Touch.then {S : Nat} {v : Value} {a b c : World} (h : Touch S v a b) (k : Below b.heap.size b c) : Touch S v a c :=
  ⟨k.os.trans h.os, k.tape.trans h.tape, k.output.trans h.output, Nat.le_trans h.size k.size, fun i hi h1 h2 => (k.block i (Nat.lt_of_lt_of_le hi h.size)).trans (h.block i hi h1 h2)⟩
theorem Touch.below {S B : Nat} {v : Value} {w w' : World} (h : Touch S v w w') (hS : B ≤ S) (hv : ∀ k, v.ownBlock = some k → B ≤ k) (hB : B ≤ w.heap.size) : Below B w w' :=
  ⟨h.os, h.tape, h.output, h.size, fun k hk => h.block k (by omega) (by omega) (fun e => by have := hv k e; omega)⟩

/-- a struct of the call's own whose one field is such a list -/
structure Sp (T : TypeId) (Q : Value → List M.Val → Prop) (base : Nat) (w : World) (S : Nat) (v : Value) (L : List (List M.Val)) : Prop where
  lo : base ≤ S
  heap : w.heap[S]? = some (.cells #[v] T (0, 0))
  row : RowOf Q base w v L

def Apart (u v : Value) : Prop := ∀ k, u.ownBlock = some k → v.ownBlock ≠ some k
theorem Apart.symm {u v : Value} (h : Apart u v) : Apart v u := fun k h1 h2 => h k h2 h1
theorem Apart.nil (v : Value) : Apart (.slice none 0 0) v := fun k h => by cases h
/-- where the list lies behind a call: where it lay, or in new memory -/
def Near (w : World) (v v' : Value) : Prop := v'.ownBlock = v.ownBlock ∨ ∀ k, v'.ownBlock = some k → w.heap.size ≤ k
theorem Near.refl (w : World) (v : Value) : Near w v v := Or.inl rfl
theorem Near.mono {w w1 : World} {v v' : Value} (h : Near w1 v v') (hs : w.heap.size ≤ w1.heap.size) : Near w v v' := by
  rcases h with h | h
  · exact Or.inl h
  · exact Or.inr fun k hk => Nat.le_trans hs (h k hk)
theorem Apart.near {w : World} {u v v' : Value} (h : Apart u v) (hu : ∀ k, u.ownBlock = some k → k < w.heap.size) (hn : Near w v v') : Apart u v' := by
  rcases hn with hn | hn
  · intro k hk; rw [hn]; exact h k hk
  · intro k hk e
    have := hu k hk
    have := hn k e
    omega

theorem RowOf.touch {Q : Value → List M.Val → Prop} {base S : Nat} {w w' : World} {u v : Value} {L : List (List M.Val)} {o : Array Value} {T : TypeId} {fr : Nat × Nat} (h : RowOf Q base w u L) (hS : w.heap[S]? = some (.cells o T fr)) (hT : T ≠ 32) (ht : Touch S v w w') (ha : Apart u v) : RowOf Q base w' u L := by
  obtain ⟨xs, h1, h2⟩ := h
  refine ⟨xs, ⟨h1.1, ?_⟩, h2⟩
  rcases h1.2 with h3 | ⟨g, cap, cur, hv, hg, hh, r⟩
  · exact Or.inl h3
  · refine Or.inr ⟨g, cap, cur, hv, hg, ?_, r⟩
    rw [ht.block g (heap_lt hh) (fun e => ?_) (ha g (by rw [hv]; rfl))]
    · exact hh
    · subst e
      rw [hS] at hh
      exact hT (tag_eq hh)
theorem RowOf.below {Q : Value → List M.Val → Prop} {base : Nat} {w w' : World} {u : Value} {L : List (List M.Val)} (h : RowOf Q base w u L) (hb : Below w.heap.size w w') : RowOf Q base w' u L := by
  obtain ⟨xs, h1, h2⟩ := h
  refine ⟨xs, ⟨h1.1, ?_⟩, h2⟩
  rcases h1.2 with h3 | ⟨g, cap, cur, hv, hg, hh, r⟩
  · exact Or.inl h3
  · exact Or.inr ⟨g, cap, cur, hv, hg, (hb.block g (heap_lt hh)).trans hh, r⟩
/-- the row of a struct's list, and that it is none of values -/
theorem Sp.solid {T : TypeId} {Q : Value → List M.Val → Prop} {base S : Nat} {w w' : World} {v : Value} {L : List (List M.Val)} (h : Sp T Q base w S v L) (hT : T ≠ 31) (ht : Touch S v w w') : Solid w w' := fun b cur fr hb => by
  rw [ht.block b (heap_lt hb) (fun e => ?_) (fun e => ?_)]
  · exact hb
  · subst e
    rw [h.heap] at hb
    exact hT (tag_eq hb)
  · obtain ⟨xs, h1, _⟩ := h.row
    rcases h1.2 with ⟨hv, _⟩ | ⟨g, cap, c2, hv, _, hh, _⟩
    · rw [hv] at e; cases e
    · rw [hv] at e
      have : g = b := by simpa [Value.ownBlock] using e
      subst this
      rw [hh] at hb
      exact absurd (tag_eq hb) (by decide)
theorem Sp.below {T : TypeId} {Q : Value → List M.Val → Prop} {base S : Nat} {w w' : World} {v : Value} {L : List (List M.Val)} (h : Sp T Q base w S v L) (ht : Touch S v w w') {B : Nat} (hB : B ≤ base) : Below B w w' := by
  refine ht.below (Nat.le_trans hB h.lo) (fun k hk => Nat.le_trans hB (h.row.lt k hk).1) ?_
  have := heap_lt h.heap
  have := h.lo
  omega
theorem Sp.mono {T : TypeId} {Q Q' : Value → List M.Val → Prop} {base S : Nat} {w : World} {v : Value} {L : List (List M.Val)} (h : Sp T Q base w S v L) (hq : ∀ x l, Q x l → Q' x l) : Sp T Q' base w S v L := ⟨h.lo, h.heap, h.row.mono hq⟩
theorem Sp.quiet {T : TypeId} {Q : Value → List M.Val → Prop} {base S : Nat} {w w' : World} {v : Value} {L : List (List M.Val)} (h : Sp T Q base w S v L) (hb : Below w.heap.size w w') : Sp T Q base w' S v L := ⟨h.lo, (hb.block S (heap_lt h.heap)).trans h.heap, h.row.below hb⟩
/-- one struct stays while another one is written -/
theorem Sp.touch {T T' : TypeId} {Q Q' : Value → List M.Val → Prop} {base S S' : Nat} {w w' : World} {u v : Value} {L L' : List (List M.Val)} (h : Sp T Q base w S u L) (h' : Sp T' Q' base w S' v L') (hTT : T ≠ T') (hT : T ≠ 32) (hT' : T' ≠ 32) (ht : Touch S' v w w') (ha : Apart u v) : Sp T Q base w' S u L := by
  refine ⟨h.lo, ?_, h.row.touch h'.heap hT' ht ha⟩
  rw [ht.block S (heap_lt h.heap) (fun e => ?_) (fun e => ?_)]
  · exact h.heap
  · subst e
    have := h.heap
    rw [h'.heap] at this
    exact hTT (tag_eq this).symm
  · obtain ⟨xs, h1, _⟩ := h'.row
    rcases h1.2 with ⟨hv, _⟩ | ⟨g, cap, c2, hv, _, hh, _⟩
    · rw [hv] at e; cases e
    · rw [hv] at e
      have : g = S := by simpa [Value.ownBlock] using e
      subst this
      rw [h.heap] at hh
      exact hT (tag_eq hh)

theorem Sp.row_ne {T : TypeId} {Q : Value → List M.Val → Prop} {base S : Nat} {w : World} {v : Value} {L : List (List M.Val)} (h : Sp T Q base w S v L) (hT : T ≠ 32) : v.ownBlock ≠ some S := fun e => by
  obtain ⟨xs, h1, _⟩ := h.row
  rcases h1.2 with ⟨hv, _⟩ | ⟨g, cap, c2, hv, _, hh, _⟩
  · rw [hv] at e; cases e
  · rw [hv] at e
    have : g = S := by simpa [Value.ownBlock] using e
    subst this
    rw [h.heap] at hh
    exact hT (tag_eq hh)
theorem solid_grown {wA w3 : World} {base n : Nat} {v : Value} {xs : List Value} (hx : wA.ownsRow base 32 1 v n xs) (hg : wA.grownBy w3 v.ownBlock) : Solid wA w3 := fun b cur fr hb => by
  rw [hg.block b (heap_lt hb) (fun e => ?_)]
  · exact hb
  · rcases hx.2 with ⟨hv, _⟩ | ⟨g, cap, c2, hv, _, hh, _⟩
    · rw [hv] at e; cases e
    · rw [hv] at e
      have : b = g := by simpa [Value.ownBlock] using e
      subst this
      rw [hh] at hb
      exact absurd (tag_eq hb) (by decide)
theorem grownBy_setCell (w : World) (a : Addr) (u : Value) : w.grownBy (w.setCell a u) (some a.block) := ⟨rfl, rfl, rfl, by simp, fun k _ hk => heap_setCell_other w a k u (fun e => hk (by rw [e]))⟩
/-- behind an append to the list, or any other writing of its row, and the store of what came of it -/
theorem Sp.stored {T : TypeId} {Q : Value → List M.Val → Prop} {base S : Nat} {wA w3 : World} {v v' : Value} {L L' : List (List M.Val)} (hT : T ≠ 32) (h : Sp T Q base wA S v L) (hg : wA.grownBy w3 v.ownBlock) (hr : RowOf Q base w3 v' L') (hn : Near wA v v') :
    Sp T Q base (w3.setCell ⟨S, 0, none⟩ v') S v' L' ∧ Touch S v wA (w3.setCell ⟨S, 0, none⟩ v') := by
  have hSl := heap_lt h.heap
  have hne := h.row_ne hT
  have h3 : w3.heap[S]? = some (.cells #[v] T (0, 0)) := (hg.block S hSl (fun e => hne e.symm)).trans h.heap
  have hne' : v'.ownBlock ≠ some S := fun e => by
    rcases hn with hn | hn
    · rw [hn] at e; exact hne e
    · have := hn S e; omega
  refine ⟨⟨h.lo, ?_, ?_⟩, ⟨hg.os, hg.tape, hg.output, ?_, fun k hk h1 h2 => ?_⟩⟩
  · rw [heap_setCell_same w3 S 0 #[v] T v' h3]; rfl
  · obtain ⟨xs, hx1, hx2⟩ := hr
    exact ⟨xs, hx1.kept (grownBy_setCell w3 ⟨S, 0, none⟩ v') (Or.inr hne'), hx2⟩
  · have := hg.size
    simpa using this
  · rw [heap_setCell_other w3 ⟨S, 0, none⟩ k v' h1]
    exact hg.block k hk (fun e => h2 e.symm)

end Go.Proofs.YtlefhfmckimlaakGreatDoor

namespace Go.Proofs.YtlefhfmckimlaakGreatDoor

/-- the fault of putting a tuple to a list, and the list behind it -/
def M.putF (L : List (List M.Val)) (t : List M.Val) : Int := if M.tupF t ≠ 0 then M.tupF t else if 20 ≤ L.length then 4 else 0
def M.putL (L : List (List M.Val)) (t : List M.Val) : List (List M.Val) := if M.putF L t = 0 then L ++ [t] else L
/-- where the first is that fits (as many as there are: none does) -/
def M.spot (a : List M.Val) (L : List (List M.Val)) : Nat := L.findIdx fun t => M.fitAll a t
/-- the fault of asking for one, the one, and the list without it -/
def M.getF (a : List M.Val) (L : List (List M.Val)) : Int := if M.likeF a ≠ 0 then M.likeF a else if M.spot a L < L.length then 0 else 5
def M.getV (a : List M.Val) (L : List (List M.Val)) : List M.Val := if M.getF a L = 0 then L.getD (M.spot a L) [] else []
def M.lessL (a : List M.Val) (L : List (List M.Val)) : List (List M.Val) := if M.getF a L = 0 then L.eraseIdx (M.spot a L) else L
def M.many (a : List M.Val) (L : List (List M.Val)) : Nat := L.countP fun t => M.fitAll a t
/-- all are right, and no more than may be -/
def M.Fine (L : List (List M.Val)) : Prop := (∀ t ∈ L, M.tupF t = 0) ∧ L.length ≤ 20

theorem Fine.nil : M.Fine [] := ⟨fun t h => by simp at h, by simp⟩
theorem Fine.put {L : List (List M.Val)} {t : List M.Val} (h : M.Fine L) : M.Fine (M.putL L t) := by
  unfold M.putL
  by_cases hf : M.putF L t = 0
  · rw [if_pos hf]
    unfold M.putF at hf
    by_cases h1 : M.tupF t ≠ 0
    · rw [if_pos h1] at hf; exact absurd hf h1
    · rw [if_neg h1] at hf
      by_cases h2 : 20 ≤ L.length
      · rw [if_pos h2] at hf; exact absurd hf (by decide)
      · refine ⟨fun x hx => ?_, by simp; omega⟩
        rcases List.mem_append.1 hx with hx | hx
        · exact h.1 x hx
        · simp at hx; subst hx; simpa using h1
  · rw [if_neg hf]; exact h
theorem Fine.erase {L : List (List M.Val)} {k : Nat} (h : M.Fine L) : M.Fine (L.eraseIdx k) := by
  refine ⟨fun t ht => h.1 t (List.mem_of_mem_eraseIdx ht), ?_⟩
  have := List.length_eraseIdx_le L k
  have := h.2
  omega
theorem Fine.less {L : List (List M.Val)} {a : List M.Val} (h : M.Fine L) : M.Fine (M.lessL a L) := by
  unfold M.lessL
  split
  · exact Fine.erase h
  · exact h

theorem spot_hit {a : List M.Val} {L : List (List M.Val)} {k : Nat} (hk : k < L.length) (h : ∀ j (hj : j < k), M.fitAll a (L[j]'(by omega)) = false) (h1 : M.fitAll a L[k] = true) : M.spot a L = k := by
  unfold M.spot
  rw [List.findIdx_eq hk]
  exact ⟨h1, fun j hj => by simpa using h j hj⟩
theorem spot_none {a : List M.Val} {L : List (List M.Val)} (h : ∀ j (hj : j < L.length), M.fitAll a L[j] = false) : M.spot a L = L.length := by
  unfold M.spot
  rw [List.findIdx_eq_length]
  intro x hx
  obtain ⟨i, hi, rfl⟩ := List.mem_iff_getElem.1 hx
  simpa using h i hi
theorem many_snoc {a : List M.Val} {L : List (List M.Val)} {k : Nat} (hk : k < L.length) : M.many a (L.take (k + 1)) = M.many a (L.take k) + (if M.fitAll a L[k] then 1 else 0) := by
  unfold M.many
  rw [List.take_succ_eq_append_getElem hk, List.countP_append, List.countP_singleton]
theorem many_le (a : List M.Val) (L : List (List M.Val)) : M.many a L ≤ L.length := List.countP_le_length
theorem putF_bad {L : List (List M.Val)} {t : List M.Val} (h : M.tupF t ≠ 0) : M.putF L t = M.tupF t := by unfold M.putF; rw [if_pos h]
theorem putF_full {L : List (List M.Val)} {t : List M.Val} (h : M.tupF t = 0) (hl : 20 ≤ L.length) : M.putF L t = 4 := by unfold M.putF; rw [if_neg (by simpa using h), if_pos hl]
theorem putF_ok {L : List (List M.Val)} {t : List M.Val} (h : M.tupF t = 0) (hl : L.length < 20) : M.putF L t = 0 := by unfold M.putF; rw [if_neg (by simpa using h), if_neg (by omega)]
theorem putL_no {L : List (List M.Val)} {t : List M.Val} (h : M.putF L t ≠ 0) : M.putL L t = L := by unfold M.putL; rw [if_neg h]
theorem putL_yes {L : List (List M.Val)} {t : List M.Val} (h : M.putF L t = 0) : M.putL L t = L ++ [t] := by unfold M.putL; rw [if_pos h]
theorem text_small {v : M.Val} (h : v.fault = 0) : v.s.size ≤ 12 := by
  obtain ⟨k, n, s⟩ := v
  simp only [M.Val.fault] at h ⊢
  unfold M.fault M.faultN M.faultT M.faultA at h
  repeat' split at h
  all_goals first | omega | (rename_i g; omega) | skip

theorem getF_bad {a : List M.Val} {L : List (List M.Val)} (h : M.likeF a ≠ 0) : M.getF a L = M.likeF a := by unfold M.getF; rw [if_pos h]
theorem getF_hit {a : List M.Val} {L : List (List M.Val)} (h : M.likeF a = 0) (hs : M.spot a L < L.length) : M.getF a L = 0 := by unfold M.getF; rw [if_neg (by simpa using h), if_pos hs]
theorem getF_miss {a : List M.Val} {L : List (List M.Val)} (h : M.likeF a = 0) (hs : ¬ M.spot a L < L.length) : M.getF a L = 5 := by unfold M.getF; rw [if_neg (by simpa using h), if_neg hs]
theorem getV_hit {a : List M.Val} {L : List (List M.Val)} (h : M.likeF a = 0) (hs : M.spot a L < L.length) : M.getV a L = L[M.spot a L] := by unfold M.getV; rw [if_pos (getF_hit h hs), List.getD_eq_getElem?_getD, List.getElem?_eq_getElem hs]; rfl
theorem getV_no {a : List M.Val} {L : List (List M.Val)} (h : M.getF a L ≠ 0) : M.getV a L = [] := by unfold M.getV; rw [if_neg h]
theorem lessL_no {a : List M.Val} {L : List (List M.Val)} (h : M.getF a L ≠ 0) : M.lessL a L = L := by unfold M.lessL; rw [if_neg h]
theorem lessL_hit {a : List M.Val} {L : List (List M.Val)} (h : M.likeF a = 0) (hs : M.spot a L < L.length) : M.lessL a L = L.eraseIdx (M.spot a L) := by unfold M.lessL; rw [if_pos (getF_hit h hs)]

end Go.Proofs.YtlefhfmckimlaakGreatDoor

namespace Go.Proofs.YtlefhfmckimlaakGreatDoor
open Go.RowKit Go.Sort

/-- a slice, told by its three parts -/
def encS (x : Option Addr × Nat × Nat) : Value := .slice x.1 x.2.1 x.2.2
theorem encS_all : ∀ {xs : List Value}, (∀ v ∈ xs, ∃ a n c, v = .slice a n c) → ∃ ds : List (Option Addr × Nat × Nat), xs = ds.map encS
  | [], _ => ⟨[], rfl⟩
  | v :: xs, h => by
    obtain ⟨ds, hd⟩ := encS_all (xs := xs) fun u hu => h u (List.mem_cons_of_mem _ hu)
    obtain ⟨a, n, c, hv⟩ := h v (List.mem_cons_self ..)
    exact ⟨(a, n, c) :: ds, by rw [hv, hd]; rfl⟩
theorem ownsRow_slice {w : World} {base k n : Nat} {e : TypeId} {v : Value} {xs : List Value} (h : w.ownsRow base e k v n xs) : ∃ a n c, v = .slice a n c := by
  rcases h.2 with ⟨hv, _⟩ | ⟨g, cap, cur, hv, _⟩
  · exact ⟨_, _, _, hv⟩
  · exact ⟨_, _, _, hv⟩

theorem ownsRow_holds {w : World} {base g n cap : Nat} {e : TypeId} {ds : List (Option Addr × Nat × Nat)} (h : w.ownsRow base e 1 (.slice (some ⟨g, 0, none⟩) n cap) n (ds.map encS)) : Holds encS w g 0 ds.toArray := by
  intro j hj
  have hlen := h.1
  simp at hj hlen
  have := h.cellAt j (by omega)
  rw [Nat.zero_add, this, h.frozenAt]
  refine ⟨?_, rfl⟩
  rw [List.getElem?_map, List.getElem?_eq_getElem hj]
  simp [hj]

theorem row_delete {w : World} {base g n cap i q : Nat} {e : TypeId} {ds : List (Option Addr × Nat × Nat)} (zr : Option Addr × Nat × Nat) (h : w.ownsRow base e 1 (.slice (some ⟨g, 0, none⟩) n cap) n (ds.map encS)) (hi : i < n) {w' : World}
    (hw : w' = putRow encS (Sort.ahead w q) g 0 (ds.take i ++ ds.drop (i + 1) ++ List.replicate 1 zr).toArray) :
    w'.ownsRow base e 1 (.slice (some ⟨g, 0, none⟩) (n - 1) cap) (n - 1) ((ds.eraseIdx i).map encS) ∧ w.grownBy w' (some g) := by
  have hlen := h.1
  simp at hlen
  have hel : ds.eraseIdx i = ds.take i ++ ds.drop (i + 1) := List.eraseIdx_eq_take_drop_succ ..
  rcases h.2 with ⟨h', _⟩ | ⟨g', cap', cur, h', hb, hg, hnc, hcm, hcs, htake⟩
  · simp at h'
  · simp only [Value.slice.injEq, Option.some.injEq, Addr.mk.injEq, and_true, true_and] at h'
    obtain ⟨rfl, rfl⟩ := h'
    have hheap : w'.heap[g]? = some (.cells (putCells encS 0 (ds.take i ++ ds.drop (i + 1) ++ List.replicate 1 zr).toArray cur) e (0, 0)) := by
      subst hw
      show (w.heap.modify g _)[g]? = _
      rw [Array.getElem?_modify, if_pos rfl, hg]
      rfl
    have hother : ∀ k, k ≠ g → w'.heap[k]? = w.heap[k]? := fun k hk => by
      subst hw
      show (w.heap.modify g _)[k]? = _
      rw [Array.getElem?_modify, if_neg (Ne.symm hk)]
    refine ⟨⟨by rw [List.length_map, hel]; simp; omega, Or.inr ⟨g, cap, _, rfl, hb, hheap, by omega, hcm, by simp [putCells]; omega, ?_⟩⟩, ?_⟩
    · rw [hel]
      apply List.ext_getElem?
      intro j
      rw [List.getElem?_take]
      by_cases hj : j < n - 1
      · rw [if_pos (by omega)]
        have hsz : cur.size = cap := by omega
        have hl1 : (ds.take i ++ ds.drop (i + 1)).length = n - 1 := by simp; omega
        have hl2 : (ds.take i ++ ds.drop (i + 1) ++ List.replicate 1 zr).length = n := by rw [List.length_append, hl1]; simp; omega
        rw [Array.getElem?_toList]
        unfold putCells
        rw [Array.getElem?_mapIdx, Array.getElem?_eq_getElem (by omega), Option.map_some, if_pos ⟨Nat.zero_le _, by simp only [List.size_toArray, hl2]; omega⟩, List.getElem?_map, List.getElem?_eq_getElem (by omega), Option.map_some]
        congr 2
        rw [Nat.sub_zero, getElem!_pos _ j (by simp only [List.size_toArray, hl2]; omega), List.getElem_toArray, List.getElem_append_left (by omega)]
      · rw [if_neg (by omega), eq_comm, List.getElem?_eq_none_iff, List.length_map]
        simp; omega
    · subst hw
      exact ⟨rfl, rfl, rfl, by simp [putRow, mapBlock, Sort.ahead], fun k _ hk => hother k (fun e => hk (by rw [e]))⟩

end Go.Proofs.YtlefhfmckimlaakGreatDoor

namespace Go.Proofs.YtlefhfmckimlaakGreatDoor
open Go.RowKit

/-- all is kept but some blocks; blocks of values stay whatever -/
structure Tch (F : Nat → Prop) (w w' : World) : Prop where
  os : w'.os = w.os
  tape : w'.tape = w.tape
  output : w'.output = w.output
  size : w.heap.size ≤ w'.heap.size
  block : ∀ k, k < w.heap.size → ¬ F k → w'.heap[k]? = w.heap[k]?
  vals : Solid w w'
/-- the blocks behind a call: those from before, or new ones -/
def Grows (w : World) (F F' : Nat → Prop) : Prop := ∀ k, F' k → F k ∨ w.heap.size ≤ k
section
variable {F F' F2 G : Nat → Prop} {a b c w w' : World} {base B : Nat}
theorem Tch.of_below (h : Below w.heap.size w w') : Tch F w w' := ⟨h.os, h.tape, h.output, h.size, fun k hk _ => h.block k hk, Solid.below h⟩
theorem Tch.refl (F : Nat → Prop) (w : World) : Tch F w w := Tch.of_below (Below.refl _ _)
theorem Grows.refl (w : World) (F : Nat → Prop) : Grows w F F := fun _ h => Or.inl h
theorem Grows.trans (h : Grows a F F') (hs : a.heap.size ≤ b.heap.size) (k : Grows b F' F2) : Grows a F F2 := fun i hi => by
  rcases k i hi with g | g
  · exact h i g
  · exact Or.inr (Nat.le_trans hs g)
theorem Tch.trans (h : Tch F a b) (hg : Grows a F F') (k : Tch F' b c) : Tch F a c :=
  ⟨k.os.trans h.os, k.tape.trans h.tape, k.output.trans h.output, Nat.le_trans h.size k.size, fun i hi hF => (k.block i (Nat.lt_of_lt_of_le hi h.size) (fun e => by
    rcases hg i e with g | g
    · exact hF g
    · omega)).trans (h.block i hi hF), h.vals.trans k.vals⟩
theorem Tch.then (h : Tch F a b) (k : Below b.heap.size b c) : Tch F a c := h.trans (Grows.refl _ _) (Tch.of_below k)
theorem Tch.after (h : Below a.heap.size a b) (k : Tch F b c) : Tch F a c := (Tch.of_below h).trans (Grows.refl _ _) k
theorem Tch.mono (h : Tch F w w') (hF : ∀ k, F k → G k) : Tch G w w' := ⟨h.os, h.tape, h.output, h.size, fun k hk hn => h.block k hk (fun e => hn (hF k e)), h.vals⟩
theorem Tch.below (h : Tch F w w') (hF : ∀ k, F k → B ≤ k) (hB : B ≤ w.heap.size) : Below B w w' :=
  ⟨h.os, h.tape, h.output, h.size, fun k hk => h.block k (by omega) (fun e => by have := hF k e; omega)⟩

/-- the blocks of a set, the values and what came in are as they were -/
structure Kept (base : Nat) (F : Nat → Prop) (w w' : World) : Prop where
  block : ∀ k, F k → w'.heap[k]? = w.heap[k]?
  vals : Solid w w'
  below : Below base w w'
theorem Kept.refl (base : Nat) (F : Nat → Prop) (w : World) : Kept base F w w := ⟨fun _ _ => rfl, Solid.refl w, Below.refl _ _⟩
theorem Kept.trans (h : Kept base F a b) (k : Kept base F b c) : Kept base F a c := ⟨fun i hi => (k.block i hi).trans (h.block i hi), h.vals.trans k.vals, h.below.trans k.below⟩
theorem Tch.kept (h : Tch G w w') (hF : ∀ k, F k → k < w.heap.size) (hd : ∀ k, F k → ¬ G k) (hG : ∀ k, G k → base ≤ k) (hB : base ≤ w.heap.size) : Kept base F w w' :=
  ⟨fun k hk => h.block k (hF k hk) (hd k hk), h.vals, h.below hG hB⟩
theorem Kept.of_below (hF : ∀ k, F k → k < w.heap.size) (hB : base ≤ w.heap.size) (h : Below w.heap.size w w') : Kept base F w w' := ⟨fun k hk => h.block k (hF k hk), Solid.below h, h.mono hB⟩

/-- a thing whose blocks are F -/
structure Thing (base : Nat) (F : Nat → Prop) (P : World → Prop) (w : World) : Prop where
  lo : ∀ k, F k → base ≤ k
  hi : ∀ k, F k → k < w.heap.size
  base_le : base ≤ w.heap.size
  all : ∀ w', Kept base F w w' → P w'
variable {P Q : World → Prop}
theorem Thing.here (h : Thing base F P w) : P w := h.all w (Kept.refl _ _ _)
theorem Thing.keep (h : Thing base F P w) (t : Tch G w w') (hd : ∀ k, F k → ¬ G k) (hG : ∀ k, G k → base ≤ k) : Thing base F P w' :=
  ⟨h.lo, fun k hk => Nat.lt_of_lt_of_le (h.hi k hk) t.size, Nat.le_trans h.base_le t.size, fun _ hk => h.all _ ((t.kept h.hi hd hG h.base_le).trans hk)⟩
theorem Thing.quiet (h : Thing base F P w) (hb : Below w.heap.size w w') : Thing base F P w' :=
  ⟨h.lo, fun k hk => Nat.lt_of_lt_of_le (h.hi k hk) hb.size, Nat.le_trans h.base_le hb.size, fun _ hk => h.all _ ((Kept.of_below h.hi h.base_le hb).trans hk)⟩
/-- two sets have no block in common -/
def Off (F G : Nat → Prop) : Prop := ∀ k, F k → ¬ G k
theorem Off.symm (h : Off F G) : Off G F := fun k hk e => h k e hk
theorem Off.grows (h : Off F G) (hG : ∀ k, G k → k < w.heap.size) (hg : Grows w F F') : Off F' G := fun k hk e => by
  rcases hg k hk with g | g
  · exact h k g e
  · have := hG k e; omega
theorem Off.new (hG : ∀ k, G k → k < w.heap.size) (hF : ∀ k, F k → w.heap.size ≤ k) : Off F G := fun k hk e => by have := hG k e; have := hF k hk; omega
end

end Go.Proofs.YtlefhfmckimlaakGreatDoor

set_option linter.unusedVariables false
namespace Go.Proofs.YtlefhfmckimlaakGreatDoor
open Go.RowKit

theorem ownsRow_at {b T k n : Nat} {w w' : World} {v : Value} {xs : List Value} (h : w.ownsRow b T k v n xs) (hk : ∀ g, v.ownBlock = some g → w'.heap[g]? = w.heap[g]?) : w'.ownsRow b T k v n xs := by
  refine ⟨h.1, ?_⟩
  rcases h.2 with h2 | ⟨g, cap, cur, hv, hg, hh, r⟩
  · exact Or.inl h2
  · exact Or.inr ⟨g, cap, cur, hv, hg, (hk g (by rw [hv]; rfl)).trans hh, r⟩
theorem ownsRow_tag {b T k n : Nat} {w : World} {v : Value} {xs : List Value} (h : w.ownsRow b T k v n xs) {g : Nat} (hg : v.ownBlock = some g) : b ≤ g ∧ ∃ c fr, w.heap[g]? = some (.cells c T fr) := by
  rcases h.2 with ⟨hv, _⟩ | ⟨g', cap, cur, hv, hb, hh, r⟩
  · rw [hv] at hg; cases hg
  · rw [hv] at hg
    have : g' = g := by simpa [Value.ownBlock] using hg
    subst this
    exact ⟨hb, _, _, hh⟩
section
variable {T : TypeId} {Q : Value → List M.Val → Prop} {base S : Nat} {w w' : World} {v v' : Value} {L : List (List M.Val)}
theorem Sp.at (h : Sp T Q base w S v L) (hS : w'.heap[S]? = w.heap[S]?) (hv : ∀ g, v.ownBlock = some g → w'.heap[g]? = w.heap[g]?) : Sp T Q base w' S v L := by
  obtain ⟨xs, h1, h2⟩ := h.row
  exact ⟨h.lo, hS.trans h.heap, xs, ownsRow_at h1 hv, h2⟩
/-- a block of another type is none of a space's -/
theorem Sp.other (h : Sp T Q base w S v L) {b : Nat} {c : Array Value} {T' : TypeId} {fr : Nat × Nat} (hb : w.heap[b]? = some (.cells c T' fr)) (h1 : T' ≠ T) (h2 : T' ≠ 32) : b ≠ S ∧ v.ownBlock ≠ some b := by
  refine ⟨fun e => ?_, fun e => ?_⟩
  · subst e
    rw [h.heap] at hb
    exact h1 (tag_eq hb).symm
  · obtain ⟨xs, hx, _⟩ := h.row
    obtain ⟨_, c', fr', hh⟩ := ownsRow_tag hx e
    rw [hb] at hh
    exact h2 (tag_eq hh)
theorem Sp.tch (h : Sp T Q base w S v L) (hT : T ≠ 31) (ht : Touch S v w w') : Tch (fun k => k = S ∨ v.ownBlock = some k) w w' :=
  ⟨ht.os, ht.tape, ht.output, ht.size, fun k hk hn => ht.block k hk (fun e => hn (Or.inl e)) (fun e => hn (Or.inr e)), Sp.solid h hT ht⟩
theorem Near.grows (h : Near w v v') {k : Nat} (hk : v'.ownBlock = some k) : v.ownBlock = some k ∨ w.heap.size ≤ k := by
  rcases h with h | h
  · exact Or.inl (h ▸ hk)
  · exact Or.inr (h k hk)
end

theorem near_app {H g : Nat} {w : World} {u : Value} {n c : Nat} (h : u.ownBlock = some g ∨ g = H) (hw : w.heap.size ≤ H) : Near w u (.slice (some ⟨g, 0, none⟩) n c) := by
  rcases h with h | h
  · exact Or.inl h.symm
  · refine Or.inr fun k hk => ?_
    have : g = k := by simpa [Value.ownBlock] using hk
    omega

end Go.Proofs.YtlefhfmckimlaakGreatDoor
