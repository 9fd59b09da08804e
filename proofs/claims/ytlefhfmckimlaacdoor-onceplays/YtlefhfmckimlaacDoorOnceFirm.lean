/-
  What is asked for stays while spaces are written on: arguments and tuples of the call's own alike; two spaces of one type beside each other. For any program.
-/
import Derived.Test.YtlefhfmckimlaacDoorSpMore
import Derived.Test.YtlefhfmckimlaacDoorOnceMath
namespace Go.Proofs.YtlefhfmckimlaacDoor
open Go.RowKit

/-- a tuple that stays whatever is written above base, blocks of values aside -/
def Firm (base : Nat) (w : World) (x : Value) (l : List M.Val) : Prop := ∀ w', Below base w w' → Solid w w' → IsVals w' x l
section
variable {base S O : Nat} {w w0 w1 w2 : World} {x v u v' u' z : Value} {l a : List M.Val} {L K L' K' Z : List (List M.Val)}
theorem Firm.vals (h : Firm base w x l) : IsVals w x l := h w (Below.refl _ _) (Solid.refl _)
theorem Firm.next (h : Firm base w x l) (hb : Below base w w1) (hs : Solid w w1) : Firm base w1 x l := fun w' hb' hs' => h w' (hb.trans hb') (hs.trans hs')
theorem Firm.quiet (h : Firm base w x l) (hb : Below w.heap.size w w1) (hB : base ≤ w.heap.size) : Firm base w1 x l := h.next (hb.mono hB) (Solid.below hb)
theorem Firm.touch (h : Firm base w x l) (hs : Space base w S v L) (ht : Touch S v w w1) : Firm base w1 x l := h.next (Sp.below hs ht (Nat.le_refl _)) (Sp.solid hs (by decide) ht)
theorem Firm.arg (hx : IsVals w0 x l) (hb : Below w0.heap.size w0 w) : Firm w0.heap.size w x l := fun _ h _ => hx.stays (hb.trans h) (Nat.le_refl _)
theorem Firm.own {b : Nat} (h : OwnT b w x l) : Firm base w x l := fun _ _ hs => (h.solid hs).vals
theorem Space.room (h : Space base w S v L) : base ≤ w.heap.size := Nat.le_trans h.lo (Nat.le_of_lt h.cell.2.2)

/-- a tuple written down: its cells in one new block -/
theorem lit_own (w : World) (l : List M.Val) (n : Nat) (cs : Array Value) (hc : cs.toList = flat l) (hl : l.length = n) (hm : n ≤ 5) (ht : ∀ y ∈ l, y.s.size ≤ maxLen) : OwnT w.heap.size (w.alloc (.cells cs 50)) (.slice (some ⟨w.heap.size, 0, none⟩) n n) l := by
  have hz : cs.size = n * 3 := by rw [← Array.length_toList, hc, flat_len, hl]
  refine ⟨⟨flat_len l, Or.inr ⟨w.heap.size, n, cs, by rw [hl], Nat.le_refl _, heap_alloc_new w _, by omega, by unfold maxLen; omega, hz, ?_⟩⟩, ht⟩
  rw [hc, List.take_of_length_le (by rw [flat_len]; exact Nat.le_refl _)]

/-- two spaces of the program -/
structure Pair (base : Nat) (w : World) (S O : Nat) (v u : Value) (L K : List (List M.Val)) : Prop where
  s : Space base w S v L
  o : Space base w O u K
  so : S ≠ O
  ap : Apart v u
  fs : M.Fine L
  fo : M.Fine K
theorem Pair.quiet (h : Pair base w S O v u L K) (hb : Below w.heap.size w w1) : Pair base w1 S O v u L K := ⟨Space.stays h.s hb, Space.stays h.o hb, h.so, h.ap, h.fs, h.fo⟩
theorem Pair.onS (h : Pair base w S O v u L K) (hs : Space base w1 S v' L') (ht : Touch S v w w1) (hn : Near w v v') (hf : M.Fine L') : Pair base w1 S O v' u L' K :=
  ⟨hs, (Sp.touchAt h.o h.s h.so.symm (by decide) (by decide) ht h.ap.symm).mono (fun _ _ ho => ho.solid (Sp.solid h.s (by decide) ht)), h.so, (h.ap.symm.near (fun i hi => (h.o.row.lt i hi).2) hn).symm, hf, h.fo⟩
theorem Pair.onO (h : Pair base w S O v u L K) (hs : Space base w1 O u' K') (ht : Touch O u w w1) (hn : Near w u u') (hf : M.Fine K') : Pair base w1 S O v u' L K' :=
  ⟨(Sp.touchAt h.s h.o h.so (by decide) (by decide) ht h.ap).mono (fun _ _ ho => ho.solid (Sp.solid h.o (by decide) ht)), hs, h.so, h.ap.near (fun i hi => (h.s.row.lt i hi).2) hn, h.fs, hf⟩

/-- behind some calls on both: where their lists lie, what is kept, and what is asked for -/
structure Mv (base : Nat) (w w1 : World) (S O : Nat) (v u v' u' x : Value) (a : List M.Val) (L K : List (List M.Val)) : Prop where
  p : Pair base w1 S O v' u' L K
  t : Touch2 S O v u w w1
  nv : Near w v v'
  nu : Near w u u'
  fx : Firm base w1 x a
theorem Mv.start (h : Pair base w S O v u L K) (hx : Firm base w x a) : Mv base w w S O v u v u x a L K := ⟨h, Touch2.of_below (Below.refl _ _), Near.refl _ _, Near.refl _ _, hx⟩
theorem Mv.quiet (h : Mv base w w1 S O v u v' u' x a L K) (hb : Below w1.heap.size w1 w2) : Mv base w w2 S O v u v' u' x a L K :=
  ⟨h.p.quiet hb, h.t.trans h.nv h.nu (Touch2.of_below hb), h.nv, h.nu, h.fx.quiet hb h.p.s.room⟩
theorem Mv.onS {v2 : Value} (h : Mv base w w1 S O v u v' u' x a L K) (hs : Space base w2 S v2 L') (ht : Touch S v' w1 w2) (hn : Near w1 v' v2) (hf : M.Fine L') : Mv base w w2 S O v u v2 u' x a L' K :=
  ⟨h.p.onS hs ht hn hf, h.t.trans h.nv h.nu (Touch2.left ht), h.nv.trans hn h.t.size, h.nu, h.fx.touch h.p.s ht⟩
theorem Mv.onO {u2 : Value} (h : Mv base w w1 S O v u v' u' x a L K) (hs : Space base w2 O u2 K') (ht : Touch O u' w1 w2) (hn : Near w1 u' u2) (hf : M.Fine K') : Mv base w w2 S O v u v' u2 x a L K' :=
  ⟨h.p.onO hs ht hn hf, h.t.trans h.nv h.nu (Touch2.right ht), h.nv, h.nu.trans hn h.t.size, h.fx.touch h.p.o ht⟩

theorem Sp.off {T : TypeId} {Q : Value → List M.Val → Prop} {o : Array Value} {T' : TypeId} {fr : Nat × Nat} (h : Sp T Q base w S v L) (ho : w.heap[O]? = some (.cells o T' fr)) (hT : T' ≠ 30) : v.ownBlock ≠ some O := fun e => by
  obtain ⟨xs, h1, _⟩ := h.row
  rcases h1.2 with ⟨hv, _⟩ | ⟨g, cap, c2, hv, _, hh, _⟩
  · rw [hv] at e; cases e
  · rw [hv] at e
    have : g = O := by simpa [Value.ownBlock] using e
    subst this
    rw [ho] at hh
    exact hT (tag_eq hh)
/-- a struct of another type stays while two are written -/
theorem Sp.touch2 {T T' : TypeId} {Q Q' Q2 : Value → List M.Val → Prop} {R : Nat} (h : Sp T Q base w R z Z) (hs : Sp T' Q' base w S v L) (ho : Sp T' Q2 base w O u K) (hTT : T ≠ T') (hT : T ≠ 30) (hT' : T' ≠ 30) (ht : Touch2 S O v u w w1) (h1 : Apart z v) (h2 : Apart z u) : Sp T Q base w1 R z Z := by
  have hRS : R ≠ S := Sp.ne h hs hTT
  have hRO : R ≠ O := Sp.ne h ho hTT
  refine ⟨h.lo, (ht.block R (heap_lt h.heap) hRS hRO (Sp.off hs h.heap hT) (Sp.off ho h.heap hT)).trans h.heap, ?_⟩
  obtain ⟨xs, k1, k2⟩ := h.row
  refine ⟨xs, ⟨k1.1, ?_⟩, k2⟩
  rcases k1.2 with k3 | ⟨g, cap, cur, hv, hg, hh, r⟩
  · exact Or.inl k3
  · refine Or.inr ⟨g, cap, cur, hv, hg, ?_, r⟩
    rw [ht.block g (heap_lt hh) (fun e => ?_) (fun e => ?_) (h1 g (by rw [hv]; rfl)) (h2 g (by rw [hv]; rfl))]
    · exact hh
    · subst e; have := hs.heap; rw [hh] at this; exact hT' (tag_eq this).symm
    · subst e; have := ho.heap; rw [hh] at this; exact hT' (tag_eq this).symm
theorem Pair.below (h : Pair base w S O v u L K) (ht : Touch2 S O v u w w1) : Below base w w1 :=
  ht.below h.s.lo h.o.lo (fun k hk => (h.s.row.lt k hk).1) (fun k hk => (h.o.row.lt k hk).1) h.s.room
end

end Go.Proofs.YtlefhfmckimlaacDoor
