/-
  What is asked for stays while spaces are written on: arguments and tuples of the call's own alike; two spaces of one type beside each other. For any program.
  What Put and Change of package once do, each as one law of its call.
-/
import Derived.Test.YtlefhfmckimlaakGreatDoorJSpace
import Derived.Test.YtlefhfmckimlaakGreatDoorOnceMath
namespace Go.Proofs.YtlefhfmckimlaakGreatDoor
open Go.RowKit

/-- a tuple that stays whatever is written above base, blocks of values aside -/
def Firm (base : Nat) (w : World) (x : Value) (l : List M.Val) : Prop := ∀ w', Below base w w' → Solid w w' → IsVals w' x l
section
variable {base S O : Nat} {w w0 w1 w2 : World} {x v u v' u' z : Value} {l a : List M.Val} {L K L' K' Z : List (List M.Val)}
theorem Firm.vals (h : Firm base w x l) : IsVals w x l := h w (Below.refl _ _) (Solid.refl _)
theorem Firm.next (h : Firm base w x l) (hb : Below base w w1) (hs : Solid w w1) : Firm base w1 x l := fun w' hb' hs' => h w' (hb.trans hb') (hs.trans hs')
theorem Firm.quiet (h : Firm base w x l) (hb : Below w.heap.size w w1) (hB : base ≤ w.heap.size) : Firm base w1 x l := h.next (hb.mono hB) (Solid.below hb)
theorem Firm.touch (h : Firm base w x l) (hs : Space base w S v L) (ht : Touch S v w w1) : Firm base w1 x l := h.next (Sp.below hs ht (Nat.le_refl _)) (Sp.solid hs (by decide) ht)
theorem Firm.arg (hx : IsVals w0 x l) (hb : Below w0.heap.size w0 w) : Firm w0.heap.size w x l := fun _ h _ => hx.stays (hb.trans h) (Nat.le_refl _)
theorem Firm.own {b : Nat} (h : OwnT b w x l) : Firm base w x l := fun _ _ hs => (h.solid hs).vals
theorem Space.room (h : Space base w S v L) : base ≤ w.heap.size := Nat.le_trans h.lo (Nat.le_of_lt h.cell.2.2)

/-- a tuple written down: its cells in one new block -/
theorem lit_own (w : World) (l : List M.Val) (n : Nat) (cs : Array Value) (hc : cs.toList = flat l) (hl : l.length = n) (hm : n ≤ 5) (ht : ∀ y ∈ l, y.s.size ≤ maxLen) : OwnT w.heap.size (w.alloc (.cells cs 31)) (.slice (some ⟨w.heap.size, 0, none⟩) n n) l := by
  have hz : cs.size = n * 3 := by rw [← Array.length_toList, hc, flat_len, hl]
  refine ⟨⟨flat_len l, Or.inr ⟨w.heap.size, n, cs, by rw [hl], Nat.le_refl _, heap_alloc_new w _, by omega, by unfold maxLen; omega, hz, ?_⟩⟩, ht⟩
  rw [hc, List.take_of_length_le (by rw [flat_len]; exact Nat.le_refl _)]

/-- two spaces of the program -/
structure Pair (base : Nat) (w : World) (S O : Nat) (v u : Value) (L K : List (List M.Val)) : Prop where
  s : Space base w S v L
  o : Space base w O u K
  so : S ≠ O
  ap : Apart v u
  fs : M.Fine L
  fo : M.Fine K
theorem Pair.quiet (h : Pair base w S O v u L K) (hb : Below w.heap.size w w1) : Pair base w1 S O v u L K := ⟨Space.stays h.s hb, Space.stays h.o hb, h.so, h.ap, h.fs, h.fo⟩
theorem Pair.onS (h : Pair base w S O v u L K) (hs : Space base w1 S v' L') (ht : Touch S v w w1) (hn : Near w v v') (hf : M.Fine L') : Pair base w1 S O v' u L' K :=
  ⟨hs, (Sp.touchAt h.o h.s h.so.symm (by decide) (by decide) ht h.ap.symm).mono (fun _ _ ho => ho.solid (Sp.solid h.s (by decide) ht)), h.so, (h.ap.symm.near (fun i hi => (h.o.row.lt i hi).2) hn).symm, hf, h.fo⟩
theorem Pair.onO (h : Pair base w S O v u L K) (hs : Space base w1 O u' K') (ht : Touch O u w w1) (hn : Near w u u') (hf : M.Fine K') : Pair base w1 S O v u' L K' :=
  ⟨(Sp.touchAt h.s h.o h.so (by decide) (by decide) ht h.ap).mono (fun _ _ ho => ho.solid (Sp.solid h.o (by decide) ht)), hs, h.so, h.ap.near (fun i hi => (h.s.row.lt i hi).2) hn, h.fs, hf⟩

/-- behind some calls on both: where their lists lie, what is kept, and what is asked for -/
structure Mv (base : Nat) (w w1 : World) (S O : Nat) (v u v' u' x : Value) (a : List M.Val) (L K : List (List M.Val)) : Prop where
  p : Pair base w1 S O v' u' L K
  t : Touch2 S O v u w w1
  nv : Near w v v'
  nu : Near w u u'
  fx : Firm base w1 x a
theorem Mv.start (h : Pair base w S O v u L K) (hx : Firm base w x a) : Mv base w w S O v u v u x a L K := ⟨h, Touch2.of_below (Below.refl _ _), Near.refl _ _, Near.refl _ _, hx⟩
theorem Mv.quiet (h : Mv base w w1 S O v u v' u' x a L K) (hb : Below w1.heap.size w1 w2) : Mv base w w2 S O v u v' u' x a L K :=
  ⟨h.p.quiet hb, h.t.trans h.nv h.nu (Touch2.of_below hb), h.nv, h.nu, h.fx.quiet hb h.p.s.room⟩
theorem Mv.onS {v2 : Value} (h : Mv base w w1 S O v u v' u' x a L K) (hs : Space base w2 S v2 L') (ht : Touch S v' w1 w2) (hn : Near w1 v' v2) (hf : M.Fine L') : Mv base w w2 S O v u v2 u' x a L' K :=
  ⟨h.p.onS hs ht hn hf, h.t.trans h.nv h.nu (Touch2.left ht), h.nv.trans hn h.t.size, h.nu, h.fx.touch h.p.s ht⟩
theorem Mv.onO {u2 : Value} (h : Mv base w w1 S O v u v' u' x a L K) (hs : Space base w2 O u2 K') (ht : Touch O u' w1 w2) (hn : Near w1 u' u2) (hf : M.Fine K') : Mv base w w2 S O v u v' u2 x a L K' :=
  ⟨h.p.onO hs ht hn hf, h.t.trans h.nv h.nu (Touch2.right ht), h.nv, h.nu.trans hn h.t.size, h.fx.touch h.p.o ht⟩

theorem Sp.off {T : TypeId} {Q : Value → List M.Val → Prop} {o : Array Value} {T' : TypeId} {fr : Nat × Nat} (h : Sp T Q base w S v L) (ho : w.heap[O]? = some (.cells o T' fr)) (hT : T' ≠ 32) : v.ownBlock ≠ some O := fun e => by
  obtain ⟨xs, h1, _⟩ := h.row
  rcases h1.2 with ⟨hv, _⟩ | ⟨g, cap, c2, hv, _, hh, _⟩
  · rw [hv] at e; cases e
  · rw [hv] at e
    have : g = O := by simpa [Value.ownBlock] using e
    subst this
    rw [ho] at hh
    exact hT (tag_eq hh)
/-- a struct of another type stays while two are written -/
theorem Sp.touch2 {T T' : TypeId} {Q Q' Q2 : Value → List M.Val → Prop} {R : Nat} (h : Sp T Q base w R z Z) (hs : Sp T' Q' base w S v L) (ho : Sp T' Q2 base w O u K) (hTT : T ≠ T') (hT : T ≠ 32) (hT' : T' ≠ 32) (ht : Touch2 S O v u w w1) (h1 : Apart z v) (h2 : Apart z u) : Sp T Q base w1 R z Z := by
  have hRS : R ≠ S := Sp.ne h hs hTT
  have hRO : R ≠ O := Sp.ne h ho hTT
  refine ⟨h.lo, (ht.block R (heap_lt h.heap) hRS hRO (Sp.off hs h.heap hT) (Sp.off ho h.heap hT)).trans h.heap, ?_⟩
  obtain ⟨xs, k1, k2⟩ := h.row
  refine ⟨xs, ⟨k1.1, ?_⟩, k2⟩
  rcases k1.2 with k3 | ⟨g, cap, cur, hv, hg, hh, r⟩
  · exact Or.inl k3
  · refine Or.inr ⟨g, cap, cur, hv, hg, ?_, r⟩
    rw [ht.block g (heap_lt hh) (fun e => ?_) (fun e => ?_) (h1 g (by rw [hv]; rfl)) (h2 g (by rw [hv]; rfl))]
    · exact hh
    · subst e; have := hs.heap; rw [hh] at this; exact hT' (tag_eq this).symm
    · subst e; have := ho.heap; rw [hh] at this; exact hT' (tag_eq this).symm
theorem Pair.below (h : Pair base w S O v u L K) (ht : Touch2 S O v u w w1) : Below base w w1 :=
  ht.below h.s.lo h.o.lo (fun k hk => (h.s.row.lt k hk).1) (fun k hk => (h.o.row.lt k hk).1) h.s.room
end

end Go.Proofs.YtlefhfmckimlaakGreatDoor

namespace Go.Proofs.YtlefhfmckimlaakGreatDoor
open Go.RowKit

section
variable (base S : Nat) (v x t : Value) (a l : List M.Val) (L : List (List M.Val)) (w : World)
theorem oput_like (hs : Space base w S v L) (hL : M.Fine L) (hx : IsVals w x a) (ha : M.likeF a ≠ 0) :
    Calls Tryz.prog 143 #[.pointer (some ⟨S, 0, none⟩), x, t] w fun e w' => e = .returned (.tuple #[.bool false, errV (M.likeF a)]) ∧ Below w.heap.size w w' := by
  have hC := count base S v x a L w hs hL hx
  rw [errV_bad ha] at hC ⊢
  have HC := hide hC
  clear hC hs hL hx ha
  generalize M.likeF a = c at *
  generalize M.cnt a L = n at *
  go_enter Tryz.func143, Tryz.ntmps143
  go_wp2_with fail
  refine (unhide HC).mono ?_
  rintro e w1 ⟨rfl, hb1⟩
  go_wp2_with fail
  go_ret2
  exact ⟨rfl, hb1⟩

theorem count_ok (hs : Space base w S v L) (hL : M.Fine L) (hx : IsVals w x a) (ha : M.likeF a = 0) :
    Calls Tryz.prog 145 #[.pointer (some ⟨S, 0, none⟩), x] w fun e w' => e = .returned (.tuple #[.int .i64 (M.many a L), .nilIface]) ∧ Below w.heap.size w w' := by
  have := count base S v x a L w hs hL hx
  unfold M.cnt at this
  rwa [if_pos ha, ha] at this

theorem oput_tup (hs : Space base w S v L) (hL : M.Fine L) (hx : IsVals w x a) (ht : IsVals w t l) (ha : M.likeF a = 0) (hf : M.tupF l ≠ 0) :
    Calls Tryz.prog 143 #[.pointer (some ⟨S, 0, none⟩), x, t] w fun e w' => e = .returned (.tuple #[.bool false, errV (M.tupF l)]) ∧ Below w.heap.size w w' := by
  have HC := hide (count_ok base S v x a L w hs hL hx ha)
  have HK : Hid (∀ w1, Below w.heap.size w w1 → Calls Tryz.prog 92 #[t] w1 fun e w' => e = .returned (.iface 87 (.int .i64 (M.tupF l))) ∧ Below w1.heap.size w1 w') := hide fun w1 hb => by rw [← errV_bad hf]; exact tcheck t l w1 (ht.stays hb (Nat.le_refl _))
  rw [errV_bad hf]
  clear hs hL hx ha ht hf
  generalize M.tupF l = c at *
  generalize M.many a L = n at *
  go_enter Tryz.func143, Tryz.ntmps143
  go_wp2_with fail
  refine (unhide HC).mono ?_
  rintro e w1 ⟨rfl, hb1⟩
  have HB1 := hide hb1
  clear hb1
  go_wp2_with fail
  refine (unhide HK _ HB1.out).mono ?_
  rintro e w2 ⟨rfl, hb2⟩
  go_wp2_with fail
  go_ret2
  exact ⟨rfl, HB1.out.trans (hb2.mono HB1.out.size)⟩

theorem oput_fit (hs : Space base w S v L) (hL : M.Fine L) (hx : IsVals w x a) (ht : IsVals w t l) (ha : M.likeF a = 0) (hf : M.tupF l = 0) (hm : M.many a L ≠ 0) :
    Calls Tryz.prog 143 #[.pointer (some ⟨S, 0, none⟩), x, t] w fun e w' => e = .returned (.tuple #[.bool false, .nilIface]) ∧ Below w.heap.size w w' := by
  have HC := hide (count_ok base S v x a L w hs hL hx ha)
  have HK : Hid (∀ w1, Below w.heap.size w w1 → Calls Tryz.prog 92 #[t] w1 fun e w' => e = .returned .nilIface ∧ Below w1.heap.size w1 w') := hide fun w1 hb => by have := tcheck t l w1 (ht.stays hb (Nat.le_refl _)); rwa [hf] at this
  clear hs hL hx ha ht hf
  generalize M.many a L = n at *
  have h0 : (0 : Int) < (n : Int) := by omega
  go_enter Tryz.func143, Tryz.ntmps143
  go_wp2_with fail
  refine (unhide HC).mono ?_
  rintro e w1 ⟨rfl, hb1⟩
  have HB1 := hide hb1
  clear hb1
  go_wp2_with fail
  refine (unhide HK _ HB1.out).mono ?_
  rintro e w2 ⟨rfl, hb2⟩
  go_wp2_with fail
  go_ret2
  exact ⟨rfl, HB1.out.trans (hb2.mono HB1.out.size)⟩

theorem oput_full (hs : Space base w S v L) (hL : M.Fine L) (hx : IsVals w x a) (ht : IsVals w t l) (ha : M.likeF a = 0) (hf : M.tupF l = 0) (hm : M.many a L = 0) (hp : M.putF L l ≠ 0) :
    Calls Tryz.prog 143 #[.pointer (some ⟨S, 0, none⟩), x, t] w fun e w' => e = .returned (.tuple #[.bool false, errV (M.putF L l)]) ∧ ∃ v', Space base w' S v' L ∧ Touch S v w w' ∧ Near w v v' := by
  have hC := count_ok base S v x a L w hs hL hx ha
  rw [hm] at hC
  have HC := hide hC
  have HK : Hid (∀ w1, Below w.heap.size w w1 → Calls Tryz.prog 92 #[t] w1 fun e w' => e = .returned .nilIface ∧ Below w1.heap.size w1 w') := hide fun w1 hb => by have := tcheck t l w1 (ht.stays hb (Nat.le_refl _)); rwa [hf] at this
  have HP : Hid (∀ w1, Below w.heap.size w w1 → Calls Tryz.prog 53 #[.pointer (some ⟨S, 0, none⟩), t] w1 fun e w' => e = .returned (.iface 87 (.int .i64 (M.putF L l))) ∧ ∃ v', Space base w' S v' L ∧ Touch S v w1 w' ∧ Near w1 v v') := hide fun w1 hb => by
    have := put base S v t l L w1 (Space.stays hs hb) (ht.stays hb (Nat.le_refl _))
    rwa [errV_bad hp, putL_no hp] at this
  rw [errV_bad hp]
  clear hs hL hx ha ht hf hC hm hp
  generalize M.putF L l = c at *
  go_enter Tryz.func143, Tryz.ntmps143
  go_wp2_with fail
  refine (unhide HC).mono ?_
  rintro e w1 ⟨rfl, hb1⟩
  have HB1 := hide hb1
  clear hb1
  go_wp2_with fail
  refine (unhide HK _ HB1.out).mono ?_
  rintro e w2 ⟨rfl, hb2⟩
  have HB2 := hide (HB1.out.trans (hb2.mono HB1.out.size))
  clear hb2
  go_wp2_with fail
  refine (unhide HP _ HB2.out).mono ?_
  rintro e w3 ⟨rfl, v', h1, h2, h3⟩
  have H1 := hide h1
  have H2 := hide (h2.after HB2.out)
  have H3 := hide (h3.mono HB2.out.size)
  clear h1 h2 h3
  go_wp2_with fail
  go_ret2
  exact ⟨rfl, v', H1.out, H2.out, H3.out⟩

theorem oput_put (hs : Space base w S v L) (hL : M.Fine L) (hx : IsVals w x a) (ht : IsVals w t l) (ha : M.likeF a = 0) (hf : M.tupF l = 0) (hm : M.many a L = 0) (hp : M.putF L l = 0) :
    Calls Tryz.prog 143 #[.pointer (some ⟨S, 0, none⟩), x, t] w fun e w' => e = .returned (.tuple #[.bool true, .nilIface]) ∧ ∃ v', Space base w' S v' (L ++ [l]) ∧ Touch S v w w' ∧ Near w v v' := by
  have hC := count_ok base S v x a L w hs hL hx ha
  rw [hm] at hC
  have HC := hide hC
  have HK : Hid (∀ w1, Below w.heap.size w w1 → Calls Tryz.prog 92 #[t] w1 fun e w' => e = .returned .nilIface ∧ Below w1.heap.size w1 w') := hide fun w1 hb => by have := tcheck t l w1 (ht.stays hb (Nat.le_refl _)); rwa [hf] at this
  have HP : Hid (∀ w1, Below w.heap.size w w1 → Calls Tryz.prog 53 #[.pointer (some ⟨S, 0, none⟩), t] w1 fun e w' => e = .returned .nilIface ∧ ∃ v', Space base w' S v' (L ++ [l]) ∧ Touch S v w1 w' ∧ Near w1 v v') := hide fun w1 hb => by
    have := put base S v t l L w1 (Space.stays hs hb) (ht.stays hb (Nat.le_refl _))
    rwa [putL_yes hp, hp] at this
  clear hs hL hx ha ht hf hC hm hp
  go_enter Tryz.func143, Tryz.ntmps143
  go_wp2_with fail
  refine (unhide HC).mono ?_
  rintro e w1 ⟨rfl, hb1⟩
  have HB1 := hide hb1
  clear hb1
  go_wp2_with fail
  refine (unhide HK _ HB1.out).mono ?_
  rintro e w2 ⟨rfl, hb2⟩
  have HB2 := hide (HB1.out.trans (hb2.mono HB1.out.size))
  clear hb2
  go_wp2_with fail
  refine (unhide HP _ HB2.out).mono ?_
  rintro e w3 ⟨rfl, v', h1, h2, h3⟩
  have H1 := hide h1
  have H2 := hide (h2.after HB2.out)
  have H3 := hide (h3.mono HB2.out.size)
  clear h1 h2 h3
  go_wp2_with fail
  go_ret2
  exact ⟨rfl, v', H1.out, H2.out, H3.out⟩

theorem oput (hs : Space base w S v L) (hL : M.Fine L) (hx : IsVals w x a) (ht : IsVals w t l) :
    Calls Tryz.prog 143 #[.pointer (some ⟨S, 0, none⟩), x, t] w fun e w' => e = .returned (.tuple #[.bool (M.onceB a L l), errV (M.onceF a L l)]) ∧ ∃ v', Space base w' S v' (M.onceL a L l) ∧ Touch S v w w' ∧ Near w v v' := by
  have still : ∀ {w' : World}, Below w.heap.size w w' → ∃ v', Space base w' S v' L ∧ Touch S v w w' ∧ Near w v v' := fun h => ⟨v, hs.stays h, Touch.of_below h, Near.refl _ _⟩
  by_cases ha : M.likeF a = 0
  · by_cases hf : M.tupF l = 0
    · by_cases hm : M.many a L = 0
      · by_cases hp : M.putF L l = 0
        · obtain ⟨e1, e2, e3⟩ := once_put ha hf hm hp
          rw [e1, e2, e3]
          exact oput_put base S v x t a l L w hs hL hx ht ha hf hm hp
        · obtain ⟨e1, e2, e3⟩ := once_full ha hf hm hp
          rw [e1, e2, e3]
          exact oput_full base S v x t a l L w hs hL hx ht ha hf hm hp
      · obtain ⟨e1, e2, e3⟩ := once_fit ha hf hm
        rw [e1, e2, e3]
        exact (oput_fit base S v x t a l L w hs hL hx ht ha hf hm).mono fun _ _ h => ⟨h.1, still h.2⟩
    · obtain ⟨e1, e2, e3⟩ := once_tup (L := L) ha hf
      rw [e1, e2, e3]
      exact (oput_tup base S v x t a l L w hs hL hx ht ha hf).mono fun _ _ h => ⟨h.1, still h.2⟩
  · obtain ⟨e1, e2, e3⟩ := once_like (L := L) (t := l) ha
    rw [e1, e2, e3]
    exact (oput_like base S v x t a L w hs hL hx ha).mono fun _ _ h => ⟨h.1, still h.2⟩

end

end Go.Proofs.YtlefhfmckimlaakGreatDoor
