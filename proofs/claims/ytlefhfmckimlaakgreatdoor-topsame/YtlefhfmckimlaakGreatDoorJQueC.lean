/-
  A queue in memory of a call's own: a struct of a list of what is asked and a map of the last number of each; what a call on it leaves as it was. For any program.
  What New, Next and Count of package queue do, each as one law of its call.
  What Push of package queue does, as one law of its call.
  What the library's slices.Delete does with the first one of a row of the call's own, whatever its elements' cells: as one law of its call.
  What Pop of package queue does, as one law of its call.
  Push of package queue, whatever comes in, as one law of its call.
-/
import Derived.Test.YtlefhfmckimlaakGreatDoorJSpace
import Derived.Test.YtlefhfmckimlaakGreatDoorJQue
import Derived.Test.YtlefhfmckimlaakGreatDoorWin
import Derived.BigQuiet
import Derived.Deep.QuietTactic
import Derived.Deep.RegionHeld3
import Derived.Deep.RegionLaw
import Derived.Deep.DrawnRows
import Derived.Deep.Draws
import Derived.WalkSmall
set_option linter.unusedVariables false
namespace Go.Proofs.YtlefhfmckimlaakGreatDoor
open Go.RowKit Go.WideMaps Go.Maps

/-- one that waits: what is asked, and where its tuple lies -/
structure QEnt where
  a : M.Ask
  x : Option Addr
  n : Nat
  c : Nat
abbrev QEnt.v (e : QEnt) : Value := .slice e.x e.n e.c
/-- the cells of some, in a row -/
def cellsQ : List QEnt → List Value
  | [] => []
  | e :: l => .int .i64 e.a.who :: .int .i64 e.a.seq :: .int .i64 e.a.deed :: .slice e.x e.n e.c :: cellsQ l
theorem cellsQ_len : ∀ l : List QEnt, (cellsQ l).length = l.length * 4
  | [] => rfl
  | v :: l => by simp only [cellsQ, List.length_cons, cellsQ_len l]; omega
theorem cellsQ_append : ∀ a b : List QEnt, cellsQ (a ++ b) = cellsQ a ++ cellsQ b
  | [], b => rfl
  | v :: a, b => by simp only [List.cons_append, cellsQ, cellsQ_append a b]
theorem cellsQ_at : ∀ (l : List QEnt) (i : Nat) (h : i < l.length), (cellsQ l)[i * 4]? = some (.int .i64 l[i].a.who) ∧ (cellsQ l)[i * 4 + 1]? = some (.int .i64 l[i].a.seq) ∧ (cellsQ l)[i * 4 + 2]? = some (.int .i64 l[i].a.deed) ∧ (cellsQ l)[i * 4 + 3]? = some (.slice l[i].x l[i].n l[i].c)
  | [], i, h => by simp at h
  | v :: l, 0, _ => by simp [cellsQ]
  | v :: l, i + 1, h => by
    have ih := cellsQ_at l i (by simpa using h)
    have e : (i + 1) * 4 = i * 4 + 4 := by omega
    rw [e]
    simpa [cellsQ] using ih
theorem cellsQ_tail (e : QEnt) (l : List QEnt) : (cellsQ (e :: l)).drop 4 = cellsQ l := rfl

/-- what is kept but for a queue's struct, its list's row, and its map -/
structure TouchQ (S B : Nat) (v : Value) (w w' : World) : Prop where
  os : w'.os = w.os
  tape : w'.tape = w.tape
  output : w'.output = w.output
  size : w.heap.size ≤ w'.heap.size
  block : ∀ k, k < w.heap.size → k ≠ S → k ≠ B → v.ownBlock ≠ some k → w'.heap[k]? = w.heap[k]?
theorem TouchQ.of_below {S B : Nat} {v : Value} {w w' : World} (h : Below w.heap.size w w') : TouchQ S B v w w' := ⟨h.os, h.tape, h.output, h.size, fun k hk _ _ _ => h.block k hk⟩
theorem TouchQ.after {S B : Nat} {v : Value} {a b c : World} (h : Below a.heap.size a b) (k : TouchQ S B v b c) : TouchQ S B v a c :=
  ⟨k.os.trans h.os, k.tape.trans h.tape, k.output.trans h.output, Nat.le_trans h.size k.size, fun i hi h1 h2 h3 => (k.block i (Nat.lt_of_lt_of_le hi h.size) h1 h2 h3).trans (h.block i hi)⟩
theorem TouchQ.trans {S B : Nat} {v v' : Value} {a b c : World} (h : TouchQ S B v a b) (hn : Near a v v') (k : TouchQ S B v' b c) : TouchQ S B v a c :=
  ⟨k.os.trans h.os, k.tape.trans h.tape, k.output.trans h.output, Nat.le_trans h.size k.size, fun i hi h1 h2 h3 => (k.block i (Nat.lt_of_lt_of_le hi h.size) h1 h2 (fun e => by
    rcases hn with hn | hn
    · rw [hn] at e; exact h3 e
    · have := hn i e; omega)).trans (h.block i hi h1 h2 h3)⟩

/-- a queue: its list, and the last number of each -/
structure Qs (base : Nat) (w : World) (S B : Nat) (v : Value) (E : List QEnt) (n : Nat) (f : Int → Int) : Prop where
  lo : base ≤ S
  lob : base ≤ B
  heap : w.heap[S]? = some (.cells #[v, .map (some B)] 115 (0, 0))
  row : winRow w base 38 4 v E.length (cellsQ E)
  own : ∀ x ∈ E, OwnT base w x.v x.a.t
  map : ∃ D, w.ownsMap Tryz.prog 3 (plainElem (H := Unit) Tryz.prog 3) B n D ∧ Lasts D f

section
variable {base S B : Nat} {w w' : World} {v : Value} {E : List QEnt} {n : Nat} {f : Int → Int}

theorem ownsMap_below {k : TypeId} {R : Value → Option (DataW Unit × List MemPlace)} {b m : Nat} {D : DataW Unit} (h : w.ownsMap Tryz.prog k R b m D) (hb : Below w.heap.size w w') : w'.ownsMap Tryz.prog k R b m D :=
  h.kept (row := none) ⟨hb.os, hb.tape, hb.output, hb.size, fun i hi _ => hb.block i hi⟩ (by simp)
theorem Qs.below (h : Qs base w S B v E n f) (hb : Below w.heap.size w w') : Qs base w' S B v E n f := by
  obtain ⟨D, hD, hf⟩ := h.map
  exact ⟨h.lo, h.lob, (hb.block S (heap_lt h.heap)).trans h.heap, h.row.below hb, fun x hx => (h.own x hx).solid (Solid.below hb), D, ownsMap_below hD hb, hf⟩
theorem Qs.lt (h : Qs base w S B v E n f) : S < w.heap.size := heap_lt h.heap
theorem Qs.ltB (h : Qs base w S B v E n f) : B < w.heap.size := by
  obtain ⟨D, hD, _⟩ := h.map
  exact hD.lt
theorem Qs.base_le (h : Qs base w S B v E n f) : base ≤ w.heap.size := Nat.le_trans h.lo (Nat.le_of_lt h.lt)
theorem Qs.c0 (h : Qs base w S B v E n f) : w.cell? ⟨S, 0, none⟩ = some v := by rw [cell_of_row w S 0 _ _ (0, 0) h.heap]; rfl
theorem Qs.c1 (h : Qs base w S B v E n f) : w.cell? ⟨S, 1, none⟩ = some (.map (some B)) := by rw [cell_of_row w S 1 _ _ (0, 0) h.heap]; rfl
theorem Qs.fz (h : Qs base w S B v E n f) (j : Nat) : w.frozen? ⟨S, j, none⟩ = false := frozen_of_row w S j _ _ h.heap
theorem Qs.shape (h : Qs base w S B v E n f) : ∃ ao cap, v = .slice ao E.length cap := h.row.shape
theorem Qs.mapHeap (h : Qs base w S B v E n f) : ∃ es c, w.heap[B]? = some (.map es c) := by
  obtain ⟨D, ⟨es, c, hb, _⟩, _⟩ := h.map
  exact ⟨es, c, hb⟩
theorem Qs.ne (h : Qs base w S B v E n f) : S ≠ B := fun e => by
  obtain ⟨es, c, hb⟩ := h.mapHeap
  rw [← e, h.heap] at hb
  cases hb
theorem Qs.row_ne (h : Qs base w S B v E n f) : v.ownBlock ≠ some S := h.row.tag (by decide) h.heap
theorem Qs.row_neB (h : Qs base w S B v E n f) : v.ownBlock ≠ some B := by
  obtain ⟨es, c, hb⟩ := h.mapHeap
  exact h.row.map hb
/-- every block of another type stays while a queue is written -/
theorem Qs.keeps (h : Qs base w S B v E n f) (ht : TouchQ S B v w w') {T : TypeId} (h1 : T ≠ 115) (h2 : T ≠ 38) {b : Nat} {c : Array Value} {fr : Nat × Nat} (hb : w.heap[b]? = some (.cells c T fr)) : w'.heap[b]? = some (.cells c T fr) := by
  rw [ht.block b (heap_lt hb) (fun e => ?_) (fun e => ?_) (h.row.tag h2.symm hb)]
  · exact hb
  · subst e
    rw [h.heap] at hb
    exact h1 (tag_eq hb).symm
  · subst e
    obtain ⟨es, c', hm⟩ := h.mapHeap
    rw [hm] at hb
    cases hb
theorem Qs.solid (h : Qs base w S B v E n f) (ht : TouchQ S B v w w') : Solid w w' := fun _ _ _ hb => h.keeps ht (by decide) (by decide) hb
theorem Qs.keepsRow (h : Qs base w S B v E n f) (ht : TouchQ S B v w w') {T : TypeId} (h1 : T ≠ 115) (h2 : T ≠ 38) {b2 k m : Nat} {u : Value} {xs : List Value} (hr : w.ownsRow b2 T k u m xs) : w'.ownsRow b2 T k u m xs := by
  refine ⟨hr.1, ?_⟩
  rcases hr.2 with h3 | ⟨g, cap, cur, hv, hg, hh, r⟩
  · exact Or.inl h3
  · exact Or.inr ⟨g, cap, cur, hv, hg, h.keeps ht h1 h2 hh, r⟩
/-- another row of what is asked stays, if it lies elsewhere -/
theorem Qs.keepsAsks (h : Qs base w S B v E n f) (ht : TouchQ S B v w w') {b2 k m : Nat} {u : Value} {xs : List Value} (hr : winRow w b2 38 k u m xs) (ha : Apart u v) : winRow w' b2 38 k u m xs := by
  refine ⟨hr.1, ?_⟩
  rcases hr.2 with h3 | ⟨g, o, cap, cur, hv, hg, hh, r⟩
  · exact Or.inl h3
  · refine Or.inr ⟨g, o, cap, cur, hv, hg, ?_, r⟩
    rw [ht.block g (heap_lt hh) (fun e => ?_) (fun e => ?_) (ha g (by rw [hv]; rfl))]
    · exact hh
    · subst e
      rw [h.heap] at hh
      exact absurd (tag_eq hh) (by decide)
    · subst e
      obtain ⟨es, c', hm⟩ := h.mapHeap
      rw [hm] at hh
      cases hh
theorem Qs.touchBelow (h : Qs base w S B v E n f) (ht : TouchQ S B v w w') {b : Nat} (hB : b ≤ base) : Below b w w' :=
  ⟨ht.os, ht.tape, ht.output, ht.size, fun k hk => by
    have h1 := h.lo
    have h2 := h.lob
    have h3 := h.base_le
    exact ht.block k (by omega) (by omega) (by omega) (fun e => by have := (h.row.lt k e).1; omega)⟩
/-- behind a writing of the row, and the store of what came of it -/
theorem Qs.stored {w3 : World} {v' : Value} {E' : List QEnt} (h : Qs base w S B v E n f) (hg : w.grownBy w3 v.ownBlock) (hr : winRow w3 base 38 4 v' E'.length (cellsQ E')) (ho : ∀ x ∈ E', OwnT base w x.v x.a.t) (hn : Near w v v') :
    Qs base (w3.setCell ⟨S, 0, none⟩ v') S B v' E' n f ∧ TouchQ S B v w (w3.setCell ⟨S, 0, none⟩ v') := by
  have hne := h.row_ne
  have h3 : w3.heap[S]? = some (.cells #[v, .map (some B)] 115 (0, 0)) := (hg.block S h.lt (fun e => hne e.symm)).trans h.heap
  have hne' : v'.ownBlock ≠ some S := fun e => by
    rcases hn with hn | hn
    · rw [hn] at e; exact hne e
    · have := hn S e; have := h.lt; omega
  have ht : TouchQ S B v w (w3.setCell ⟨S, 0, none⟩ v') := ⟨hg.os, hg.tape, hg.output, by have := hg.size; simpa using this, fun k hk h1 _ h2 => by
    rw [heap_setCell_other w3 ⟨S, 0, none⟩ k v' h1]
    exact hg.block k hk (fun e => h2 e.symm)⟩
  obtain ⟨D, hD, hf⟩ := h.map
  refine ⟨⟨h.lo, h.lob, ?_, ?_, fun y hy => (ho y hy).solid (h.solid ht), D, ?_, hf⟩, ht⟩
  · rw [heap_setCell_same w3 S 0 _ _ _ h3]; rfl
  · exact hr.kept (grownBy_setCell w3 ⟨S, 0, none⟩ v') (fun g hg' e => hne' (by cases e; exact hg'))
  · exact (hD.kept hg (fun e => h.row_neB e.symm)).kept (grownBy_setCell w3 ⟨S, 0, none⟩ v') (fun e => h.ne (by cases e; rfl))
/-- behind a writing of the map -/
theorem Qs.mapped {w3 : World} {D : DataW Unit} {f' : Int → Int} {n' : Nat} (h : Qs base w S B v E n f) (hg : w.grownBy w3 (some B)) (hD : w3.ownsMap Tryz.prog 3 (plainElem (H := Unit) Tryz.prog 3) B n' D) (hf : Lasts D f') : Qs base w3 S B v E n' f' ∧ TouchQ S B v w w3 := by
  have ht : TouchQ S B v w w3 := ⟨hg.os, hg.tape, hg.output, hg.size, fun k hk _ h1 _ => hg.block k hk (fun e => h1 (by cases e; rfl))⟩
  exact ⟨⟨h.lo, h.lob, (hg.block S h.lt (fun e => h.ne (by cases e; rfl))).trans h.heap, h.row.kept hg (fun g hv e => h.row_neB (by cases e; exact hv)), fun x hx => (h.own x hx).solid (h.solid ht), D, hD, hf⟩, ht⟩
/-- a block of what is asked is none of a queue's -/
theorem Qs.boxed (h : Qs base w S B v E n f) {b : Nat} {c : Array Value} {fr : Nat × Nat} (hb : w.heap[b]? = some (.cells c 38 fr)) : b ≠ S ∧ b ≠ B := by
  refine ⟨fun e => ?_, fun e => ?_⟩
  · subst e
    rw [h.heap] at hb
    exact absurd (tag_eq hb) (by decide)
  · subst e
    obtain ⟨es, c', hm⟩ := h.mapHeap
    rw [hm] at hb
    cases hb
end

end Go.Proofs.YtlefhfmckimlaakGreatDoor

set_option linter.unusedVariables false
namespace Go.Proofs.YtlefhfmckimlaakGreatDoor
open Go.RowKit Go.WideMaps Go.Maps

theorem lawI : Keyed Tryz.prog 3 := int_keyed Tryz.underlying3
theorem zeroI (w : World) : (zeroValue 3).run Tryz.prog w = .ok (.int .i64 0) w := by kernel_rfl
theorem keyI_of {k : Int} (h : (Lit.int .i64 k).wf = true) : keyOf Tryz.prog 3 (.int .i64 k) = some (keyI k) := keyOf_int_mk Tryz.underlying3 h
/-- a number's word in the map -/
theorem Qs.look {base S B : Nat} {w : World} {v : Value} {E : List QEnt} {n : Nat} {f : Int → Int} (h : Qs base w S B v E n f) {k : Int} (hk : (Lit.int .i64 k).wf = true) : (Instr.lookup 113 (.map (some B)) (.int .i64 k) false).run Tryz.prog w = .ok (.int .i64 (f k)) w := by
  obtain ⟨D, hD, hf⟩ := h.map
  obtain ⟨c, hr, hat, _⟩ := hD.lookup_int lawI Tryz.underlying113 Tryz.underlying3 (zeroI w) (keyI_of hk)
  rw [hf.said hat] at hr
  exact hr

theorem qnew (w : World) : Calls Tryz.prog 23 #[] w fun e w' => e = .returned (.pointer (some ⟨w.heap.size + 1, 0, none⟩)) ∧ w' = (w.alloc (.map #[] 0)).alloc (.cells #[.slice none 0 0, .map (some w.heap.size)] 115) := by
  have hmm := @run_makeMap Tryz.prog
  go_enter Tryz.func23, Tryz.ntmps23
  go_wp2
  go_ret
  exact ⟨rfl, rfl⟩
theorem Qs.new (w : World) {base : Nat} (hb : base ≤ w.heap.size) : Qs base ((w.alloc (.map #[] 0)).alloc (.cells #[.slice none 0 0, .map (some w.heap.size)] 115)) (w.heap.size + 1) w.heap.size (.slice none 0 0) [] 0 (fun _ => 0) := by
  refine ⟨Nat.le_succ_of_le hb, hb, ?_, winRow_nil _ _ _ _, (fun x hx => by cases hx), .map [], ?_, lasts_none⟩
  · have := heap_alloc_new (w.alloc (.map #[] 0)) (.cells #[.slice none 0 0, .map (some w.heap.size)] 115)
    simpa using this
  · exact (World.ownsMap_made w _ _ _).alloc _

theorem wfI {k : Int} (h1 : -1000001 ≤ k) (h2 : k ≤ 1000001) : (Lit.int .i64 k).wf = true := WalkArith.wf_i64 (by omega)


end Go.Proofs.YtlefhfmckimlaakGreatDoor

set_option linter.unusedVariables false
namespace Go.Proofs.YtlefhfmckimlaakGreatDoor
open Go.RowKit Go.WideMaps Go.Maps
attribute [local go_sem ↓] Go.wp_at_zero Go.wp_at_succ

/-- a store into a map as one step of a region that draws its order -/
theorem step_mapUpdate_own {H : Type} {P : Program} (w : World) {ops : Array Oper} {o : Oper} {a : Act} {K : Act → World → Prop} {Q : Exit → Act → World → Prop} {E : Prop} (hgd : o.guard = none) (m x v : Operand) (t : TypeId) (hop : o.op = Op.mapUpdate t m x v)
    (k e : TypeId) (L : Keyed P k) (ht : P.underlying t = some (.map k e)) (R : Value → Option (DataW H × List MemPlace)) (b n : Nat) (D : DataW H)
    (hm : a.eval m = .map (some b)) (hown : w.ownsMap P k R b n D) (hn : n < maxLen) (key val : Value) (kl : Lit) (hx : a.eval x = key) (hv : a.eval v = val) (hkey : keyOf P k key = some kl)
    (d : DataW H) (ps : List MemPlace) (hval : R val = some (d, ps))
    (hK : ∀ w', w'.ownsMap P k R b (n + 1) (D.put kl d) → w.grownBy w' (some b) → K (a.put o.dst undef) w') :
    if Region.wanted o (yielded ops a.tmps) = true then Oper.wp P o a w K Q else E := by
  have hw : Region.wanted o (yielded ops a.tmps) = true := by simp [Region.wanted, hgd]
  rw [if_pos hw]
  obtain ⟨w', hrun, r1, r2⟩ := hown.update L ht hn hkey hval
  unfold Oper.wp
  simp [execOp, hop, hm, hx, hv, hrun, Result.andThen]
  exact hK w' r1 r2

theorem qpush_bad (S : Nat) (who seq deed : Int) (a : Option Addr) (n c : Nat) (l : List M.Val) (w : World) (hv : IsVals w (.slice a n c) l) (hf : M.askF ⟨who, seq, deed, l⟩ ≠ 0) :
    Calls Tryz.prog 26 #[.pointer (some ⟨S, 0, none⟩), aggA who seq deed a n c] w fun e w' => e = .returned (errV (M.askF ⟨who, seq, deed, l⟩)) ∧ Below w.heap.size w w' := by
  have HB : Hid (∀ o, Below w.heap.size w (w.alloc o)) := hide fun o => (Below.refl _ _).alloc (Nat.le_refl _) o
  have HC : Hid (∀ wx, Below w.heap.size w wx → Calls Tryz.prog 57 #[aggA who seq deed a n c] wx fun e w' => e = .returned (.iface 87 (.int .i64 (M.askF ⟨who, seq, deed, l⟩))) ∧ Below wx.heap.size wx w') := hide fun wx hb => by
    have := qcheck who seq deed a n c l wx (hv.stays hb (Nat.le_refl _))
    rwa [errV_bad hf] at this
  rw [errV_bad hf]
  clear hf hv
  go_enter Tryz.func26, Tryz.ntmps26
  go_wp2_with fail
  refine (HC.out _ (HB.out _)).mono ?_
  rintro e w1 ⟨rfl, hb1⟩
  go_wp2_with fail
  go_ret
  exact ⟨rfl, (HB.out _).trans (hb1.mono (by simp))⟩

theorem infoA : (Tryz.prog.info? 38).map (fun i => (i.zero, i.size, i.bytes)) = some (some (.agg #[.int .i64 0, .int .i64 0, .int .i64 0, .slice none 0 0]), 4, 48) := by kernel_rfl

/-- a push whose number is not the next -/
theorem qpush_late {base S B : Nat} {v : Value} {E : List QEnt} {m : Nat} {f : Int → Int} (who seq deed : Int) (a : Option Addr) (n c : Nat) (l : List M.Val) (w : World) (h : Qs base w S B v E m f) (hv : IsVals w (.slice a n c) l) (hf : M.askF ⟨who, seq, deed, l⟩ = 0) (hfk : 0 ≤ f who ∧ f who ≤ 1000000) (hs : seq ≠ f who + 1) :
    Calls Tryz.prog 26 #[.pointer (some ⟨S, 0, none⟩), aggA who seq deed a n c] w fun e w' => e = .returned (errV (if seq < f who + 1 then 7 else 6)) ∧ Below w.heap.size w w' := by
  have HB : Hid (∀ o, Below w.heap.size w (w.alloc o)) := hide fun o => (Below.refl _ _).alloc (Nat.le_refl _) o
  have HC : Hid (∀ wx, Below w.heap.size w wx → Calls Tryz.prog 57 #[aggA who seq deed a n c] wx fun e w' => e = .returned .nilIface ∧ Below wx.heap.size wx w') := hide fun wx hb => by
    have := qcheck who seq deed a n c l wx (hv.stays hb (Nat.le_refl _))
    rwa [hf] at this
  obtain ⟨hw0, _, _⟩ := M.askF_ok hf
  simp only at hw0
  have HQ : Hid (∀ wx, Below w.heap.size w wx → wx.cell? ⟨S, 1, none⟩ = some (.map (some B)) ∧ S < wx.heap.size ∧ ∀ q, (Instr.lookup 113 (.map (some B)) (.int .i64 who) false).run Tryz.prog (wx.drewN q) = .ok (.int .i64 (f who)) (wx.drewN q)) := hide fun wx hb => by
    have hq := h.below hb
    exact ⟨hq.c1, hq.lt, fun q => (hq.below (Go.below_drewN (Below.refl _ _) q)).look (wfI (by omega) (by omega))⟩
  have HS := hide h.lt
  generalize f who = F at *
  clear hf hv h hw0
  by_cases h1 : seq < F + 1
  all_goals
    first
      | rw [if_pos h1]
      | rw [if_neg h1]
    go_enter Tryz.func26, Tryz.ntmps26
    go_wp2_with fail
    refine (HC.out _ (HB.out _)).mono ?_
    rintro e w1 ⟨rfl, hb1⟩
    obtain ⟨k1, k2, k3⟩ := HQ.out w1 ((HB.out _).trans (hb1.mono (by simp)))
    obtain ⟨hc, _⟩ := bcell hb1
    have b0 : w1.cell? ⟨w.heap.size, 0, none⟩ = some (.int .i64 who) := by rw [hc _ _ (by simp)]; simp [go_sem]
    have b1 : w1.cell? ⟨w.heap.size, 1, none⟩ = some (.int .i64 seq) := by rw [hc _ _ (by simp)]; simp [go_sem]
    have HB1 := hide ((HB.out _).trans (hb1.mono (by simp)))
    clear hc hb1
    obtain ⟨g1, g2⟩ := hfk
    go_wp2_with fail
    go_quiet (fail)
    go_wp2_with fail
    go_ret
    exact ⟨rfl, Go.below_drewN HB1.out _⟩

theorem qpush_full {base S B : Nat} {v : Value} {E : List QEnt} {m : Nat} {f : Int → Int} (who seq deed : Int) (a : Option Addr) (n c : Nat) (l : List M.Val) (w : World) (h : Qs base w S B v E m f) (hv : IsVals w (.slice a n c) l) (hf : M.askF ⟨who, seq, deed, l⟩ = 0) (hfk : 0 ≤ f who ∧ f who ≤ 1000000) (hs : seq = f who + 1) (hn : 30 ≤ E.length) (hn2 : E.length ≤ 30) :
    Calls Tryz.prog 26 #[.pointer (some ⟨S, 0, none⟩), aggA who seq deed a n c] w fun e w' => e = .returned (errV 4) ∧ Below w.heap.size w w' := by
  have HB : Hid (∀ o, Below w.heap.size w (w.alloc o)) := hide fun o => (Below.refl _ _).alloc (Nat.le_refl _) o
  have HC : Hid (∀ wx, Below w.heap.size w wx → Calls Tryz.prog 57 #[aggA who seq deed a n c] wx fun e w' => e = .returned .nilIface ∧ Below wx.heap.size wx w') := hide fun wx hb => by
    have := qcheck who seq deed a n c l wx (hv.stays hb (Nat.le_refl _))
    rwa [hf] at this
  obtain ⟨hw0, _, _⟩ := M.askF_ok hf
  simp only at hw0
  obtain ⟨ao, cap, rfl⟩ := h.shape
  have he : E.length = 30 := by omega
  rw [he] at h
  have HQ : Hid (∀ wx, Below w.heap.size w wx → wx.cell? ⟨S, 0, none⟩ = some (.slice ao 30 cap) ∧ wx.cell? ⟨S, 1, none⟩ = some (.map (some B)) ∧ S < wx.heap.size ∧ ∀ q, (Instr.lookup 113 (.map (some B)) (.int .i64 who) false).run Tryz.prog (wx.drewN q) = .ok (.int .i64 (f who)) (wx.drewN q)) := hide fun wx hb => by
    have hq := h.below hb
    exact ⟨hq.c0, hq.c1, hq.lt, fun q => (hq.below (Go.below_drewN (Below.refl _ _) q)).look (wfI (by omega) (by omega))⟩
  have HS := hide h.lt
  generalize f who = F at *
  subst hs
  clear hf hv h hw0 he hn hn2
  go_enter Tryz.func26, Tryz.ntmps26
  go_wp2_with fail
  refine (HC.out _ (HB.out _)).mono ?_
  rintro e w1 ⟨rfl, hb1⟩
  obtain ⟨k0, k1, k2, k3⟩ := HQ.out w1 ((HB.out _).trans (hb1.mono (by simp)))
  obtain ⟨hc, _⟩ := bcell hb1
  have b0 : w1.cell? ⟨w.heap.size, 0, none⟩ = some (.int .i64 who) := by rw [hc _ _ (by simp)]; simp [go_sem]
  have b1 : w1.cell? ⟨w.heap.size, 1, none⟩ = some (.int .i64 (F + 1)) := by rw [hc _ _ (by simp)]; simp [go_sem]
  have HB1 := hide ((HB.out _).trans (hb1.mono (by simp)))
  clear hc hb1
  obtain ⟨g1, g2⟩ := hfk
  go_wp2_with fail
  go_quiet (fail)
  go_wp2_with fail
  go_ret
  exact ⟨rfl, Go.below_drewN HB1.out _⟩

/-- the box that holds what is asked -/
theorem box_ask {w wx : World} {c : Array Value} (hb : Below (w.alloc (.cells c 38)).heap.size (w.alloc (.cells c 38)) wx) : wx.heap[w.heap.size]? = some (.cells c 38 (0, 0)) :=
  (hb.block w.heap.size (by simp)).trans (heap_alloc_new w _)

theorem solid_box {w : World} {N j : Nat} {c : Array Value} {fr : Nat × Nat} {u : Value} (hN : w.heap[N]? = some (.cells c 38 fr)) : Solid w (w.setCell ⟨N, j, none⟩ u) := fun b cur fr' hb => by
  rw [heap_setCell_other w ⟨N, j, none⟩ b u (fun e => ?_)]
  · exact hb
  · subst e
    rw [hN] at hb
    exact absurd (tag_eq hb) (by decide)
/-- a queue stays while a box is written -/
theorem Qs.box {base S B N j : Nat} {w : World} {v u : Value} {E : List QEnt} {n : Nat} {f : Int → Int} {c : Array Value} {fr : Nat × Nat} (h : Qs base w S B v E n f) (hN : w.heap[N]? = some (.cells c 38 fr)) (hr : v.ownBlock ≠ some N) : Qs base (w.setCell ⟨N, j, none⟩ u) S B v E n f := by
  obtain ⟨n1, n2⟩ := h.boxed hN
  have hg := grownBy_setCell w ⟨N, j, none⟩ u
  obtain ⟨D, hD, hf⟩ := h.map
  exact ⟨h.lo, h.lob, (hg.block S h.lt (fun e => n1 (by cases e; rfl))).trans h.heap, h.row.kept hg (fun g hv e => hr (by cases e; exact hv)), fun x hx => (h.own x hx).solid (solid_box hN), D, hD.kept hg (fun e => n2 (by cases e; rfl)), hf⟩
/-- the queue behind the append and its store -/
theorem Qs.pushed {base S B p cap m g o k q : Nat} {w w5 : World} {ao : Option Addr} {E : List QEnt} {f : Int → Int} {who seq deed : Int} {gt kt : Nat} {l : List M.Val} (h : Qs base w S B (.slice ao p cap) E m f) (hp : p = E.length) (hO : OwnT base w (.slice (some ⟨gt, 0, none⟩) l.length kt) l)
    (hw : winRow w5 base 38 4 (.slice (some ⟨g, o, none⟩) (p + 1) k) (p + 1) (cellsQ E ++ [.int .i64 who, .int .i64 seq, .int .i64 deed, .slice (some ⟨gt, 0, none⟩) l.length kt])) (hg : w.grownBy w5 (Value.slice ao p cap).ownBlock) (hat : (Value.slice ao p cap).ownBlock = some g ∨ g = q) (hq : w.heap.size ≤ q) :
    Qs base (w5.setCell ⟨S, 0, none⟩ (.slice (some ⟨g, o, none⟩) (p + 1) k)) S B (.slice (some ⟨g, o, none⟩) (p + 1) k) (E ++ [⟨⟨who, seq, deed, l⟩, some ⟨gt, 0, none⟩, l.length, kt⟩]) m f ∧ TouchQ S B (.slice ao p cap) w (w5.setCell ⟨S, 0, none⟩ (.slice (some ⟨g, o, none⟩) (p + 1) k)) ∧ Near w (.slice ao p cap) (.slice (some ⟨g, o, none⟩) (p + 1) k) := by
  have hnear : Near w (.slice ao p cap) (.slice (some ⟨g, o, none⟩) (p + 1) k) := by
    rcases hat with h | h
    · exact Or.inl h.symm
    · refine Or.inr fun i hi => ?_
      have : g = i := by simpa [Value.ownBlock] using hi
      omega
  obtain ⟨r1, r2⟩ := h.stored (E' := E ++ [⟨⟨who, seq, deed, l⟩, some ⟨gt, 0, none⟩, l.length, kt⟩]) hg (by
    rw [cellsQ_append, List.length_append, ← hp]
    exact hw) (fun x hx => by
    rcases List.mem_append.1 hx with hx | hx
    · exact h.own x hx
    · rw [List.mem_singleton.1 hx]; exact hO) hnear
  exact ⟨r1, r2, hnear⟩

theorem push_end {base S B m : Nat} {w wA w6 w6' w7 : World} {v v5 : Value} {E : List QEnt} {f f' : Int → Int} {D : DataW Unit} (hb : Below w.heap.size w wA) (h6 : Qs base w6 S B v5 E m f) (t6 : TouchQ S B v wA w6) (n6 : Near wA v v5) (hd : Below w6.heap.size w6 w6') (hg7 : w6'.grownBy w7 (some B))
    (hD7 : w7.ownsMap Tryz.prog 3 (plainElem (H := Unit) Tryz.prog 3) B (m + 1) D) (hf : Lasts D f') : Qs base w7 S B v5 E (m + 1) f' ∧ TouchQ S B v w w7 ∧ Near w v v5 := by
  obtain ⟨r1, r2⟩ := (h6.below hd).mapped hg7 hD7 hf
  exact ⟨r1, (t6.trans n6 (r2.after hd)).after hb, n6.mono hb.size⟩

set_option maxRecDepth 100000 in
set_option maxHeartbeats 1000000 in
theorem qpush_ok {base S B : Nat} {v : Value} {E : List QEnt} {m : Nat} {f : Int → Int} (who seq deed : Int) (a : Option Addr) (n c : Nat) (l : List M.Val) (w : World) (h : Qs base w S B v E m f) (hv : IsVals w (.slice a n c) l) (hf : M.askF ⟨who, seq, deed, l⟩ = 0) (hfk : 0 ≤ f who ∧ f who ≤ 1000000) (hs : seq = f who + 1) (hn : E.length < 30) (hm : m < 1000) :
    Calls Tryz.prog 26 #[.pointer (some ⟨S, 0, none⟩), aggA who seq deed a n c] w fun e w' => e = .returned .nilIface ∧ ∃ v' x, Qs base w' S B v' (E ++ [x]) (m + 1) (M.upF f ⟨who, seq, deed, l⟩) ∧ x.a = ⟨who, seq, deed, l⟩ ∧ TouchQ S B v w w' ∧ Near w v v' := by
  obtain ⟨i0, hi, hz0, hz1, hz2⟩ := info_parts infoA
  have HI := hide (And.intro hi (And.intro hz0 (And.intro hz1 hz2)))
  have HB : Hid (∀ o, Below w.heap.size w (w.alloc o)) := hide fun o => (Below.refl _ _).alloc (Nat.le_refl _) o
  have HC : Hid (∀ wx, Below w.heap.size w wx → Calls Tryz.prog 57 #[aggA who seq deed a n c] wx fun e w' => e = .returned .nilIface ∧ Below wx.heap.size wx w') := hide fun wx hb => by
    have := qcheck who seq deed a n c l wx (hv.stays hb (Nat.le_refl _))
    rwa [hf] at this
  obtain ⟨hw0, _, hlk⟩ := M.askF_ok hf
  simp only at hw0 hlk
  have HFR : Hid (∀ wx, Below w.heap.size w wx → Calls Tryz.prog 58 #[.slice a n c] wx fun e w' => ∃ g k, e = .returned (.slice (some ⟨g, 0, none⟩) l.length k) ∧ OwnT wx.heap.size w' (.slice (some ⟨g, 0, none⟩) l.length k) l ∧ Below wx.heap.size wx w') := hide fun wx hb => by
    refine (freshL _ l wx (hv.stays hb (Nat.le_refl _)) hlk).mono ?_
    rintro e w1 ⟨v', rfl, h1, h2⟩
    obtain ⟨g, c, rfl, _⟩ := h1.1.form (likeF_len hlk).1
    exact ⟨g, c, rfl, h1, h2⟩
  obtain ⟨ao, cap, rfl⟩ := h.shape
  obtain ⟨p, hp⟩ : ∃ p, p = E.length := ⟨_, rfl⟩
  rw [← hp] at h hn ⊢
  have hn' : ¬ (30 : Int) ≤ (p : Int) := by omega
  have HP := hide hp
  have HQ : Hid (∀ wx, Below w.heap.size w wx → wx.cell? ⟨S, 0, none⟩ = some (.slice ao p cap) ∧ wx.cell? ⟨S, 1, none⟩ = some (.map (some B)) ∧ S < wx.heap.size ∧ ∀ q, (Instr.lookup 113 (.map (some B)) (.int .i64 who) false).run Tryz.prog (wx.drewN q) = .ok (.int .i64 (f who)) (wx.drewN q)) := hide fun wx hb => by
    have hq := h.below hb
    exact ⟨hq.c0, hq.c1, hq.lt, fun q => (hq.below (Go.below_drewN (Below.refl _ _) q)).look (wfI (by omega) (by omega))⟩
  have HH := hide h
  have HW : Hid (0 ≤ who ∧ who ≤ 1000000) := hide hw0
  have HSQ := hide hs
  have HL5 := hide (likeF_len hlk).2
  generalize hF : f who = F at *
  have HF := hide hF
  subst hs
  clear hf hv h hw0 hp hi hz0 hz1 hz2 hlk hF
  go_enter Tryz.func26, Tryz.ntmps26
  go_wp2_with fail
  refine (HC.out _ (HB.out _)).mono ?_
  rintro e w1 ⟨rfl, hb1⟩
  obtain ⟨k0, k1, k2, k3⟩ := HQ.out w1 ((HB.out _).trans (hb1.mono (by simp)))
  obtain ⟨hc, _⟩ := bcell hb1
  have b0 : w1.cell? ⟨w.heap.size, 0, none⟩ = some (.int .i64 who) := by rw [hc _ _ (by simp)]; simp [go_sem]
  have b1 : w1.cell? ⟨w.heap.size, 1, none⟩ = some (.int .i64 (F + 1)) := by rw [hc _ _ (by simp)]; simp [go_sem]
  have b3 : w1.cell? ⟨w.heap.size, 3, none⟩ = some (.slice a n c) := by rw [hc _ _ (by simp)]; simp [go_sem]
  have HX1 := hide (box_ask hb1)
  have HB1 := hide ((HB.out _).trans (hb1.mono (by simp)))
  clear hc hb1
  obtain ⟨g1, g2⟩ := hfk
  go_wp2_with fail
  go_quiet (fail)
  have HB2 := hide (Go.below_drewN HB1.out nq)
  have HX2 : Hid ((w1.drewN nq).heap[w.heap.size]? = some (.cells #[.int .i64 who, .int .i64 (F + 1), .int .i64 deed, .slice a n c] 38 (0, 0))) := hide HX1.out
  obtain ⟨w2, hw2⟩ : ∃ w2, w2 = w1.drewN nq := ⟨_, rfl⟩
  rw [← hw2] at HB2 HX2 ⊢
  clear hw2 k0 k1 k2 k3 b0 b1 b3 HB1 HX1
  obtain ⟨k0, k1, k2, _⟩ := HQ.out w2 HB2.out
  have b1 : w2.cell? ⟨w.heap.size, 1, none⟩ = some (.int .i64 (F + 1)) := by rw [cell_of_row w2 _ 1 _ _ (0, 0) HX2.out]; rfl
  have b3 : w2.cell? ⟨w.heap.size, 3, none⟩ = some (.slice a n c) := by rw [cell_of_row w2 _ 3 _ _ (0, 0) HX2.out]; rfl
  go_wp2_with fail
  refine (HFR.out _ HB2.out).mono ?_
  rintro e w3 ⟨gt, kt, rfl, hO3, hb3⟩
  have HB3 := hide (HB2.out.trans (hb3.mono HB2.out.size))
  have HX3 : Hid (w3.heap[w.heap.size]? = some (.cells #[.int .i64 who, .int .i64 (F + 1), .int .i64 deed, .slice a n c] 38 (0, 0))) := hide ((hb3.block _ (heap_lt HX2.out)).trans HX2.out)
  have HQ3 := hide (HH.out.below HB3.out)
  have HO3 : Hid (OwnT base w3 (.slice (some ⟨gt, 0, none⟩) l.length kt) l) := hide (hO3.mono (Nat.le_trans HH.out.base_le HB2.out.size))
  have HRN : Hid ((Value.slice ao p cap).ownBlock ≠ some w.heap.size) := hide fun e => absurd (HH.out.row.lt _ e).2 (Nat.lt_irrefl _)
  have b0 : w3.cell? ⟨w.heap.size, 0, none⟩ = some (.int .i64 who) := by rw [cell_of_row w3 _ 0 _ _ (0, 0) HX3.out]; rfl
  have bz : w3.frozen? ⟨w.heap.size, 3, none⟩ = false := frozen_of_row w3 _ 3 _ _ HX3.out
  have b3 : w3.cell? ⟨w.heap.size, 3, none⟩ = some (.slice a n c) := by rw [cell_of_row w3 _ 3 _ _ (0, 0) HX3.out]; rfl
  have s3 := heap_lt HX3.out
  clear k0 k1 k2 b1 hO3 hb3 HX2 HB2
  have HX4 : Hid ((w3.setCell ⟨w.heap.size, 3, none⟩ (.slice (some ⟨gt, 0, none⟩) l.length kt)).heap[w.heap.size]? = some (.cells #[.int .i64 who, .int .i64 (F + 1), .int .i64 deed, .slice (some ⟨gt, 0, none⟩) l.length kt] 38 (0, 0))) := hide (by rw [heap_setCell_same w3 _ 3 _ _ _ HX3.out]; rfl)
  have HQ4 := hide (HQ3.out.box (j := 3) (u := .slice (some ⟨gt, 0, none⟩) l.length kt) HX3.out HRN.out)
  have HO4 := hide (HO3.out.solid (solid_box (j := 3) (u := .slice (some ⟨gt, 0, none⟩) l.length kt) HX3.out))
  have HB4 : Hid (Below w.heap.size w (w3.setCell ⟨w.heap.size, 3, none⟩ (.slice (some ⟨gt, 0, none⟩) l.length kt))) := hide (HB3.out.setCell (Nat.le_refl _) _)
  go_wp2_with fail
  obtain ⟨w4, hw4⟩ : ∃ w4, w4 = w3.setCell ⟨w.heap.size, 3, none⟩ (.slice (some ⟨gt, 0, none⟩) l.length kt) := ⟨_, rfl⟩
  rw [← hw4] at HX4 HQ4 HO4 HB4 ⊢
  clear hw4 HX3 HQ3 HO3 HB3 b0 bz b3 s3
  have k0 := HQ4.out.c0
  have k1 := HQ4.out.c1
  have k2 := HQ4.out.lt
  have z0 := HQ4.out.fz 0
  have b0 : w4.cell? ⟨w.heap.size, 0, none⟩ = some (.int .i64 who) := by rw [cell_of_row w4 _ 0 _ _ (0, 0) HX4.out]; rfl
  have b1 : w4.cell? ⟨w.heap.size, 1, none⟩ = some (.int .i64 (F + 1)) := by rw [cell_of_row w4 _ 1 _ _ (0, 0) HX4.out]; rfl
  have b2 : w4.cell? ⟨w.heap.size, 2, none⟩ = some (.int .i64 deed) := by rw [cell_of_row w4 _ 2 _ _ (0, 0) HX4.out]; rfl
  have b3 : w4.cell? ⟨w.heap.size, 3, none⟩ = some (.slice (some ⟨gt, 0, none⟩) l.length kt) := by rw [cell_of_row w4 _ 3 _ _ (0, 0) HX4.out]; rfl
  have s4 := heap_lt HX4.out
  have HQA : Hid (Qs base (w4.alloc (.cells #[.int .i64 who, .int .i64 (F + 1), .int .i64 deed, .slice (some ⟨gt, 0, none⟩) l.length kt] 38)).drew S B (.slice ao p cap) E m f) := hide (HQ4.out.below ((Below.refl _ _).alloc (Nat.le_refl _) _).drew)
  have HRW := hide HQA.out.row
  rw [← HP.out] at HRW
  have hne := hide HQA.out.row_ne
  go_region_law
    (refine step_append_win _ (by rfl) (.tmp 45) (.tmp 47) 23 (by rfl) base 38 i0 (.agg #[.int .i64 0, .int .i64 0, .int .i64 0, .slice none 0 0]) 4 48 Tryz.underlying23 HI.out.1 HI.out.2.1 HI.out.2.2.1 HI.out.2.2.2 rfl (by decide) (.slice ao p cap) p (cellsQ E) (by simp [Act.eval]) HRW.out ⟨w4.heap.size, 0, none⟩ 1 1 [.int .i64 who, .int .i64 (F + 1), .int .i64 deed, .slice (some ⟨gt, 0, none⟩) l.length kt] (by simp [Act.eval]) rfl (World.news_of_block (heap_alloc_new _ _)) (by intro u hu; simp at hu; rcases hu with rfl | rfl | rfl | rfl <;> rfl) (by decide) (by unfold maxLen; omega) (by omega) HQA.out.base_le (w4.heap.size + 1) (by simp) ?_
     intro g3 o3 k3 w5 hown5 hgrow5 hat5 hlt5
     have c5 : w5.cell? ⟨S, 0, none⟩ = some (.slice ao p cap) := hgrow5.cell HQA.out.c0 (fun e => hne.out e.symm)
     have f5 : w5.frozen? ⟨S, 0, none⟩ = false := (World.frozen?_of_block (hgrow5.block S HQA.out.lt (fun e => hne.out e.symm))).trans (HQA.out.fz 0)
     have HO5 := hide hown5
     have HG5 := hide hgrow5
     clear hown5 hgrow5)
  all_goals
    obtain ⟨q1, q2, q3⟩ := HQA.out.pushed HP.out (HO4.out.solid (Solid.below ((Below.refl _ _).alloc (Nat.le_refl _) (.cells #[.int .i64 who, .int .i64 (F + 1), .int .i64 deed, .slice (some ⟨gt, 0, none⟩) l.length kt] 38)).drew)) HO5.out HG5.out hat5 (by simp)
    have HQ6 := hide q1
    have HT6 := hide q2
    have HN6 := hide q3
    have HX6 : Hid ((w5.setCell ⟨S, 0, none⟩ (.slice (some ⟨g3, o3, none⟩) (p + 1) k3)).heap[w.heap.size]? = some (.cells #[.int .i64 who, .int .i64 (F + 1), .int .i64 deed, .slice (some ⟨gt, 0, none⟩) l.length kt] 38 (0, 0))) := hide (by
      have hx : (w4.alloc (.cells #[.int .i64 who, .int .i64 (F + 1), .int .i64 deed, .slice (some ⟨gt, 0, none⟩) l.length kt] 38)).drew.heap[w.heap.size]? = some (.cells #[.int .i64 who, .int .i64 (F + 1), .int .i64 deed, .slice (some ⟨gt, 0, none⟩) l.length kt] 38 (0, 0)) := (Below.heap_alloc w4 _ _ (heap_lt HX4.out)).trans HX4.out
      have hn1 := (HQ4.out.boxed HX4.out).1
      rw [heap_setCell_other w5 ⟨S, 0, none⟩ w.heap.size _ hn1, HG5.out.block _ (heap_lt hx) (fun e => HRN.out e.symm)]
      exact hx)
    obtain ⟨w6, hw6⟩ : ∃ w6, w6 = w5.setCell ⟨S, 0, none⟩ (.slice (some ⟨g3, o3, none⟩) (p + 1) k3) := ⟨_, rfl⟩
    rw [← hw6] at HX6 HQ6 HT6 ⊢
    clear hw6 q1 q2 q3 k0 k1 k2 z0 b0 b1 b2 b3 s4 c5 f5 HO5 HG5 hat5 hlt5
    have k1 := HQ6.out.c1
    have k2 := HQ6.out.lt
    have b0 : w6.cell? ⟨w.heap.size, 0, none⟩ = some (.int .i64 who) := by rw [cell_of_row w6 _ 0 _ _ (0, 0) HX6.out]; rfl
    have b1 : w6.cell? ⟨w.heap.size, 1, none⟩ = some (.int .i64 (F + 1)) := by rw [cell_of_row w6 _ 1 _ _ (0, 0) HX6.out]; rfl
    have s6 := heap_lt HX6.out
    obtain ⟨D, hD, hl⟩ := HQ6.out.map
    have HD := hide hD
    have HLA := hide hl
    clear hD hl
    obtain ⟨w7, hr7, r1, r2⟩ := HD.out.drew.update lawI Tryz.underlying113 (by unfold maxLen; omega) (keyI_of (wfI (k := who) (by have := HW.out.1; omega) (by have := HW.out.2; omega))) (plainElem_int Tryz.underlying3 (wfI (k := F + 1) (by omega) (by omega)))
    have HD7 := hide r1
    have HG7 := hide r2
    clear r1 r2
    go_wp2_with fail
    go_region
    all_goals
      go_wp2_with fail
      go_ret
      exact ⟨rfl, _, _, (push_end (HB4.out.trans (((Below.refl _ _).alloc (Nat.le_refl _) _).drew.mono HB4.out.size)) HQ6.out HT6.out HN6.out ((Below.refl _ _).drew) HG7.out HD7.out (HLA.out.up ⟨who, F + 1, deed, l⟩)).1, rfl, (push_end (HB4.out.trans (((Below.refl _ _).alloc (Nat.le_refl _) _).drew.mono HB4.out.size)) HQ6.out HT6.out HN6.out ((Below.refl _ _).drew) HG7.out HD7.out (HLA.out.up ⟨who, F + 1, deed, l⟩)).2⟩

end Go.Proofs.YtlefhfmckimlaakGreatDoor

set_option linter.unusedVariables false
namespace Go.Proofs.YtlefhfmckimlaakGreatDoor
open Go.RowKit
attribute [local go_sem ↓] Go.wp_at_zero Go.wp_at_succ

theorem win_block {w : World} {base g o n cap k : Nat} {e : TypeId} {xs : List Value} (h : winRow w base e k (.slice (some ⟨g, o, none⟩) n cap) n xs) :
    base ≤ g ∧ n ≤ cap ∧ cap ≤ maxLen ∧ ∃ cur, w.heap[g]? = some (.cells cur e (0, 0)) ∧ o + cap * k ≤ cur.size ∧ ∀ j, j < n * k → cur[o + j]? = xs[j]? := by
  rcases h.2 with ⟨hv, _⟩ | ⟨g', o', cap', cur, hv, hg, hh, hn, hm, hs, hx⟩
  · simp at hv
  · simp only [Value.slice.injEq, Option.some.injEq, Addr.mk.injEq, and_true, true_and] at hv
    obtain ⟨⟨rfl, rfl⟩, rfl⟩ := hv
    exact ⟨hg, hn, hm, cur, hh, hs, hx⟩

/-- the rest is moved to the front -/
theorem append_front {P : Program} {w : World} {base g o n cap k : Nat} {e t : TypeId} {i : TypeInfo} {xs : List Value} (ht : P.underlying t = some (.slice e)) (hi : P.info? e = some i) (hk : i.size = k) (h : winRow w base e k (.slice (some ⟨g, o, none⟩) (n + 1) cap) (n + 1) xs) (h1 : ∀ u ∈ xs, u.oneCell' = true) (x : Value) (hx : x = .slice (some ⟨g, o + k, none⟩) n (cap - 1) ∨ (n = 0 ∧ ∃ a c, x = .slice a 0 c)) (ty : TypeId) :
    (Builtin.append_ #[t, t] ty #[.slice (some ⟨g, o, none⟩) 0 cap, x]).run P w = .ok (.slice (some ⟨g, o, none⟩) n cap) (w.setCells g o (xs.drop k)) := by
  obtain ⟨_, hn, _, cur, hh, hs, hc⟩ := win_block h
  have hl := h.1
  rw [Nat.add_mul, Nat.one_mul] at hl
  have hcap : (n + 1) * k ≤ cap * k := Nat.mul_le_mul_right _ hn
  rw [Nat.add_mul, Nat.one_mul] at hcap
  subst hk
  have hs : Src P i.size t x n (xs.drop i.size) w := by
    rcases hx with hx | ⟨h0, a, c, hx⟩
    · rw [hx]
      refine Src.ofSlice w ht ⟨g, o + i.size, none⟩ n (cap - 1) (xs.drop i.size) (by rw [List.length_drop]; omega) (fun j u hu => ?_) (fun u hu => h1 u (List.mem_of_mem_drop hu))
      have hj : j < n * i.size := by
        have := (List.getElem?_eq_some_iff.1 hu).1
        rw [List.length_drop] at this
        omega
      rw [WideShapes.add_plain, cell_of_row w g _ cur e (0, 0) hh, ← hu, List.getElem?_drop, ← hc (i.size + j) (by rw [Nat.add_mul]; omega)]
      congr 1
      omega
    · subst h0
      rw [hx]
      have hd : xs.drop i.size = [] := List.eq_nil_of_length_eq_zero (by rw [List.length_drop]; omega)
      rw [hd]
      cases a with
      | none => exact Src.ofNil w ht c
      | some a => exact Src.ofSlice w ht a 0 c [] (by simp) (fun j u hu => by simp at hu) (fun u hu => by cases hu)
  have hdl : (xs.drop i.size).length = n * i.size := by rw [List.length_drop]; omega
  have := run_append_room_src (P := P) w t t ty e i ht hi g o 0 cap x n (xs.drop i.size) hs (by omega) (fun j hj => by
    rw [cell_of_row w g _ cur e (0, 0) hh, Array.getElem?_eq_getElem (by omega)]; rfl) (fun j _ => frozen_of_row w g _ cur e hh)
  simpa using this

/-- the built-in clear on what lies behind -/
theorem clear_behind {P : Program} {w : World} {g o n k c : Nat} {e t : TypeId} {z : Value} {cur : Array Value} (ht : P.underlying t = some (.slice e)) (hz : ∀ w, (zeroValue e).run P w = .ok z w) (hk : z.cells.size = k) (hk0 : 0 < k) (h1 : ∀ j, j < k → (z.cells[j]!).oneCell' = true) (hh : w.heap[g]? = some (.cells cur e (0, 0))) (hs : o + n * k ≤ cur.size) :
    ∀ ty, (Builtin.clear_ #[t] ty #[.slice (some ⟨g, o, none⟩) n c]).run P w = .ok (.tuple #[]) (w.setCells g o (Builtin.zeroCells z.cells n).toList) := fun ty => by
  have hlen : (Builtin.zeroCells z.cells n).toList.length = n * k := by simp [Builtin.zeroCells, hk]
  have hst := run_storeCells_cells (P := P) g o (Builtin.zeroCells z.cells n).toList 0 w
    (fun j hj => by
      rw [hlen] at hj
      rw [Nat.add_zero, cell_of_row w g _ cur e (0, 0) hh, Array.getElem?_eq_getElem (by omega)]; rfl)
    (fun j hj => frozen_of_row w g _ cur e hh)
    (fun v hv => by
      simp only [Builtin.zeroCells, Array.toList_map, List.mem_map] at hv
      obtain ⟨j, _, rfl⟩ := hv
      rw [hk]
      exact h1 _ (Nat.mod_lt _ hk0))
  simp only [Nat.add_zero] at hst
  cases n with
  | zero => simp [Builtin.clear_, run_underlying ht, Builtin.zeroCells, World.setCells]
  | succ m => simp [Builtin.clear_, run_underlying ht, hz, hst]

/-- the row behind both -/
theorem front_row {w : World} {base g o n cap k : Nat} {e : TypeId} {xs zs : List Value} (h : winRow w base e k (.slice (some ⟨g, o, none⟩) (n + 1) cap) (n + 1) xs) (hz : zs.length = k) :
    winRow ((w.setCells g o (xs.drop k)).setCells g (o + n * k) zs) base e k (.slice (some ⟨g, o, none⟩) n cap) n (xs.drop k) ∧ w.grownBy ((w.setCells g o (xs.drop k)).setCells g (o + n * k) zs) (some g) ∧ ∃ cur, (w.setCells g o (xs.drop k)).heap[g]? = some (.cells cur e (0, 0)) ∧ o + n * k + k ≤ cur.size := by
  obtain ⟨hb, hn, hm, cur, hh, hs, hc⟩ := win_block h
  have hl := h.1
  rw [Nat.add_mul, Nat.one_mul] at hl
  have hcap : (n + 1) * k ≤ cap * k := Nat.mul_le_mul_right _ hn
  rw [Nat.add_mul, Nat.one_mul] at hcap
  have hdl : (xs.drop k).length = n * k := by rw [List.length_drop]; omega
  obtain ⟨c1, a1, a2, a3, a4, a5⟩ := setCells_block (xs.drop k) o hh (by omega)
  obtain ⟨c2, d1, d2, d3, d4, d5⟩ := setCells_block zs (o + n * k) a1 (by omega)
  refine ⟨⟨hdl, Or.inr ⟨g, o, cap, c2, rfl, hb, d1, by omega, hm, by omega, fun j hj => ?_⟩⟩, ⟨d5.os.trans a5.os, d5.tape.trans a5.tape, d5.output.trans a5.output, Nat.le_trans a5.size d5.size, fun i hi hne => (d5.block i (Nat.lt_of_lt_of_le hi a5.size) hne).trans (a5.block i hi hne)⟩, c1, a1, by omega⟩
  rw [d4 _ (Or.inl (by omega)), a3 j (by omega)]

/-- an append whose run is known, as one step of a region that draws its order -/
theorem step_append_run {P : Program} {w w' : World} {ops : Array Oper} {o : Oper} {a : Act} {K : Act → World → Prop} {Q : Exit → Act → World → Prop} {E : Prop} (hgd : o.guard = none) (s x : Operand) (t : TypeId)
    (ho : o.op = .call { callee := .builtin .append, args := #[s, x], argTypes := #[t, t] }) (v y v' : Value) (hs : a.eval s = v) (hx : a.eval x = y) (hr : ∀ ty, (Builtin.append_ #[t, t] ty #[v, y]).run P w = .ok v' w') (h : K (a.put o.dst v') w') :
    if Region.wanted o (yielded ops a.tmps) = true then Oper.wp P o a w K Q else E := by
  have hw : Region.wanted o (yielded ops a.tmps) = true := by simp [Region.wanted, hgd]
  rw [if_pos hw]
  unfold Oper.wp execOp
  simp only [ho, resolve, invoke, builtin, Sem.run_bind, Sem.run_pure, Result.andThen_ok, List.map_toArray, List.map_cons, List.map_nil, hs, hx, hr]
  exact h

theorem zeroA (w : World) : (zeroValue 38).run Tryz.prog w = .ok (.agg #[.int .i64 0, .int .i64 0, .int .i64 0, .slice none 0 0]) w := by kernel_rfl
theorem infoA' : ∃ i, Tryz.prog.info? 38 = some i ∧ i.size = 4 := by
  obtain ⟨i, h1, h2⟩ := Option.map_eq_some_iff.1 (show (Tryz.prog.info? 38).map (fun i => i.size) = some 4 by kernel_rfl)
  exact ⟨i, h1, h2⟩

theorem zsA : (Builtin.zeroCells (Value.agg #[.int .i64 0, .int .i64 0, .int .i64 0, .slice none 0 0]).cells 1).toList.length = 4 := by
  simp only [Builtin.zeroCells, Array.toList_map, List.length_map]
  rfl
theorem oneA : ∀ j, j < 4 → ((Value.agg #[.int .i64 0, .int .i64 0, .int .i64 0, .slice none 0 0]).cells[j]!).oneCell' = true := fun j hj => by
  match j, hj with
  | 0, _ => rfl
  | 1, _ => rfl
  | 2, _ => rfl
  | 3, _ => rfl

set_option maxRecDepth 100000 in
theorem qdel {base g o n cap : Nat} {xs : List Value} {w : World} (h : winRow w base 38 4 (.slice (some ⟨g, o, none⟩) (n + 1) cap) (n + 1) xs) (h1 : ∀ u ∈ xs, u.oneCell' = true) (hn : n < 1000) :
    Calls Tryz.prog 59 #[.slice (some ⟨g, o, none⟩) (n + 1) cap, .int .i64 0, .int .i64 1] w fun e w' => e = .returned (.slice (some ⟨g, o, none⟩) n cap) ∧ winRow w' base 38 4 (.slice (some ⟨g, o, none⟩) n cap) n (xs.drop 4) ∧ w.grownBy w' (some g) := by
  obtain ⟨_, hcn, hcm, _⟩ := win_block h
  unfold maxLen at hcm
  have HH : Hid (winRow w.drew base 38 4 (.slice (some ⟨g, o, none⟩) (n + 1) cap) (n + 1) xs) := hide h
  obtain ⟨q1, q2, c1, q3, q4⟩ := front_row HH.out zsA
  have HR := hide q1
  have HG : Hid (w.grownBy ((w.drew.setCells g o (xs.drop 4)).setCells g (o + n * 4) (Builtin.zeroCells (Value.agg #[.int .i64 0, .int .i64 0, .int .i64 0, .slice none 0 0]).cells 1).toList) (some g)) := hide ⟨q2.os, q2.tape, q2.output, q2.size, q2.block⟩
  have hcl := clear_behind (P := Tryz.prog) (t := 23) (n := 1) (k := 4) (c := cap - n) Tryz.underlying23 zeroA rfl (by decide) oneA q3 (o := o + n * 4) (by omega)
  have hnn : ¬ cap = n := by omega
  have hle : (n : Int) ≤ (n : Int) + 1 := by omega
  have hlc : (n : Int) + 1 ≤ (cap : Int) := by omega
  have hq : (1 : Int) ≤ (n : Int) + 1 := by omega
  obtain ⟨i0, hi0, hs0⟩ := infoA'
  generalize (Builtin.zeroCells (Value.agg #[.int .i64 0, .int .i64 0, .int .i64 0, .slice none 0 0]).cells 1).toList = zs at *
  by_cases hc : cap = 1
  · subst hc
    have hn0 : n = 0 := by omega
    subst hn0
    simp only [Nat.zero_mul, Nat.add_zero, Nat.sub_zero] at hcl HR HG
    have HAP := hide (append_front (P := Tryz.prog) (t := 23) Tryz.underlying23 hi0 hs0 HH.out h1 (.slice (some ⟨g, o, none⟩) 0 0) (Or.inr ⟨rfl, _, _, rfl⟩))
    clear h hi0 hs0 q1 q2 q3 q4
    go_enter Tryz.func59, Tryz.ntmps59
    go_wp2
    go_region_law (refine step_append_run (by rfl) (.tmp 22) (.tmp 25) 23 (by rfl) (.slice (some ⟨g, o, none⟩) 0 1) (.slice (some ⟨g, o, none⟩) 0 0) (.slice (some ⟨g, o, none⟩) 0 1) (by simp [Act.eval, Act.put]) (by simp [Act.eval, Act.put]) HAP.out ?_)
    all_goals
      go_wp2
      go_ret
      exact ⟨rfl, HR.out, HG.out⟩
  · have HAP := hide (append_front (P := Tryz.prog) (t := 23) Tryz.underlying23 hi0 hs0 HH.out h1 (.slice (some ⟨g, o + 4, none⟩) n (cap - 1)) (Or.inl rfl))
    clear h hi0 hs0 q1 q2 q3 q4
    go_enter Tryz.func59, Tryz.ntmps59
    go_wp2
    go_region_law (refine step_append_run (by rfl) (.tmp 22) (.tmp 25) 23 (by rfl) (.slice (some ⟨g, o, none⟩) 0 cap) (.slice (some ⟨g, o + 4, none⟩) n (cap - 1)) (.slice (some ⟨g, o, none⟩) n cap) (by simp [Act.eval, Act.put]) (by simp [Act.eval, Act.put]) HAP.out ?_)
    all_goals
      go_wp2
      go_ret
      exact ⟨rfl, HR.out, HG.out⟩

end Go.Proofs.YtlefhfmckimlaakGreatDoor

set_option linter.unusedVariables false
namespace Go.Proofs.YtlefhfmckimlaakGreatDoor
open Go.RowKit

theorem qpop_none {base S B : Nat} {w : World} {v : Value} {n : Nat} {f : Int → Int} (h : Qs base w S B v [] n f) :
    Calls Tryz.prog 27 #[.pointer (some ⟨S, 0, none⟩)] w fun e w' => e = .returned (.tuple #[aggA 0 0 0 none 0 0, errV 5]) ∧ Below w.heap.size w w' := by
  obtain ⟨ao, cap, rfl⟩ := h.shape
  have c0 := h.c0
  have hl := h.lt
  simp only [List.length_nil] at c0
  clear h
  go_enter Tryz.func27, Tryz.ntmps27
  go_wp2
  refine bodyPost_ret (v := .tuple #[aggA 0 0 0 none 0 0, .iface 87 (.int .i64 5)]) (by simp [results, Tryz.results27, go_sem]) rfl ⟨rfl, (Below.refl _ _).alloc (Nat.le_refl _) _⟩

theorem cellsQ_one : ∀ (l : List QEnt), ∀ u ∈ cellsQ l, u.oneCell' = true
  | [], u, h => by cases h
  | e :: l, u, h => by
    simp only [cellsQ, List.mem_cons] at h
    rcases h with rfl | rfl | rfl | rfl | h
    · rfl
    · rfl
    · rfl
    · rfl
    · exact cellsQ_one l u h

theorem grown_trans {a b c : World} {r : Option Nat} (h : a.grownBy b r) (k : b.grownBy c r) : a.grownBy c r :=
  ⟨k.os.trans h.os, k.tape.trans h.tape, k.output.trans h.output, Nat.le_trans h.size k.size, fun i hi hne => (k.block i (Nat.lt_of_lt_of_le hi h.size) hne).trans (h.block i hi hne)⟩
theorem grown_four (w : World) (N : Nat) (u0 u1 u2 u3 : Value) : w.grownBy ((((w.setCell ⟨N, 0, none⟩ u0).setCell ⟨N, 1, none⟩ u1).setCell ⟨N, 2, none⟩ u2).setCell ⟨N, 3, none⟩ u3) (some N) :=
  grown_trans (grown_trans (grown_trans (grownBy_setCell w ⟨N, 0, none⟩ u0) (grownBy_setCell _ ⟨N, 1, none⟩ u1)) (grownBy_setCell _ ⟨N, 2, none⟩ u2)) (grownBy_setCell _ ⟨N, 3, none⟩ u3)
theorem solid_boxG {w w' : World} {N : Nat} {c : Array Value} {fr : Nat × Nat} (hN : w.heap[N]? = some (.cells c 38 fr)) (hg : w.grownBy w' (some N)) : Solid w w' := fun b cur fr' hb => by
  rw [hg.block b (heap_lt hb) (fun e => ?_)]
  · exact hb
  · cases e
    rw [hN] at hb
    exact absurd (tag_eq hb) (by decide)
/-- a queue stays while a box is written, however -/
theorem Qs.boxG {base S B N : Nat} {w w' : World} {v : Value} {E : List QEnt} {n : Nat} {f : Int → Int} {c : Array Value} {fr : Nat × Nat} (h : Qs base w S B v E n f) (hN : w.heap[N]? = some (.cells c 38 fr)) (hr : v.ownBlock ≠ some N) (hg : w.grownBy w' (some N)) : Qs base w' S B v E n f := by
  obtain ⟨n1, n2⟩ := h.boxed hN
  obtain ⟨D, hD, hf⟩ := h.map
  exact ⟨h.lo, h.lob, (hg.block S h.lt (fun e => n1 (by cases e; rfl))).trans h.heap, h.row.kept hg (fun g hv e => hr (by cases e; exact hv)), fun x hx => (h.own x hx).solid (solid_boxG hN hg), D, hD.kept hg (fun e => n2 (by cases e; rfl)), hf⟩
theorem TouchQ.far {S B N : Nat} {v : Value} {a b c : World} (h : TouchQ S B v a b) (hN : a.heap.size ≤ N) (hg : b.grownBy c (some N)) : TouchQ S B v a c :=
  ⟨hg.os.trans h.os, hg.tape.trans h.tape, hg.output.trans h.output, Nat.le_trans h.size hg.size, fun k hk h1 h2 h3 => (hg.block k (Nat.lt_of_lt_of_le hk h.size) (fun e => by cases e; omega)).trans (h.block k hk h1 h2 h3)⟩

set_option maxRecDepth 100000 in
theorem qpop_ok {base S B : Nat} {w : World} {v : Value} {x : QEnt} {E : List QEnt} {n : Nat} {f : Int → Int} (h : Qs base w S B v (x :: E) n f) (hn : E.length < 100) :
    Calls Tryz.prog 27 #[.pointer (some ⟨S, 0, none⟩)] w fun e w' => e = .returned (.tuple #[aggA x.a.who x.a.seq x.a.deed x.x x.n x.c, .nilIface]) ∧ ∃ v', Qs base w' S B v' E n f ∧ OwnT base w' x.v x.a.t ∧ TouchQ S B v w w' ∧ Near w v v' := by
  obtain ⟨g, o, cap, rfl, hgb, hgl, hnc, hcm⟩ := h.row.form (by simp)
  simp only [List.length_cons] at hnc
  obtain ⟨m, hm⟩ : ∃ m, m = E.length := ⟨_, rfl⟩
  have HM := hide hm
  have hrow := h.row
  simp only [List.length_cons] at hrow
  have e0 : w.cell? ⟨g, o + 0, none⟩ = some (.int .i64 x.a.who) := (hrow.cellAt (j := 0) (by omega)).trans rfl
  have e1 : w.cell? ⟨g, o + 1, none⟩ = some (.int .i64 x.a.seq) := (hrow.cellAt (j := 1) (by omega)).trans rfl
  have e2 : w.cell? ⟨g, o + 2, none⟩ = some (.int .i64 x.a.deed) := (hrow.cellAt (j := 2) (by omega)).trans rfl
  have e3 : w.cell? ⟨g, o + 3, none⟩ = some (.slice x.x x.n x.c) := (hrow.cellAt (j := 3) (by omega)).trans rfl
  rw [Nat.add_zero] at e0
  rw [← hm] at hn hnc
  have c0 := h.c0
  simp only [List.length_cons] at c0
  rw [← hm] at c0
  have hl := h.lt
  have HH : Hid (Qs base w S B (.slice (some ⟨g, o, none⟩) (m + 1) cap) (x :: E) n f) := hide (by have := h; simp only [List.length_cons] at this; rwa [← hm] at this)
  have hne : g ≠ S := fun e => h.row_ne (by rw [e]; rfl)
  have h01 : ¬ (((m : Int) + 1) = 0) := by omega
  have h02 : (0 : Int) < (m : Int) + 1 := by omega
  simp only [List.length_cons]
  rw [← hm]
  clear h hrow hm
  have HBB : Hid (Below w.heap.size w ((w.alloc (.cells #[.int .i64 0, .int .i64 0, .int .i64 0, .slice none 0 0] 38)).alloc (.cells #[.int .i64 x.a.who, .int .i64 x.a.seq, .int .i64 x.a.deed, .slice x.x x.n x.c] 38))) := hide (((Below.refl _ _).alloc (Nat.le_refl _) _).alloc (by simp) _)
  have HQB := hide (HH.out.below HBB.out)
  have HD : Hid (Calls Tryz.prog 59 #[.slice (some ⟨g, o, none⟩) (m + 1) cap, .int .i64 0, .int .i64 1] ((w.alloc (.cells #[.int .i64 0, .int .i64 0, .int .i64 0, .slice none 0 0] 38)).alloc (.cells #[.int .i64 x.a.who, .int .i64 x.a.seq, .int .i64 x.a.deed, .slice x.x x.n x.c] 38)) fun e w' => e = .returned (.slice (some ⟨g, o, none⟩) m cap) ∧ winRow w' base 38 4 (.slice (some ⟨g, o, none⟩) m cap) m (cellsQ E) ∧ World.grownBy ((w.alloc (.cells #[.int .i64 0, .int .i64 0, .int .i64 0, .slice none 0 0] 38)).alloc (.cells #[.int .i64 x.a.who, .int .i64 x.a.seq, .int .i64 x.a.deed, .slice x.x x.n x.c] 38)) w' (some g)) := hide (by
    have hr := HQB.out.row
    simp only [List.length_cons] at hr
    rw [← HM.out] at hr
    exact qdel hr (cellsQ_one _) (by omega))
  have HX1 : Hid (((w.alloc (.cells #[.int .i64 0, .int .i64 0, .int .i64 0, .slice none 0 0] 38)).alloc (.cells #[.int .i64 x.a.who, .int .i64 x.a.seq, .int .i64 x.a.deed, .slice x.x x.n x.c] 38)).heap[w.heap.size]? = some (.cells #[.int .i64 0, .int .i64 0, .int .i64 0, .slice none 0 0] 38 (0, 0))) := hide ((Below.heap_alloc _ _ _ (by simp)).trans (heap_alloc_new w _))
  have HX2 : Hid (((w.alloc (.cells #[.int .i64 0, .int .i64 0, .int .i64 0, .slice none 0 0] 38)).alloc (.cells #[.int .i64 x.a.who, .int .i64 x.a.seq, .int .i64 x.a.deed, .slice x.x x.n x.c] 38)).heap[w.heap.size + 1]? = some (.cells #[.int .i64 x.a.who, .int .i64 x.a.seq, .int .i64 x.a.deed, .slice x.x x.n x.c] 38 (0, 0))) := hide (by
    have := heap_alloc_new (w.alloc (.cells #[.int .i64 0, .int .i64 0, .int .i64 0, .slice none 0 0] 38)) (.cells #[.int .i64 x.a.who, .int .i64 x.a.seq, .int .i64 x.a.deed, .slice x.x x.n x.c] 38)
    simpa using this)
  go_enter Tryz.func27, Tryz.ntmps27
  go_wp2_with fail
  refine (unhide HD).mono ?_
  rintro e w2 ⟨rfl, hwin, hgrow⟩
  have HS3 := hide (HQB.out.stored (v' := .slice (some ⟨g, o, none⟩) m cap) (E' := E) hgrow (by rw [← HM.out]; exact hwin) (fun y hy => HQB.out.own y (List.mem_cons_of_mem _ hy)) (Or.inl rfl))
  have HOX := hide (HQB.out.own x (List.mem_cons_self ..))
  have hgN : g ≠ w.heap.size := by omega
  have hgN1 : g ≠ w.heap.size + 1 := by omega
  have HY1 : Hid (w2.heap[w.heap.size]? = _) := hide ((hgrow.block _ (heap_lt HX1.out) (fun e => hgN (by cases e; rfl))).trans HX1.out)
  have HY2 : Hid (w2.heap[w.heap.size + 1]? = _) := hide ((hgrow.block _ (heap_lt HX2.out) (fun e => hgN1 (by cases e; rfl))).trans HX2.out)
  have k0 : w2.cell? ⟨S, 0, none⟩ = some (.slice (some ⟨g, o, none⟩) (m + 1) cap) := hgrow.cell HQB.out.c0 (fun e => hne (by cases e; rfl))
  have z0 : w2.frozen? ⟨S, 0, none⟩ = false := (World.frozen?_of_block (hgrow.block S HQB.out.lt (fun e => hne (by cases e; rfl)))).trans (HQB.out.fz 0)
  have a0 : w2.cell? ⟨w.heap.size + 1, 0, none⟩ = some (.int .i64 x.a.who) := by rw [cell_of_row w2 _ 0 _ _ (0, 0) HY2.out]; rfl
  have a1 : w2.cell? ⟨w.heap.size + 1, 1, none⟩ = some (.int .i64 x.a.seq) := by rw [cell_of_row w2 _ 1 _ _ (0, 0) HY2.out]; rfl
  have a2 : w2.cell? ⟨w.heap.size + 1, 2, none⟩ = some (.int .i64 x.a.deed) := by rw [cell_of_row w2 _ 2 _ _ (0, 0) HY2.out]; rfl
  have a3 : w2.cell? ⟨w.heap.size + 1, 3, none⟩ = some (.slice x.x x.n x.c) := by rw [cell_of_row w2 _ 3 _ _ (0, 0) HY2.out]; rfl
  have b0 : w2.cell? ⟨w.heap.size, 0, none⟩ = some (.int .i64 0) := by rw [cell_of_row w2 _ 0 _ _ (0, 0) HY1.out]; rfl
  have b1 : w2.cell? ⟨w.heap.size, 1, none⟩ = some (.int .i64 0) := by rw [cell_of_row w2 _ 1 _ _ (0, 0) HY1.out]; rfl
  have b2 : w2.cell? ⟨w.heap.size, 2, none⟩ = some (.int .i64 0) := by rw [cell_of_row w2 _ 2 _ _ (0, 0) HY1.out]; rfl
  have b3 : w2.cell? ⟨w.heap.size, 3, none⟩ = some (.slice none 0 0) := by rw [cell_of_row w2 _ 3 _ _ (0, 0) HY1.out]; rfl
  have zN : ∀ j, w2.frozen? ⟨w.heap.size, j, none⟩ = false := fun j => frozen_of_row w2 _ j _ _ HY1.out
  have hs2 : S < w2.heap.size := Nat.lt_of_lt_of_le HQB.out.lt hgrow.size
  have hSN : w.heap.size ≠ S := by omega
  have hSN1 : w.heap.size + 1 ≠ S := by omega
  have sz := heap_lt HY2.out
  have HGR := hide hgrow
  clear hwin hgrow
  go_wp2_with fail
  refine bodyPost_ret (v := .tuple #[aggA x.a.who x.a.seq x.a.deed x.x x.n x.c, .nilIface]) (by simp [results, Tryz.results27, go_sem, b0, b1, b2, b3]) rfl ⟨rfl, ?_⟩
  have HY3 : (w2.setCell ⟨S, 0, none⟩ (.slice (some ⟨g, o, none⟩) m cap)).heap[w.heap.size]? = some (.cells #[.int .i64 0, .int .i64 0, .int .i64 0, .slice none 0 0] 38 (0, 0)) := (heap_setCell_other w2 ⟨S, 0, none⟩ w.heap.size _ hSN).trans HY1.out
  have hG4 := grown_four (w2.setCell ⟨S, 0, none⟩ (.slice (some ⟨g, o, none⟩) m cap)) w.heap.size (.int .i64 x.a.who) (.int .i64 x.a.seq) (.int .i64 x.a.deed) (.slice x.x x.n x.c)
  exact ⟨_, HS3.out.1.boxG HY3 (fun e => hgN (by simpa [Value.ownBlock] using e)) hG4, (HOX.out.solid (HQB.out.solid HS3.out.2)).solid (solid_boxG HY3 hG4), (HS3.out.2.after HBB.out).far (Nat.le_refl _) hG4, Or.inl rfl⟩

end Go.Proofs.YtlefhfmckimlaakGreatDoor

set_option linter.unusedVariables false
namespace Go.Proofs.YtlefhfmckimlaakGreatDoor
open Go.RowKit

theorem qpush {base S B : Nat} {v : Value} {E : List QEnt} {m : Nat} {f : Int → Int} (who seq deed : Int) (a : Option Addr) (n c : Nat) (l : List M.Val) (w : World) (h : Qs base w S B v E m f) (hv : IsVals w (.slice a n c) l) (hfk : ∀ k, 0 ≤ f k ∧ f k ≤ 1000000) (hn : E.length ≤ 30) (hm : m < 1000) :
    Calls Tryz.prog 26 #[.pointer (some ⟨S, 0, none⟩), aggA who seq deed a n c] w fun e w' => e = .returned (errV (M.pushE f E.length ⟨who, seq, deed, l⟩)) ∧
      ((M.pushE f E.length ⟨who, seq, deed, l⟩ ≠ 0 ∧ Below w.heap.size w w') ∨ (M.pushE f E.length ⟨who, seq, deed, l⟩ = 0 ∧ ∃ v' x, Qs base w' S B v' (E ++ [x]) (m + 1) (M.upF f ⟨who, seq, deed, l⟩) ∧ x.a = ⟨who, seq, deed, l⟩ ∧ TouchQ S B v w w' ∧ Near w v v')) := by
  by_cases hf : M.askF ⟨who, seq, deed, l⟩ = 0
  · rcases Int.lt_trichotomy seq (f who + 1) with h1 | h1 | h1
    · have e := M.pushE_clash (f := f) (n := E.length) hf h1
      rw [e]
      refine (qpush_late who seq deed a n c l w h hv hf (hfk who) (by omega)).mono ?_
      rintro e w' ⟨rfl, hb⟩
      rw [if_pos h1]
      exact ⟨rfl, Or.inl ⟨by decide, hb⟩⟩
    · by_cases h30 : 30 ≤ E.length
      · have e := M.pushE_full (f := f) hf h1 h30
        rw [e]
        refine (qpush_full who seq deed a n c l w h hv hf (hfk who) h1 h30 hn).mono ?_
        rintro e w' ⟨rfl, hb⟩
        exact ⟨rfl, Or.inl ⟨by decide, hb⟩⟩
      · have e := M.pushE_goes (f := f) hf h1 h30
        rw [e]
        refine (qpush_ok who seq deed a n c l w h hv hf (hfk who) h1 (by omega) hm).mono ?_
        rintro e w' ⟨rfl, hx⟩
        exact ⟨rfl, Or.inr ⟨rfl, hx⟩⟩
    · have e := M.pushE_state (f := f) (n := E.length) hf h1
      rw [e]
      refine (qpush_late who seq deed a n c l w h hv hf (hfk who) (by omega)).mono ?_
      rintro e w' ⟨rfl, hb⟩
      rw [if_neg (by omega)]
      exact ⟨rfl, Or.inl ⟨by decide, hb⟩⟩
  · rw [M.pushE_bad hf]
    refine (qpush_bad S who seq deed a n c l w hv hf).mono ?_
    rintro e w' ⟨rfl, hb⟩
    exact ⟨rfl, Or.inl ⟨hf, hb⟩⟩

/-- one value written down -/
theorem lit_q (w : World) (v : M.Val) (hs : v.s.size ≤ maxLen) : IsVals (w.alloc (.cells #[.int .i64 v.k, .int .i64 v.n, .string v.s] 31)) (.slice (some ⟨w.heap.size, 0, none⟩) 1 1) [v] := by
  refine Or.inr (Or.inr ⟨w.heap.size, 0, 1, by simp, rfl, by simp, by unfold maxLen; decide, lie_of_cells (fun x hx => by simp at hx; subst hx; exact hs) fun j u hu => ?_⟩)
  exact World.news_of_block (heap_alloc_new w _) j u hu

end Go.Proofs.YtlefhfmckimlaakGreatDoor
