/-
  Memory and plain facts for the Go function LogKeeps: a log, the document's copies behind each record, and the bytes behind each, side by side; what a log answers, held against the document's copy.
-/
import Derived.Test.YtlefhfmckimlaakGreatDoorLogStopsA
import Derived.Test.YtlefhfmckimlaakGreatDoorRcTwin
import Derived.Test.YtlefhfmckimlaakGreatDoorRcMark
import Derived.Deep.AppendLies
set_option linter.unusedVariables false
namespace Go.Proofs.YtlefhfmckimlaakGreatDoor.logKeeps
open Go.RowKit

/-- the document's own copy that is c, in the blocks F -/
def RcAt (w0 w : World) (F : Nat → Prop) (C : Nat) (c : M.Cop) (ra : Option Addr) (rn rc : Nat) (R : List M.Rul) : Prop := ∃ S u dv D, F = rcF C S u dv ∧ RcIs w0 w C S u dv ra rn rc c D R
section
variable {w0 w w' : World} {F G : Nat → Prop} {C : Nat} {c : M.Cop} {ra : Option Addr} {rn rc : Nat} {R : List M.Rul} {a : Option Addr} {n cp : Nat}
theorem RcAt.lows (h : RcAt w0 w F C c ra rn rc R) : ∀ k, F k → w0.heap.size ≤ k := by
  obtain ⟨S, u, dv, D, rfl, hr⟩ := h
  exact hr.rc.lows
theorem RcAt.highs (h : RcAt w0 w F C c ra rn rc R) : ∀ k, F k → k < w.heap.size := by
  obtain ⟨S, u, dv, D, rfl, hr⟩ := h
  exact hr.rc.highs
theorem RcAt.ok (h : RcAt w0 w F C c ra rn rc R) : c.Ok := by
  obtain ⟨S, u, dv, D, rfl, hr⟩ := h
  exact hr.ok
theorem RcAt.keep (h : RcAt w0 w F C c ra rn rc R) (ht : Tch G w w') (hd : Off F G) (hG : ∀ k, G k → w0.heap.size ≤ k) : RcAt w0 w' F C c ra rn rc R := by
  have hi := h.highs
  obtain ⟨S, u, dv, D, rfl, hr⟩ := h
  exact ⟨S, u, dv, D, rfl, hr.rc.kept (ht.kept hi hd hG hr.rc.bel.size), hr.last, hr.len, hr.ok, hr.rules, hr.many, hr.fine⟩
theorem RcAt.quiet (h : RcAt w0 w F C c ra rn rc R) (hb : Below w.heap.size w w') : RcAt w0 w' F C c ra rn rc R := by
  obtain ⟨S, u, dv, D, rfl, hr⟩ := h
  exact ⟨S, u, dv, D, rfl, hr.quiet hb⟩
/-- a block of another type is none of a copy's -/
theorem RcAt.other (h : RcAt w0 w F C c ra rn rc R) {b : Nat} {cs : Array Value} {T : TypeId} {fr : Nat × Nat} (hb : w.heap[b]? = some (.cells cs T fr)) (h1 : T ≠ 55) (h2 : T ≠ 78) (h3 : T ≠ 32) (h4 : T ≠ 106) : ¬ F b := by
  obtain ⟨S, u, dv, D, rfl, hr⟩ := h
  obtain ⟨q1, q2⟩ := hr.rc.sp.other hb h2 h3
  rintro (e | e | e | e)
  · subst e
    rw [hr.rc.heap] at hb
    exact h1 (tag_eq hb).symm
  · exact q1 e
  · exact q2 e
  · obtain ⟨_, c9, f9, hh⟩ := ownsRow_tag hr.rc.row e
    rw [hh] at hb
    exact h4 (tag_eq hb).symm
theorem RcAt.many (h : RcAt w0 w F C c ra rn rc R) : w.cell? ⟨C, 3, none⟩ = some (.int .i64 c.n) ∧ C < w.heap.size := by
  obtain ⟨S, u, dv, D, rfl, hr⟩ := h
  obtain ⟨_, _, _, c3, cn, _⟩ := hr.rc.cells
  exact ⟨c3, cn⟩
theorem RcAt.mark (h : RcAt w0 w F C c ra rn rc R) : Calls Tryz.prog 21 #[.pointer (some ⟨C, 0, none⟩)] w fun e w' => e = .returned (.tuple #[.int .i64 c.n, .int .i64 (M.mark c.l)]) ∧ Below w.heap.size w w' := by
  obtain ⟨S, u, dv, D, rfl, hr⟩ := h
  exact rMark hr
theorem RcAt.act (x : M.Ask) (h : RcAt w0 w F C c ra rn rc R) (hv : IsVals w0 (.slice a n cp) x.t) (hn : c.n < 1000) :
    Calls Tryz.prog 20 #[.pointer (some ⟨C, 0, none⟩), aggA x.who x.seq x.deed a n cp] w fun e w' => e = .returned (.tuple #[.string (M.doR R c x).2.1, .int .i64 (M.doR R c x).1]) ∧ ∃ F', RcAt w0 w' F' C (M.doR R c x).2.2 ra rn rc R ∧ Tch F w w' ∧ Grows w F F' := by
  obtain ⟨S, u, dv, D, rfl, hr⟩ := h
  refine (rDo x hr hv hn).mono ?_
  rintro e w' ⟨rfl, u', dv', D', q1, q2, q3⟩
  exact ⟨rfl, _, ⟨S, u', dv', D', rfl, q1⟩, q2, q3⟩
theorem RcAt.twin (h : RcAt w0 w F C c ra rn rc R) (hn : c.n ≤ 1000) :
    Calls Tryz.prog 19 #[.pointer (some ⟨C, 0, none⟩)] w fun e w' => ∃ C' F', e = .returned (.pointer (some ⟨C', 0, none⟩)) ∧ RcAt w0 w' F' C' c ra rn rc R ∧ (∀ k, F' k → w.heap.size ≤ k) ∧ Below w.heap.size w w' := by
  obtain ⟨S, u, dv, D, rfl, hr⟩ := h
  refine (rTwin hr.rc (by have := hr.ok.fine.2; omega) (by rw [hr.len]; exact hn)).mono ?_
  rintro e w' ⟨C', S', u', dv', rfl, q1, q2, q3⟩
  exact ⟨C', _, rfl, ⟨S', u', dv', D, rfl, q1, hr.last, hr.len, hr.ok, hr.rules, hr.many, hr.fine⟩, q2, q3⟩
end

def ptrC (p : Nat) (Cs : Nat → Nat) : List Value := (List.range p).map fun i => .pointer (some ⟨Cs i, 0, none⟩)
theorem ptrC_len (p : Nat) (Cs : Nat → Nat) : (ptrC p Cs).length = p := by simp [ptrC]
theorem ptrC_at {p i : Nat} {Cs : Nat → Nat} (h : i < p) : (ptrC p Cs)[i]? = some (.pointer (some ⟨Cs i, 0, none⟩)) := by simp [ptrC, h]
theorem ptrC_next (p : Nat) (Cs : Nat → Nat) : ptrC (p + 1) Cs = ptrC p Cs ++ [.pointer (some ⟨Cs p, 0, none⟩)] := by simp [ptrC, List.range_succ]
theorem ptrC_take {p q : Nat} (h : q ≤ p) (Cs : Nat → Nat) : (ptrC p Cs).take q = ptrC q Cs := by
  unfold ptrC
  rw [← List.map_take, List.take_range, Nat.min_eq_left h]
theorem ptrC_congr {p : Nat} {Cs Cs' : Nat → Nat} (h : ∀ i, i < p → Cs i = Cs' i) : ptrC p Cs = ptrC p Cs' := by
  unfold ptrC
  exact List.map_congr_left fun i hi => by rw [h i (List.mem_range.1 hi)]
def cellsN (l : List Nat) : List Value := l.map fun (n : Nat) => Value.int .i64 (n : Int)
theorem cellsN_len (l : List Nat) : (cellsN l).length = l.length := by simp [cellsN]
theorem cellsN_at {l : List Nat} {j : Nat} (h : j < l.length) : (cellsN l)[j]? = some (.int .i64 l[j]) := by simp [cellsN, h]
theorem cellsN_snoc (l : List Nat) (n : Nat) : cellsN (l ++ [n]) = cellsN l ++ [.int .i64 n] := by simp [cellsN]
theorem cellsN_take (l : List Nat) (q : Nat) : (cellsN l).take q = cellsN (l.take q) := by simp [cellsN, List.map_take]
def up {α : Type} (f : Nat → α) (i : Nat) (x : α) : Nat → α := fun j => if j = i then x else f j
theorem up_same {α : Type} (f : Nat → α) (i : Nat) (x : α) : up f i x i = x := if_pos rfl
theorem up_other {α : Type} (f : Nat → α) {i j : Nat} (x : α) (h : j ≠ i) : up f i x j = f j := if_neg h

/-- the log, the document's copies (the first p of them in a row), and the marks -/
structure LkX (w0 w : World) (J : Nat) (FJ : Nat → Prop) (dv mv : Value) (p : Nat) (Cs : Nat → Nat) (Fs : Nat → Nat → Prop) (cl : List M.Cop) (ml : List Nat) (g : M.Lg) (ra : Option Addr) (rn rc : Nat) (R : List M.Rul) : Prop where
  lg : LgIs w0.heap.size w FJ J g R
  le : p ≤ cl.length
  dn : w.ownsRow w0.heap.size 46 1 dv p (ptrC p Cs)
  mks : w.ownsRow w0.heap.size 3 1 mv ml.length (cellsN ml)
  cps : ∀ i (h : i < cl.length), RcAt w0 w (Fs i) (Cs i) cl[i] ra rn rc R
  offC : ∀ i j, i < cl.length → j < cl.length → i ≠ j → Off (Fs i) (Fs j)
  offJ : ∀ i, i < cl.length → Off (Fs i) FJ
  offD : ∀ k, dv.ownBlock = some k → ¬ FJ k
  offM : ∀ k, mv.ownBlock = some k → ¬ FJ k
  bel : Below w0.heap.size w0 w
section
variable {w0 w w' : World} {J : Nat} {FJ FJ' : Nat → Prop} {dv mv : Value} {p : Nat} {Cs : Nat → Nat} {Fs : Nat → Nat → Prop} {cl : List M.Cop} {ml : List Nat} {g g' : M.Lg} {ra : Option Addr} {rn rc : Nat} {R : List M.Rul}
theorem LkX.quiet (h : LkX w0 w J FJ dv mv p Cs Fs cl ml g ra rn rc R) (hb : Below w.heap.size w w') : LkX w0 w' J FJ dv mv p Cs Fs cl ml g ra rn rc R :=
  ⟨h.lg.quiet hb, h.le, ownsRow_at h.dn (fun k hk => by
    obtain ⟨_, c, fr, hh⟩ := ownsRow_tag h.dn hk
    exact hb.block k (heap_lt hh)), ownsRow_at h.mks (fun k hk => by
    obtain ⟨_, c, fr, hh⟩ := ownsRow_tag h.mks hk
    exact hb.block k (heap_lt hh)), fun i hi => (h.cps i hi).quiet hb, h.offC, h.offJ, h.offD, h.offM, h.bel.trans (hb.mono h.bel.size)⟩
/-- behind a call on the log -/
theorem LkX.logged (h : LkX w0 w J FJ dv mv p Cs Fs cl ml g ra rn rc R) (hl : LgIs w0.heap.size w' FJ' J g' R) (ht : Tch FJ w w') (hg : Grows w FJ FJ') : LkX w0 w' J FJ' dv mv p Cs Fs cl ml g' ra rn rc R := by
  have row : ∀ {T k n : Nat} {v : Value} {xs : List Value}, w.ownsRow w0.heap.size T k v n xs → (∀ b, v.ownBlock = some b → ¬ FJ b) → w'.ownsRow w0.heap.size T k v n xs ∧ ∀ b, v.ownBlock = some b → ¬ FJ' b := fun ho hn => ⟨ownsRow_at ho (fun b hb => by
    obtain ⟨_, c, fr, hh⟩ := ownsRow_tag ho hb
    exact ht.block b (heap_lt hh) (hn b hb)), fun b hb e => by
    obtain ⟨_, c, fr, hh⟩ := ownsRow_tag ho hb
    have := heap_lt hh
    rcases hg b e with q | q
    · exact hn b hb q
    · omega⟩
  obtain ⟨r1, r2⟩ := row h.dn h.offD
  obtain ⟨r3, r4⟩ := row h.mks h.offM
  exact ⟨hl, h.le, r1, r3, fun i hi => (h.cps i hi).keep ht (h.offJ i hi) h.lg.lows, h.offC, fun i hi => ((h.offJ i hi).symm.grows (h.cps i hi).highs hg).symm, r2, r4, h.bel.trans (ht.below h.lg.lows h.bel.size)⟩
/-- one copy more that is new: it is in no row yet -/
theorem LkX.twinned (h : LkX w0 w J FJ dv mv p Cs Fs cl ml g ra rn rc R) {C' : Nat} {F' : Nat → Prop} {c : M.Cop} (hr : RcAt w0 w' F' C' c ra rn rc R) (hn : ∀ k, F' k → w.heap.size ≤ k) (hb : Below w.heap.size w w') : LkX w0 w' J FJ dv mv p (up Cs cl.length C') (up Fs cl.length F') (cl ++ [c]) ml g ra rn rc R := by
  have q := h.quiet hb
  have e0 : ∀ i, i < cl.length → i ≠ cl.length := fun i hi e => by omega
  refine ⟨q.lg, by simp; have := h.le; omega, ?_, q.mks, fun i hi => ?_, fun i j hi hj hij => ?_, fun i hi => ?_, q.offD, q.offM, q.bel⟩
  · rw [ptrC_congr (Cs' := Cs) (fun i hi => up_other Cs C' (e0 i (by have := h.le; omega)))]; exact q.dn
  · by_cases hi2 : i < cl.length
    · rw [up_other Fs F' (e0 i hi2), up_other Cs C' (e0 i hi2), List.getElem_append_left hi2]
      exact q.cps i hi2
    · have : i = cl.length := by simp at hi; omega
      subst this
      rw [up_same, up_same]
      simp only [List.getElem_concat_length]
      exact hr
  · simp at hi hj
    by_cases hi2 : i < cl.length
    · by_cases hj2 : j < cl.length
      · rw [up_other Fs F' (e0 i hi2), up_other Fs F' (e0 j hj2)]; exact h.offC i j hi2 hj2 hij
      · have : j = cl.length := by omega
        subst this
        rw [up_other Fs F' (e0 i hi2), up_same]
        exact (Off.new (w := w) (h.cps i hi2).highs hn).symm
    · have : i = cl.length := by omega
      subst this
      have hj2 : j < cl.length := by omega
      rw [up_same, up_other Fs F' (e0 j hj2)]
      exact Off.new (w := w) (h.cps j hj2).highs hn
  · simp at hi
    by_cases hi2 : i < cl.length
    · rw [up_other Fs F' (e0 i hi2)]; exact h.offJ i hi2
    · have : i = cl.length := by omega
      subst this
      rw [up_same]
      exact Off.new (w := w) h.lg.highs hn
/-- behind a call on the last copy -/
theorem LkX.acted {c c' : M.Cop} {F' : Nat → Prop} (h : LkX w0 w J FJ dv mv p Cs Fs (cl ++ [c]) ml g ra rn rc R) (hr : RcAt w0 w' F' (Cs cl.length) c' ra rn rc R) (ht : Tch (Fs cl.length) w w') (hg : Grows w (Fs cl.length) F') : LkX w0 w' J FJ dv mv p Cs (up Fs cl.length F') (cl ++ [c']) ml g ra rn rc R := by
  have hlast : cl.length < (cl ++ [c]).length := by simp
  have hc := h.cps cl.length hlast
  have e0 : ∀ i, i < cl.length → i ≠ cl.length := fun i hi e => by omega
  have row : ∀ {T k n : Nat} {v : Value} {xs : List Value}, w.ownsRow w0.heap.size T k v n xs → T ≠ 55 → T ≠ 78 → T ≠ 32 → T ≠ 106 → w'.ownsRow w0.heap.size T k v n xs := fun ho t1 t2 t3 t4 => ownsRow_at ho (fun b hb => by
    obtain ⟨_, c, fr, hh⟩ := ownsRow_tag ho hb
    exact ht.block b (heap_lt hh) (hc.other hh t1 t2 t3 t4))
  refine ⟨h.lg.keep ht (h.offJ cl.length hlast).symm, by have := h.le; simpa using this, row h.dn (by decide) (by decide) (by decide) (by decide), row h.mks (by decide) (by decide) (by decide) (by decide), fun i hi => ?_, fun i j hi hj hij => ?_, fun i hi => ?_, h.offD, h.offM, h.bel.trans (ht.below hc.lows h.bel.size)⟩
  · by_cases hi2 : i < cl.length
    · rw [up_other Fs F' (e0 i hi2), List.getElem_append_left hi2]
      have := h.cps i (by simp; omega)
      rw [List.getElem_append_left hi2] at this
      exact this.keep ht (h.offC i cl.length (by simp; omega) hlast (e0 i hi2)) hc.lows
    · have : i = cl.length := by simp at hi; omega
      subst this
      rw [up_same]
      simp only [List.getElem_concat_length]
      exact hr
  · simp at hi hj
    by_cases hi2 : i < cl.length
    · by_cases hj2 : j < cl.length
      · rw [up_other Fs F' (e0 i hi2), up_other Fs F' (e0 j hj2)]; exact h.offC i j (by simp; omega) (by simp; omega) hij
      · have : j = cl.length := by omega
        subst this
        rw [up_other Fs F' (e0 i hi2), up_same]
        exact ((h.offC cl.length i hlast (by simp; omega) (fun e => by omega)).grows (h.cps i (by simp; omega)).highs hg).symm
    · have : i = cl.length := by omega
      subst this
      have hj2 : j < cl.length := by omega
      rw [up_same, up_other Fs F' (e0 j hj2)]
      exact (h.offC cl.length j hlast (by simp; omega) (fun e => by omega)).grows (h.cps j (by simp; omega)).highs hg
  · simp at hi
    by_cases hi2 : i < cl.length
    · rw [up_other Fs F' (e0 i hi2)]; exact h.offJ i (by simp; omega)
    · have : i = cl.length := by omega
      subst this
      rw [up_same]
      exact (h.offJ cl.length hlast).grows h.lg.highs hg
/-- the first of them alone -/
theorem LkX.less (h : LkX w0 w J FJ dv mv p Cs Fs cl ml g ra rn rc R) {q : Nat} (hq : p ≤ q) : LkX w0 w J FJ dv mv p Cs Fs (cl.take q) ml g ra rn rc R :=
  ⟨h.lg, by rw [List.length_take]; have := h.le; omega, h.dn, h.mks, fun i hi => by rw [List.getElem_take]; exact h.cps i (by rw [List.length_take] at hi; omega), fun i j hi hj => h.offC i j (by rw [List.length_take] at hi; omega) (by rw [List.length_take] at hj; omega), fun i hi => h.offJ i (by rw [List.length_take] at hi; omega), h.offD, h.offM, h.bel⟩
/-- a row of the call's own, cut off -/
theorem row_cut {b n cap k i T gg : Nat} {xs : List Value} (h : w.ownsRow b T k (.slice (some ⟨gg, 0, none⟩) n cap) n xs) (hi : i ≤ n) : w.ownsRow b T k (.slice (some ⟨gg, 0, none⟩) i cap) i (xs.take (i * k)) := by
  rcases h.2 with ⟨h', _⟩ | ⟨g', cap', cur, h', hb, hg, hnc, hcm, hcs, htake⟩
  · simp at h'
  · simp only [Value.slice.injEq, Option.some.injEq, Addr.mk.injEq, and_true, true_and] at h'
    obtain ⟨rfl, rfl⟩ := h'
    have hl : i * k ≤ n * k := Nat.mul_le_mul_right _ hi
    refine ⟨by rw [List.length_take, h.1]; omega, Or.inr ⟨gg, cap, cur, rfl, hb, hg, by omega, hcm, hcs, ?_⟩⟩
    rw [← htake, List.take_take, Nat.min_eq_left hl]
theorem LkX.cut {gd gm q : Nat} {dc mc : Nat} (h : LkX w0 w J FJ (.slice (some ⟨gd, 0, none⟩) p dc) (.slice (some ⟨gm, 0, none⟩) ml.length mc) p Cs Fs cl ml g ra rn rc R) (hq : q ≤ p) (hm : q ≤ ml.length) : LkX w0 w J FJ (.slice (some ⟨gd, 0, none⟩) q dc) (.slice (some ⟨gm, 0, none⟩) q mc) q Cs Fs (cl.take q) (ml.take q) g ra rn rc R := by
  have r1 := row_cut h.dn hq
  have r2 := row_cut h.mks hm
  rw [Nat.mul_one, ptrC_take hq] at r1
  rw [Nat.mul_one, cellsN_take] at r2
  have hl : (ml.take q).length = q := by rw [List.length_take]; omega
  have hc : (cl.take q).length = q := by rw [List.length_take]; have := h.le; omega
  refine ⟨h.lg, by omega, r1, by rw [hl]; exact r2, fun i hi => by rw [List.getElem_take]; exact h.cps i (by have := h.le; omega), fun i j hi hj => h.offC i j (by have := h.le; omega) (by have := h.le; omega), fun i hi => h.offJ i (by have := h.le; omega), fun k hk => h.offD k hk, fun k hk => h.offM k hk, h.bel⟩
/-- one pointer more in the row -/
theorem LkX.addD {o : Obj} {dn' dc' gd : Nat} {da : Option Addr} {dcap : Nat} (h0 : LkX w0 w J FJ (.slice da p dcap) mv p Cs Fs cl ml g ra rn rc R) (hp : p < cl.length) (hg : (w.alloc o).grownBy w' (Value.slice da p dcap).ownBlock) (ho : w'.ownsRow w0.heap.size 46 1 (.slice (some ⟨gd, 0, none⟩) (p + 1) dc') (p + 1) (ptrC p Cs ++ [.pointer (some ⟨Cs p, 0, none⟩)])) (hat : (Value.slice da p dcap).ownBlock = some gd ∨ gd = w.heap.size + 1) :
    LkX w0 w' J FJ (.slice (some ⟨gd, 0, none⟩) (p + 1) dc') mv (p + 1) Cs Fs cl ml g ra rn rc R := by
  have h := h0.quiet ((Below.refl _ _).alloc (Nat.le_refl _) o)
  have kb : ∀ k, k < (w.alloc o).heap.size → (Value.slice da p dcap).ownBlock ≠ some k → w'.heap[k]? = (w.alloc o).heap[k]? := fun k hk hn => hg.block k hk (fun e => hn e.symm)
  have ht : Tch (fun k => (Value.slice da p dcap).ownBlock = some k) (w.alloc o) w' := ⟨hg.os, hg.tape, hg.output, hg.size, fun k hk hn => kb k hk hn, fun b cur fr hb => (kb b (heap_lt hb) (fun e => by
    obtain ⟨_, c, fr2, hh⟩ := ownsRow_tag h.dn e
    rw [hb] at hh
    exact absurd (tag_eq hh) (by decide))).trans hb⟩
  have lo : ∀ k, (Value.slice da p dcap).ownBlock = some k → w0.heap.size ≤ k := fun k hk => (ownsRow_tag h.dn hk).1
  refine ⟨h.lg.keep ht (fun k hk e => h.offD k e hk), by omega, by rw [ptrC_next]; exact ho, ownsRow_at h.mks (fun k hk => ?_), fun i hi => (h.cps i hi).keep ht (fun k hk e => ?_) lo, h.offC, h.offJ, fun k hk => ?_, h.offM, h.bel.trans (ht.below lo h.bel.size)⟩
  · obtain ⟨_, c, fr, hh⟩ := ownsRow_tag h.mks hk
    exact kb k (heap_lt hh) (fun e => by
      obtain ⟨_, c2, fr2, hh2⟩ := ownsRow_tag h.dn e
      rw [hh] at hh2
      exact absurd (tag_eq hh2) (by decide))
  · obtain ⟨_, c2, fr2, hh2⟩ := ownsRow_tag h.dn e
    exact (h.cps i hi).other hh2 (by decide) (by decide) (by decide) (by decide) hk
  · have e : gd = k := by simpa [Value.ownBlock] using hk
    subst e
    rcases hat with q | q
    · exact h.offD gd q
    · exact fun hF => by have := h0.lg.highs gd hF; omega
/-- one mark more -/
theorem LkX.addM {o : Obj} {mc' gm : Nat} {ma : Option Addr} {mcap mn : Nat} {z : Nat} (h0 : LkX w0 w J FJ dv (.slice ma mn mcap) p Cs Fs cl ml g ra rn rc R) (hl : ml.length = mn) (hg : (w.alloc o).grownBy w' (Value.slice ma mn mcap).ownBlock) (ho : w'.ownsRow w0.heap.size 3 1 (.slice (some ⟨gm, 0, none⟩) (mn + 1) mc') (mn + 1) (cellsN ml ++ [.int .i64 z])) (hat : (Value.slice ma mn mcap).ownBlock = some gm ∨ gm = w.heap.size + 1) :
    LkX w0 w' J FJ dv (.slice (some ⟨gm, 0, none⟩) (mn + 1) mc') p Cs Fs cl (ml ++ [z]) g ra rn rc R := by
  have h := h0.quiet ((Below.refl _ _).alloc (Nat.le_refl _) o)
  have kb : ∀ k, k < (w.alloc o).heap.size → (Value.slice ma mn mcap).ownBlock ≠ some k → w'.heap[k]? = (w.alloc o).heap[k]? := fun k hk hn => hg.block k hk (fun e => hn e.symm)
  have ht : Tch (fun k => (Value.slice ma mn mcap).ownBlock = some k) (w.alloc o) w' := ⟨hg.os, hg.tape, hg.output, hg.size, fun k hk hn => kb k hk hn, fun b cur fr hb => (kb b (heap_lt hb) (fun e => by
    obtain ⟨_, c, fr2, hh⟩ := ownsRow_tag h.mks e
    rw [hb] at hh
    exact absurd (tag_eq hh) (by decide))).trans hb⟩
  have lo : ∀ k, (Value.slice ma mn mcap).ownBlock = some k → w0.heap.size ≤ k := fun k hk => (ownsRow_tag h.mks hk).1
  refine ⟨h.lg.keep ht (fun k hk e => h.offM k e hk), h.le, ownsRow_at h.dn (fun k hk => ?_), by rw [cellsN_snoc, List.length_append, hl]; exact ho, fun i hi => (h.cps i hi).keep ht (fun k hk e => ?_) lo, h.offC, h.offJ, h.offD, fun k hk => ?_, h.bel.trans (ht.below lo h.bel.size)⟩
  · obtain ⟨_, c, fr, hh⟩ := ownsRow_tag h.dn hk
    exact kb k (heap_lt hh) (fun e => by
      obtain ⟨_, c2, fr2, hh2⟩ := ownsRow_tag h.mks e
      rw [hh] at hh2
      exact absurd (tag_eq hh2) (by decide))
  · obtain ⟨_, c2, fr2, hh2⟩ := ownsRow_tag h.mks e
    exact (h.cps i hi).other hh2 (by decide) (by decide) (by decide) (by decide) hk
  · have e : gm = k := by simpa [Value.ownBlock] using hk
    subst e
    rcases hat with q | q
    · exact h.offM gm q
    · exact fun hF => by have := h0.lg.highs gm hF; omega
end

end Go.Proofs.YtlefhfmckimlaakGreatDoor.logKeeps
