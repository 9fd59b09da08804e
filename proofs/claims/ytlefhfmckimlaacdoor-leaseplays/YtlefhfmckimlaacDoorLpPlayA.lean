/-
  The switch of LeasePlays, taken out of the law's text by a function; what stands ahead of it, and what each way through it leaves.
-/
import Derived.Test.YtlefhfmckimlaacDoorLpState
namespace Go.Proofs.YtlefhfmckimlaacDoor
open Go.RowKit

namespace Lps
/-- the block of a number, in a function's text -/
def blockAt (n : Nat) : Code → Option Code
  | .block m c => if m = n then some (.block m c) else blockAt n c
  | .seq a b => match blockAt n a with
    | some c => some c
    | none => blockAt n b
  | .loop c => blockAt n c
  | .cond _ a b => match blockAt n a with
    | some c => some c
    | none => blockAt n b
  | _ => none

theorem infoI : (Tryd.prog.info? 3).map (fun i => (i.zero, i.size, i.bytes)) = some (some (.int .i64 0), 1, 8) := by kernel_rfl

/-- the lists of the law are those of the program, and no number was given twice -/
structure Agree (E : List Ent) (gv : Int) (I U : List Int) (A : List (List M.Val)) : Prop where
  i : I = E.map (·.i)
  u : U = E.map (·.u)
  a : A = E.map (·.t)
  nd : (E.map (·.i)).Nodup
  le : ∀ x ∈ E, x.i ≤ gv
/-- behind the switch -/
def Done (w w' : World) (S k : Nat) (tm gv : Int) (vi vu va : Value) : Prop := ∃ v E I U A, Agree E gv I U A ∧ Lp (fun _ _ => False) w w' S tm gv v E vi vu va I U A ∧ 0 ≤ gv ∧ gv ≤ (k : Int) + 1
/-- three numbers that are known -/
abbrev Arr (B : Nat) (z0 z1 z2 : Int) : Nat → Array Value → Prop := fun b d => b = B ∧ d = #[.int .i64 z0, .int .i64 z1, .int .i64 z2]
/-- ahead of the switch -/
structure Tuned (w w1 : World) (S B k : Nat) (tm gv : Int) (v vi vu va tv : Value) (E : List Ent) (I U : List Int) (A : List (List M.Val)) (l : List M.Val) (z0 z1 z2 : Int) : Prop where
  lp : Lp (Arr B z0 z1 z2) w w1 S tm gv v E vi vu va I U A
  ag : Agree E gv I U A
  tv : IsVals w tv l
  hand : Hand w
  g0 : 0 ≤ gv
  gk : gv ≤ (k : Int)
  k8 : k < 80

section
variable {w w1 : World} {S B : Nat} {tm gv : Int} {v vi vu va : Value} {E : List Ent} {I U : List Int} {A : List (List M.Val)} {z0 z1 z2 : Int}
theorem cellsB (h : Lp (Arr B z0 z1 z2) w w1 S tm gv v E vi vu va I U A) : w1.cell? ⟨B, 0, none⟩ = some (.int .i64 z0) ∧ w1.cell? ⟨B, 1, none⟩ = some (.int .i64 z1) ∧ w1.cell? ⟨B, 2, none⟩ = some (.int .i64 z2) ∧ B < w1.heap.size := by
  obtain ⟨h1, _, h3⟩ := h.arr0
  exact ⟨h1 0, h1 1, h1 2, h3⟩
theorem ints_cell {w : World} {b : Nat} {v : Value} {I : List Int} (h : w.ownsRow b 3 1 v I.length (ints I)) (h0 : 0 < I.length) : ∃ g cap, v = .slice (some ⟨g, 0, none⟩) I.length cap ∧ (∀ j (hj : j < I.length), w.cell? ⟨g, j, none⟩ = some (.int .i64 I[j])) ∧ (∀ j, w.frozen? ⟨g, j, none⟩ = false) ∧ g < w.heap.size := by
  obtain ⟨g, cap, rfl, _, hg⟩ := h.form h0
  exact ⟨g, cap, rfl, fun j hj => by rw [h.cellAt j (by omega), ints_at hj], fun j => h.frozenAt j, hg⟩
theorem Agree.lens (h : Agree E gv I U A) : I.length = E.length ∧ U.length = E.length ∧ A.length = E.length := by rw [h.i, h.u, h.a]; simp
theorem Agree.at (h : Agree E gv I U A) {j : Nat} (hj : j < E.length) : I[j]'(by rw [h.lens.1]; exact hj) = E[j].i ∧ U[j]'(by rw [h.lens.2.1]; exact hj) = E[j].u ∧ A[j]'(by rw [h.lens.2.2]; exact hj) = E[j].t := by
  obtain ⟨h1, h2, h3, _, _⟩ := h
  subst h1 h2 h3
  simp
/-- one number, one place -/
theorem Agree.once (h : Agree E gv I U A) {id : Int} (hn : M.numb id E < E.length) {j : Nat} (hj : j < E.length) (hne : j ≠ M.numb id E) : E[j].i ≠ id := fun e => by
  have h1 : (E[M.numb id E].i == id) = true := List.findIdx_getElem (p := fun x : Ent => x.i == id) (w := hn)
  have h2 : E[M.numb id E].i = id := by simpa using h1
  have h3 := h.nd
  have h4 : (E.map (·.i))[j]'(by simpa using hj) = (E.map (·.i))[M.numb id E]'(by simpa using hn) := by simp [e, h2]
  exact hne ((List.getElem_inj h3).1 h4)
theorem numb_at {id : Int} (hn : M.numb id E < E.length) : E[M.numb id E].i = id := by
  have h1 : (E[M.numb id E].i == id) = true := List.findIdx_getElem (p := fun x : Ent => x.i == id) (w := hn)
  simpa using h1
theorem numb_none {id : Int} (hn : ¬ M.numb id E < E.length) {j : Nat} (hj : j < E.length) : E[j].i ≠ id := fun e => by
  have h1 : E.findIdx (fun x => x.i == id) = E.length := Nat.le_antisymm List.findIdx_le_length (by unfold M.numb at hn; omega)
  have := List.findIdx_eq_length.1 h1 E[j] (List.getElem_mem hj)
  simp [e] at this
theorem Agree.nil : Agree [] 0 [] [] [] := ⟨rfl, rfl, rfl, by simp, fun x h => by simp at h⟩
theorem map_same {β : Type} {f : Ent → β} {p : Nat} {y : Ent} (hp : p < E.length) (hf : f y = f E[p]) : (E.set p y).map f = E.map f := by
  have h1 : (E.map f)[p]'(by simpa using hp) = f y := by rw [hf]; simp
  rw [List.map_set, ← h1]
  exact List.set_getElem_self _
theorem Agree.till (h : Agree E gv I U A) {p : Nat} (hp : p < E.length) (x : Int) : Agree (E.set p (E[p].till x)) gv I (U.set p x) A := by
  have e1 : (E.set p (E[p].till x)).map (·.i) = E.map (·.i) := map_same hp rfl
  have e3 : (E.set p (E[p].till x)).map (·.t) = E.map (·.t) := map_same hp rfl
  refine ⟨by rw [e1]; exact h.i, by rw [h.u, List.map_set]; rfl, by rw [e3]; exact h.a, by rw [e1]; exact h.nd, fun y hy => ?_⟩
  rcases List.mem_or_eq_of_mem_set hy with hy | hy
  · exact h.le y hy
  · rw [hy]; exact h.le E[p] (List.getElem_mem hp)
theorem Agree.now (h : Agree E gv I U A) (x : Int) : Agree (M.nowE E x) gv ((M.nowE E x).map (·.i)) ((M.nowE E x).map (·.u)) ((M.nowE E x).map (·.t)) :=
  ⟨rfl, rfl, rfl, h.nd.sublist (List.Sublist.map _ List.filter_sublist), fun y hy => h.le y (nowE_sub y hy)⟩
theorem Agree.put (h : Agree E gv I U A) {x : Ent} (hi : x.i = gv + 1) {u : Int} (hu : x.u = u) {l : List M.Val} (ht : x.t = l) : Agree (E ++ [x]) (gv + 1) (I ++ [gv + 1]) (U ++ [u]) (A ++ [l]) := by
  refine ⟨by rw [h.i]; simp [hi], by rw [h.u]; simp [hu], by rw [h.a]; simp [ht], ?_, fun y hy => ?_⟩
  · rw [List.map_append, List.nodup_append]
    refine ⟨h.nd, by simp, fun a ha b hb => ?_⟩
    obtain ⟨y, hy, rfl⟩ := List.mem_map.1 ha
    simp at hb
    have := h.le y hy
    rw [hb, hi]
    omega
  · rcases List.mem_append.1 hy with hy | hy
    · have := h.le y hy; omega
    · rw [List.mem_singleton.1 hy, hi]; omega

/-- three lists that are made anew -/
structure Tri (w0 w2 w : World) (a b c : Value) (F : List Ent) : Prop where
  bel : Below w2.heap.size w2 w
  ra : w.ownsRow w2.heap.size 3 1 a F.length (ints (F.map (·.i)))
  rb : w.ownsRow w2.heap.size 3 1 b F.length (ints (F.map (·.u)))
  rc : RowOf (IsVals w0) w2.heap.size w c (F.map (·.t))
  ap : Apart a b
theorem Tri.nil (w0 w2 : World) : Tri w0 w2 w2 (.slice none 0 0) (.slice none 0 0) (.slice none 0 0) [] := ⟨Below.refl _ _, World.ownsRow_nil _ _ _ _, World.ownsRow_nil _ _ _ _, RowOf.nil _ _ _, Apart.nil _⟩
/-- the three lists behind an append to each -/
theorem Tri.more {w0 w2 wr wa wb wc : World} {a b c : Value} {F : List Ent} {x : Ent} {xv : Value} {xs : List Value} {ga ca gb cb gc cc Ha Hb : Nat} {oa ob oc : Obj} (h : Tri w0 w2 wr a b c F)
    (oA : wa.ownsRow w2.heap.size 3 1 (.slice (some ⟨ga, 0, none⟩) (F.length + 1) ca) (F.length + 1) (ints (F.map (·.i)) ++ [.int .i64 x.i])) (gA : (wr.alloc oa).grownBy wa a.ownBlock) (atA : a.ownBlock = some ga ∨ ga = Ha) (hHa : Ha = wr.heap.size + 1)
    (oB : wb.ownsRow w2.heap.size 3 1 (.slice (some ⟨gb, 0, none⟩) (F.length + 1) cb) (F.length + 1) (ints (F.map (·.u)) ++ [.int .i64 x.u])) (gB : (wa.alloc ob).grownBy wb b.ownBlock) (atB : b.ownBlock = some gb ∨ gb = Hb) (hHb : Hb = wa.heap.size + 1)
    (hx1 : (wb.alloc oc).ownsRow w2.heap.size 30 1 c F.length xs) (hx2 : ∀ i (h1 : i < xs.length) (h2 : i < (F.map (·.t)).length), IsVals w0 xs[i] (F.map (·.t))[i]) (hx : IsVals w0 xv x.t)
    (oC : wc.ownsRow w2.heap.size 30 1 (.slice (some ⟨gc, 0, none⟩) (F.length + 1) cc) (F.length + 1) (xs ++ [xv])) (gC : (wb.alloc oc).grownBy wc c.ownBlock) :
    Tri w0 w2 wc (.slice (some ⟨ga, 0, none⟩) (F.length + 1) ca) (.slice (some ⟨gb, 0, none⟩) (F.length + 1) cb) (.slice (some ⟨gc, 0, none⟩) (F.length + 1) cc) (F ++ [x]) := by
  have hbl : ∀ k, b.ownBlock = some k → k < Ha := fun k hk => by have := (h.rb.lt k hk).2; omega
  have ap1 : Apart (.slice (some ⟨ga, 0, none⟩) (F.length + 1) ca) b := apart_lies atA h.ap hbl
  have hga : ga < wa.heap.size := (oA.lt ga rfl).2
  have ap2 : Apart (.slice (some ⟨gb, 0, none⟩) (F.length + 1) cb) (.slice (some ⟨ga, 0, none⟩) (F.length + 1) ca) := apart_lies atB ap1.symm (fun k hk => by
    have : ga = k := by simpa [Value.ownBlock] using hk
    omega)
  have ra1 := oA.alloc ob
  have ra2 := row_apart ra1 ap1 gB
  have ra3 := row_other (ra2.alloc oc) hx1 (by decide) gC
  have rb3 := row_other (oB.alloc oc) hx1 (by decide) gC
  have b1 : Below w2.heap.size w2 wa := (h.bel.alloc h.bel.size _).grown gA (Nat.le_trans h.bel.size (by simp)) (fun k hk => (h.ra.lt k hk).1)
  have b2 : Below w2.heap.size w2 wb := (b1.alloc b1.size _).grown gB (Nat.le_trans b1.size (by simp)) (fun k hk => (h.rb.lt k hk).1)
  have b3 : Below w2.heap.size w2 wc := (b2.alloc b2.size _).grown gC (Nat.le_trans b2.size (by simp)) (fun k hk => (hx1.lt k hk).1)
  refine ⟨b3, ?_, ?_, ?_, ap2.symm⟩
  · rw [List.map_append, List.length_append]; simp only [List.map_cons, List.map_nil]; rw [ints_snoc]; exact ra3
  · rw [List.map_append, List.length_append]; simp only [List.map_cons, List.map_nil]; rw [ints_snoc]; exact rb3
  · rw [List.map_append]
    exact RowOf.snoc hx2 (by have := hx1.1; simp; omega) (by simpa using oC) hx
theorem now_snoc {x : Int} {j : Nat} (hj : j < E.length) : M.nowE (E.take (j + 1)) x = M.nowE (E.take j) x ++ (if x < E[j].u then [E[j]] else []) := by
  unfold M.nowE
  rw [List.take_succ_eq_append_getElem hj, List.filter_append]
  congr 1
  by_cases h : x < E[j].u
  · simp [h]
  · simp [h]
end
end Lps

end Go.Proofs.YtlefhfmckimlaacDoor
