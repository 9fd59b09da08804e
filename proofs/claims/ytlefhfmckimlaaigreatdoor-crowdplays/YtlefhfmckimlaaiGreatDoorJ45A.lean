/-
  A crowd in memory of a call's own: a struct that leads to a row of copies, each in blocks of its own; what a call on one copy leaves of the others.
  Texts that lie in memory behind a slice: what a walk is told of some that came in, that they stay while only new memory is written, and a row of them that a call puts together itself. For any program.
-/
import Derived.Test.YtlefhfmckimlaaiGreatDoorJ29A
import Derived.Test.YtlefhfmckimlaaiGreatDoorCrowdMath
import Derived.Deep.Slices
import Derived.Deep.Strs
import Derived.ChangeSame
import Derived.Below
import Derived.WideShapes
import Derived.ProofKit
import Derived.Laws.OwnMore
import Derived.OwnWalk
import Derived.SizedLaws
set_option linter.unusedVariables false
namespace Go.Proofs.YtlefhfmckimlaaiGreatDoor
open Go.RowKit

/-- a block of another type is none of a copy's -/
theorem CpIs.other {base : Nat} {w : World} {F : Nat → Prop} {C : Nat} {c : M.Cop} {R : List M.Rul} (h : CpIs base w F C c R) {b : Nat} {cs : Array Value} {T : TypeId} {fr : Nat × Nat} (hb : w.heap[b]? = some (.cells cs T fr)) (h1 : T ≠ 73) (h2 : T ≠ 111) (h3 : T ≠ 35) (h4 : T ≠ 65) : ¬ F b := by
  obtain ⟨S, B, v, rv, rfl, hc⟩ := h.is
  exact hc.other hb h1 h2 h3 h4

/-- pointers to copies, in a row -/
def ptrs (Cs : List Nat) : List Value := Cs.map fun C => .pointer (some ⟨C, 0, none⟩)
theorem ptrs_len (Cs : List Nat) : (ptrs Cs).length = Cs.length := by simp [ptrs]
theorem ptrs_at {Cs : List Nat} {i : Nat} (h : i < Cs.length) : (ptrs Cs)[i]? = some (.pointer (some ⟨Cs[i], 0, none⟩)) := by simp [ptrs, h]
theorem ptrs_snoc (Cs : List Nat) (C : Nat) : ptrs (Cs ++ [C]) = ptrs Cs ++ [.pointer (some ⟨C, 0, none⟩)] := by simp [ptrs]

/-- a crowd: its copies, each with its blocks and what it is -/
structure Cw (base : Nat) (w : World) (K : Nat) (v : Value) (nd : Int) (Cs : List Nat) (Fs : Nat → Nat → Prop) (st : Nat → M.Cop) (R : List M.Rul) : Prop where
  lo : base ≤ K
  heap : w.heap[K]? = some (.cells #[v, .int .i64 nd] 103 (0, 0))
  row : w.ownsRow base 25 1 v Cs.length (ptrs Cs)
  cps : ∀ i (h : i < Cs.length), CpIs base w (Fs i) Cs[i] (st i) R
  off : ∀ i j, i < Cs.length → j < Cs.length → i ≠ j → Off (Fs i) (Fs j)
/-- its blocks -/
def cwF (K : Nat) (v : Value) (n : Nat) (Fs : Nat → Nat → Prop) (b : Nat) : Prop := b = K ∨ v.ownBlock = some b ∨ ∃ i, i < n ∧ Fs i b
section
variable {base : Nat} {w w' : World} {K : Nat} {v v' : Value} {nd : Int} {Cs : List Nat} {Fs : Nat → Nat → Prop} {st : Nat → M.Cop} {R : List M.Rul}
theorem Cw.cells (h : Cw base w K v nd Cs Fs st R) : w.cell? ⟨K, 0, none⟩ = some v ∧ w.cell? ⟨K, 1, none⟩ = some (.int .i64 nd) ∧ K < w.heap.size ∧ ∀ j, w.frozen? ⟨K, j, none⟩ = false := by
  refine ⟨?_, ?_, heap_lt h.heap, fun j => frozen_of_row w K j _ _ h.heap⟩
  · rw [cell_of_row w K 0 _ _ (0, 0) h.heap]; rfl
  · rw [cell_of_row w K 1 _ _ (0, 0) h.heap]; rfl
theorem Cw.shape (h : Cw base w K v nd Cs Fs st R) : ∃ ao cap, v = .slice ao Cs.length cap := by
  rcases h.row.2 with ⟨hv, hn⟩ | ⟨g, cap, cur, hv, _⟩
  · exact ⟨none, 0, by rw [hv, hn]⟩
  · exact ⟨_, cap, hv⟩
theorem Cw.base_le (h : Cw base w K v nd Cs Fs st R) : base ≤ w.heap.size := Nat.le_trans h.lo (Nat.le_of_lt (heap_lt h.heap))
theorem Cw.lows (h : Cw base w K v nd Cs Fs st R) : ∀ b, cwF K v Cs.length Fs b → base ≤ b := fun b hb => by
  rcases hb with rfl | hb | ⟨i, hi, hb⟩
  · exact h.lo
  · exact (ownsRow_tag h.row hb).1
  · exact (h.cps i hi).lows b hb
theorem Cw.highs (h : Cw base w K v nd Cs Fs st R) : ∀ b, cwF K v Cs.length Fs b → b < w.heap.size := fun b hb => by
  rcases hb with rfl | hb | ⟨i, hi, hb⟩
  · exact heap_lt h.heap
  · obtain ⟨_, c, fr, hh⟩ := ownsRow_tag h.row hb
    exact heap_lt hh
  · exact (h.cps i hi).highs b hb
theorem Cw.quiet (h : Cw base w K v nd Cs Fs st R) (hb : Below w.heap.size w w') : Cw base w' K v nd Cs Fs st R :=
  ⟨h.lo, (hb.block K (heap_lt h.heap)).trans h.heap, ownsRow_at h.row (fun g hg => by
    obtain ⟨_, c, fr, hh⟩ := ownsRow_tag h.row hg
    exact hb.block g (heap_lt hh)), fun i hi => (h.cps i hi).quiet hb, h.off⟩
/-- while something beside it is written -/
theorem Cw.keep {G : Nat → Prop} (h : Cw base w K v nd Cs Fs st R) (ht : Tch G w w') (hd : Off (cwF K v Cs.length Fs) G) : Cw base w' K v nd Cs Fs st R :=
  ⟨h.lo, (ht.block K (heap_lt h.heap) (hd K (Or.inl rfl))).trans h.heap, ownsRow_at h.row (fun g hg => ht.block g (h.highs g (Or.inr (Or.inl hg))) (hd g (Or.inr (Or.inl hg)))), fun i hi => (h.cps i hi).keep ht (fun b hb => hd b (Or.inr (Or.inr ⟨i, hi, hb⟩))), h.off⟩
/-- one copy's place in a list of what they are, or of their blocks -/
def upd {α : Type} (f : Nat → α) (i : Nat) (x : α) : Nat → α := fun j => if j = i then x else f j
theorem upd_same {α : Type} (f : Nat → α) (i : Nat) (x : α) : upd f i x i = x := if_pos rfl
theorem upd_other {α : Type} {f : Nat → α} {i j : Nat} {x : α} (h : j ≠ i) : upd f i x j = f j := if_neg h
/-- behind a call on one copy -/
theorem Cw.step {i : Nat} {F' : Nat → Prop} {c' : M.Cop} (h : Cw base w K v nd Cs Fs st R) (hi : i < Cs.length) (hC : CpIs base w' F' Cs[i] c' R) (ht : Tch (Fs i) w w') (hg : Grows w (Fs i) F') :
    Cw base w' K v nd Cs (upd Fs i F') (upd st i c') R ∧ Tch (cwF K v Cs.length Fs) w w' ∧ Grows w (cwF K v Cs.length Fs) (cwF K v Cs.length (upd Fs i F')) := by
  have hci := h.cps i hi
  refine ⟨⟨h.lo, ?_, ownsRow_at h.row (fun g hg' => ?_), fun j hj => ?_, fun a b ha hb hab => ?_⟩, ht.mono (fun b hb => Or.inr (Or.inr ⟨i, hi, hb⟩)), fun b hb => ?_⟩
  · exact (ht.block K (heap_lt h.heap) (hci.other h.heap (by decide) (by decide) (by decide) (by decide))).trans h.heap
  · obtain ⟨_, c, fr, hh⟩ := ownsRow_tag h.row hg'
    exact ht.block g (heap_lt hh) (hci.other hh (by decide) (by decide) (by decide) (by decide))
  · by_cases e : j = i
    · subst e; rw [upd_same, upd_same]; exact hC
    · rw [upd_other e, upd_other e]; exact (h.cps j hj).keep ht (h.off j i hj hi e)
  · by_cases e1 : a = i
    · subst e1
      rw [upd_same, upd_other (fun e => hab e.symm)]
      exact (h.off a b ha hb hab).grows (h.cps b hb).highs hg
    · by_cases e2 : b = i
      · subst e2
        rw [upd_same, upd_other e1]
        exact ((h.off b a hb ha (fun e => hab e.symm)).grows (h.cps a ha).highs hg).symm
      · rw [upd_other e1, upd_other e2]; exact h.off a b ha hb hab
  · rcases hb with rfl | hb | ⟨j, hj, hb⟩
    · exact Or.inl (Or.inl rfl)
    · exact Or.inl (Or.inr (Or.inl hb))
    · by_cases e : j = i
      · subst e
        rw [upd_same] at hb
        rcases hg b hb with q | q
        · exact Or.inl (Or.inr (Or.inr ⟨j, hj, q⟩))
        · exact Or.inr q
      · rw [upd_other e] at hb
        exact Or.inl (Or.inr (Or.inr ⟨j, hj, hb⟩))
/-- behind an append of one more, and the store of what came of it -/
theorem Cw.more {w3 : World} {C : Nat} {F : Nat → Prop} {c : M.Cop} (h : Cw base w K v nd Cs Fs st R) (hC : CpIs base w F C c R) (hF : ∀ i, i < Cs.length → Off F (Fs i)) (hg : w.grownBy w3 v.ownBlock) (hr : w3.ownsRow base 25 1 v' (Cs.length + 1) (ptrs Cs ++ [.pointer (some ⟨C, 0, none⟩)])) (hn : Near w v v') :
    Cw base (w3.setCell ⟨K, 0, none⟩ v') K v' nd (Cs ++ [C]) (upd Fs Cs.length F) (upd st Cs.length c) R ∧ Below base w (w3.setCell ⟨K, 0, none⟩ v') := by
  have hne : v.ownBlock ≠ some K := fun e => by
    obtain ⟨_, cc, fr, hh⟩ := ownsRow_tag h.row e
    rw [h.heap] at hh
    exact absurd (tag_eq hh) (by decide)
  have hne' : v'.ownBlock ≠ some K := fun e => by
    rcases hn with hn | hn
    · rw [hn] at e; exact hne e
    · have := hn K e; have := heap_lt h.heap; omega
  have h3 : w3.heap[K]? = some (.cells #[v, .int .i64 nd] 103 (0, 0)) := (hg.block K (heap_lt h.heap) (fun e => hne e.symm)).trans h.heap
  have hb : ∀ k, k < w.heap.size → k ≠ K → v.ownBlock ≠ some k → (w3.setCell ⟨K, 0, none⟩ v').heap[k]? = w.heap[k]? := fun k hk hc hd => by
    rw [heap_setCell_other w3 ⟨K, 0, none⟩ k v' hc]
    exact hg.block k hk (fun e => hd e.symm)
  have hs : Solid w (w3.setCell ⟨K, 0, none⟩ v') := fun b cur fr hh => by
    rw [hb b (heap_lt hh) (fun e => ?_) (fun e => ?_)]
    · exact hh
    · subst e
      rw [h.heap] at hh
      exact absurd (tag_eq hh) (by decide)
    · obtain ⟨_, cc, fr', hd⟩ := ownsRow_tag h.row e
      rw [hd] at hh
      exact absurd (tag_eq hh) (by decide)
  have hT : Tch (fun k => k = K ∨ v.ownBlock = some k) w (w3.setCell ⟨K, 0, none⟩ v') := ⟨hg.os, hg.tape, hg.output, by simpa using hg.size, fun k hk hn => hb k hk (fun e => hn (Or.inl e)) (fun e => hn (Or.inr e)), hs⟩
  have hoff : ∀ {F : Nat → Prop} {C : Nat} {c : M.Cop}, CpIs base w F C c R → Off F (fun k => k = K ∨ v.ownBlock = some k) := fun hc b hF e => by
    rcases e with rfl | e
    · exact hc.other h.heap (by decide) (by decide) (by decide) (by decide) hF
    · obtain ⟨_, cc, fr', hd⟩ := ownsRow_tag h.row e
      exact hc.other hd (by decide) (by decide) (by decide) (by decide) hF
  refine ⟨⟨h.lo, ?_, ?_, fun i hi => ?_, fun a b ha hb' hab => ?_⟩, hT.below (fun k hk => ?_) h.base_le⟩
  · rw [heap_setCell_same w3 K 0 _ _ _ h3]; rfl
  · rw [List.length_append, ptrs_snoc]
    exact hr.kept (grownBy_setCell w3 ⟨K, 0, none⟩ v') (Or.inr hne')
  · by_cases e : i = Cs.length
    · subst e
      rw [upd_same, upd_same, List.getElem_append_right (Nat.le_refl _)]
      simp only [Nat.sub_self, List.getElem_cons_zero]
      exact hC.keep hT (hoff hC)
    · have hi' : i < Cs.length := by rw [List.length_append] at hi; simp at hi; omega
      rw [upd_other e, upd_other e, List.getElem_append_left hi']
      exact (h.cps i hi').keep hT (hoff (h.cps i hi'))
  · rw [List.length_append] at ha hb'
    simp at ha hb'
    by_cases e1 : a = Cs.length
    · subst e1
      rw [upd_same, upd_other (fun e => hab e.symm)]
      exact hF b (by omega)
    · by_cases e2 : b = Cs.length
      · subst e2
        rw [upd_same, upd_other e1]
        exact (hF a (by omega)).symm
      · rw [upd_other e1, upd_other e2]; exact h.off a b (by omega) (by omega) hab
  · rcases hk with rfl | hk
    · exact h.lo
    · exact (ownsRow_tag h.row hk).1
end

/-- a crowd of n copies, each of them c, by the rules R, in the blocks F -/
structure CwIs (base : Nat) (w : World) (F : Nat → Prop) (K n : Nat) (c : M.Cop) (R : List M.Rul) : Prop where
  ok : c.Ok
  fine : M.rulE R = 0
  one : 1 ≤ n
  seven : n ≤ 7
  is : ∃ v Cs Fs, Cs.length = n ∧ F = cwF K v n Fs ∧ Cw base w K v (M.need n) Cs Fs (fun _ => c) R
section
variable {base : Nat} {w w' : World} {F G : Nat → Prop} {K n : Nat} {c : M.Cop} {R : List M.Rul}
theorem CwIs.lows (h : CwIs base w F K n c R) : ∀ i, F i → base ≤ i := by
  obtain ⟨v, Cs, Fs, rfl, rfl, hc⟩ := h.is
  exact hc.lows
theorem CwIs.highs (h : CwIs base w F K n c R) : ∀ i, F i → i < w.heap.size := by
  obtain ⟨v, Cs, Fs, rfl, rfl, hc⟩ := h.is
  exact hc.highs
theorem CwIs.quiet (h : CwIs base w F K n c R) (hb : Below w.heap.size w w') : CwIs base w' F K n c R := by
  obtain ⟨v, Cs, Fs, rfl, rfl, hc⟩ := h.is
  exact ⟨h.ok, h.fine, h.one, h.seven, v, Cs, Fs, rfl, rfl, hc.quiet hb⟩
theorem CwIs.keep (h : CwIs base w F K n c R) (ht : Tch G w w') (hd : Off F G) : CwIs base w' F K n c R := by
  obtain ⟨v, Cs, Fs, rfl, rfl, hc⟩ := h.is
  exact ⟨h.ok, h.fine, h.one, h.seven, v, Cs, Fs, rfl, rfl, hc.keep ht hd⟩
end

end Go.Proofs.YtlefhfmckimlaaiGreatDoor

namespace Go.Proofs.YtlefhfmckimlaaiGreatDoor
open Go.RowKit Go.Deep

/-- the texts l lie in w from cell off of block b on -/
def LieS (w : World) (b off : Nat) (l : List ByteArray) : Prop := ∀ i (h : i < l.length), w.cell? ⟨b, off + i, none⟩ = some (.string l[i]) ∧ l[i].size ≤ reachBytes
/-- where a slice has its texts: nowhere, if there are none -/
def AtS (w : World) (a : Option Addr) (l : List ByteArray) : Prop := 0 < l.length → ∃ b off, a = some ⟨b, off, none⟩ ∧ LieS w b off l
theorem LieS.stays {w w' : World} {b off B : Nat} {l : List ByteArray} (h : LieS w b off l) (hb : Below B w w') (hB : w.heap.size ≤ B) : LieS w' b off l := fun i hi => by
  obtain ⟨g, g2⟩ := h i hi
  exact ⟨(hb.cell (p := ⟨b, off + i, none⟩) (Nat.lt_of_lt_of_le (World.block_lt_of_cell? w _ g) hB)).trans g, g2⟩
theorem AtS.stays {w w' : World} {a : Option Addr} {B : Nat} {l : List ByteArray} (h : AtS w a l) (hb : Below B w w') (hB : w.heap.size ≤ B) : AtS w' a l := fun h0 => by
  obtain ⟨b, off, e, g⟩ := h h0
  exact ⟨b, off, e, g.stays hb hB⟩

theorem weightsAll_mem {H : Type} {P : Program} {e : TypeId} : ∀ {L : List (DataW H)} {d : DataW H}, d ∈ L → ∀ m ∈ d.weights P e, m ∈ DataW.weightsAll P e L
  | d0 :: L, d, h, m, hm => by
    simp only [DataW.weightsAll, List.mem_append]
    rcases List.mem_cons.1 h with rfl | h
    · exact Or.inl hm
    · exact Or.inr (weightsAll_mem h m hm)
  | [], _, h, _, _ => by cases h
/-- an argument's own sizes, out of all of them -/
theorem sized_at {H : Type} {P : Program} {ts : List TypeId} {ds : List (DataW H)} (h : (DataW.weightsEach P ts ds).all (· ≤ reachBytes) = true) {j : Nat} {t : TypeId} {d : DataW H} (ht : ts[j]? = some t) (hd : ds[j]? = some d) : ∀ m ∈ d.weights P t, m ≤ reachBytes := fun m hm => by
  simpa using List.all_eq_true.1 h m (DataW.weights_mem_each ht hd m hm)
/-- an argument of type []string -/
theorem open_strs {H : Type} {enc : TypeId × Value → H} {P : Program} {w : World} {tt t : TypeId} {a : Option Addr} {len cap : Nat} {d : DataW H} {p : List MemPlace}
    (htt : P.underlying tt = some (.slice t)) (ct : P.cellsOf t = 1) (ht : P.underlying t = some .string) (h : DataW.Trod enc P w 0 (fun _ => true) true tt (.slice a len cap) d p) (hw : ∀ m ∈ d.weights P tt, m ≤ reachBytes) :
    ∃ l : List ByteArray, len = l.length ∧ len ≤ cap ∧ cap ≤ maxLen ∧ AtS w a l ∧ (a = none → len = 0 ∧ cap = 0) := by
  obtain ⟨fuel, hf⟩ := h
  rcases open_slice1 htt ct hf with ⟨hcs, hd⟩ | ⟨x, len', cap', m, n, V, D, Pl, hcs, _, hl, hm, hmm, hd, hx⟩
  · simp [Value.cells] at hcs
    obtain ⟨rfl, rfl, rfl⟩ := hcs
    exact ⟨[], rfl, Nat.zero_le _, Nat.zero_le _, fun h => absurd h (by decide), fun _ => ⟨rfl, rfl⟩⟩
  · simp [Value.cells] at hcs
    obtain ⟨rfl, rfl, rfl⟩ := hcs
    have hmc : m = cap := by rw [hmm]; simp
    have each : ∀ i, i < len → ∃ z : ByteArray, w.cell? (x.add i) = some (.string z) ∧ z.size ≤ reachBytes := by
      intro i hi
      obtain ⟨h1, h2⟩ := hx i (by omega)
      obtain ⟨z, hz, hdz, _⟩ := DataW.trod_string ht h2
      simp at hz
      rw [hz] at h1
      have hdi : D i = .lit (.string z.data.toList) := by simpa using congrArg Prod.fst hdz
      refine ⟨z, h1, hw _ ?_⟩
      rw [(Prod.mk.inj hd).1]
      simp only [DataW.weights, htt, List.mem_cons, List.mem_append]
      refine Or.inr (Or.inl (weightsAll_mem (d := D i) (List.mem_map.2 ⟨i, List.mem_range.2 hi, rfl⟩) _ ?_))
      rw [hdi]
      simp [DataW.weights]
    rcases Nat.eq_zero_or_pos len with h0 | h0
    · subst h0; exact ⟨[], rfl, hl, by omega, fun h => absurd h (by simp), fun e => by cases e⟩
    haveI : Inhabited ByteArray := ⟨⟨#[]⟩⟩
    obtain ⟨f, hfe⟩ := choose_lt each
    obtain ⟨b, off, spot⟩ := x
    have hspot : spot = none := by simpa [Addr.add] using World.cell?_spot (hfe 0 h0).1
    subst hspot
    have hll : ((List.range len).map f).length = len := by simp
    refine ⟨(List.range len).map f, hll.symm, hl, by omega, fun _ => ⟨b, off, rfl, fun i hi => ?_⟩, fun e => by cases e⟩
    have hi' : i < len := by rw [hll] at hi; exact hi
    have e : ((List.range len).map f)[i] = f i := by simp
    rw [e]
    have g := hfe i hi'
    rw [WideShapes.add_plain] at g
    exact g

/-- the cells of some texts, in a row -/
def cellsS (l : List ByteArray) : List Value := l.map fun z => .string z
theorem cellsS_len (l : List ByteArray) : (cellsS l).length = l.length := by simp [cellsS]
theorem cellsS_at {l : List ByteArray} {j : Nat} (h : j < l.length) : (cellsS l)[j]? = some (.string l[j]) := by simp [cellsS, h]
theorem cellsS_oneCell (l : List ByteArray) : ∀ u ∈ cellsS l, u.oneCell' = true := fun u h => by
  simp only [cellsS, List.mem_map] at h
  obtain ⟨z, _, rfl⟩ := h
  rfl
theorem cellsS_set (l : List ByteArray) (j : Nat) (x : ByteArray) : cellsS (l.set j x) = (cellsS l).set j (.string x) := by unfold cellsS; rw [List.map_set]
/-- texts that a call has put together itself -/
theorem atS_own {w : World} {base : Nat} {e : TypeId} {v : Value} {m : Nat} {l : List ByteArray} (hm : m = l.length) (hs : ∀ x ∈ l, x.size ≤ reachBytes) (h : w.ownsRow base e 1 v m (cellsS l)) : ∃ a cap, v = .slice a m cap ∧ m ≤ cap ∧ cap ≤ maxLen ∧ AtS w a l := by
  have hc := h
  rcases h.2 with ⟨hv, hn⟩ | ⟨g, cap, cur, hv, _, _, hn, hcm, _⟩
  · exact ⟨none, 0, by rw [hv, hn], by omega, Nat.zero_le _, fun h0 => by omega⟩
  · refine ⟨some ⟨g, 0, none⟩, cap, hv, hn, hcm, fun _ => ⟨g, 0, rfl, fun i hi => ?_⟩⟩
    have g1 := hc.cells (g := g) (by rw [hv]; rfl) _ _ (cellsS_at hi)
    rw [WideShapes.add_plain] at g1
    exact ⟨g1, hs _ (List.getElem_mem hi)⟩
/-- the cells of texts that lie somewhere -/
theorem AtS.news {w : World} {ad : Addr} {l : List ByteArray} (h : AtS w (some ad) l) : ∀ j u, (cellsS l)[j]? = some u → w.cell? (ad.add j) = some u := fun j u hu => by
  have hj : j < l.length := by
    have := (List.getElem?_eq_some_iff.1 hu).1
    rwa [cellsS_len] at this
  obtain ⟨b, off, e, g⟩ := h (by omega)
  cases e
  rw [cellsS_at hj] at hu
  cases hu
  rw [WideShapes.add_plain]
  exact (g j hj).1

end Go.Proofs.YtlefhfmckimlaaiGreatDoor
