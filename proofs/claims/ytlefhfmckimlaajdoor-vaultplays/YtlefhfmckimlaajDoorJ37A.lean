/-
  Memory for the Go function VaultPlays: a vault, and the law's three lists beside it: the names, of each its shares, of each its commits; with plain facts on them.
  A slice of slices of numbers, or of shares, that lies in memory: what a walk is told of one that came in or that a call has put together, and that it stays while only new memory is written. For any program.
-/
import Derived.Test.YtlefhfmckimlaajDoorJ27A
import Derived.Test.YtlefhfmckimlaajDoorJ35A
import Derived.Test.YtlefhfmckimlaajDoorJ36A
import Derived.Test.YtlefhfmckimlaajDoorJ29A
import Derived.Deep.AppendLies
import Derived.Test.YtlefhfmckimlaajDoorJ12A
set_option linter.unusedVariables false
namespace Go.Proofs.YtlefhfmckimlaajDoor.vaultPlays
open Go.RowKit

/-- the names that were put, and of each its factors -/
structure Named (v : M.Vlt) (H : List ByteArray) (P : List (List Int)) : Prop where
  len : P.length = H.length
  many : v.n = H.length
  is : ∀ i (h : i < H.length) (h2 : i < P.length), v.g H[i] = some P[i]
  gone : ∀ a, (∀ i (h : i < H.length), H[i] ≠ a) → v.g a = Option.none
theorem Named.new (many need : Nat) : Named (M.Vlt.new many need) [] [] := ⟨rfl, rfl, fun i h _ => by simp at h, fun _ _ => rfl⟩
theorem Named.put {v : M.Vlt} {H : List ByteArray} {P : List (List Int)} {a : ByteArray} {s : Int} {r : List Int} (h : Named v H P) (he : M.vputE v a s r = 0) : Named (M.vputV v a s r) (H ++ [a]) (P ++ [s :: r]) := by
  obtain ⟨_, e2, _, _, _⟩ := M.vputE_ok he
  refine ⟨by simp [h.len], by rw [M.vputV_n he, h.many]; simp, fun i h1 h2 => ?_, fun b hb => ?_⟩
  · by_cases hi : i < H.length
    · have hp : i < P.length := by rw [h.len]; exact hi
      rw [List.getElem_append_left hi, List.getElem_append_left hp]
      have hg := h.is i hi hp
      rw [M.vputV_other (fun e => by rw [e, e2] at hg; cases hg)]
      exact hg
    · have e : i = H.length := by simp at h1; omega
      subst e
      have e3 : (P ++ [s :: r])[H.length] = s :: r := by
        have hl := h.len
        simp [← hl]
      rw [e3]
      simp only [List.getElem_concat_length]
      exact M.vputV_same he
  · rw [M.vputV_other (fun e => hb H.length (by simp) (by simp [e]))]
    exact h.gone b (fun i hi => by have := hb i (by simp; omega); rwa [List.getElem_append_left hi] at this)

section
variable {base : Nat} {w w' : World} {vh vh' vs vs' vc vc' x y : Value} {H : List ByteArray} {xs ys : List Value} {D : List (List (Int × Int))} {C : List (List Int)} {a : ByteArray} {d : List (Int × Int)} {c : List Int} {g cap : Nat}
/-- the three lists -/
structure Ls (base : Nat) (w : World) (vh : Value) (H : List ByteArray) (vs : Value) (xs : List Value) (D : List (List (Int × Int))) (vc : Value) (ys : List Value) (C : List (List Int)) : Prop where
  has : w.ownsRow base 9 1 vh H.length (cellsS H)
  shares : w.ownsRow base 23 1 vs D.length xs
  xl : xs.length = D.length
  xe : ∀ i (h : i < xs.length) (h2 : i < D.length), w.ownsRow base 31 2 xs[i] D[i].length (flatP D[i])
  commits : w.ownsRow base 22 1 vc C.length ys
  yl : ys.length = C.length
  ye : ∀ i (h : i < ys.length) (h2 : i < C.length), w.ownsRow base 3 1 ys[i] C[i].length (cellsI C[i])
/-- their blocks -/
def lsF (vh vs : Value) (xs : List Value) (vc : Value) (ys : List Value) (b : Nat) : Prop := vh.ownBlock = some b ∨ vs.ownBlock = some b ∨ vc.ownBlock = some b ∨ (∃ x ∈ xs, x.ownBlock = some b) ∨ (∃ y ∈ ys, y.ownBlock = some b)
theorem Ls.new (base : Nat) (w : World) : Ls base w (.slice none 0 0) [] (.slice none 0 0) [] [] (.slice none 0 0) [] [] :=
  ⟨World.ownsRow_nil _ _ _ _, World.ownsRow_nil _ _ _ _, rfl, fun i h _ => by simp at h, World.ownsRow_nil _ _ _ _, rfl, fun i h _ => by simp at h⟩
theorem Ls.range (h : Ls base w vh H vs xs D vc ys C) : ∀ b, lsF vh vs xs vc ys b → base ≤ b ∧ b < w.heap.size := fun b hb => by
  have one : ∀ {k n : Nat} {e : TypeId} {v : Value} {zs : List Value}, w.ownsRow base e k v n zs → v.ownBlock = some b → base ≤ b ∧ b < w.heap.size := fun ho e => by
    obtain ⟨h1, c, fr, hh⟩ := rowV_tag ho e
    exact ⟨h1, heapV_lt hh⟩
  rcases hb with e | e | e | ⟨z, hz, e⟩ | ⟨z, hz, e⟩
  · exact one h.has e
  · exact one h.shares e
  · exact one h.commits e
  · obtain ⟨i, hi, rfl⟩ := List.getElem_of_mem hz
    exact one (h.xe i hi (by rw [← h.xl]; exact hi)) e
  · obtain ⟨i, hi, rfl⟩ := List.getElem_of_mem hz
    exact one (h.ye i hi (by rw [← h.yl]; exact hi)) e
theorem Ls.kept (h : Ls base w vh H vs xs D vc ys C) (hk : ∀ b, lsF vh vs xs vc ys b → w'.heap[b]? = w.heap[b]?) : Ls base w' vh H vs xs D vc ys C :=
  ⟨rowV_at h.has (fun b hb => hk b (Or.inl hb)), rowV_at h.shares (fun b hb => hk b (Or.inr (Or.inl hb))), h.xl, fun i h1 h2 => rowV_at (h.xe i h1 h2) (fun b hb => hk b (Or.inr (Or.inr (Or.inr (Or.inl ⟨_, List.getElem_mem h1, hb⟩))))),
    rowV_at h.commits (fun b hb => hk b (Or.inr (Or.inr (Or.inl hb)))), h.yl, fun i h1 h2 => rowV_at (h.ye i h1 h2) (fun b hb => hk b (Or.inr (Or.inr (Or.inr (Or.inr ⟨_, List.getElem_mem h1, hb⟩)))))⟩
theorem Ls.quiet (h : Ls base w vh H vs xs D vc ys C) (hb : Below w.heap.size w w') : Ls base w' vh H vs xs D vc ys C := h.kept (fun b hb' => hb.block b (h.range b hb').2)
/-- a row of another type stays while one grows -/
theorem row_beside {b1 : Nat} {e1 e2 : TypeId} {k1 k2 n1 n2 : Nat} {u v : Value} {zs1 zs2 : List Value} (h1 : w.ownsRow b1 e1 k1 u n1 zs1) (h2 : w.ownsRow base e2 k2 v n2 zs2) (hne : e1 ≠ e2) (hg : w.grownBy w' u.ownBlock) : w'.ownsRow base e2 k2 v n2 zs2 :=
  rowV_at h2 (fun b hb => by
    obtain ⟨_, c, fr, hh⟩ := rowV_tag h2 hb
    exact hg.block b (heapV_lt hh) (fun e => by
      obtain ⟨_, c2, fr2, hh2⟩ := rowV_tag h1 e.symm
      rw [hh] at hh2
      exact hne (tagV_eq hh2).symm))
theorem Ls.addH (h : Ls base w vh H vs xs D vc ys C) (hg : w.grownBy w' vh.ownBlock) (ho : w'.ownsRow base 9 1 vh' (H.length + 1) (cellsS H ++ [.string a])) : Ls base w' vh' (H ++ [a]) vs xs D vc ys C :=
  ⟨by simpa [cellsS] using ho, row_beside h.has h.shares (by decide) hg, h.xl, fun i h1 h2 => row_beside h.has (h.xe i h1 h2) (by decide) hg, row_beside h.has h.commits (by decide) hg, h.yl, fun i h1 h2 => row_beside h.has (h.ye i h1 h2) (by decide) hg⟩
theorem Ls.addD (h : Ls base w vh H vs xs D vc ys C) (hx : w.ownsRow base 31 2 x d.length (flatP d)) (hg : w.grownBy w' vs.ownBlock) (ho : w'.ownsRow base 23 1 vs' (D.length + 1) (xs ++ [x])) : Ls base w' vh H vs' (xs ++ [x]) (D ++ [d]) vc ys C := by
  refine ⟨row_beside h.shares h.has (by decide) hg, by simpa using ho, by simp [h.xl], fun i h1 h2 => ?_, row_beside h.shares h.commits (by decide) hg, h.yl, fun i h1 h2 => row_beside h.shares (h.ye i h1 h2) (by decide) hg⟩
  by_cases hi : i < xs.length
  · have hd : i < D.length := by rw [← h.xl]; exact hi
    rw [List.getElem_append_left hi, List.getElem_append_left hd]
    exact row_beside h.shares (h.xe i hi hd) (by decide) hg
  · have e : i = xs.length := by simp at h1; omega
    subst e
    have e3 : (D ++ [d])[xs.length] = d := by have hl := h.xl; simp [hl]
    rw [e3]
    simp only [List.getElem_concat_length]
    exact row_beside h.shares hx (by decide) hg
theorem Ls.addC (h : Ls base w vh H vs xs D vc ys C) (hy : w.ownsRow base 3 1 y c.length (cellsI c)) (hg : w.grownBy w' vc.ownBlock) (ho : w'.ownsRow base 22 1 vc' (C.length + 1) (ys ++ [y])) : Ls base w' vh H vs xs D vc' (ys ++ [y]) (C ++ [c]) := by
  refine ⟨row_beside h.commits h.has (by decide) hg, row_beside h.commits h.shares (by decide) hg, h.xl, fun i h1 h2 => row_beside h.commits (h.xe i h1 h2) (by decide) hg, by simpa using ho, by simp [h.yl], fun i h1 h2 => ?_⟩
  by_cases hi : i < ys.length
  · have hd : i < C.length := by rw [← h.yl]; exact hi
    rw [List.getElem_append_left hi, List.getElem_append_left hd]
    exact row_beside h.commits (h.ye i hi hd) (by decide) hg
  · have e : i = ys.length := by simp at h1; omega
    subst e
    have e3 : (C ++ [c])[ys.length] = c := by have hl := h.yl; simp [hl]
    rw [e3]
    simp only [List.getElem_concat_length]
    exact row_beside h.commits hy (by decide) hg
end

section
variable {w0 w w' : World} {F : Nat → Prop} {V : Nat} {v : M.Vlt} {vh vs vc x y : Value} {H : List ByteArray} {xs ys : List Value} {D : List (List (Int × Int))} {C : List (List Int)} {a : ByteArray} {d : List (Int × Int)} {c : List Int} {g cap : Nat}
/-- the vault, and the lists beside it -/
structure Vp (w0 w : World) (F : Nat → Prop) (V : Nat) (v : M.Vlt) (vh : Value) (H : List ByteArray) (vs : Value) (xs : List Value) (D : List (List (Int × Int))) (vc : Value) (ys : List Value) (C : List (List Int)) : Prop where
  vt : VtIs w0.heap.size w F V v
  ls : Ls w0.heap.size w vh H vs xs D vc ys C
  off : Of F (lsF vh vs xs vc ys)
  bel : Below w0.heap.size w0 w
theorem Vp.quiet (h : Vp w0 w F V v vh H vs xs D vc ys C) (hb : Below w.heap.size w w') : Vp w0 w' F V v vh H vs xs D vc ys C := ⟨h.vt.quiet hb, h.ls.quiet hb, h.off, h.bel.trans (hb.mono h.bel.size)⟩
theorem tc_grown {u : Value} (hg : w.grownBy w' u.ownBlock) : Tc (fun b => u.ownBlock = some b) w w' := ⟨hg.os, hg.tape, hg.output, hg.size, fun k hk hn => hg.block k hk (fun e => hn e.symm)⟩
theorem own_some (g n cap b : Nat) : (Value.slice (some ⟨g, 0, none⟩) n cap).ownBlock = some b ↔ b = g := by simp [Value.ownBlock, eq_comm]
theorem Vp.grow {u : Value} {vh' vs' vc' : Value} {H' : List ByteArray} {xs' ys' : List Value} {D' : List (List (Int × Int))} {C' : List (List Int)} (h : Vp w0 w F V v vh H vs xs D vc ys C) (hu : ∀ b, u.ownBlock = some b → lsF vh vs xs vc ys b) (hg : w.grownBy w' u.ownBlock) (hl : Ls w0.heap.size w' vh' H' vs' xs' D' vc' ys' C') (hn : ∀ b, lsF vh' vs' xs' vc' ys' b → lsF vh vs xs vc ys b ∨ w.heap.size ≤ b ∨ ¬ F b) :
    Vp w0 w' F V v vh' H' vs' xs' D' vc' ys' C' := by
  have ht := tc_grown hg
  refine ⟨h.vt.keep ht (fun b hb e => h.off b hb (hu b e)), hl, fun b hb e => ?_, h.bel.trans (ht.below (fun b e => (h.ls.range b (hu b e)).1) h.bel.size)⟩
  rcases hn b e with q | q | q
  · exact h.off b hb q
  · have := h.vt.highs b hb; omega
  · exact q hb
theorem Vp.addH (h : Vp w0 w F V v vh H vs xs D vc ys C) (hg : w.grownBy w' vh.ownBlock) (ho : w'.ownsRow w0.heap.size 9 1 (.slice (some ⟨g, 0, none⟩) (H.length + 1) cap) (H.length + 1) (cellsS H ++ [.string a])) (hn : vh.ownBlock = some g ∨ g = w.heap.size) :
    Vp w0 w' F V v (.slice (some ⟨g, 0, none⟩) (H.length + 1) cap) (H ++ [a]) vs xs D vc ys C := by
  refine h.grow (fun b e => Or.inl e) hg (h.ls.addH hg ho) (fun b hb => ?_)
  rcases hb with e | e
  · rw [own_some] at e
    subst e
    rcases hn with e | e
    · exact Or.inl (Or.inl e)
    · exact Or.inr (Or.inl (by omega))
  · exact Or.inl (Or.inr e)
theorem Vp.addD (h : Vp w0 w F V v vh H vs xs D vc ys C) (hx : w.ownsRow w0.heap.size 31 2 x d.length (flatP d)) (hF : ∀ b, x.ownBlock = some b → ¬ F b) (hg : w.grownBy w' vs.ownBlock) (ho : w'.ownsRow w0.heap.size 23 1 (.slice (some ⟨g, 0, none⟩) (D.length + 1) cap) (D.length + 1) (xs ++ [x])) (hn : vs.ownBlock = some g ∨ g = w.heap.size) :
    Vp w0 w' F V v vh H (.slice (some ⟨g, 0, none⟩) (D.length + 1) cap) (xs ++ [x]) (D ++ [d]) vc ys C := by
  refine h.grow (fun b e => Or.inr (Or.inl e)) hg (h.ls.addD hx hg ho) (fun b hb => ?_)
  rcases hb with e | e | e | ⟨z, hz, e⟩ | e
  · exact Or.inl (Or.inl e)
  · rw [own_some] at e
    subst e
    rcases hn with e | e
    · exact Or.inl (Or.inr (Or.inl e))
    · exact Or.inr (Or.inl (by omega))
  · exact Or.inl (Or.inr (Or.inr (Or.inl e)))
  · rcases List.mem_append.1 hz with q | q
    · exact Or.inl (Or.inr (Or.inr (Or.inr (Or.inl ⟨z, q, e⟩))))
    · rw [List.mem_singleton.1 q] at e
      exact Or.inr (Or.inr (hF b e))
  · exact Or.inl (Or.inr (Or.inr (Or.inr (Or.inr e))))
theorem Vp.addC (h : Vp w0 w F V v vh H vs xs D vc ys C) (hy : w.ownsRow w0.heap.size 3 1 y c.length (cellsI c)) (hF : ∀ b, y.ownBlock = some b → ¬ F b) (hg : w.grownBy w' vc.ownBlock) (ho : w'.ownsRow w0.heap.size 22 1 (.slice (some ⟨g, 0, none⟩) (C.length + 1) cap) (C.length + 1) (ys ++ [y])) (hn : vc.ownBlock = some g ∨ g = w.heap.size) :
    Vp w0 w' F V v vh H vs xs D (.slice (some ⟨g, 0, none⟩) (C.length + 1) cap) (ys ++ [y]) (C ++ [c]) := by
  refine h.grow (fun b e => Or.inr (Or.inr (Or.inl e))) hg (h.ls.addC hy hg ho) (fun b hb => ?_)
  rcases hb with e | e | e | e | ⟨z, hz, e⟩
  · exact Or.inl (Or.inl e)
  · exact Or.inl (Or.inr (Or.inl e))
  · rw [own_some] at e
    subst e
    rcases hn with e | e
    · exact Or.inl (Or.inr (Or.inr (Or.inl e)))
    · exact Or.inr (Or.inl (by omega))
  · exact Or.inl (Or.inr (Or.inr (Or.inr (Or.inl e))))
  · rcases List.mem_append.1 hz with q | q
    · exact Or.inl (Or.inr (Or.inr (Or.inr (Or.inr ⟨z, q, e⟩))))
    · rw [List.mem_singleton.1 q] at e
      exact Or.inr (Or.inr (hF b e))
/-- a Put -/
theorem Vp.xput {s : Int} {ra : Option Addr} {rn rc : Nat} {r : List Int} (h : Vp w0 w F V v vh H vs xs D vc ys C) (ha : a.size ≤ maxLen) (hn : rn = r.length) (hm : rn ≤ maxLen) (hl : AtI w0 ra r) (ht : Tidy ra rn rc) :
    Calls Tryd.prog 8 #[.pointer (some ⟨V, 0, none⟩), .string a, .int .i64 s, .slice ra rn rc] w fun e w' => e = .returned (errV (M.vputE v a s r)) ∧ ∃ F', Vp w0 w' F' V (M.vputV v a s r) vh H vs xs D vc ys C := by
  refine (vPut h.vt ha hn hm (hl.stays h.bel (Nat.le_refl _)) ht).mono ?_
  rintro e w' ⟨rfl, F', h1, h2, h3⟩
  exact ⟨rfl, F', h1, h.ls.kept (fun b hb => h2.block b (h.ls.range b hb).2 (fun e => h.off b e hb)), h.off.grows (fun b hb => (h.ls.range b hb).2) h3, h.bel.trans (h2.below h.vt.lows h.bel.size)⟩
end

end Go.Proofs.YtlefhfmckimlaajDoor.vaultPlays

namespace Go.Proofs.YtlefhfmckimlaajDoor
open Go.RowKit Go.Deep

/-- the things L lie in w, a cell each, from cell off of block b on; of each Q is known -/
def LieQ {α : Type} (Q : World → Value → α → Prop) (w : World) (b off : Nat) (L : List α) : Prop := ∀ i (h : i < L.length), ∃ v, w.cell? ⟨b, off + i, none⟩ = some v ∧ Q w v L[i]
/-- where a slice has them: nowhere, if there are none -/
def AtQ {α : Type} (Q : World → Value → α → Prop) (w : World) (a : Option Addr) (L : List α) : Prop := 0 < L.length → ∃ b off, a = some ⟨b, off, none⟩ ∧ LieQ Q w b off L
/-- a thing that stays while only new memory is written -/
def FirmQ {α : Type} (Q : World → Value → α → Prop) : Prop := ∀ (w w' : World) (v : Value) (x : α) (B : Nat), Q w v x → Below B w w' → w.heap.size ≤ B → Q w' v x

theorem LieQ.stays {α : Type} {Q : World → Value → α → Prop} (hQ : FirmQ Q) {w w' : World} {b off B : Nat} {L : List α} (h : LieQ Q w b off L) (hb : Below B w w') (hB : w.heap.size ≤ B) : LieQ Q w' b off L := fun i hi => by
  obtain ⟨v, h1, h2⟩ := h i hi
  exact ⟨v, (hb.cell (p := ⟨b, off + i, none⟩) (Nat.lt_of_lt_of_le (World.block_lt_of_cell? w _ h1) hB)).trans h1, hQ _ _ _ _ _ h2 hb hB⟩
theorem AtQ.stays {α : Type} {Q : World → Value → α → Prop} (hQ : FirmQ Q) {w w' : World} {a : Option Addr} {B : Nat} {L : List α} (h : AtQ Q w a L) (hb : Below B w w') (hB : w.heap.size ≤ B) : AtQ Q w' a L := fun h0 => by
  obtain ⟨b, off, e, g⟩ := h h0
  exact ⟨b, off, e, g.stays hQ hb hB⟩

/-- a slice of numbers -/
def IsI (w : World) (v : Value) (l : List Int) : Prop := ∃ a n cap, v = .slice a n cap ∧ n = l.length ∧ n ≤ maxLen ∧ AtI w a l ∧ Tidy a n cap
/-- a slice of shares -/
def IsP (w : World) (v : Value) (l : List (Int × Int)) : Prop := ∃ a n cap, v = .slice a n cap ∧ n = l.length ∧ n ≤ cap ∧ cap ≤ maxLen ∧ AtP w a l
theorem firmI : FirmQ IsI := fun w w' v x B h hb hB => by
  obtain ⟨a, n, cap, e, h1, h2, h3, h4⟩ := h
  exact ⟨a, n, cap, e, h1, h2, h3.stays hb hB, h4⟩
theorem firmP : FirmQ IsP := fun w w' v x B h hb hB => by
  obtain ⟨a, n, cap, e, h1, h2, h3, h4⟩ := h
  exact ⟨a, n, cap, e, h1, h2, h3, h4.stays hb hB⟩

/-- what a call has put together itself -/
theorem atQ_own {α : Type} {Q : World → Value → α → Prop} {w : World} {base : Nat} {e : TypeId} {v : Value} {xs : List Value} {L : List α} (h : w.ownsRow base e 1 v L.length xs) (hx : ∀ i (h1 : i < xs.length) (h2 : i < L.length), Q w xs[i] L[i]) : ∃ a cap, v = .slice a L.length cap ∧ L.length ≤ cap ∧ cap ≤ maxLen ∧ AtQ Q w a L := by
  have hlen : xs.length = L.length := by have := h.1; omega
  have hc := h
  rcases h.2 with ⟨hv, hn⟩ | ⟨g, cap, cur, hv, _, _, hn, hm, _⟩
  · exact ⟨none, 0, by rw [hv, hn], by omega, Nat.zero_le _, fun h0 => by omega⟩
  · refine ⟨some ⟨g, 0, none⟩, cap, hv, hn, hm, fun h0 => ⟨g, 0, rfl, fun i hi => ?_⟩⟩
    have hix : i < xs.length := by omega
    have := hc.cells (g := g) (by rw [hv]; rfl) i xs[i] (List.getElem?_eq_getElem hix)
    rw [WideShapes.add_plain] at this
    exact ⟨xs[i], this, hx i hix hi⟩

/-- an argument whose type is a slice of one-cell things -/
theorem open_each {α : Type} {H : Type} {enc : TypeId × Value → H} {P : Program} {w : World} {Q : World → Value → α → Prop} {tt t : TypeId} {a : Option Addr} {len cap : Nat} {d : DataW H} {p : List MemPlace}
    (htt : P.underlying tt = some (.slice t)) (ct : P.cellsOf t = 1) (hin : ∀ (v : Value) (y : DataW H × List MemPlace) (n : Nat), DataW.trod enc P w 0 (fun _ => true) true n t [v] = some y → ∃ l, Q w v l)
    (h : DataW.Trod enc P w 0 (fun _ => true) true tt (.slice a len cap) d p) : ∃ L : List α, len = L.length ∧ len ≤ cap ∧ cap ≤ maxLen ∧ AtQ Q w a L ∧ Tidy a len cap := by
  obtain ⟨fuel, hf⟩ := h
  rcases open_slice1 htt ct hf with ⟨hcs, hd⟩ | ⟨x, len', cap', m, n, V, D, Pl, hcs, _, hl, hm, hmm, hd, hx⟩
  · simp [Value.cells] at hcs
    obtain ⟨rfl, rfl, rfl⟩ := hcs
    exact ⟨[], rfl, Nat.zero_le _, Nat.zero_le _, fun h => absurd h (by simp), fun _ => ⟨rfl, rfl⟩⟩
  · simp [Value.cells] at hcs
    obtain ⟨rfl, rfl, rfl⟩ := hcs
    have hmc : m = cap := by rw [hmm]; simp
    have each : ∀ i, i < len → ∃ l : α, w.cell? (x.add i) = some (V i) ∧ Q w (V i) l := by
      intro i hi
      obtain ⟨h1, h2⟩ := hx i (by omega)
      obtain ⟨l, hl⟩ := hin (V i) _ _ h2
      exact ⟨l, h1, hl⟩
    rcases Nat.eq_zero_or_pos len with h0 | h0
    · subst h0; exact ⟨[], rfl, hl, hm, fun h => absurd h (by simp), fun e => by cases e⟩
    obtain ⟨dummy, _⟩ := each 0 h0
    haveI : Nonempty α := ⟨dummy⟩
    have each' : ∀ i, ∃ l : α, i < len → w.cell? (x.add i) = some (V i) ∧ Q w (V i) l := fun i => by
      by_cases hi : i < len
      · obtain ⟨l, hl⟩ := each i hi; exact ⟨l, fun _ => hl⟩
      · exact ⟨dummy, fun h => absurd h hi⟩
    obtain ⟨f, hfe⟩ := Classical.axiomOfChoice each'
    obtain ⟨b, off, spot⟩ := x
    have hspot : spot = none := by simpa [Addr.add] using World.cell?_spot (hfe 0 h0).1
    subst hspot
    have hll : ((List.range len).map f).length = len := by simp
    refine ⟨(List.range len).map f, hll.symm, hl, hm, fun _ => ⟨b, off, rfl, fun i hi => ?_⟩, fun e => by cases e⟩
    have hi' : i < len := by rw [hll] at hi; exact hi
    have e : ((List.range len).map f)[i] = f i := by simp
    rw [e]
    have g := hfe i hi'
    rw [WideShapes.add_plain] at g
    exact ⟨V i, g⟩

theorem inner_form {H : Type} {enc : TypeId × Value → H} {P : Program} {w : World} {t e : TypeId} {v : Value} {y : DataW H × List MemPlace} {n : Nat} (ht : P.underlying t = some (.slice e)) (h : DataW.trod enc P w 0 (fun _ => true) true n t [v] = some y) : ∃ a len cap, v = .slice a len cap := by
  rcases open_slice ht h with ⟨hc, _⟩ | ⟨x', l', c', _, _, _, _, hc, _⟩
  · exact ⟨none, 0, 0, by simpa using hc⟩
  · exact ⟨some x', l', c', by simpa using hc⟩

/-- an argument of type [][]int -/
theorem open_listsI {H : Type} {enc : TypeId × Value → H} {P : Program} {w : World} {tt t e : TypeId} {a : Option Addr} {len cap : Nat} {d : DataW H} {p : List MemPlace}
    (htt : P.underlying tt = some (.slice t)) (ct : P.cellsOf t = 1) (ht : P.underlying t = some (.slice e)) (ce : P.cellsOf e = 1) (he : P.underlying e = some (.int .i64))
    (h : DataW.Trod enc P w 0 (fun _ => true) true tt (.slice a len cap) d p) : ∃ L : List (List Int), len = L.length ∧ len ≤ cap ∧ cap ≤ maxLen ∧ AtQ IsI w a L ∧ Tidy a len cap :=
  open_each htt ct (fun v y n hy => by
    obtain ⟨a', l', c', rfl⟩ := inner_form ht hy
    have hy' : DataW.Trod enc P w 0 (fun _ => true) true t (.slice a' l' c') y.1 y.2 := ⟨n, by simpa [Value.cells] using hy⟩
    obtain ⟨l, h1, h2, h3⟩ := open_ints ht ce he hy'
    exact ⟨l, a', l', c', rfl, h1, h2, h3, by
      rcases open_slice ht hy with ⟨hc, _⟩ | ⟨x', l2, c2, _, _, _, _, hc, _⟩
      · simp at hc; obtain ⟨rfl, rfl, rfl⟩ := hc; exact fun _ => ⟨rfl, rfl⟩
      · simp at hc; obtain ⟨rfl, rfl, rfl⟩ := hc; exact fun e => by cases e⟩) h

/-- an argument of type [][]api.Share -/
theorem open_listsP {H : Type} {enc : TypeId × Value → H} {P : Program} {w : World} {tt t e : TypeId} {f0 f1 : Field} {a : Option Addr} {len cap : Nat} {d : DataW H} {p : List MemPlace}
    (htt : P.underlying tt = some (.slice t)) (ct : P.cellsOf t = 1) (ht : P.underlying t = some (.slice e)) (he : P.underlying e = some (.struct #[f0, f1])) (ce : P.cellsOf e = 2) (o0 : f0.offset = 0) (o1 : f1.offset = 1)
    (u0 : P.underlying f0.type = some (.int .i64)) (u1 : P.underlying f1.type = some (.int .i64)) (c0 : P.cellsOf f0.type = 1) (c1 : P.cellsOf f1.type = 1)
    (h : DataW.Trod enc P w 0 (fun _ => true) true tt (.slice a len cap) d p) : ∃ L : List (List (Int × Int)), len = L.length ∧ len ≤ cap ∧ cap ≤ maxLen ∧ AtQ IsP w a L ∧ Tidy a len cap :=
  open_each htt ct (fun v y n hy => by
    obtain ⟨a', l', c', rfl⟩ := inner_form ht hy
    have hy' : DataW.Trod enc P w 0 (fun _ => true) true t (.slice a' l' c') y.1 y.2 := ⟨n, by simpa [Value.cells] using hy⟩
    obtain ⟨l, h1, h2, h3, h4⟩ := open_pts ht he ce o0 o1 u0 u1 c0 c1 hy'
    exact ⟨l, a', l', c', rfl, h1, h2, h3, h4⟩) h

end Go.Proofs.YtlefhfmckimlaajDoor
