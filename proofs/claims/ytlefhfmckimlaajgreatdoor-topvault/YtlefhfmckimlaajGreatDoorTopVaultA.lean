/-
  Plain facts and memory for the Go function TopVault: what was kept by each name, parts from the last on, and the law's two lists beside the vault.
-/
import Derived.Test.YtlefhfmckimlaajGreatDoorJ61A
import Derived.Test.YtlefhfmckimlaajGreatDoorErrTold
import Derived.Deep.AppendLies
set_option linter.unusedVariables false
namespace Go.Proofs.YtlefhfmckimlaajGreatDoor.topVault
open Go.RowKit

/-- parts from the last on -/
def downP (p : List Int) (m j : Nat) : List (Int × Int) := (List.range j).map fun (i : Nat) => ((m : Int) - (i : Int), M.ev p ((m : Int) - (i : Int)))
theorem downP_len (p : List Int) (m j : Nat) : (downP p m j).length = j := by simp [downP]
theorem downP_next (p : List Int) (m j : Nat) : downP p m (j + 1) = downP p m j ++ [((m : Int) - (j : Int), M.ev p ((m : Int) - (j : Int)))] := by
  unfold downP
  rw [List.range_succ, List.map_append]; rfl
theorem downP_at (p : List Int) {m j i : Nat} (h : i < (downP p m j).length) : (downP p m j)[i] = ((m : Int) - (i : Int), M.ev p ((m : Int) - (i : Int))) := by simp [downP]
/-- true ones at places of their own are all taken -/
theorem good_all {p : List Int} {l : List (Int × Int)} (ht : ∀ i (h : i < l.length), M.trueB (M.commits p) l[i].1 l[i].2 = true) (hn : ∀ i j (hi : i < l.length) (hj : j < l.length), i < j → l[i].1 ≠ l[j].1) : ∀ k, k ≤ l.length → M.goodL p (l.take k) = l.take k
  | 0, _ => by simp [M.goodL]
  | k + 1, h => by
    have hk : k < l.length := by omega
    rw [M.goodL_take hk, good_all ht hn k (by omega), List.take_succ_eq_append_getElem hk]
    refine M.goodS_yes ?_
    unfold M.takeB
    rw [ht k hk]
    have : M.hasB (l.take k) l[k].1 = false := by
      unfold M.hasB
      rw [List.any_eq_false]
      intro q hq
      obtain ⟨i, hi, rfl⟩ := List.getElem_of_mem hq
      have hi' : i < k := by rw [List.length_take] at hi; omega
      rw [List.getElem_take]
      simpa using hn i k (by omega) hk hi'
    rw [this]; rfl
section
variable {v : M.Vlt} {a : ByteArray} {s : Int} {r : List Int} {m n : Nat}
theorem down_in (hv : v.Ok) (hm : v.many = m) {j : Nat} (hj : j ≤ m) {p : List Int} : ∀ q ∈ downP p m j, M.outB v.many q = false := fun q hq => by
  obtain ⟨i, hi, rfl⟩ := List.getElem_of_mem hq
  rw [downP_at]
  rw [downP_len] at hi
  obtain ⟨e1, e2⟩ := M.ev_range p ((m : Int) - (i : Int))
  unfold M.outB
  rw [decide_eq_false (by omega), decide_eq_false (by rw [hm]; omega), M.inR_mk e1 e2]; rfl
/-- so many of them tell it -/
theorem down_get (hv : v.Ok) (h : v.g a = some (s :: r)) (hm : v.many = m) (hn : v.need = n) : M.getE' v a (downP (s :: r) m n) = 0 ∧ M.getR' v a (downP (s :: r) m n) = s := by
  have hle := hv.le
  have h7 := hv.seven
  obtain ⟨n1, _, _⟩ := hv.nums h
  have hall : M.goodL (s :: r) (downP (s :: r) m n) = downP (s :: r) m n := by
    have := good_all (p := s :: r) (l := downP (s :: r) m n) (fun i hi => by
      rw [downP_at]
      obtain ⟨e1, e2⟩ := M.ev_range (s :: r) ((m : Int) - (i : Int))
      rw [M.true_iff (fun i hi => (n1 i hi).1) e1 e2]
      simp) (fun i j hi hj hij => by
      rw [downP_at, downP_at]
      simp only
      omega) _ (Nat.le_refl _)
    rwa [List.take_length] at this
  refine M.get_tells hv h (by rw [downP_len]; omega) (List.any_eq_false.2 fun q hq => by simp [down_in hv hm (by omega) q hq]) (by rw [hall, downP_len]; omega)
/-- one fewer tell nothing -/
theorem down_few (hv : v.Ok) (h : v.g a = some (s :: r)) (hm : v.many = m) (hn : v.need = n) : M.getE' v a ((downP (s :: r) m n).drop 1) = 5 := by
  have hle := hv.le
  have h7 := hv.seven
  have h1 := hv.one
  have hl : ((downP (s :: r) m n).drop 1).length = n - 1 := by rw [List.length_drop, downP_len]
  refine M.getE_few h (by rw [hl]; omega) (List.any_eq_false.2 fun q hq => by simp [down_in hv hm (by omega) q (List.mem_of_mem_drop hq)]) ?_
  have := M.goodL_len (s :: r) ((downP (s :: r) m n).drop 1) _ (Nat.le_refl _)
  rw [List.take_length, hl] at this
  omega
/-- what is kept by each name that was put -/
def KeptAll (v : M.Vlt) (H : List ByteArray) (Ks : List Int) (r : List Int) : Prop := ∀ i (h : i < H.length) (h2 : i < Ks.length), v.g H[i] = some (Ks[i] :: r)
theorem KeptAll.new (v : M.Vlt) (r : List Int) : KeptAll v [] [] r := fun i h _ => by simp at h
theorem KeptAll.put {H : List ByteArray} {Ks : List Int} (h : KeptAll v H Ks r) (hl : Ks.length = H.length) (he : M.vputE v a s r = 0) : KeptAll (M.vputV v a s r) (H ++ [a]) (Ks ++ [s]) r := fun i h1 h2 => by
  obtain ⟨_, e2, _, _, _⟩ := M.vputE_ok he
  by_cases hi : i < H.length
  · have hk : i < Ks.length := by rw [hl]; exact hi
    rw [List.getElem_append_left hi, List.getElem_append_left hk]
    have hg := h i hi hk
    rw [M.vputV_other (fun e => by rw [e, e2] at hg; cases hg)]
    exact hg
  · have e : i = H.length := by simp at h1; omega
    subst e
    have e3 : (Ks ++ [s])[H.length] = s := by simp [← hl]
    rw [e3]
    simp only [List.getElem_concat_length]
    exact M.vputV_same he
end

section
variable {w0 w w' : World} {F : Nat → Prop} {V : Nat} {v : M.Vlt} {vh vk : Value} {ha ka : Option Addr} {hn hc kc g cap : Nat} {H : List ByteArray} {Ks : List Int} {a : ByteArray} {s : Int}
/-- the vault, and the law's two lists beside it -/
structure Tv (w0 w : World) (F : Nat → Prop) (V : Nat) (v : M.Vlt) (vh : Value) (H : List ByteArray) (vk : Value) (Ks : List Int) : Prop where
  vt : VtIs w0.heap.size w F V v
  has : w.ownsRow w0.heap.size 9 1 vh H.length (cellsS H)
  ks : w.ownsRow w0.heap.size 3 1 vk Ks.length (cellsI Ks)
  off : ∀ b, F b → vh.ownBlock ≠ some b ∧ vk.ownBlock ≠ some b
  bel : Below w0.heap.size w0 w
theorem rowB {e : TypeId} {k n : Nat} {u : Value} {zs : List Value} {B : Nat} (h : w.ownsRow B e k u n zs) (hb : Below w.heap.size w w') : w'.ownsRow B e k u n zs := rowV_at h (fun b hb' => by
  obtain ⟨_, c, fr, hh⟩ := rowV_tag h hb'
  exact hb.block b (heapV_lt hh))
theorem Tv.quiet (h : Tv w0 w F V v vh H vk Ks) (hb : Below w.heap.size w w') : Tv w0 w' F V v vh H vk Ks := ⟨h.vt.quiet hb, rowB h.has hb, rowB h.ks hb, h.off, h.bel.trans (hb.mono h.bel.size)⟩
/-- a Put -/
theorem Tv.xput {ra : Option Addr} {rn rc : Nat} {r : List Int} (h : Tv w0 w F V v vh H vk Ks) (ha : a.size ≤ maxLen) (hn : rn = r.length) (hm : rn ≤ maxLen) (hl : AtI w0 ra r) (ht : Tidy ra rn rc) :
    Calls Tryz.prog 8 #[.pointer (some ⟨V, 0, none⟩), .string a, .int .i64 s, .slice ra rn rc] w fun e w' => e = .returned (errV (M.vputE v a s r)) ∧ ∃ F', Tv w0 w' F' V (M.vputV v a s r) vh H vk Ks := by
  refine (vPut h.vt ha hn hm (hl.stays h.bel (Nat.le_refl _)) ht).mono ?_
  rintro e w' ⟨rfl, F', h1, h2, h3⟩
  have row : ∀ {e : TypeId} {k n : Nat} {u : Value} {zs : List Value}, w.ownsRow w0.heap.size e k u n zs → (∀ b, F b → u.ownBlock ≠ some b) → w'.ownsRow w0.heap.size e k u n zs ∧ ∀ b, F' b → u.ownBlock ≠ some b := fun ho hx => ⟨rowV_at ho (fun b hb => by
    obtain ⟨_, c, fr, hh⟩ := rowV_tag ho hb
    exact h2.block b (heapV_lt hh) (fun hF => hx b hF hb)), fun b hF hb => by
    rcases h3 b hF with q | q
    · exact hx b q hb
    · obtain ⟨_, c, fr, hh⟩ := rowV_tag ho hb
      have := heapV_lt hh
      omega⟩
  obtain ⟨r1, r2⟩ := row h.has (fun b hF => (h.off b hF).1)
  obtain ⟨r3, r4⟩ := row h.ks (fun b hF => (h.off b hF).2)
  exact ⟨rfl, F', h1, r1, r3, fun b hF => ⟨r2 b hF, r4 b hF⟩, h.bel.trans (h2.below h.vt.lows h.bel.size)⟩
theorem own_is (g n cap b : Nat) : (Value.slice (some ⟨g, 0, none⟩) n cap).ownBlock = some b ↔ b = g := by simp [Value.ownBlock, eq_comm]
theorem tcG {u : Value} (hg : w.grownBy w' u.ownBlock) : Tc (fun b => u.ownBlock = some b) w w' := ⟨hg.os, hg.tape, hg.output, hg.size, fun k hk hn => hg.block k hk (fun e => hn e.symm)⟩
theorem besideR {b1 b2 : Nat} {e1 e2 : TypeId} {k1 k2 n1 n2 : Nat} {u x : Value} {zs1 zs2 : List Value} (h1 : w.ownsRow b1 e1 k1 u n1 zs1) (h2 : w.ownsRow b2 e2 k2 x n2 zs2) (hne : e1 ≠ e2) (hg : w.grownBy w' u.ownBlock) : w'.ownsRow b2 e2 k2 x n2 zs2 :=
  rowV_at h2 (fun b hb => by
    obtain ⟨_, c, fr, hh⟩ := rowV_tag h2 hb
    exact hg.block b (heapV_lt hh) (fun e => by
      obtain ⟨_, c2, fr2, hh2⟩ := rowV_tag h1 e.symm
      rw [hh] at hh2
      exact hne (tagV_eq hh2).symm))
/-- one more name -/
theorem Tv.addH {o : Obj} (h0 : Tv w0 w F V v (.slice ha hn hc) H vk Ks) (hl : H.length = hn) (hg : (w.alloc o).grownBy w' (Value.slice ha hn hc).ownBlock) (ho : w'.ownsRow w0.heap.size 9 1 (.slice (some ⟨g, 0, none⟩) (hn + 1) cap) (hn + 1) (cellsS H ++ [.string a])) (hat : (Value.slice ha hn hc).ownBlock = some g ∨ g = w.heap.size + 1) :
    Tv w0 w' F V v (.slice (some ⟨g, 0, none⟩) (hn + 1) cap) (H ++ [a]) vk Ks := by
  have h := h0.quiet ((Below.refl _ _).alloc (Nat.le_refl _) o)
  have ht := tcG hg
  refine ⟨h.vt.keep ht (fun b hb e => (h.off b hb).1 e), by simpa [cellsS, hl] using ho, besideR h.has h.ks (by decide) hg, fun b hb => ⟨fun e => ?_, (h.off b hb).2⟩, h.bel.trans (ht.below (fun b e => (rowV_tag h.has e).1) h.bel.size)⟩
  rw [own_is] at e
  subst e
  rcases hat with e | e
  · exact (h.off b hb).1 e
  · have := h0.vt.highs b hb; omega
/-- one more secret -/
theorem Tv.addK {o : Obj} (h0 : Tv w0 w F V v vh H (.slice ka hn kc) Ks) (hl : Ks.length = hn) (hg : (w.alloc o).grownBy w' (Value.slice ka hn kc).ownBlock) (ho : w'.ownsRow w0.heap.size 3 1 (.slice (some ⟨g, 0, none⟩) (hn + 1) cap) (hn + 1) (cellsI Ks ++ [.int .i64 s])) (hat : (Value.slice ka hn kc).ownBlock = some g ∨ g = w.heap.size + 1) :
    Tv w0 w' F V v vh H (.slice (some ⟨g, 0, none⟩) (hn + 1) cap) (Ks ++ [s]) := by
  have h := h0.quiet ((Below.refl _ _).alloc (Nat.le_refl _) o)
  have ht := tcG hg
  refine ⟨h.vt.keep ht (fun b hb e => (h.off b hb).2 e), besideR h.ks h.has (by decide) hg, by simpa [cellsI, hl] using ho, fun b hb => ⟨(h.off b hb).1, fun e => ?_⟩, h.bel.trans (ht.below (fun b e => (rowV_tag h.ks e).1) h.bel.size)⟩
  rw [own_is] at e
  subst e
  rcases hat with e | e
  · exact (h.off b hb).2 e
  · have := h0.vt.highs b hb; omega
/-- a row's cells, its block named -/
theorem cellsR {base n c k : Nat} {e : TypeId} {ao : Option Addr} {zs : List Value} (h : w.ownsRow base e k (.slice ao n c) n zs) (hz : 0 < zs.length) : ∃ g, ao = some ⟨g, 0, none⟩ ∧ ∀ i u, zs[i]? = some u → w.cell? ⟨g, i, none⟩ = some u := by
  rcases h.2 with ⟨hv, hnil⟩ | ⟨g, cap, cur, hv, _⟩
  · have := h.1
    simp only [Value.slice.injEq] at hv
    rw [hv.2.1, Nat.zero_mul] at this
    omega
  · simp only [Value.slice.injEq] at hv
    refine ⟨g, hv.1, fun i u hu => ?_⟩
    have := h.cells (g := g) (by rw [hv.1]; rfl) i u hu
    rw [WideShapes.add_plain] at this
    simpa using this
theorem Tv.nameAt (h : Tv w0 w F V v (.slice ha hn hc) H vk Ks) (hl : H.length = hn) {j : Nat} (hj : j < H.length) : ∃ g, ha = some ⟨g, 0, none⟩ ∧ w.cell? ⟨g, j, none⟩ = some (.string H[j]) := by
  obtain ⟨g, e, hc⟩ := cellsR (by have := h.has; rwa [hl] at this) (by rw [cellsS_len]; omega)
  exact ⟨g, e, hc j _ (cellsS_at hj)⟩
theorem Tv.keptAt (h : Tv w0 w F V v vh H (.slice ka hn kc) Ks) (hl : Ks.length = hn) {j : Nat} (hj : j < Ks.length) : ∃ g, ka = some ⟨g, 0, none⟩ ∧ w.cell? ⟨g, j, none⟩ = some (.int .i64 Ks[j]) := by
  obtain ⟨g, e, hc⟩ := cellsR (by have := h.ks; rwa [hl] at this) (by rw [cellsI_len]; omega)
  exact ⟨g, e, hc j _ (cellsI_at hj)⟩
end

end Go.Proofs.YtlefhfmckimlaajGreatDoor.topVault
