/-
  Plain facts and memory for the Go function VaultPlays: what the law's own tests say, and where its lists have what was put.
-/
import Derived.Test.YtlefhfmckimlaajDoorJ37A
set_option linter.unusedVariables false
namespace Go.Proofs.YtlefhfmckimlaajDoor.vaultPlays
open Go.RowKit

/-- a block of a function's text, by its number -/
def blockAt (n : Nat) : Code → Option Code
  | .block m c => if m = n then some (.block m c) else blockAt n c
  | .seq a b => match blockAt n a with
    | some c => some c
    | none => blockAt n b
  | .loop c => blockAt n c
  | .cond _ a b => match blockAt n a with
    | some c => some c
    | none => blockAt n b
  | _ => none

theorem txtEq {x s : ByteArray} : (x.toList == s.toList) = true ↔ x = s := by
  rw [ByteArray.toList_eq, ByteArray.toList_eq]
  constructor
  · intro h; exact WideShapes.bytes_inj (by simpa using h)
  · intro h; subst h; simp
theorem infoT : (Tryd.prog.info? 9).map (fun i => (i.zero, i.size, i.bytes)) = some (some (.string ⟨#[]⟩), 1, 16) := by kernel_rfl
theorem infoSS : (Tryd.prog.info? 23).map (fun i => (i.zero, i.size, i.bytes)) = some (some (.slice none 0 0), 1, 24) := by kernel_rfl
theorem infoII : (Tryd.prog.info? 22).map (fun i => (i.zero, i.size, i.bytes)) = some (some (.slice none 0 0), 1, 24) := by kernel_rfl

/-- where the search among the names stands -/
def Found (H : List ByteArray) (j : Nat) (a : ByteArray) (z : Int) : Prop := (z = -1 ∧ ∀ i (h : i < H.length), i < j → H[i] ≠ a) ∨ ∃ q, ∃ h : q < H.length, z = (q : Int) ∧ H[q] = a
theorem Found.start (H : List ByteArray) (a : ByteArray) : Found H 0 a (-1) := Or.inl ⟨rfl, fun i _ h => by omega⟩
theorem Found.hit {H : List ByteArray} {j : Nat} {a : ByteArray} (z : Int) (h : j < H.length) (e : H[j] = a) : Found H (j + 1) a j := Or.inr ⟨j, h, rfl, e⟩
theorem Found.miss {H : List ByteArray} {j : Nat} {a : ByteArray} {z : Int} (hf : Found H j a z) (h : j < H.length) (e : H[j] ≠ a) : Found H (j + 1) a z := by
  rcases hf with ⟨h1, h2⟩ | h1
  · refine Or.inl ⟨h1, fun i hi hj => ?_⟩
    by_cases e2 : i = j
    · subst e2; exact e
    · exact h2 i hi (by omega)
  · exact Or.inr h1
/-- where a name stands, and what is kept of it -/
def Stands (v : M.Vlt) (P : List (List Int)) (hn : Nat) (a : ByteArray) (z : Int) : Prop := (z = -1 ∧ v.g a = Option.none) ∨ ∃ (q : Nat) (p : List Int), z = q ∧ q < hn ∧ P[q]? = some p ∧ v.g a = some p
theorem Found.stands {v : M.Vlt} {H : List ByteArray} {P : List (List Int)} {j : Nat} {a : ByteArray} {z : Int} (hf : Found H j a z) (hN : Named v H P) (hj : H.length ≤ j) : Stands v P H.length a z := by
  rcases hf with ⟨h1, h2⟩ | ⟨q, hq, h1, h2⟩
  · exact Or.inl ⟨h1, hN.gone a (fun i hi => h2 i hi (by omega))⟩
  · have hp : q < P.length := by rw [hN.len]; exact hq
    exact Or.inr ⟨q, P[q], h1, hq, List.getElem?_eq_getElem hp, by rw [← h2]; exact hN.is q hq hp⟩
/-- behind a Put that was refused -/
theorem Stands.bad {v : M.Vlt} {P : List (List Int)} {hn : Nat} {a : ByteArray} {z : Int} {s : Int} {r : List Int} (h : Stands v P hn a z) (he : M.vputE v a s r ≠ 0) : Stands (M.vputV v a s r) P hn a z := by
  rw [M.vputV_bad he]; exact h
/-- behind one that was not -/
theorem Stands.did {v : M.Vlt} {H : List ByteArray} {P : List (List Int)} {a : ByteArray} {s : Int} {r : List Int} (hN : Named v H P) (he : M.vputE v a s r = 0) : Stands (M.vputV v a s r) (P ++ [s :: r]) (H.length + 1) a H.length :=
  Or.inr ⟨H.length, s :: r, rfl, Nat.lt_succ_self _, by have := hN.len; rw [← this]; simp, M.vputV_same he⟩

/-- what the law's first tests say -/
def putE1 (v : M.Vlt) (a : ByteArray) (s : Int) (r : List Int) : Int := if 12 < a.size then 4 else if (v.g a).isSome = true then 7 else if r.length + 1 ≠ v.need then 3 else M.dealE s r v.many
theorem putE1_then (v : M.Vlt) (a : ByteArray) (s : Int) (r : List Int) : M.vputE v a s r = if putE1 v a s r ≠ 0 then putE1 v a s r else if 20 ≤ v.n then 4 else 0 := by
  rcases M.vputE_ways v a s r with q | ⟨q1, q2⟩ | ⟨q1, q2, q3⟩ | ⟨q1, q2, q3, q4⟩ | ⟨q1, q2, q3, q4, q5⟩ | ⟨q1, q2, q3, q4, q5⟩
  · have e : putE1 v a s r = 4 := by unfold putE1; rw [if_pos q]
    rw [M.vputE_long q, e]; rfl
  · have e : putE1 v a s r = 7 := by unfold putE1; rw [if_neg q1, if_pos q2]
    rw [M.vputE_there q1 q2, e]; rfl
  · have e : putE1 v a s r = 3 := by unfold putE1; rw [if_neg q1, q2, if_neg (by simp), if_pos q3]
    rw [M.vputE_shape q1 q2 q3, e]; rfl
  · have e : putE1 v a s r = M.dealE s r v.many := by unfold putE1; rw [if_neg q1, q2, if_neg (by simp), if_neg (by simpa using q3)]
    rw [M.vputE_deal q1 q2 q3 q4, e, if_pos q4]
  · have e : putE1 v a s r = 0 := by unfold putE1; rw [if_neg q1, q2, if_neg (by simp), if_neg (by simpa using q3), q4]
    rw [M.vputE_full q1 q2 q3 q4 q5, e, if_neg (by simp), if_pos q5]
  · have e : putE1 v a s r = 0 := by unfold putE1; rw [if_neg q1, q2, if_neg (by simp), if_neg (by simpa using q3), q4]
    rw [M.vputE_0 q1 q2 q3 q4 q5, e, if_neg (by simp), if_neg q5]
/-- the four ways of them -/
theorem putE1_ways {v : M.Vlt} {P : List (List Int)} {hn : Nat} {a : ByteArray} {z : Int} (s : Int) (r : List Int) (h : Stands v P hn a z) : (12 < a.size ∧ putE1 v a s r = 4) ∨ (¬ 12 < a.size ∧ 0 ≤ z ∧ putE1 v a s r = 7) ∨ (¬ 12 < a.size ∧ z < 0 ∧ r.length + 1 ≠ v.need ∧ putE1 v a s r = 3) ∨ (¬ 12 < a.size ∧ z < 0 ∧ r.length + 1 = v.need ∧ putE1 v a s r = M.dealE s r v.many) := by
  by_cases h1 : 12 < a.size
  · exact Or.inl ⟨h1, by unfold putE1; rw [if_pos h1]⟩
  · rcases h with ⟨e1, e2⟩ | ⟨q, p, e1, _, _, e2⟩
    · by_cases h2 : r.length + 1 = v.need
      · exact Or.inr (Or.inr (Or.inr ⟨h1, by omega, h2, by unfold putE1; rw [if_neg h1, e2, if_neg (by simp), if_neg (by simpa using h2)]⟩))
      · exact Or.inr (Or.inr (Or.inl ⟨h1, by omega, h2, by unfold putE1; rw [if_neg h1, e2, if_neg (by simp), if_pos h2]⟩))
    · exact Or.inr (Or.inl ⟨h1, by omega, by unfold putE1; rw [if_neg h1, e2, if_pos (by simp)]⟩)

theorem GoodP_all {v : M.Vlt} {a : ByteArray} {p : List Int} {l : List (Int × Int)} (hv : v.Ok) (h : v.g a = some p) (hl : l.any (M.outB v.many) = false) : M.Right (M.goodL p l) := by
  obtain ⟨n1, _, _⟩ := hv.nums h
  have hg := M.GoodP.all (fun i hi => (n1 i hi).1) hl l.length (Nat.le_refl _)
  rw [List.take_length] at hg
  exact hg.right hv.seven
/-- where the law's own search for true shares stands -/
def GoodW (m : Nat) (p : List Int) (l : List (Int × Int)) (E2 e : Int) (j : Nat) (G : List (Int × Int)) : Prop := (E2 ≠ 0 ∧ e = E2) ∨ (E2 = 0 ∧ e = 1 ∧ l.any (M.outB m) = true) ∨ (E2 = 0 ∧ e = 0 ∧ (l.take j).any (M.outB m) = false ∧ G = M.goodL p (l.take j))
section
variable {m : Nat} {p : List Int} {l : List (Int × Int)} {E2 e : Int} {j : Nat} {G : List (Int × Int)}
theorem GoodW.start (m : Nat) (p : List Int) (l : List (Int × Int)) (E2 : Int) : GoodW m p l E2 E2 0 [] := by
  by_cases h : E2 = 0
  · exact Or.inr (Or.inr ⟨h, h, by simp, rfl⟩)
  · exact Or.inl ⟨h, rfl⟩
theorem GoodW.good (h : GoodW m p l E2 0 j G) : E2 = 0 ∧ (l.take j).any (M.outB m) = false ∧ G = M.goodL p (l.take j) := by
  rcases h with ⟨h1, h2⟩ | ⟨_, h2, _⟩ | ⟨h1, _, h3, h4⟩
  · exact absurd h2.symm h1
  · cases h2
  · exact ⟨h1, h3, h4⟩
theorem GoodW.out (h : GoodW m p l E2 0 j G) (hj : j < l.length) (ho : M.outB m l[j] = true) : GoodW m p l E2 1 (j + 1) G :=
  Or.inr (Or.inl ⟨h.good.1, rfl, List.any_eq_true.2 ⟨_, List.getElem_mem hj, ho⟩⟩)
theorem GoodW.next (h : GoodW m p l E2 0 j G) (hj : j < l.length) (ho : M.outB m l[j] = false) : GoodW m p l E2 0 (j + 1) (M.goodS p G l[j]) := by
  obtain ⟨h1, h2, h3⟩ := h.good
  refine Or.inr (Or.inr ⟨h1, rfl, ?_, ?_⟩)
  · rw [List.take_succ_eq_append_getElem hj, List.any_append, h2]
    simp [ho]
  · rw [M.goodL_take hj, ← h3]
/-- what it comes to is what Get answers -/
theorem GoodW.done {v : M.Vlt} {P : List (List Int)} {hn : Nat} {a : ByteArray} {z : Int} (hg : GoodW v.many p l E2 e j G) (hv : v.Ok) (hS : Stands v P hn a z) (hE2 : E2 = if z < 0 then 5 else if 30 < l.length then 4 else 0) (hp : 0 ≤ z → v.g a = some p) (hj : e = 0 → l.length ≤ j) :
    (e ≠ 0 ∧ M.getE' v a l = e ∧ M.getR' v a l = 0) ∨ (e = 0 ∧ G.length < v.need ∧ M.getE' v a l = 5 ∧ M.getR' v a l = 0) ∨ (e = 0 ∧ ¬ G.length < v.need ∧ M.getE' v a l = 0 ∧ M.getR' v a l = M.next (G.take v.need) 0 ∧ M.Right (G.take v.need)) := by
  have two : E2 = 0 → v.g a = some p ∧ ¬ 30 < l.length := fun h0 => by
    by_cases hz : z < 0
    · rw [if_pos hz, h0] at hE2; cases hE2
    · rw [if_neg hz, h0] at hE2
      refine ⟨hp (by omega), fun h => ?_⟩
      rw [if_pos h] at hE2; cases hE2
  rcases hg with ⟨h1, h2⟩ | ⟨h1, h2, h3⟩ | ⟨h1, h2, h3, h4⟩
  · refine Or.inl ⟨by rw [h2]; exact h1, ?_⟩
    have hE : M.getE' v a l = e := by
      rw [h2, hE2]
      rcases hS with ⟨q1, q2⟩ | ⟨q, p', q1, _, _, q2⟩
      · rw [if_pos (by omega)]; exact M.getE_no q2
      · rw [if_neg (by omega)]
        by_cases h30 : 30 < l.length
        · rw [if_pos h30]; exact M.getE_full q2 h30
        · rw [if_neg (by omega), if_neg h30] at hE2; exact absurd hE2 h1
    exact ⟨hE, M.getR_bad (by rw [hE, h2]; exact h1)⟩
  · obtain ⟨k1, k2⟩ := two h1
    have hE := M.getE_out k1 k2 h3
    exact Or.inl ⟨by rw [h2]; decide, by rw [hE, h2], M.getR_bad (by rw [hE]; decide)⟩
  · obtain ⟨k1, k2⟩ := two h1
    have ht : l.take j = l := List.take_of_length_le (hj h2)
    rw [ht] at h3 h4
    by_cases hf : G.length < v.need
    · rw [h4] at hf
      have hE := M.getE_few k1 k2 h3 hf
      exact Or.inr (Or.inl ⟨h2, by rw [h4]; exact hf, hE, M.getR_bad (by rw [hE]; decide)⟩)
    · rw [h4] at hf
      have hE := M.getE_0 k1 k2 h3 hf
      have hr := GoodP_all hv k1 h3
      exact Or.inr (Or.inr ⟨h2, by rw [h4]; exact hf, hE, by rw [M.getR_ok k1 hE, h4], by rw [h4]; exact hr.take _⟩)
theorem has_take {G : List (Int × Int)} {i : Nat} {x : Int} (h : i < G.length) : M.hasB (G.take (i + 1)) x = (M.hasB (G.take i) x || G[i].1 == x) := by
  rw [List.take_succ_eq_append_getElem h, M.hasB_snoc]
end
/-- what is told where all is taken -/
def full4 (b : Bool) (x : Int) : Int := match b with
  | true => 4
  | false => x

section
variable {w0 w : World} {F : Nat → Prop} {V : Nat} {v : M.Vlt} {vh vs vc : Value} {ha sa ca : Option Addr} {hn hc sc cc : Nat} {H : List ByteArray} {xs ys : List Value} {D : List (List (Int × Int))} {C : List (List Int)}
theorem pairEq (a b : Int) (w : World) : (binOp .eql 31 (.agg #[.int .i64 a, .int .i64 b]) (.agg #[.int .i64 a, .int .i64 b])).run Tryd.prog w = .ok (.bool true) w := by
  rw [run_eql_struct, pairIn]; rfl
/-- a share in a box of the law's own -/
def BoxAt (w : World) (B : Nat) (x y : Int) : Prop := w.heap[B]? = some (.cells #[.int .i64 x, .int .i64 y] 31 (0, 0))
theorem BoxAt.new (w : World) (x y : Int) : BoxAt (w.alloc (.cells #[.int .i64 x, .int .i64 y] 31)) w.heap.size x y := heap_alloc_new w _
theorem BoxAt.stays {w w' : World} {B L : Nat} {x y : Int} (h : BoxAt w B x y) (hb : Below L w w') (hL : B < L) : BoxAt w' B x y := (hb.block B hL).trans h
theorem BoxAt.lt {w : World} {B : Nat} {x y : Int} (h : BoxAt w B x y) : B < w.heap.size := heapV_lt h
theorem BoxAt.cells {w : World} {B : Nat} {x y : Int} (h : BoxAt w B x y) : w.cell? ⟨B, 0, none⟩ = some (.int .i64 x) ∧ w.cell? ⟨B, 1, none⟩ = some (.int .i64 y) ∧ w.frozen? ⟨B, 0, none⟩ = false ∧ w.frozen? ⟨B, 1, none⟩ = false ∧ B < w.heap.size := by
  refine ⟨?_, ?_, ?_, ?_, h.lt⟩
  · rw [cellV_of w B 0 _ _ h]; rfl
  · rw [cellV_of w B 1 _ _ h]; rfl
  · simp [World.frozen?, show w.heap[B]? = _ from h]
  · simp [World.frozen?, show w.heap[B]? = _ from h]
theorem BoxAt.set1 {w : World} {B : Nat} {x y : Int} (h : BoxAt w B x y) (y' : Int) : BoxAt (w.setCell ⟨B, 1, none⟩ (.int .i64 y')) B x y' := by
  show (w.heap.modify B _)[B]? = _
  rw [Array.getElem?_modify, if_pos rfl, show w.heap[B]? = _ from h]; rfl
theorem BoxAt.set0 {w : World} {B : Nat} {x y : Int} (h : BoxAt w B x y) (x' : Int) : BoxAt (w.setCell ⟨B, 0, none⟩ (.int .i64 x')) B x' y := by
  show (w.heap.modify B _)[B]? = _
  rw [Array.getElem?_modify, if_pos rfl, show w.heap[B]? = _ from h]; rfl
theorem BoxAt.both {w : World} {B : Nat} {x y : Int} (h : BoxAt w B x y) (x' y' : Int) : BoxAt ((w.setCell ⟨B, 0, none⟩ (.int .i64 x')).setCell ⟨B, 1, none⟩ (.int .i64 y')) B x' y' := (h.set0 x').set1 y'
/-- a row's cells, its block named -/
theorem row_cells {base n c k : Nat} {e : TypeId} {ao : Option Addr} {zs : List Value} (h : w.ownsRow base e k (.slice ao n c) n zs) (hz : 0 < zs.length) : ∃ g, ao = some ⟨g, 0, none⟩ ∧ ∀ i u, zs[i]? = some u → w.cell? ⟨g, i, none⟩ = some u := by
  rcases h.2 with ⟨hv, hnil⟩ | ⟨g, cap, cur, hv, _⟩
  · have := h.1
    simp only [Value.slice.injEq] at hv
    rw [hv.2.1, Nat.zero_mul] at this
    omega
  · simp only [Value.slice.injEq] at hv
    refine ⟨g, hv.1, fun i u hu => ?_⟩
    have := h.cells (g := g) (by rw [hv.1]; rfl) i u hu
    rw [WideShapes.add_plain] at this
    simpa using this
theorem Vp.nameAt (h : Vp w0 w F V v (.slice ha hn hc) H vs xs D vc ys C) (hl : H.length = hn) {j : Nat} (hj : j < H.length) : ∃ g, ha = some ⟨g, 0, none⟩ ∧ w.cell? ⟨g, j, none⟩ = some (.string H[j]) := by
  obtain ⟨g, e, hc⟩ := row_cells (by have := h.ls.has; rwa [hl] at this) (by rw [cellsS_len]; omega)
  exact ⟨g, e, hc j _ (cellsS_at hj)⟩
/-- the commits of one -/
theorem Vp.comAt (h : Vp w0 w F V v vh H vs xs D (.slice ca hn cc) ys C) (hl : C.length = hn) {j : Nat} {c : List Int} (hj : C[j]? = some c) : ∃ g a cp, ca = some ⟨g, 0, none⟩ ∧ w.cell? ⟨g, j, none⟩ = some (.slice a c.length cp) ∧ AtI w a c := by
  obtain ⟨hj', rfl⟩ := List.getElem?_eq_some_iff.1 hj
  have hy : j < ys.length := by rw [h.ls.yl]; exact hj'
  obtain ⟨g, e, hc⟩ := row_cells (by have := h.ls.commits; rwa [hl] at this) (by omega)
  obtain ⟨a, cp, e2, _, _, hat⟩ := atI_own rfl (h.ls.ye j hy hj')
  exact ⟨g, a, cp, e, by rw [hc j _ (List.getElem?_eq_getElem hy), e2], hat⟩
/-- the shares of one -/
theorem Vp.shaAt (h : Vp w0 w F V v vh H (.slice sa hn sc) xs D vc ys C) (hl : D.length = hn) {j : Nat} {d : List (Int × Int)} (hj : D[j]? = some d) : ∃ g a cp, sa = some ⟨g, 0, none⟩ ∧ w.cell? ⟨g, j, none⟩ = some (.slice a d.length cp) ∧ AtP w a d := by
  obtain ⟨hj', rfl⟩ := List.getElem?_eq_some_iff.1 hj
  have hy : j < xs.length := by rw [h.ls.xl]; exact hj'
  obtain ⟨g, e, hc⟩ := row_cells (by have := h.ls.shares; rwa [hl] at this) (by omega)
  obtain ⟨a, cp, e2, _, _, hat⟩ := atP_own rfl (h.ls.xe j hy hj')
  exact ⟨g, a, cp, e, by rw [hc j _ (List.getElem?_eq_getElem hy), e2], hat⟩
/-- one more name -/
theorem Vp.moreH {o : Obj} {w' : World} {g cap : Nat} {a : ByteArray} (h : Vp w0 w F V v (.slice ha hn hc) H vs xs D vc ys C) (hl : H.length = hn) (hg : (w.alloc o).grownBy w' (Value.slice ha hn hc).ownBlock) (ho : w'.ownsRow w0.heap.size 9 1 (.slice (some ⟨g, 0, none⟩) (hn + 1) cap) (hn + 1) (cellsS H ++ [.string a])) (hat : (Value.slice ha hn hc).ownBlock = some g ∨ g = w.heap.size + 1) :
    Vp w0 w' F V v (.slice (some ⟨g, 0, none⟩) (hn + 1) cap) (H ++ [a]) vs xs D vc ys C := by
  subst hl
  exact (h.quiet ((Below.refl _ _).alloc (Nat.le_refl _) o)).addH hg ho (by simpa using hat)
/-- one more name's shares: x is new since w1 -/
theorem Vp.moreD {o : Obj} {w1 w' : World} {g cap m : Nat} {x : Value} {p : List Int} {P : List (List Int)} (h1 : Vp w0 w1 F V v vh H (.slice sa hn sc) xs (P.map fun p => M.deal p m) vc ys C) (hb : Below w1.heap.size w1 w) (hl : P.length = hn) (hx : w.ownsRow w1.heap.size 31 2 x m (flatP (M.deal p m))) (hg : (w.alloc o).grownBy w' (Value.slice sa hn sc).ownBlock)
    (ho : w'.ownsRow w0.heap.size 23 1 (.slice (some ⟨g, 0, none⟩) (hn + 1) cap) (hn + 1) (xs ++ [x])) (hat : (Value.slice sa hn sc).ownBlock = some g ∨ g = w.heap.size + 1) :
    Vp w0 w' F V v vh H (.slice (some ⟨g, 0, none⟩) (hn + 1) cap) (xs ++ [x]) ((P ++ [p]).map fun p => M.deal p m) vc ys C := by
  subst hl
  have hlo := (h1.vt.base_le)
  have h := (h1.quiet hb).quiet ((Below.refl _ _).alloc (Nat.le_refl _) o)
  rw [List.map_append]
  have hd : (P.map fun p => M.deal p m).length = P.length := List.length_map _
  have := h.addD (d := M.deal p m) (g := g) (cap := cap) (w' := w') (x := x) (by
    rw [M.deal_len]
    exact rowV_at (row_lower hx hlo) (fun b hb => by
      obtain ⟨_, c, fr, hh⟩ := rowV_tag hx hb
      exact ((Below.refl w.heap.size w).alloc (Nat.le_refl _) o).block b (heapV_lt hh))) (fun b hb hF => by
      have := (rowV_tag hx hb).1
      have := h1.vt.highs b hF
      omega) hg (by rw [hd]; exact ho) (by simpa using hat)
  rw [hd] at this
  exact this
/-- one more name's commits: y is new since w1 -/
theorem Vp.moreC {o : Obj} {w1 w' : World} {g cap k : Nat} {y : Value} {p : List Int} {P : List (List Int)} (h1 : Vp w0 w1 F V v vh H vs xs D (.slice ca hn cc) ys (P.map M.commits)) (hb : Below w1.heap.size w1 w) (hl : P.length = hn) (hk : k = p.length) (hy : w.ownsRow w1.heap.size 3 1 y k (cellsI (M.commits p))) (hg : (w.alloc o).grownBy w' (Value.slice ca hn cc).ownBlock)
    (ho : w'.ownsRow w0.heap.size 22 1 (.slice (some ⟨g, 0, none⟩) (hn + 1) cap) (hn + 1) (ys ++ [y])) (hat : (Value.slice ca hn cc).ownBlock = some g ∨ g = w.heap.size + 1) :
    Vp w0 w' F V v vh H vs xs D (.slice (some ⟨g, 0, none⟩) (hn + 1) cap) (ys ++ [y]) ((P ++ [p]).map M.commits) := by
  subst hl hk
  have hlo := (h1.vt.base_le)
  have h := (h1.quiet hb).quiet ((Below.refl _ _).alloc (Nat.le_refl _) o)
  rw [List.map_append]
  have hd : (P.map M.commits).length = P.length := List.length_map _
  have := h.addC (c := M.commits p) (g := g) (cap := cap) (w' := w') (y := y) (by
    rw [M.commits_len]
    exact rowV_at (row_lower hy hlo) (fun b hb => by
      obtain ⟨_, c, fr, hh⟩ := rowV_tag hy hb
      exact ((Below.refl w.heap.size w).alloc (Nat.le_refl _) o).block b (heapV_lt hh))) (fun b hb hF => by
      have := (rowV_tag hy hb).1
      have := h1.vt.highs b hF
      omega) hg (by rw [hd]; exact ho) (by simpa using hat)
  rw [hd] at this
  exact this
end

end Go.Proofs.YtlefhfmckimlaajDoor.vaultPlays
