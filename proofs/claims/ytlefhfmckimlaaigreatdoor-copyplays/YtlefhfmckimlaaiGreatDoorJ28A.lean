/-
  Tuples and lists of tuples that a law writes down itself; that two lists are the same.
  What is left of a list of tuples when all of it that fits is taken away, one behind the other; lists that a law puts together beside a space.
-/
import Derived.Test.YtlefhfmckimlaaiGreatDoorSpAll
import Derived.Test.YtlefhfmckimlaaiGreatDoorJ27A
import Derived.Deep.RegionHeld3
import Derived.Deep.DrawnRows
namespace Go.Proofs.YtlefhfmckimlaaiGreatDoor
open Go.RowKit
attribute [local go_sem ↓] Go.wp_at_zero Go.wp_at_succ

theorem lit_vals (w : World) (v : M.Val) (hs : v.s.size ≤ maxLen) : IsVals (w.alloc (.cells #[.int .i64 v.k, .int .i64 v.n, .string v.s] 107)) (.slice (some ⟨w.heap.size, 0, none⟩) 1 1) [v] := by
  refine Or.inr (Or.inr ⟨w.heap.size, 0, 1, by simp, rfl, by simp, by unfold maxLen; decide, lie_of_cells (fun x hx => by simp at hx; subst hx; exact hs) fun j u hu => ?_⟩)
  exact World.news_of_block (heap_alloc_new w _) j u hu

theorem tups_walk (b1 off1 cap1 b2 off2 cap2 : Nat) (L : List (List M.Val)) (w : World) (hl1 : LieT w b1 off1 L) (hl2 : LieT w b2 off2 L) (h0 : 0 < L.length) (hm : L.length ≤ maxLen) :
    Calls Tryz.prog 13 #[.slice (some ⟨b1, off1, none⟩) L.length cap1, .slice (some ⟨b2, off2, none⟩) L.length cap2] w fun e w' => e = .returned (.bool true) ∧ Below w.heap.size w w' := by
  unfold maxLen at hm
  have HK : Hid (∀ wr, Below w.heap.size w wr → ∀ k (hk : k < L.length), ∃ x y, wr.cell? ⟨b1, off1 + k, none⟩ = some x ∧ wr.cell? ⟨b2, off2 + k, none⟩ = some y ∧ ∀ w1, Below wr.heap.size wr w1 → Calls Tryz.prog 40 #[x, y] w1 fun e w' => e = .returned (.bool true) ∧ Below w1.heap.size w1 w') := hide fun wr hb k hk => by
    obtain ⟨x, hx, hxv⟩ := (hl1.stays h0 hb (Nat.le_refl _)) k hk
    obtain ⟨y, hy, hyv⟩ := (hl2.stays h0 hb (Nat.le_refl _)) k hk
    refine ⟨x, y, hx, hy, fun w1 hb1 => ?_⟩
    have := tsame x y L[k] L[k] w1 (hxv.stays hb1 (Nat.le_refl _)) (hyv.stays hb1 (Nat.le_refl _))
    rwa [sameAll_self] at this
  clear hl1 hl2
  obtain ⟨n, hn⟩ : ∃ n, n = L.length := ⟨_, rfl⟩
  rw [← hn] at h0 hm ⊢
  have HN := hide hn
  clear hn
  go_enter Tryz.func13, Tryz.ntmps13
  go_wp2
  go_loopw [5] (fun i wr => ∃ k : Nat, k ≤ n ∧ i = .int .i64 k ∧ Hid (Below w.heap.size w wr)) (fun i _ => n - (intOf i).toNat)
  case atStart => exact ⟨0, Nat.zero_le _, rfl, hide (Below.refl _ _)⟩
  case round =>
    obtain ⟨k, hk, rfl, hbel⟩ := hrel
    by_cases hlt : k < n
    · have hkl : k < L.length := HN.out ▸ hlt
      have ik0 : (0 : Int) ≤ (k : Int) := by omega
      have ikn : (k : Int) < (n : Int) := by omega
      obtain ⟨x, y, hx, hy, hC⟩ := (unhide HK) wr hbel.out k hkl
      have HC := hide (hC wr.drew (Below.refl _ _).drew)
      have hb1 : b1 < wr.heap.size := World.block_lt_of_cell? wr _ hx
      have hb2 : b2 < wr.heap.size := World.block_lt_of_cell? wr _ hy
      clear hC HK
      go_wp2_with fail
      go_region_held3 (fun w' => w'.cell? ⟨b1, off1 + k, none⟩ = some x ∧ w'.cell? ⟨b2, off2 + k, none⟩ = some y) (go_keep)
        (first | (go_at_call 40; refine (unhide HC).mono ?_; rintro e w3 ⟨rfl, hb3⟩; have k1 : w3.cell? ⟨b1, off1 + k, none⟩ = some x := (hb3.cell (p := ⟨b1, off1 + k, none⟩) hb1).trans hx; have k2 : w3.cell? ⟨b2, off2 + k, none⟩ = some y := (hb3.cell (p := ⟨b2, off2 + k, none⟩) hb2).trans hy))
      go_wp2_with fail
      go_roundw
      case rel => exact ⟨k + 1, by omega, by go_num, hide (hbel.out.drew.trans (hb3.mono hbel.out.size))⟩
      case measure => simp [intOf]; omega
    · go_wp2
      go_ret
      exact ⟨rfl, hbel.out⟩

theorem tups_none (a1 a2 : Option Addr) (cap1 cap2 : Nat) (w : World) : Calls Tryz.prog 13 #[.slice a1 0 cap1, .slice a2 0 cap2] w fun e w' => e = .returned (.bool true) ∧ Below w.heap.size w w' := by
  go_enter Tryz.func13, Tryz.ntmps13
  go_wp2
  go_loopw [5] (fun i wr => i = .int .i64 0 ∧ wr = w) (fun _ _ => 0)
  case atStart => exact ⟨rfl, rfl⟩
  case round =>
    obtain ⟨rfl, rfl⟩ := hrel
    go_wp2
    go_ret
    exact ⟨rfl, Below.refl _ _⟩

theorem sameTups (v1 v2 : Value) (L : List (List M.Val)) (w : World) (h1 : IsTups w v1 L) (h2 : IsTups w v2 L) :
    Calls Tryz.prog 13 #[v1, v2] w fun e w' => e = .returned (.bool true) ∧ Below w.heap.size w w' := by
  obtain ⟨a1, c1, e1, hm⟩ := h1.shape
  obtain ⟨a2, c2, e2, _⟩ := h2.shape
  rcases Nat.eq_zero_or_pos L.length with h0 | h0
  · have hl := List.length_eq_zero_iff.1 h0
    subst hl e1 e2
    exact tups_none a1 a2 c1 c2 w
  · obtain ⟨b1, off1, cap1, rfl, _, _, hl1⟩ := h1.some h0
    obtain ⟨b2, off2, cap2, rfl, _, _, hl2⟩ := h2.some h0
    exact tups_walk b1 off1 cap1 b2 off2 cap2 L w hl1 hl2 h0 hm

end Go.Proofs.YtlefhfmckimlaaiGreatDoor

namespace Go.Proofs.YtlefhfmckimlaaiGreatDoor
open Go.RowKit

def M.keepL (a : List M.Val) (X : List (List M.Val)) : List (List M.Val) := X.filter fun t => !M.fitAll a t
/-- the space when j of those that were put have been asked for -/
def M.mid (a : List M.Val) (L : List (List M.Val)) (j : Nat) : List (List M.Val) := M.keepL a (L.take j) ++ L.drop j

theorem keep_no {a : List M.Val} {L : List (List M.Val)} {j : Nat} (hj : j < L.length) (h : M.fitAll a L[j] = false) : M.keepL a (L.take (j + 1)) = M.keepL a (L.take j) ++ [L[j]] := by
  unfold M.keepL
  rw [List.take_succ_eq_append_getElem hj, List.filter_append, List.filter_cons, h]; simp
theorem keep_yes {a : List M.Val} {L : List (List M.Val)} {j : Nat} (hj : j < L.length) (h : M.fitAll a L[j] = true) : M.keepL a (L.take (j + 1)) = M.keepL a (L.take j) := by
  unfold M.keepL
  rw [List.take_succ_eq_append_getElem hj, List.filter_append, List.filter_cons, h]; simp
theorem mid_zero (a : List M.Val) (L : List (List M.Val)) : M.mid a L 0 = L := by simp [M.mid, M.keepL]
theorem mid_no {a : List M.Val} {L : List (List M.Val)} {j : Nat} (hj : j < L.length) (h : M.fitAll a L[j] = false) : M.mid a L (j + 1) = M.mid a L j := by
  unfold M.mid
  rw [keep_no hj h, List.drop_eq_getElem_cons hj, List.append_assoc]; rfl
theorem mid_end (a : List M.Val) (L : List (List M.Val)) : M.mid a L L.length = M.keepL a L := by simp [M.mid]
theorem keep_all {a : List M.Val} {X : List (List M.Val)} {j : Nat} (hj : j < (M.keepL a X).length) : M.fitAll a (M.keepL a X)[j] = false := by
  have h := (List.mem_filter.1 (show (M.keepL a X)[j] ∈ X.filter (fun t => !M.fitAll a t) from List.getElem_mem hj)).2
  simpa using h
theorem spot_keep (a : List M.Val) (X : List (List M.Val)) : M.spot a (M.keepL a X) = (M.keepL a X).length := spot_none fun _ hj => keep_all hj
/-- the first that fits, behind some that do not -/
theorem get_app {a x : List M.Val} {K D : List (List M.Val)} (ha : M.likeF a = 0) (hK : ∀ j (hj : j < K.length), M.fitAll a K[j] = false) (hx : M.fitAll a x = true) : M.getF a (K ++ x :: D) = 0 ∧ M.getV a (K ++ x :: D) = x ∧ M.lessL a (K ++ x :: D) = K ++ D := by
  have hlt : K.length < (K ++ x :: D).length := by simp
  have h1 : M.spot a (K ++ x :: D) = K.length := spot_hit hlt (fun i hi => by rw [List.getElem_append_left hi]; exact hK i hi) (by rw [List.getElem_append_right (Nat.le_refl _)]; simpa using hx)
  have h0 : M.getF a (K ++ x :: D) = 0 := getF_hit ha (by rw [h1]; exact hlt)
  refine ⟨h0, ?_, ?_⟩
  · unfold M.getV
    rw [if_pos h0, h1, List.getD_eq_getElem?_getD, List.getElem?_append_right (Nat.le_refl _)]
    simp
  · unfold M.lessL
    rw [if_pos h0, h1, List.eraseIdx_append_of_length_le (Nat.le_refl _)]
    simp
theorem mid_get {a : List M.Val} {L : List (List M.Val)} {j : Nat} (ha : M.likeF a = 0) (hj : j < L.length) (h : M.fitAll a L[j] = true) : M.getF a (M.mid a L j) = 0 ∧ M.getV a (M.mid a L j) = L[j] ∧ M.lessL a (M.mid a L j) = M.mid a L (j + 1) := by
  have e : M.mid a L j = M.keepL a (L.take j) ++ L[j] :: L.drop (j + 1) := by unfold M.mid; rw [List.drop_eq_getElem_cons hj]
  have e2 : M.mid a L (j + 1) = M.keepL a (L.take j) ++ L.drop (j + 1) := by unfold M.mid; rw [keep_yes hj h]
  rw [e, e2]
  exact get_app ha (fun i hi => keep_all hi) h
theorem mid_last {a : List M.Val} {L : List (List M.Val)} (ha : M.likeF a = 0) : M.getF a (M.mid a L L.length) = 5 := by
  rw [mid_end]
  exact getF_miss ha (by rw [spot_keep]; exact Nat.lt_irrefl _)
theorem mid_fine {a : List M.Val} {L : List (List M.Val)} (j : Nat) (h : M.Fine L) : M.Fine (M.mid a L j) := by
  constructor
  · intro t ht
    unfold M.mid M.keepL at ht
    rcases List.mem_append.1 ht with ht | ht
    · exact h.1 t (List.mem_of_mem_take (List.mem_filter.1 ht).1)
    · exact h.1 t (List.mem_of_mem_drop ht)
  · have h1 : (M.keepL a (L.take j)).length ≤ (L.take j).length := List.length_filter_le _ _
    have h2 : (M.mid a L j).length = (M.keepL a (L.take j)).length + (L.drop j).length := by unfold M.mid; rw [List.length_append]
    rw [List.length_take] at h1
    rw [List.length_drop] at h2
    have := h.2
    omega
theorem many_drop {a : List M.Val} {L : List (List M.Val)} {j : Nat} (hj : j < L.length) : M.many a (L.drop j) = M.many a (L.drop (j + 1)) + (if M.fitAll a L[j] then 1 else 0) := by
  unfold M.many
  rw [List.drop_eq_getElem_cons hj, List.countP_cons]

/-- a struct's list stays while another list's row is appended to -/
theorem Sp.grown {T : TypeId} {Q : Value → List M.Val → Prop} {base S m : Nat} {w w' : World} {u v : Value} {L : List (List M.Val)} {xs : List Value} (h : Sp T Q base w S v L) (hT : T ≠ 35) (hx : w.ownsRow base 35 1 u m xs) (ha : Apart v u) (hg : w.grownBy w' u.ownBlock) : Sp T Q base w' S v L := by
  have hS : some S ≠ u.ownBlock := fun e => by
    rcases hx.2 with ⟨hv, _⟩ | ⟨g, cap, c2, hv, _, hh, _⟩
    · rw [hv] at e; cases e
    · rw [hv] at e
      have : S = g := by simpa [Value.ownBlock] using e
      subst this
      rw [h.heap] at hh
      exact hT (tag_eq hh)
  refine ⟨h.lo, (hg.block S (heap_lt h.heap) hS).trans h.heap, ?_⟩
  obtain ⟨ys, h1, h2⟩ := h.row
  refine ⟨ys, h1.kept hg ?_, h2⟩
  cases hv : v.ownBlock with
  | none => exact Or.inl rfl
  | some k => exact Or.inr (fun e => ha k hv e.symm)
theorem Space.grown {base S m : Nat} {w w' : World} {u v : Value} {L : List (List M.Val)} {xs : List Value} (h : Space base w S v L) (hx : w.ownsRow base 35 1 u m xs) (ha : Apart v u) (hg : w.grownBy w' u.ownBlock) : Space base w' S v L :=
  (Sp.grown h (by decide) hx ha hg).mono fun _ _ ho => ho.solid (solid_grown hx hg)
theorem RowOf.grown {Q : Value → List M.Val → Prop} {base : Nat} {w w' : World} {u v : Value} {L : List (List M.Val)} (h : RowOf Q base w v L) (ha : Apart v u) (hg : w.grownBy w' u.ownBlock) : RowOf Q base w' v L := by
  obtain ⟨ys, h1, h2⟩ := h
  refine ⟨ys, h1.kept hg ?_, h2⟩
  cases hv : v.ownBlock with
  | none => exact Or.inl rfl
  | some k => exact Or.inr (fun e => ha k hv e.symm)
/-- the cells of a list's row -/
theorem RowOf.at {Q : Value → List M.Val → Prop} {base : Nat} {w : World} {u : Value} {L : List (List M.Val)} (h : RowOf Q base w u L) (h0 : 0 < L.length) : ∃ g cap, u = .slice (some ⟨g, 0, none⟩) L.length cap ∧ ∀ j (hj : j < L.length), ∃ x, w.cell? ⟨g, j, none⟩ = some x ∧ Q x L[j] := by
  obtain ⟨xs, h1, h2⟩ := h
  have hlen : xs.length = L.length := by have := h1.1; omega
  obtain ⟨g, cap, rfl, _⟩ := h1.form h0
  refine ⟨g, cap, rfl, fun j hj => ⟨xs[j], ?_, h2 j (by omega) hj⟩⟩
  rw [h1.cellAt j (by omega), List.getElem?_eq_getElem (by omega)]
theorem RowOf.shape {Q : Value → List M.Val → Prop} {base : Nat} {w : World} {u : Value} {L : List (List M.Val)} (h : RowOf Q base w u L) : ∃ ao cap, u = .slice ao L.length cap := by
  obtain ⟨xs, h1, _⟩ := h
  rcases h1.2 with ⟨hv, hn⟩ | ⟨g, cap, cur, hv, _⟩
  · exact ⟨none, 0, by rw [hv, hn]⟩
  · exact ⟨_, _, hv⟩
/-- a list of argument tuples, one more appended -/
theorem RowOf.more {Q : Value → List M.Val → Prop} {base : Nat} {w w' : World} {u u' x : Value} {L : List (List M.Val)} {l : List M.Val} {xs : List Value} (hx1 : w.ownsRow base 35 1 u L.length xs) (hx2 : ∀ i (h1 : i < xs.length) (h2 : i < L.length), Q xs[i] L[i]) (ho : w'.ownsRow base 35 1 u' (L.length + 1) (xs ++ [x])) (hq : Q x l) : RowOf Q base w' u' (L ++ [l]) :=
  RowOf.snoc hx2 (by have := hx1.1; omega) ho hq
theorem near_lies {H g : Nat} {w : World} {u : Value} {n c : Nat} (h : u.ownBlock = some g ∨ g = H) (hw : w.heap.size ≤ H) : Near w u (.slice (some ⟨g, 0, none⟩) n c) := by
  rcases h with h | h
  · exact Or.inl h.symm
  · refine Or.inr fun k hk => ?_
    have : g = k := by simpa [Value.ownBlock] using hk
    omega

end Go.Proofs.YtlefhfmckimlaaiGreatDoor
