/-
  What a strings.Builder that a call has made itself leaves as it was: every block that is neither a builder nor a row of bytes.
  What digest's own number and the document's own Hash do, each as one law of its call.
  Tuples and lists of tuples that a law writes down itself; that two lists are the same.
  What is left of a list of tuples when all of it that fits is taken away, one behind the other; lists that a law puts together beside a space.
  What Mark of package mirror's copy does, as one law of its call.
-/
import Derived.Test.YtlefhfmckimlaajGreatDoorJ15A
import Derived.Test.YtlefhfmckimlaajGreatDoorJ20A
import Derived.Test.YtlefhfmckimlaajGreatDoorJ7A
import Derived.Test.YtlefhfmckimlaajGreatDoorJ16A
import Derived.Test.YtlefhfmckimlaajGreatDoorJ28A
import Derived.Deep.RegionHeld3
import Derived.Deep.DrawnRows
import Derived.Test.YtlefhfmckimlaajGreatDoorJ30A
set_option linter.unusedVariables false
namespace Go.Proofs.YtlefhfmckimlaajGreatDoor
open Go.RowKit

/-- every block that is neither a builder nor a row of bytes stays -/
def Spare (w w' : World) : Prop := ∀ (i : Nat) (c : Array Value) (T : TypeId) (fr : Nat × Nat), T ≠ 105 → T ≠ 5 → w.heap[i]? = some (.cells c T fr) → w'.heap[i]? = some (.cells c T fr)
theorem Spare.refl (w : World) : Spare w w := fun _ _ _ _ _ _ h => h
theorem Spare.trans {a b c : World} (h : Spare a b) (k : Spare b c) : Spare a c := fun i cs T fr h1 h2 hh => k i cs T fr h1 h2 (h i cs T fr h1 h2 hh)
theorem Spare.below {w w' : World} (h : Below w.heap.size w w') : Spare w w' := fun i _ _ _ _ _ hh => (h.block i (heap_lt hh)).trans hh
theorem Spare.solid {w w' : World} (h : Spare w w') : Solid w w' := fun i c fr hh => h i c _ fr (by decide) (by decide) hh
theorem Spare.row {w w' : World} (h : Spare w w') {Q Q' : Value → List M.Val → Prop} {base : Nat} {v : Value} {L : List (List M.Val)} (hr : RowOf Q base w v L) (hq : ∀ x l, Q x l → Q' x l) : RowOf Q' base w' v L := by
  obtain ⟨xs, h1, h2⟩ := hr
  refine ⟨xs, ⟨h1.1, ?_⟩, fun i a b => hq _ _ (h2 i a b)⟩
  rcases h1.2 with h3 | ⟨g, cap, cur, hv, hg, hh, r⟩
  · exact Or.inl h3
  · exact Or.inr ⟨g, cap, cur, hv, hg, h _ _ _ _ (by decide) (by decide) hh, r⟩

theorem copyCheckK (B b : Nat) (bs : List Value) (w : World) (h : Blt B b bs w) :
    Calls Tryz.prog 80 #[.pointer (some ⟨b, 0, none⟩)] w fun e w' => e = .returned (.tuple #[]) ∧ Lib.BuilderAt 105 5 B b (.pointer (some ⟨b, 0, none⟩)) bs w' ∧ Below B w w' ∧ Spare w w' := by
  refine h.elim (fun f => ?_) (fun u => ?_)
  · refine (checkFresh b w f.cell0 f.shape f.frozen0).mono fun _ _ ⟨he, hw⟩ => ⟨he, hw ▸ f.used _, hw ▸ (Below.refl B w).setCell (p := ⟨b, 0, none⟩) f.1 _, ?_⟩
    rw [hw]
    intro i c T fr h1 h2 hh
    refine (heap_setCell_other w ⟨b, 0, none⟩ i _ (fun e => ?_)).trans hh
    obtain ⟨hB, v, hv, _⟩ := f
    have e' : i = b := e
    rw [e', hv] at hh
    exact h1 (tag_eq hh).symm
  · exact (checkUsed b w u.cell0).mono fun _ _ ⟨he, hw⟩ => ⟨he, hw ▸ u, hw ▸ Below.refl B w, hw ▸ Spare.refl w⟩

set_option maxHeartbeats 1000000 in
theorem writeK (B b : Nat) (bs : List Value) (s : ByteArray) (w : World) (h : Blt B b bs w) (hlen : bs.length + s.size ≤ 1000000) (hBw : B ≤ w.heap.size) :
    Calls Tryz.prog 50 #[.pointer (some ⟨b, 0, none⟩), .string s] w fun e w' => e = .returned (.tuple #[.int .i64 s.size, .nilIface]) ∧ Blt B b (bs ++ Lib.strCells s) w' ∧ Below B w w' ∧ Spare w w' := by
  obtain ⟨i0, hi, hz0, hz1, hz2⟩ := info_parts infoByte
  go_enter Tryz.func50, Tryz.ntmps50
  go_wp2_with fail
  refine (copyCheckK B b bs _ h).mono ?_
  rintro e w1 ⟨rfl, ⟨hB, v, hbk, hown, hne⟩, hb1, hk1⟩
  have hsz : B ≤ w1.heap.size := Nat.le_trans hBw hb1.size
  have at0 : w1.cell? ⟨b, 0, none⟩ = some (.pointer (some ⟨b, 0, none⟩)) := (Lib.cell_of_heap hbk 0).trans rfl
  have at1 : w1.cell? ⟨b, 1, none⟩ = some v := (Lib.cell_of_heap hbk 1).trans rfl
  go_wp2_with (at_builtin; refine Lib.wpList_append_own_string _ rfl (.tmp 12) (.tmp 13) 103 9 rfl B 5 i0 Tryz.underlying103 Tryz.underlying9 hi hz0 hz1 hz2 v bs.length bs rfl hown s rfl (by unfold maxLen; omega) (by omega) hsz ?_)
  intro v' w2 hown' hgrow _
  have HB2 := hide (hb1.grown hgrow hsz (fun k hk => (hown.lt k hk).1))
  have hbk2 := two_cells hbk hgrow hne
  have HK2 : Hid (∀ u, Spare w (w2.setCell ⟨b, 1, none⟩ u)) := hide fun u i c T fr h1 h2 hh => by
    have h3 := hk1 i c T fr h1 h2 hh
    refine (heap_setCell_other w2 ⟨b, 1, none⟩ i _ (fun e => ?_)).trans ((hgrow.block i (heap_lt h3) (fun e => ?_)).trans h3)
    · have e' : i = b := e
      rw [e', hbk] at h3
      exact h1 (tag_eq h3).symm
    · rcases hown.2 with ⟨hv, _⟩ | ⟨g, cap, cur, hv, _, hh', _⟩
      · rw [hv] at e; cases e
      · rw [hv] at e
        have : i = g := by simpa [Value.ownBlock] using e
        subst this
        rw [hh'] at h3
        exact h2 (tag_eq h3).symm
  have to0 : w2.cell? ⟨b, 0, none⟩ = some (.pointer (some ⟨b, 0, none⟩)) := (Lib.cell_of_heap hbk2 0).trans rfl
  have to1 : w2.cell? ⟨b, 1, none⟩ = some v := (Lib.cell_of_heap hbk2 1).trans rfl
  have free1 := Lib.frozen_of_heap hbk2 1
  obtain ⟨ao, cap, rfl⟩ := slice_own hown'
  have HP := hide (Lib.BuilderAt.put (T := 105) (e := 5) (bs' := bs ++ Lib.strCells s) hB hbk2 (by rw [List.length_append, Lib.strCells_length]; exact hown') (by decide))
  clear hown hown' hgrow hbk hbk2 hb1 hne hk1
  go_wp2
  go_ret2
  exact ⟨rfl, Or.inr HP.out, HB2.out.setCell (p := ⟨b, 1, none⟩) hB _, HK2.out _⟩

end Go.Proofs.YtlefhfmckimlaajGreatDoor

namespace Go.Proofs.YtlefhfmckimlaajGreatDoor
open Go.RowKit

theorem number (s : ByteArray) (w : World) (hs : s.size ≤ maxLen) : Calls Tryz.prog 24 #[.string s] w fun e w' => e = .returned (.int .i64 (M.hash s)) ∧ w' = w := by
  unfold maxLen at hs
  go_enter Tryz.func24, Tryz.ntmps24
  go_wp2
  go_loop [3, 4, 7] (fun a _ c => ∃ (k : Nat) (h : Int), k ≤ s.size ∧ a = .int .i64 h ∧ c = .int .i64 k ∧ 0 ≤ h ∧ h ≤ 10006 ∧ Hid (h = M.hashL (s.data.toList.take k))) (fun _ _ c => s.size - (intOf c).toNat)
  case atStart => exact ⟨0, 7, Nat.zero_le _, rfl, rfl, by decide, by decide, hide rfl⟩
  case round =>
    obtain ⟨k, h, hk, rfl, rfl, h0, h1, hh⟩ := hrel
    by_cases hlt : k < s.size
    · have HS : Hid (M.hashC h s[k] = M.hashL (s.data.toList.take (k + 1))) := hide (by rw [take_snoc s k hlt, M.hashL_snoc, ← hh.out])
      have hb := s[k].toNat_lt
      go_wp2
      go_round
      case rel => exact ⟨k + 1, M.hashC h s[k], by omega, by unfold M.hashC; go_num, by go_num, (M.hashC_range _ _).1, (M.hashC_range _ _).2, HS⟩
      case measure => simp [intOf]; omega
    · have hfin : Hid (h = M.hash s) := hide (by have h' := hh.out; rwa [List.take_of_length_le (by simp; omega)] at h')
      go_wp2
      go_ret
      exact ⟨by rw [← hfin.out]; rfl, rfl⟩


end Go.Proofs.YtlefhfmckimlaajGreatDoor

namespace Go.Proofs.YtlefhfmckimlaajGreatDoor
open Go.RowKit
attribute [local go_sem ↓] Go.wp_at_zero Go.wp_at_succ

theorem lit_vals (w : World) (v : M.Val) (hs : v.s.size ≤ maxLen) : IsVals (w.alloc (.cells #[.int .i64 v.k, .int .i64 v.n, .string v.s] 47)) (.slice (some ⟨w.heap.size, 0, none⟩) 1 1) [v] := by
  refine Or.inr (Or.inr ⟨w.heap.size, 0, 1, by simp, rfl, by simp, by unfold maxLen; decide, lie_of_cells (fun x hx => by simp at hx; subst hx; exact hs) fun j u hu => ?_⟩)
  exact World.news_of_block (heap_alloc_new w _) j u hu

end Go.Proofs.YtlefhfmckimlaajGreatDoor

namespace Go.Proofs.YtlefhfmckimlaajGreatDoor
open Go.RowKit

def M.keepL (a : List M.Val) (X : List (List M.Val)) : List (List M.Val) := X.filter fun t => !M.fitAll a t
/-- the space when j of those that were put have been asked for -/
def M.mid (a : List M.Val) (L : List (List M.Val)) (j : Nat) : List (List M.Val) := M.keepL a (L.take j) ++ L.drop j

theorem keep_no {a : List M.Val} {L : List (List M.Val)} {j : Nat} (hj : j < L.length) (h : M.fitAll a L[j] = false) : M.keepL a (L.take (j + 1)) = M.keepL a (L.take j) ++ [L[j]] := by
  unfold M.keepL
  rw [List.take_succ_eq_append_getElem hj, List.filter_append, List.filter_cons, h]; simp
theorem keep_yes {a : List M.Val} {L : List (List M.Val)} {j : Nat} (hj : j < L.length) (h : M.fitAll a L[j] = true) : M.keepL a (L.take (j + 1)) = M.keepL a (L.take j) := by
  unfold M.keepL
  rw [List.take_succ_eq_append_getElem hj, List.filter_append, List.filter_cons, h]; simp
theorem mid_zero (a : List M.Val) (L : List (List M.Val)) : M.mid a L 0 = L := by simp [M.mid, M.keepL]
theorem mid_no {a : List M.Val} {L : List (List M.Val)} {j : Nat} (hj : j < L.length) (h : M.fitAll a L[j] = false) : M.mid a L (j + 1) = M.mid a L j := by
  unfold M.mid
  rw [keep_no hj h, List.drop_eq_getElem_cons hj, List.append_assoc]; rfl
theorem mid_end (a : List M.Val) (L : List (List M.Val)) : M.mid a L L.length = M.keepL a L := by simp [M.mid]
theorem keep_all {a : List M.Val} {X : List (List M.Val)} {j : Nat} (hj : j < (M.keepL a X).length) : M.fitAll a (M.keepL a X)[j] = false := by
  have h := (List.mem_filter.1 (show (M.keepL a X)[j] ∈ X.filter (fun t => !M.fitAll a t) from List.getElem_mem hj)).2
  simpa using h
theorem spot_keep (a : List M.Val) (X : List (List M.Val)) : M.spot a (M.keepL a X) = (M.keepL a X).length := spot_none fun _ hj => keep_all hj
/-- the first that fits, behind some that do not -/
theorem get_app {a x : List M.Val} {K D : List (List M.Val)} (ha : M.likeF a = 0) (hK : ∀ j (hj : j < K.length), M.fitAll a K[j] = false) (hx : M.fitAll a x = true) : M.getF a (K ++ x :: D) = 0 ∧ M.getV a (K ++ x :: D) = x ∧ M.lessL a (K ++ x :: D) = K ++ D := by
  have hlt : K.length < (K ++ x :: D).length := by simp
  have h1 : M.spot a (K ++ x :: D) = K.length := spot_hit hlt (fun i hi => by rw [List.getElem_append_left hi]; exact hK i hi) (by rw [List.getElem_append_right (Nat.le_refl _)]; simpa using hx)
  have h0 : M.getF a (K ++ x :: D) = 0 := getF_hit ha (by rw [h1]; exact hlt)
  refine ⟨h0, ?_, ?_⟩
  · unfold M.getV
    rw [if_pos h0, h1, List.getD_eq_getElem?_getD, List.getElem?_append_right (Nat.le_refl _)]
    simp
  · unfold M.lessL
    rw [if_pos h0, h1, List.eraseIdx_append_of_length_le (Nat.le_refl _)]
    simp
theorem mid_get {a : List M.Val} {L : List (List M.Val)} {j : Nat} (ha : M.likeF a = 0) (hj : j < L.length) (h : M.fitAll a L[j] = true) : M.getF a (M.mid a L j) = 0 ∧ M.getV a (M.mid a L j) = L[j] ∧ M.lessL a (M.mid a L j) = M.mid a L (j + 1) := by
  have e : M.mid a L j = M.keepL a (L.take j) ++ L[j] :: L.drop (j + 1) := by unfold M.mid; rw [List.drop_eq_getElem_cons hj]
  have e2 : M.mid a L (j + 1) = M.keepL a (L.take j) ++ L.drop (j + 1) := by unfold M.mid; rw [keep_yes hj h]
  rw [e, e2]
  exact get_app ha (fun i hi => keep_all hi) h
theorem mid_last {a : List M.Val} {L : List (List M.Val)} (ha : M.likeF a = 0) : M.getF a (M.mid a L L.length) = 5 := by
  rw [mid_end]
  exact getF_miss ha (by rw [spot_keep]; exact Nat.lt_irrefl _)
theorem mid_fine {a : List M.Val} {L : List (List M.Val)} (j : Nat) (h : M.Fine L) : M.Fine (M.mid a L j) := by
  constructor
  · intro t ht
    unfold M.mid M.keepL at ht
    rcases List.mem_append.1 ht with ht | ht
    · exact h.1 t (List.mem_of_mem_take (List.mem_filter.1 ht).1)
    · exact h.1 t (List.mem_of_mem_drop ht)
  · have h1 : (M.keepL a (L.take j)).length ≤ (L.take j).length := List.length_filter_le _ _
    have h2 : (M.mid a L j).length = (M.keepL a (L.take j)).length + (L.drop j).length := by unfold M.mid; rw [List.length_append]
    rw [List.length_take] at h1
    rw [List.length_drop] at h2
    have := h.2
    omega
theorem many_drop {a : List M.Val} {L : List (List M.Val)} {j : Nat} (hj : j < L.length) : M.many a (L.drop j) = M.many a (L.drop (j + 1)) + (if M.fitAll a L[j] then 1 else 0) := by
  unfold M.many
  rw [List.drop_eq_getElem_cons hj, List.countP_cons]

/-- a struct's list stays while another list's row is appended to -/
theorem Sp.grown {T : TypeId} {Q : Value → List M.Val → Prop} {base S m : Nat} {w w' : World} {u v : Value} {L : List (List M.Val)} {xs : List Value} (h : Sp T Q base w S v L) (hT : T ≠ 33) (hx : w.ownsRow base 33 1 u m xs) (ha : Apart v u) (hg : w.grownBy w' u.ownBlock) : Sp T Q base w' S v L := by
  have hS : some S ≠ u.ownBlock := fun e => by
    rcases hx.2 with ⟨hv, _⟩ | ⟨g, cap, c2, hv, _, hh, _⟩
    · rw [hv] at e; cases e
    · rw [hv] at e
      have : S = g := by simpa [Value.ownBlock] using e
      subst this
      rw [h.heap] at hh
      exact hT (tag_eq hh)
  refine ⟨h.lo, (hg.block S (heap_lt h.heap) hS).trans h.heap, ?_⟩
  obtain ⟨ys, h1, h2⟩ := h.row
  refine ⟨ys, h1.kept hg ?_, h2⟩
  cases hv : v.ownBlock with
  | none => exact Or.inl rfl
  | some k => exact Or.inr (fun e => ha k hv e.symm)
theorem Space.grown {base S m : Nat} {w w' : World} {u v : Value} {L : List (List M.Val)} {xs : List Value} (h : Space base w S v L) (hx : w.ownsRow base 33 1 u m xs) (ha : Apart v u) (hg : w.grownBy w' u.ownBlock) : Space base w' S v L :=
  (Sp.grown h (by decide) hx ha hg).mono fun _ _ ho => ho.solid (solid_grown hx hg)
theorem RowOf.grown {Q : Value → List M.Val → Prop} {base : Nat} {w w' : World} {u v : Value} {L : List (List M.Val)} (h : RowOf Q base w v L) (ha : Apart v u) (hg : w.grownBy w' u.ownBlock) : RowOf Q base w' v L := by
  obtain ⟨ys, h1, h2⟩ := h
  refine ⟨ys, h1.kept hg ?_, h2⟩
  cases hv : v.ownBlock with
  | none => exact Or.inl rfl
  | some k => exact Or.inr (fun e => ha k hv e.symm)
/-- the cells of a list's row -/
theorem RowOf.at {Q : Value → List M.Val → Prop} {base : Nat} {w : World} {u : Value} {L : List (List M.Val)} (h : RowOf Q base w u L) (h0 : 0 < L.length) : ∃ g cap, u = .slice (some ⟨g, 0, none⟩) L.length cap ∧ ∀ j (hj : j < L.length), ∃ x, w.cell? ⟨g, j, none⟩ = some x ∧ Q x L[j] := by
  obtain ⟨xs, h1, h2⟩ := h
  have hlen : xs.length = L.length := by have := h1.1; omega
  obtain ⟨g, cap, rfl, _⟩ := h1.form h0
  refine ⟨g, cap, rfl, fun j hj => ⟨xs[j], ?_, h2 j (by omega) hj⟩⟩
  rw [h1.cellAt j (by omega), List.getElem?_eq_getElem (by omega)]
theorem RowOf.shape {Q : Value → List M.Val → Prop} {base : Nat} {w : World} {u : Value} {L : List (List M.Val)} (h : RowOf Q base w u L) : ∃ ao cap, u = .slice ao L.length cap := by
  obtain ⟨xs, h1, _⟩ := h
  rcases h1.2 with ⟨hv, hn⟩ | ⟨g, cap, cur, hv, _⟩
  · exact ⟨none, 0, by rw [hv, hn]⟩
  · exact ⟨_, _, hv⟩
/-- a list of argument tuples, one more appended -/
theorem RowOf.more {Q : Value → List M.Val → Prop} {base : Nat} {w w' : World} {u u' x : Value} {L : List (List M.Val)} {l : List M.Val} {xs : List Value} (hx1 : w.ownsRow base 33 1 u L.length xs) (hx2 : ∀ i (h1 : i < xs.length) (h2 : i < L.length), Q xs[i] L[i]) (ho : w'.ownsRow base 33 1 u' (L.length + 1) (xs ++ [x])) (hq : Q x l) : RowOf Q base w' u' (L ++ [l]) :=
  RowOf.snoc hx2 (by have := hx1.1; omega) ho hq
theorem near_lies {H g : Nat} {w : World} {u : Value} {n c : Nat} (h : u.ownBlock = some g ∨ g = H) (hw : w.heap.size ≤ H) : Near w u (.slice (some ⟨g, 0, none⟩) n c) := by
  rcases h with h | h
  · exact Or.inl h.symm
  · refine Or.inr fun k hk => ?_
    have : g = k := by simpa [Value.ownBlock] using hk
    omega

end Go.Proofs.YtlefhfmckimlaajGreatDoor

set_option linter.unusedVariables false
namespace Go.Proofs.YtlefhfmckimlaajGreatDoor
open Go.RowKit
attribute [local go_sem ↓] Go.wp_at_zero Go.wp_at_succ

/-- All, with the rows that it has made -/
theorem allR (base S : Nat) (u : Value) (L : List (List M.Val)) (w : World) (hs : Space base w S u L) (hL : M.Fine L) :
    Calls Tryz.prog 72 #[.pointer (some ⟨S, 0, none⟩)] w fun e w' => ∃ ao cap, e = .returned (.slice ao L.length cap) ∧ RowOf (OwnT w.heap.size w') w.heap.size w' (.slice ao L.length cap) L ∧ Below w.heap.size w w' := by
  obtain ⟨c1, _, s1⟩ := hs.cell
  have hu : IsTups w u L := hs.row.tups fun _ _ ho => ho.vals
  rcases Nat.eq_zero_or_pos L.length with h0 | h0
  · obtain ⟨ao, cap, rfl, _⟩ := hu.shape
    have hl := List.length_eq_zero_iff.1 h0
    subst hl
    refine (all_none S cap ao w c1).mono ?_
    rintro e w' ⟨rfl, hb⟩
    exact ⟨none, 0, rfl, RowOf.nil _ _ _, hb⟩
  · obtain ⟨b, off, cap, rfl, h1, h2, h3⟩ := hu.some h0
    refine (all_many S b off L.length cap L w rfl h0 c1 h3 hL).mono ?_
    rintro e w' ⟨v, rfl, h4, hb⟩
    obtain ⟨ao, cap2, rfl⟩ := h4.shape
    exact ⟨ao, cap2, rfl, h4, hb⟩

section
variable {base : Nat} {w : World} {C S B : Nat} {v rv : Value} {l : List (List M.Val)} {g : Int → Int × ByteArray} {m : Int} {k : Nat} {R : List M.Rul}
theorem str_bytes (q : List UInt8) : (⟨q.toArray⟩ : ByteArray).data.toList = q := by simp

set_option maxHeartbeats 1000000 in
set_option maxRecDepth 100000 in
theorem cMark (h : Cp base w C S B v rv l g m k R) (hL : M.Fine l) (hT : TabFrom base w) :
    Calls Tryz.prog 43 #[.pointer (some ⟨C, 0, none⟩)] w fun e w' => e = .returned (.tuple #[.int .i64 m, .int .i64 (M.mark l)]) ∧ Below w.heap.size w w' := by
  have HC := hide h
  have HL := hide hL
  have HT := hide hT
  have h20 : l.length ≤ 20 := hL.2
  have HAL : Hid (∀ wx, Below w.heap.size w wx → Calls Tryz.prog 72 #[.pointer (some ⟨S, 0, none⟩)] wx fun e w' => ∃ ao cap, e = .returned (.slice ao l.length cap) ∧ RowOf (OwnT wx.heap.size w') wx.heap.size w' (.slice ao l.length cap) l ∧ Below wx.heap.size wx w') := hide fun wx hb => allR base S v l wx (h.quiet hb).sp hL
  have HCC : Hid (∀ wx, Below w.heap.size w wx → wx.cell? ⟨C, 1, none⟩ = some (.pointer (some ⟨S, 0, none⟩)) ∧ wx.cell? ⟨C, 3, none⟩ = some (.int .i64 m) ∧ C < wx.heap.size) := hide fun wx hb => ⟨(h.quiet hb).cells.2.1, (h.quiet hb).cells.2.2.2.1, (h.quiet hb).cells.2.2.2.2.1⟩
  obtain ⟨n, hn⟩ : ∃ n, n = l.length := ⟨_, rfl⟩
  have HN := hide hn
  rw [← hn] at h20 HAL
  clear h hL hT hn
  obtain ⟨c0, c3, cn⟩ := HCC.out (w.alloc (.cells #[.pointer none, .slice none 0 0] 105)) ((Below.refl _ _).alloc (Nat.le_refl _) _)
  go_enter Tryz.func43, Tryz.ntmps43
  go_wp2_with fail
  refine (HAL.out _ ((Below.refl _ _).alloc (Nat.le_refl _) _)).mono ?_
  rintro e w1 ⟨ao, cap, rfl, hr1, hb1⟩
  have HB1 : Hid (Below w.heap.size w w1) := hide (((Below.refl _ _).alloc (Nat.le_refl _) (.cells #[.pointer none, .slice none 0 0] 105)).trans (hb1.mono (by simp)))
  have HBL1 : Hid (Blt w.heap.size w.heap.size (Lib.byteCells (M.markL (l.take 0))) w1) := hide (Blt.stays (Lib.fresh_isBuilder _ _ _) hb1)
  have HR1 := hide hr1
  clear hb1 hr1 c0 c3 cn
  rcases Nat.eq_zero_or_pos n with h0 | h0
  · have hl0 : l = [] := List.length_eq_zero_iff.1 (by rw [← HN.out]; exact h0)
    subst hl0
    subst h0
    have HBL : Hid (Blt w.heap.size w.heap.size (Lib.byteCells []) w1.drew) := hide (HBL1.out.stays ((Below.refl _ _).drew))
    have hws := HB1.out.size
    obtain ⟨_, c3, cn⟩ := HCC.out w1 HB1.out
    have HH : Hid (∀ wx, Calls Tryz.prog 24 #[.string ⟨(([] : List UInt8)).toArray⟩] wx fun e w' => e = .returned (.int .i64 7) ∧ w' = wx) := hide fun wx => number ⟨(([] : List UInt8)).toArray⟩ wx (by decide)
    go_wp2_with fail
    go_loopw [13] (fun i wr => i = .int .i64 0 ∧ wr = w1) (fun _ _ => 0)
    case atStart => exact ⟨rfl, rfl⟩
    case round =>
      obtain ⟨rfl, rfl⟩ := hrel
      go_wp2_with fail
      go_region_held3 (fun w' => w'.cell? ⟨C, 3, none⟩ = some (.int .i64 m)) (first | go_keep | assumption)
        (first
          | (go_at_call 51; refine (Tryz.Builder_String_any w.heap.size w.heap.size _ _ HBL.out hws).mono ?_; rintro e w5 ⟨rfl, hb5⟩; have HB5 := hide (HB1.out.drew.trans hb5); have c5 := (HCC.out w5 HB5.out).2.1; clear hb5)
          | (go_at_call 24; refine (HH.out _).mono ?_; rintro e w6 ⟨rfl, hw6⟩; obtain rfl := hw6.symm))
      all_goals
        go_wp2_with fail
        go_ret2
        exact ⟨rfl, HB5.out⟩
  · obtain ⟨gb, cap2, e, _⟩ := HR1.out.at (by have := HN.out; omega)
    simp only [Value.slice.injEq] at e
    obtain ⟨rfl, _, _⟩ := e
    go_wp2_with fail
    go_loopw [13] (fun i wr => ∃ k : Nat, k ≤ n ∧ i = .int .i64 k ∧ Hid (Blt w.heap.size w.heap.size (Lib.byteCells (M.markL (l.take k))) wr) ∧ Hid (RowOf (OwnT (w.heap.size + 1) wr) (w.heap.size + 1) wr (.slice (some ⟨gb, 0, none⟩) n cap) l) ∧ Hid (Below w.heap.size w wr)) (fun i _ => n - (intOf i).toNat)
    case atStart => exact ⟨0, Nat.zero_le _, rfl, HBL1, hide (by simpa using HR1.out), HB1⟩
    case round =>
      obtain ⟨k, hk, rfl, hblt, hrow, hbel⟩ := hrel
      obtain ⟨_, c3, cn⟩ := HCC.out wr hbel.out
      have hws := hbel.out.size
      have HSZ : Hid ((M.markL (l.take k)).length ≤ 1420) := hide (by
        have h1 := M.markL_len (L := l.take k) (fun t ht => HL.out.1 t (List.mem_of_mem_take ht))
        have h3 : (l.take k).length ≤ k := List.length_take_le _ _
        omega)
      by_cases hlt : k < n
      · have hkl : k < l.length := HN.out ▸ hlt
        have i1 : (k : Int) < (n : Int) := by omega
        have i0 : (0 : Int) ≤ (k : Int) := by omega
        obtain ⟨gb2, cap2, e, hat⟩ := hrow.out.at (by omega)
        simp only [Value.slice.injEq, Option.some.injEq, Addr.mk.injEq, and_true] at e
        obtain ⟨rfl, _, rfl⟩ := e
        obtain ⟨x, hx, hxo⟩ := hat k hkl
        obtain ⟨xa, xn, xc, rfl⟩ := hxo.vals.isSlice
        have hlk := M.tupF_like (HL.out.1 l[k] (List.getElem_mem hkl))
        have HPR : Hid (Calls Tryz.prog 73 #[.slice xa xn xc] wr fun e w' => e = .returned (.string (M.line l[k])) ∧ Below wr.heap.size wr w') := hide (cPrinted _ _ wr hxo.vals (HT.out wr (hbel.out.mono HC.out.base_le)) hlk)
        have HY := hide (M.line_small hlk)
        have HMT := hide (M.markL_take hkl)
        generalize M.line l[k] = y at *
        clear hat hxo hlk
        go_wp2_with fail
        refine (unhide HPR).mono ?_
        rintro e w2 ⟨rfl, hb2⟩
        have HBL2 := hide (hblt.out.stays hb2)
        have HR2 := hide ((Spare.below hb2).row hrow.out (fun _ _ ho => ho.solid (Solid.below hb2)))
        have HB2 := hide (hbel.out.trans (hb2.mono hbel.out.size))
        clear hb2
        go_wp2_with fail
        refine (writeK w.heap.size w.heap.size _ _ _ HBL2.out (by rw [Lib.byteCells_length]; have := HSZ.out; have := HY.out; omega) HB2.out.size).mono ?_
        rintro e w3 ⟨rfl, hbl3, hb3, hk3⟩
        have HBL3 : Hid (Blt w.heap.size w.heap.size (Lib.byteCells (M.markL (l.take k) ++ y.data.toList)) w3) := hide (by have := hbl3; rwa [cells_word] at this)
        have HR3 := hide (hk3.row HR2.out (fun _ _ ho => ho.solid hk3.solid))
        have HB3 := hide (HB2.out.trans hb3)
        clear hbl3 hb3 hk3
        go_wp2_with fail
        refine (writeK w.heap.size w.heap.size _ _ _ HBL3.out (by rw [Lib.byteCells_length, List.length_append]; have := HSZ.out; have := HY.out; have h9 : y.data.toList.length = y.size := Array.length_toList; show _ + 1 ≤ _; omega) HB3.out.size).mono ?_
        rintro e w4 ⟨rfl, hbl4, hb4, hk4⟩
        have HBL4 := hide hbl4
        have HR4 := hide (hk4.row HR3.out (fun _ _ ho => ho.solid hk4.solid))
        have HB4 := hide (HB3.out.trans hb4)
        clear hbl4 hb4 hk4
        go_wp2_with fail
        go_roundw
        case rel =>
          refine ⟨k + 1, by omega, by go_num, hide ?_, HR4, HB4⟩
          have := HBL4.out
          rw [cells_word, List.append_assoc] at this
          rw [HMT.out]
          exact this
        case measure => simp [intOf]; omega
      · have hkn : k = n := by omega
        have i1 : ¬ (k : Int) < (n : Int) := by omega
        have HBL : Hid (Blt w.heap.size w.heap.size (Lib.byteCells (M.markL l)) wr.drew) := hide (by
          have h1 := hblt.out
          rw [hkn, HN.out, List.take_length] at h1
          exact h1.stays ((Below.refl _ _).drew))
        have hsz : (M.markL l).length ≤ 1420 := by
          have h1 := HSZ.out
          rwa [hkn, HN.out, List.take_length] at h1
        obtain ⟨Z, hZ⟩ : ∃ Z, Z = M.mark l := ⟨_, rfl⟩
        have HZ := hide hZ
        have HH : Hid (∀ wx, Calls Tryz.prog 24 #[.string ⟨(M.markL l).toArray⟩] wx fun e w' => e = .returned (.int .i64 Z) ∧ w' = wx) := hide fun wx => by
          have h1 := number ⟨(M.markL l).toArray⟩ wx (by show (M.markL l).toArray.size ≤ _; unfold maxLen; rw [List.size_toArray]; omega)
          have e : M.hash ⟨(M.markL l).toArray⟩ = Z := by
            rw [hZ]; unfold M.hash M.mark; rw [str_bytes]
          rwa [e] at h1
        generalize M.markL l = q at *
        clear hZ hkn hsz
        go_wp2_with fail
        go_region_held3 (fun w' => w'.cell? ⟨C, 3, none⟩ = some (.int .i64 m)) (first | go_keep | assumption)
          (first
            | (go_at_call 51; refine (Tryz.Builder_String_any w.heap.size w.heap.size _ _ HBL.out hws).mono ?_; rintro e w5 ⟨rfl, hb5⟩; have HB5 := hide (hbel.out.drew.trans hb5); have c5 := (HCC.out w5 HB5.out).2.1; clear hb5)
            | (go_at_call 24; refine (HH.out _).mono ?_; rintro e w6 ⟨rfl, hw6⟩; obtain rfl := hw6.symm))
        all_goals
          go_wp2_with fail
          go_ret2
          exact ⟨by rw [← HZ.out]; rfl, HB5.out⟩
end

end Go.Proofs.YtlefhfmckimlaajGreatDoor
