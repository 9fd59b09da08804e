/-
  What a strings.Builder that a call has made itself leaves as it was: every block that is neither a builder nor a row of bytes.
  What digest's own number and the document's own Hash do, each as one law of its call.
  How two values are compared by the program: field by field.
  What tuplesame.Tuple does, as one law of its call.
-/
import Derived.Test.YtlefhfmckimlaaiGreatDoorJ13A
import Derived.Test.YtlefhfmckimlaaiGreatDoorJ1A
import Derived.Test.YtlefhfmckimlaaiGreatDoorJ3A
import Derived.Test.YtlefhfmckimlaaiGreatDoorJ14A
import Derived.Test.YtlefhfmckimlaaiGreatDoorTupWalks
import Derived.BigQuiet
import Derived.Deep.QuietTactic
import Derived.WalkSmall
set_option linter.unusedVariables false
namespace Go.Proofs.YtlefhfmckimlaaiGreatDoor
open Go.RowKit

/-- every block that is neither a builder nor a row of bytes stays -/
def Spare (w w' : World) : Prop := ∀ (i : Nat) (c : Array Value) (T : TypeId) (fr : Nat × Nat), T ≠ 94 → T ≠ 5 → w.heap[i]? = some (.cells c T fr) → w'.heap[i]? = some (.cells c T fr)
theorem Spare.refl (w : World) : Spare w w := fun _ _ _ _ _ _ h => h
theorem Spare.trans {a b c : World} (h : Spare a b) (k : Spare b c) : Spare a c := fun i cs T fr h1 h2 hh => k i cs T fr h1 h2 (h i cs T fr h1 h2 hh)
theorem Spare.below {w w' : World} (h : Below w.heap.size w w') : Spare w w' := fun i _ _ _ _ _ hh => (h.block i (heap_lt hh)).trans hh
theorem Spare.solid {w w' : World} (h : Spare w w') : Solid w w' := fun i c fr hh => h i c _ fr (by decide) (by decide) hh
theorem Spare.row {w w' : World} (h : Spare w w') {Q Q' : Value → List M.Val → Prop} {base : Nat} {v : Value} {L : List (List M.Val)} (hr : RowOf Q base w v L) (hq : ∀ x l, Q x l → Q' x l) : RowOf Q' base w' v L := by
  obtain ⟨xs, h1, h2⟩ := hr
  refine ⟨xs, ⟨h1.1, ?_⟩, fun i a b => hq _ _ (h2 i a b)⟩
  rcases h1.2 with h3 | ⟨g, cap, cur, hv, hg, hh, r⟩
  · exact Or.inl h3
  · exact Or.inr ⟨g, cap, cur, hv, hg, h _ _ _ _ (by decide) (by decide) hh, r⟩

theorem copyCheckK (B b : Nat) (bs : List Value) (w : World) (h : Blt B b bs w) :
    Calls Tryz.prog 59 #[.pointer (some ⟨b, 0, none⟩)] w fun e w' => e = .returned (.tuple #[]) ∧ Lib.BuilderAt 94 5 B b (.pointer (some ⟨b, 0, none⟩)) bs w' ∧ Below B w w' ∧ Spare w w' := by
  refine h.elim (fun f => ?_) (fun u => ?_)
  · refine (checkFresh b w f.cell0 f.shape f.frozen0).mono fun _ _ ⟨he, hw⟩ => ⟨he, hw ▸ f.used _, hw ▸ (Below.refl B w).setCell (p := ⟨b, 0, none⟩) f.1 _, ?_⟩
    rw [hw]
    intro i c T fr h1 h2 hh
    refine (heap_setCell_other w ⟨b, 0, none⟩ i _ (fun e => ?_)).trans hh
    obtain ⟨hB, v, hv, _⟩ := f
    have e' : i = b := e
    rw [e', hv] at hh
    exact h1 (tag_eq hh).symm
  · exact (checkUsed b w u.cell0).mono fun _ _ ⟨he, hw⟩ => ⟨he, hw ▸ u, hw ▸ Below.refl B w, hw ▸ Spare.refl w⟩

set_option maxHeartbeats 1000000 in
theorem writeK (B b : Nat) (bs : List Value) (s : ByteArray) (w : World) (h : Blt B b bs w) (hlen : bs.length + s.size ≤ 1000000) (hBw : B ≤ w.heap.size) :
    Calls Tryz.prog 35 #[.pointer (some ⟨b, 0, none⟩), .string s] w fun e w' => e = .returned (.tuple #[.int .i64 s.size, .nilIface]) ∧ Blt B b (bs ++ Lib.strCells s) w' ∧ Below B w w' ∧ Spare w w' := by
  obtain ⟨i0, hi, hz0, hz1, hz2⟩ := info_parts infoByte
  go_enter Tryz.func35, Tryz.ntmps35
  go_wp2_with fail
  refine (copyCheckK B b bs _ h).mono ?_
  rintro e w1 ⟨rfl, ⟨hB, v, hbk, hown, hne⟩, hb1, hk1⟩
  have hsz : B ≤ w1.heap.size := Nat.le_trans hBw hb1.size
  have at0 : w1.cell? ⟨b, 0, none⟩ = some (.pointer (some ⟨b, 0, none⟩)) := (Lib.cell_of_heap hbk 0).trans rfl
  have at1 : w1.cell? ⟨b, 1, none⟩ = some v := (Lib.cell_of_heap hbk 1).trans rfl
  go_wp2_with (at_builtin; refine Lib.wpList_append_own_string _ rfl (.tmp 12) (.tmp 13) 92 9 rfl B 5 i0 Tryz.underlying92 Tryz.underlying9 hi hz0 hz1 hz2 v bs.length bs rfl hown s rfl (by unfold maxLen; omega) (by omega) hsz ?_)
  intro v' w2 hown' hgrow _
  have HB2 := hide (hb1.grown hgrow hsz (fun k hk => (hown.lt k hk).1))
  have hbk2 := two_cells hbk hgrow hne
  have HK2 : Hid (∀ u, Spare w (w2.setCell ⟨b, 1, none⟩ u)) := hide fun u i c T fr h1 h2 hh => by
    have h3 := hk1 i c T fr h1 h2 hh
    refine (heap_setCell_other w2 ⟨b, 1, none⟩ i _ (fun e => ?_)).trans ((hgrow.block i (heap_lt h3) (fun e => ?_)).trans h3)
    · have e' : i = b := e
      rw [e', hbk] at h3
      exact h1 (tag_eq h3).symm
    · rcases hown.2 with ⟨hv, _⟩ | ⟨g, cap, cur, hv, _, hh', _⟩
      · rw [hv] at e; cases e
      · rw [hv] at e
        have : i = g := by simpa [Value.ownBlock] using e
        subst this
        rw [hh'] at h3
        exact h2 (tag_eq h3).symm
  have to0 : w2.cell? ⟨b, 0, none⟩ = some (.pointer (some ⟨b, 0, none⟩)) := (Lib.cell_of_heap hbk2 0).trans rfl
  have to1 : w2.cell? ⟨b, 1, none⟩ = some v := (Lib.cell_of_heap hbk2 1).trans rfl
  have free1 := Lib.frozen_of_heap hbk2 1
  obtain ⟨ao, cap, rfl⟩ := slice_own hown'
  have HP := hide (Lib.BuilderAt.put (T := 94) (e := 5) (bs' := bs ++ Lib.strCells s) hB hbk2 (by rw [List.length_append, Lib.strCells_length]; exact hown') (by decide))
  clear hown hown' hgrow hbk hbk2 hb1 hne hk1
  go_wp2
  go_ret2
  exact ⟨rfl, Or.inr HP.out, HB2.out.setCell (p := ⟨b, 1, none⟩) hB _, HK2.out _⟩

end Go.Proofs.YtlefhfmckimlaaiGreatDoor

namespace Go.Proofs.YtlefhfmckimlaaiGreatDoor
open Go.RowKit

theorem number (s : ByteArray) (w : World) (hs : s.size ≤ maxLen) : Calls Tryz.prog 37 #[.string s] w fun e w' => e = .returned (.int .i64 (M.hash s)) ∧ w' = w := by
  unfold maxLen at hs
  go_enter Tryz.func37, Tryz.ntmps37
  go_wp2
  go_loop [3, 4, 7] (fun a _ c => ∃ (k : Nat) (h : Int), k ≤ s.size ∧ a = .int .i64 h ∧ c = .int .i64 k ∧ 0 ≤ h ∧ h ≤ 10006 ∧ Hid (h = M.hashL (s.data.toList.take k))) (fun _ _ c => s.size - (intOf c).toNat)
  case atStart => exact ⟨0, 7, Nat.zero_le _, rfl, rfl, by decide, by decide, hide rfl⟩
  case round =>
    obtain ⟨k, h, hk, rfl, rfl, h0, h1, hh⟩ := hrel
    by_cases hlt : k < s.size
    · have HS : Hid (M.hashC h s[k] = M.hashL (s.data.toList.take (k + 1))) := hide (by rw [take_snoc s k hlt, M.hashL_snoc, ← hh.out])
      have hb := s[k].toNat_lt
      go_wp2
      go_round
      case rel => exact ⟨k + 1, M.hashC h s[k], by omega, by unfold M.hashC; go_num, by go_num, (M.hashC_range _ _).1, (M.hashC_range _ _).2, HS⟩
      case measure => simp [intOf]; omega
    · have hfin : Hid (h = M.hash s) := hide (by have h' := hh.out; rwa [List.take_of_length_le (by simp; omega)] at h')
      go_wp2
      go_ret
      exact ⟨by rw [← hfin.out]; rfl, rfl⟩

theorem refHash (s : ByteArray) (w : World) (hs : s.size ≤ maxLen) : Calls Tryz.prog 39 #[.string s] w fun e w' => e = .returned (.int .i64 (M.hash s)) ∧ w' = w := by
  unfold maxLen at hs
  go_enter Tryz.func39, Tryz.ntmps39
  go_wp2
  go_loop [3, 4] (fun a c => ∃ (k : Nat) (h : Int), k ≤ s.size ∧ a = .int .i64 h ∧ c = .int .i64 k ∧ 0 ≤ h ∧ h ≤ 10006 ∧ Hid (h = M.hashL (s.data.toList.take k))) (fun _ c => s.size - (intOf c).toNat)
  case atStart => exact ⟨0, 7, Nat.zero_le _, rfl, rfl, by decide, by decide, hide rfl⟩
  case round =>
    obtain ⟨k, h, hk, rfl, rfl, h0, h1, hh⟩ := hrel
    by_cases hlt : k < s.size
    · have HS : Hid (M.hashC h s[k] = M.hashL (s.data.toList.take (k + 1))) := hide (by rw [take_snoc s k hlt, M.hashL_snoc, ← hh.out])
      have hb := s[k].toNat_lt
      go_wp2
      go_round
      case rel => exact ⟨k + 1, M.hashC h s[k], by omega, by unfold M.hashC; go_num, by go_num, (M.hashC_range _ _).1, (M.hashC_range _ _).2, HS⟩
      case measure => simp [intOf]; omega
    · have hfin : Hid (h = M.hash s) := hide (by have h' := hh.out; rwa [List.take_of_length_le (by simp; omega)] at h')
      go_wp2
      go_ret
      exact ⟨by rw [← hfin.out]; rfl, rfl⟩

end Go.Proofs.YtlefhfmckimlaaiGreatDoor

namespace Go.Proofs.YtlefhfmckimlaaiGreatDoor
open Go.RowKit

theorem sameIn (k1 n1 : Int) (s1 : ByteArray) (k2 n2 : Int) (s2 : ByteArray) (w : World) : (Op.equalIn 10000 107 (.agg #[.int .i64 k1, .int .i64 n1, .string s1]) (.agg #[.int .i64 k2, .int .i64 n2, .string s2])).run Tryz.prog w = .ok (M.same k1 n1 s1 k2 n2 s2) w := by
  unfold M.same
  cases e1 : (k1 == k2)
  · go_simp
  · cases e2 : (n1 == n2)
    · go_simp
    · cases e3 : (s1.toList == s2.toList)
      · go_simp
      · go_simp
theorem sameEq (k1 n1 : Int) (s1 : ByteArray) (k2 n2 : Int) (s2 : ByteArray) (w : World) : (binOp .eql 107 (.agg #[.int .i64 k1, .int .i64 n1, .string s1]) (.agg #[.int .i64 k2, .int .i64 n2, .string s2])).run Tryz.prog w = .ok (.bool (M.same k1 n1 s1 k2 n2 s2)) w := by
  rw [run_eql_struct, sameIn]; rfl
theorem sameNe (k1 n1 : Int) (s1 : ByteArray) (k2 n2 : Int) (s2 : ByteArray) (w : World) : (binOp .neq 107 (.agg #[.int .i64 k1, .int .i64 n1, .string s1]) (.agg #[.int .i64 k2, .int .i64 n2, .string s2])).run Tryz.prog w = .ok (.bool (!M.same k1 n1 s1 k2 n2 s2)) w := by
  rw [run_neq_struct, sameIn]; rfl

theorem same_self (k n : Int) (s : ByteArray) : M.same k n s k n s = true := by simp [M.same]

end Go.Proofs.YtlefhfmckimlaaiGreatDoor

namespace Go.Proofs.YtlefhfmckimlaaiGreatDoor
open Go.RowKit
attribute [local go_sem ↓] sameEq sameNe

def M.sameAll : List M.Val → List M.Val → Bool
  | [], [] => true
  | a :: l, b :: t => a.same b && M.sameAll l t
  | _, _ => false

theorem sameAll_len : ∀ {a b : List M.Val}, a.length ≠ b.length → M.sameAll a b = false
  | [], [], h => absurd rfl h
  | [], _ :: _, _ => rfl
  | _ :: _, [], _ => rfl
  | x :: a, y :: b, h => by unfold M.sameAll; rw [sameAll_len (by simpa using h)]; simp
theorem sameAll_take : ∀ {a b : List M.Val} {k : Nat} (h1 : k < a.length) (h2 : k < b.length), M.sameAll (a.take k) (b.take k) = true → M.sameAll (a.take (k + 1)) (b.take (k + 1)) = a[k].same b[k]
  | [], _, _, h, _, _ => by simp at h
  | _ :: _, [], _, _, h, _ => by simp at h
  | x :: a, y :: b, 0, _, _, _ => by simp [M.sameAll]
  | x :: a, y :: b, k + 1, h1, h2, h => by
    simp only [List.take_succ_cons, M.sameAll, Bool.and_eq_true, List.getElem_cons_succ] at h ⊢
    rw [h.1, Bool.true_and]
    exact sameAll_take (by simpa using h1) (by simpa using h2) h.2
theorem sameAll_no : ∀ {a b : List M.Val} {k : Nat} (h1 : k < a.length) (h2 : k < b.length), a[k].same b[k] = false → M.sameAll a b = false
  | [], _, _, h, _, _ => by simp at h
  | _ :: _, [], _, _, h, _ => by simp at h
  | x :: a, y :: b, 0, _, _, h => by simp only [List.getElem_cons_zero] at h; unfold M.sameAll; rw [h]; rfl
  | x :: a, y :: b, k + 1, h1, h2, h => by
    simp only [List.getElem_cons_succ] at h
    unfold M.sameAll
    rw [sameAll_no (by simpa using h1) (by simpa using h2) h]; simp
theorem sameAll_self : ∀ l : List M.Val, M.sameAll l l = true
  | [] => rfl
  | a :: l => by unfold M.sameAll; rw [sameAll_self l]; simp [M.Val.same, M.same]

theorem IsVals.shape {w : World} {v : Value} {l : List M.Val} (h : IsVals w v l) : ∃ ao cap, v = .slice ao l.length cap ∧ l.length ≤ maxLen := by
  rcases h with ⟨h1, h2⟩ | ⟨a, cap, h1, h2⟩ | ⟨b, off, cap, h1, h2, h3, h4, h5⟩
  · subst h2; exact ⟨none, 0, h1, by simp⟩
  · subst h2; exact ⟨_, cap, h1, by simp⟩
  · exact ⟨_, cap, h2, by omega⟩

theorem tsame_other (a1 a2 : Option Addr) (n1 n2 cap1 cap2 : Nat) (w : World) (h : n1 ≠ n2) : Calls Tryz.prog 40 #[.slice a1 n1 cap1, .slice a2 n2 cap2] w fun e w' => e = .returned (.bool false) ∧ Below w.heap.size w w' := by
  have hb : ((n1 : Int) != (n2 : Int)) = true := by simpa using (by omega : ¬ (n1 : Int) = (n2 : Int))
  clear h
  go_enter Tryz.func40, Tryz.ntmps40
  go_wp2
  go_ret
  exact ⟨rfl, Below.refl _ _⟩

theorem tsame_none (a1 a2 : Option Addr) (cap1 cap2 : Nat) (w : World) : Calls Tryz.prog 40 #[.slice a1 0 cap1, .slice a2 0 cap2] w fun e w' => e = .returned (.bool true) ∧ Below w.heap.size w w' := by
  go_enter Tryz.func40, Tryz.ntmps40
  go_wp2
  go_loopw [5] (fun i wr => i = .int .i64 0 ∧ wr = w) (fun _ _ => 0)
  case atStart => exact ⟨rfl, rfl⟩
  case round =>
    obtain ⟨rfl, rfl⟩ := hrel
    go_wp2
    go_ret
    exact ⟨rfl, Below.refl _ _⟩

theorem tsame_walk (b1 off1 cap1 b2 off2 cap2 : Nat) (l1 l2 : List M.Val) (w : World) (hl1 : Lie w b1 off1 l1) (hl2 : Lie w b2 off2 l2) (hm : l1.length ≤ maxLen) (h0 : 0 < l1.length) (hlen : l1.length = l2.length) :
    Calls Tryz.prog 40 #[.slice (some ⟨b1, off1, none⟩) l1.length cap1, .slice (some ⟨b2, off2, none⟩) l2.length cap2] w fun e w' => e = .returned (.bool (M.sameAll l1 l2)) ∧ Below w.heap.size w w' := by
  unfold maxLen at hm
  have HL1 := hide hl1
  have HL2 := hide hl2
  clear hl1 hl2
  obtain ⟨n, hn⟩ : ∃ n, n = l1.length := ⟨_, rfl⟩
  rw [← hn] at h0 hm ⊢
  have hn2 : l2.length = n := by omega
  rw [hn2]
  have HN := hide hn
  have HN2 := hide hn2
  clear hn hn2 hlen
  go_enter Tryz.func40, Tryz.ntmps40
  go_wp2
  go_loopw [5] (fun i wr => ∃ k : Nat, k ≤ n ∧ i = .int .i64 k ∧ Hid (M.sameAll (l1.take k) (l2.take k) = true) ∧ Below w.heap.size w wr) (fun i _ => n - (intOf i).toNat)
  case atStart => exact ⟨0, Nat.zero_le _, rfl, hide rfl, Below.refl _ _⟩
  case round =>
    obtain ⟨k, hk, rfl, hno, hbel⟩ := hrel
    by_cases hlt : k < n
    · have hkl : k < l1.length := HN.out ▸ hlt
      have hkl2 : k < l2.length := HN2.out ▸ hlt
      have ik0 : (0 : Int) ≤ (k : Int) := by omega
      have ikn : (k : Int) < (n : Int) := by omega
      obtain ⟨c1, c2, c3, c4⟩ := ((unhide HL1).stays (by omega) hbel (Nat.le_refl _)) k hkl
      obtain ⟨d1, d2, d3, d4⟩ := ((unhide HL2).stays (by omega) hbel (Nat.le_refl _)) k hkl2
      have HS := hide (sameAll_take hkl hkl2 hno.out)
      clear c4 d4
      cases hb : M.same l1[k].k l1[k].n l1[k].s l2[k].k l2[k].n l2[k].s
      · have HB : Hid (l1[k].same l2[k] = false) := hide hb
        have hb' : (!M.same l1[k].k l1[k].n l1[k].s l2[k].k l2[k].n l2[k].s) = true := by rw [hb]; rfl
        go_wp2_with fail
        go_quiet (fail)
        go_wp2
        go_ret
        exact ⟨by rw [sameAll_no hkl hkl2 HB.out]; rfl, Go.below_drewN hbel _⟩
      · have HB : Hid (l1[k].same l2[k] = true) := hide hb
        have hb' : (!M.same l1[k].k l1[k].n l1[k].s l2[k].k l2[k].n l2[k].s) = false := by rw [hb]; rfl
        go_wp2_with fail
        go_quiet (fail)
        go_wp2
        go_roundw
        case rel => exact ⟨k + 1, by omega, by go_num, hide (HS.out.trans HB.out), Go.below_drewN hbel _⟩
        case measure => simp [intOf]; omega
    · have hfin : Hid (M.sameAll l1 l2 = true) := hide (by have := hno.out; rwa [List.take_of_length_le (by have := HN.out; omega), List.take_of_length_le (by have := HN2.out; omega)] at this)
      go_wp2
      go_ret
      exact ⟨by rw [hfin.out]; rfl, hbel⟩

theorem tsame (v1 v2 : Value) (l1 l2 : List M.Val) (w : World) (h1 : IsVals w v1 l1) (h2 : IsVals w v2 l2) :
    Calls Tryz.prog 40 #[v1, v2] w fun e w' => e = .returned (.bool (M.sameAll l1 l2)) ∧ Below w.heap.size w w' := by
  by_cases hlen : l1.length = l2.length
  · by_cases h0 : l1.length = 0
    · obtain ⟨a1, c1, rfl, _⟩ := h1.shape
      obtain ⟨a2, c2, rfl, _⟩ := h2.shape
      have e1 := List.length_eq_zero_iff.1 h0
      have e2 := List.length_eq_zero_iff.1 (hlen ▸ h0)
      subst e1 e2
      exact tsame_none a1 a2 c1 c2 w
    · obtain ⟨b1, off1, cap1, rfl, k1, k2, hl1⟩ := h1.some (by omega)
      obtain ⟨b2, off2, cap2, rfl, _, _, hl2⟩ := h2.some (by omega)
      exact tsame_walk b1 off1 cap1 b2 off2 cap2 l1 l2 w hl1 hl2 (by omega) (by omega) hlen
  · obtain ⟨a1, c1, rfl, _⟩ := h1.shape
    obtain ⟨a2, c2, rfl, _⟩ := h2.shape
    rw [sameAll_len hlen]
    exact tsame_other a1 a2 _ _ c1 c2 w hlen

end Go.Proofs.YtlefhfmckimlaaiGreatDoor
