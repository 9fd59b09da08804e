/-
  What tuplesame.Tuple does, as one law of its call.
-/
import Derived.Test.YtlefhfmckimlaagDoorSame
import Derived.Test.YtlefhfmckimlaagDoorTupWalks
import Derived.BigQuiet
import Derived.Deep.QuietTactic
import Derived.WalkSmall
namespace Go.Proofs.YtlefhfmckimlaagDoor
open Go.RowKit
attribute [local go_sem ↓] sameEq sameNe

def M.sameAll : List M.Val → List M.Val → Bool
  | [], [] => true
  | a :: l, b :: t => a.same b && M.sameAll l t
  | _, _ => false

theorem sameAll_len : ∀ {a b : List M.Val}, a.length ≠ b.length → M.sameAll a b = false
  | [], [], h => absurd rfl h
  | [], _ :: _, _ => rfl
  | _ :: _, [], _ => rfl
  | x :: a, y :: b, h => by unfold M.sameAll; rw [sameAll_len (by simpa using h)]; simp
theorem sameAll_take : ∀ {a b : List M.Val} {k : Nat} (h1 : k < a.length) (h2 : k < b.length), M.sameAll (a.take k) (b.take k) = true → M.sameAll (a.take (k + 1)) (b.take (k + 1)) = a[k].same b[k]
  | [], _, _, h, _, _ => by simp at h
  | _ :: _, [], _, _, h, _ => by simp at h
  | x :: a, y :: b, 0, _, _, _ => by simp [M.sameAll]
  | x :: a, y :: b, k + 1, h1, h2, h => by
    simp only [List.take_succ_cons, M.sameAll, Bool.and_eq_true, List.getElem_cons_succ] at h ⊢
    rw [h.1, Bool.true_and]
    exact sameAll_take (by simpa using h1) (by simpa using h2) h.2
theorem sameAll_no : ∀ {a b : List M.Val} {k : Nat} (h1 : k < a.length) (h2 : k < b.length), a[k].same b[k] = false → M.sameAll a b = false
  | [], _, _, h, _, _ => by simp at h
  | _ :: _, [], _, _, h, _ => by simp at h
  | x :: a, y :: b, 0, _, _, h => by simp only [List.getElem_cons_zero] at h; unfold M.sameAll; rw [h]; rfl
  | x :: a, y :: b, k + 1, h1, h2, h => by
    simp only [List.getElem_cons_succ] at h
    unfold M.sameAll
    rw [sameAll_no (by simpa using h1) (by simpa using h2) h]; simp
theorem sameAll_self : ∀ l : List M.Val, M.sameAll l l = true
  | [] => rfl
  | a :: l => by unfold M.sameAll; rw [sameAll_self l]; simp [M.Val.same, M.same]

theorem IsVals.shape {w : World} {v : Value} {l : List M.Val} (h : IsVals w v l) : ∃ ao cap, v = .slice ao l.length cap ∧ l.length ≤ maxLen := by
  rcases h with ⟨h1, h2⟩ | ⟨a, cap, h1, h2⟩ | ⟨b, off, cap, h1, h2, h3, h4, h5⟩
  · subst h2; exact ⟨none, 0, h1, by simp⟩
  · subst h2; exact ⟨_, cap, h1, by simp⟩
  · exact ⟨_, cap, h2, by omega⟩

theorem tsame_other (a1 a2 : Option Addr) (n1 n2 cap1 cap2 : Nat) (w : World) (h : n1 ≠ n2) : Calls Tryd.prog 10 #[.slice a1 n1 cap1, .slice a2 n2 cap2] w fun e w' => e = .returned (.bool false) ∧ Below w.heap.size w w' := by
  have hb : ((n1 : Int) != (n2 : Int)) = true := by simpa using (by omega : ¬ (n1 : Int) = (n2 : Int))
  clear h
  go_enter Tryd.func10, Tryd.ntmps10
  go_wp2
  go_ret
  exact ⟨rfl, Below.refl _ _⟩

theorem tsame_none (a1 a2 : Option Addr) (cap1 cap2 : Nat) (w : World) : Calls Tryd.prog 10 #[.slice a1 0 cap1, .slice a2 0 cap2] w fun e w' => e = .returned (.bool true) ∧ Below w.heap.size w w' := by
  go_enter Tryd.func10, Tryd.ntmps10
  go_wp2
  go_loopw [5] (fun i wr => i = .int .i64 0 ∧ wr = w) (fun _ _ => 0)
  case atStart => exact ⟨rfl, rfl⟩
  case round =>
    obtain ⟨rfl, rfl⟩ := hrel
    go_wp2
    go_ret
    exact ⟨rfl, Below.refl _ _⟩

theorem tsame_walk (b1 off1 cap1 b2 off2 cap2 : Nat) (l1 l2 : List M.Val) (w : World) (hl1 : Lie w b1 off1 l1) (hl2 : Lie w b2 off2 l2) (hm : l1.length ≤ maxLen) (h0 : 0 < l1.length) (hlen : l1.length = l2.length) :
    Calls Tryd.prog 10 #[.slice (some ⟨b1, off1, none⟩) l1.length cap1, .slice (some ⟨b2, off2, none⟩) l2.length cap2] w fun e w' => e = .returned (.bool (M.sameAll l1 l2)) ∧ Below w.heap.size w w' := by
  unfold maxLen at hm
  have HL1 := hide hl1
  have HL2 := hide hl2
  clear hl1 hl2
  obtain ⟨n, hn⟩ : ∃ n, n = l1.length := ⟨_, rfl⟩
  rw [← hn] at h0 hm ⊢
  have hn2 : l2.length = n := by omega
  rw [hn2]
  have HN := hide hn
  have HN2 := hide hn2
  clear hn hn2 hlen
  go_enter Tryd.func10, Tryd.ntmps10
  go_wp2
  go_loopw [5] (fun i wr => ∃ k : Nat, k ≤ n ∧ i = .int .i64 k ∧ Hid (M.sameAll (l1.take k) (l2.take k) = true) ∧ Below w.heap.size w wr) (fun i _ => n - (intOf i).toNat)
  case atStart => exact ⟨0, Nat.zero_le _, rfl, hide rfl, Below.refl _ _⟩
  case round =>
    obtain ⟨k, hk, rfl, hno, hbel⟩ := hrel
    by_cases hlt : k < n
    · have hkl : k < l1.length := HN.out ▸ hlt
      have hkl2 : k < l2.length := HN2.out ▸ hlt
      have ik0 : (0 : Int) ≤ (k : Int) := by omega
      have ikn : (k : Int) < (n : Int) := by omega
      obtain ⟨c1, c2, c3, c4⟩ := ((unhide HL1).stays (by omega) hbel (Nat.le_refl _)) k hkl
      obtain ⟨d1, d2, d3, d4⟩ := ((unhide HL2).stays (by omega) hbel (Nat.le_refl _)) k hkl2
      have HS := hide (sameAll_take hkl hkl2 hno.out)
      clear c4 d4
      cases hb : M.same l1[k].k l1[k].n l1[k].s l2[k].k l2[k].n l2[k].s
      · have HB : Hid (l1[k].same l2[k] = false) := hide hb
        have hb' : (!M.same l1[k].k l1[k].n l1[k].s l2[k].k l2[k].n l2[k].s) = true := by rw [hb]; rfl
        go_wp2_with fail
        go_quiet (fail)
        go_wp2
        go_ret
        exact ⟨by rw [sameAll_no hkl hkl2 HB.out]; rfl, Go.below_drewN hbel _⟩
      · have HB : Hid (l1[k].same l2[k] = true) := hide hb
        have hb' : (!M.same l1[k].k l1[k].n l1[k].s l2[k].k l2[k].n l2[k].s) = false := by rw [hb]; rfl
        go_wp2_with fail
        go_quiet (fail)
        go_wp2
        go_roundw
        case rel => exact ⟨k + 1, by omega, by go_num, hide (HS.out.trans HB.out), Go.below_drewN hbel _⟩
        case measure => simp [intOf]; omega
    · have hfin : Hid (M.sameAll l1 l2 = true) := hide (by have := hno.out; rwa [List.take_of_length_le (by have := HN.out; omega), List.take_of_length_le (by have := HN2.out; omega)] at this)
      go_wp2
      go_ret
      exact ⟨by rw [hfin.out]; rfl, hbel⟩

theorem tsame (v1 v2 : Value) (l1 l2 : List M.Val) (w : World) (h1 : IsVals w v1 l1) (h2 : IsVals w v2 l2) :
    Calls Tryd.prog 10 #[v1, v2] w fun e w' => e = .returned (.bool (M.sameAll l1 l2)) ∧ Below w.heap.size w w' := by
  by_cases hlen : l1.length = l2.length
  · by_cases h0 : l1.length = 0
    · obtain ⟨a1, c1, rfl, _⟩ := h1.shape
      obtain ⟨a2, c2, rfl, _⟩ := h2.shape
      have e1 := List.length_eq_zero_iff.1 h0
      have e2 := List.length_eq_zero_iff.1 (hlen ▸ h0)
      subst e1 e2
      exact tsame_none a1 a2 c1 c2 w
    · obtain ⟨b1, off1, cap1, rfl, k1, k2, hl1⟩ := h1.some (by omega)
      obtain ⟨b2, off2, cap2, rfl, _, _, hl2⟩ := h2.some (by omega)
      exact tsame_walk b1 off1 cap1 b2 off2 cap2 l1 l2 w hl1 hl2 (by omega) (by omega) hlen
  · obtain ⟨a1, c1, rfl, _⟩ := h1.shape
    obtain ⟨a2, c2, rfl, _⟩ := h2.shape
    rw [sameAll_len hlen]
    exact tsame_other a1 a2 _ _ c1 c2 w hlen

end Go.Proofs.YtlefhfmckimlaagDoor
