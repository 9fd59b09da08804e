/-
  Tuples and lists of tuples that a law writes down itself; that two lists are the same. 
-/
import Derived.Test.YtlefhfmckimlaacDoorSpAll
import Derived.Test.YtlefhfmckimlaacDoorTupSame
import Derived.Deep.RegionHeld3
import Derived.Deep.DrawnRows
namespace Go.Proofs.YtlefhfmckimlaacDoor
open Go.RowKit
attribute [local go_sem ↓] Go.wp_at_zero Go.wp_at_succ

theorem lit_vals (w : World) (v : M.Val) (hs : v.s.size ≤ maxLen) : IsVals (w.alloc (.cells #[.int .i64 v.k, .int .i64 v.n, .string v.s] 50)) (.slice (some ⟨w.heap.size, 0, none⟩) 1 1) [v] := by
  refine Or.inr (Or.inr ⟨w.heap.size, 0, 1, by simp, rfl, by simp, by unfold maxLen; decide, lie_of_cells (fun x hx => by simp at hx; subst hx; exact hs) fun j u hu => ?_⟩)
  exact World.news_of_block (heap_alloc_new w _) j u hu

theorem tups_walk (b1 off1 cap1 b2 off2 cap2 : Nat) (L : List (List M.Val)) (w : World) (hl1 : LieT w b1 off1 L) (hl2 : LieT w b2 off2 L) (h0 : 0 < L.length) (hm : L.length ≤ maxLen) :
    Calls Tryd.prog 18 #[.slice (some ⟨b1, off1, none⟩) L.length cap1, .slice (some ⟨b2, off2, none⟩) L.length cap2] w fun e w' => e = .returned (.bool true) ∧ Below w.heap.size w w' := by
  unfold maxLen at hm
  have HK : Hid (∀ wr, Below w.heap.size w wr → ∀ k (hk : k < L.length), ∃ x y, wr.cell? ⟨b1, off1 + k, none⟩ = some x ∧ wr.cell? ⟨b2, off2 + k, none⟩ = some y ∧ ∀ w1, Below wr.heap.size wr w1 → Calls Tryd.prog 14 #[x, y] w1 fun e w' => e = .returned (.bool true) ∧ Below w1.heap.size w1 w') := hide fun wr hb k hk => by
    obtain ⟨x, hx, hxv⟩ := (hl1.stays h0 hb (Nat.le_refl _)) k hk
    obtain ⟨y, hy, hyv⟩ := (hl2.stays h0 hb (Nat.le_refl _)) k hk
    refine ⟨x, y, hx, hy, fun w1 hb1 => ?_⟩
    have := tsame x y L[k] L[k] w1 (hxv.stays hb1 (Nat.le_refl _)) (hyv.stays hb1 (Nat.le_refl _))
    rwa [sameAll_self] at this
  clear hl1 hl2
  obtain ⟨n, hn⟩ : ∃ n, n = L.length := ⟨_, rfl⟩
  rw [← hn] at h0 hm ⊢
  have HN := hide hn
  clear hn
  go_enter Tryd.func18, Tryd.ntmps18
  go_wp2
  go_loopw [5] (fun i wr => ∃ k : Nat, k ≤ n ∧ i = .int .i64 k ∧ Hid (Below w.heap.size w wr)) (fun i _ => n - (intOf i).toNat)
  case atStart => exact ⟨0, Nat.zero_le _, rfl, hide (Below.refl _ _)⟩
  case round =>
    obtain ⟨k, hk, rfl, hbel⟩ := hrel
    by_cases hlt : k < n
    · have hkl : k < L.length := HN.out ▸ hlt
      have ik0 : (0 : Int) ≤ (k : Int) := by omega
      have ikn : (k : Int) < (n : Int) := by omega
      obtain ⟨x, y, hx, hy, hC⟩ := (unhide HK) wr hbel.out k hkl
      have HC := hide (hC wr.drew (Below.refl _ _).drew)
      have hb1 : b1 < wr.heap.size := World.block_lt_of_cell? wr _ hx
      have hb2 : b2 < wr.heap.size := World.block_lt_of_cell? wr _ hy
      clear hC HK
      go_wp2_with fail
      go_region_held3 (fun w' => w'.cell? ⟨b1, off1 + k, none⟩ = some x ∧ w'.cell? ⟨b2, off2 + k, none⟩ = some y) (go_keep)
        (first | (go_at_call 14; refine (unhide HC).mono ?_; rintro e w3 ⟨rfl, hb3⟩; have k1 : w3.cell? ⟨b1, off1 + k, none⟩ = some x := (hb3.cell (p := ⟨b1, off1 + k, none⟩) hb1).trans hx; have k2 : w3.cell? ⟨b2, off2 + k, none⟩ = some y := (hb3.cell (p := ⟨b2, off2 + k, none⟩) hb2).trans hy))
      go_wp2_with fail
      go_roundw
      case rel => exact ⟨k + 1, by omega, by go_num, hide (hbel.out.drew.trans (hb3.mono hbel.out.size))⟩
      case measure => simp [intOf]; omega
    · go_wp2
      go_ret
      exact ⟨rfl, hbel.out⟩

theorem tups_none (a1 a2 : Option Addr) (cap1 cap2 : Nat) (w : World) : Calls Tryd.prog 18 #[.slice a1 0 cap1, .slice a2 0 cap2] w fun e w' => e = .returned (.bool true) ∧ Below w.heap.size w w' := by
  go_enter Tryd.func18, Tryd.ntmps18
  go_wp2
  go_loopw [5] (fun i wr => i = .int .i64 0 ∧ wr = w) (fun _ _ => 0)
  case atStart => exact ⟨rfl, rfl⟩
  case round =>
    obtain ⟨rfl, rfl⟩ := hrel
    go_wp2
    go_ret
    exact ⟨rfl, Below.refl _ _⟩

theorem sameTups (v1 v2 : Value) (L : List (List M.Val)) (w : World) (h1 : IsTups w v1 L) (h2 : IsTups w v2 L) :
    Calls Tryd.prog 18 #[v1, v2] w fun e w' => e = .returned (.bool true) ∧ Below w.heap.size w w' := by
  obtain ⟨a1, c1, e1, hm⟩ := h1.shape
  obtain ⟨a2, c2, e2, _⟩ := h2.shape
  rcases Nat.eq_zero_or_pos L.length with h0 | h0
  · have hl := List.length_eq_zero_iff.1 h0
    subst hl e1 e2
    exact tups_none a1 a2 c1 c2 w
  · obtain ⟨b1, off1, cap1, rfl, _, _, hl1⟩ := h1.some h0
    obtain ⟨b2, off2, cap2, rfl, _, _, hl2⟩ := h2.some h0
    exact tups_walk b1 off1 cap1 b2 off2 cap2 L w hl1 hl2 h0 hm

end Go.Proofs.YtlefhfmckimlaacDoor
