/-
  The walk of TopLock.
-/
import Derived.Test.YtlefhfmckimlaacTopLock
import Derived.Deep.RegionHeld3
import Derived.Deep.DrawnRows
namespace Go.Proofs.Ytlefhfmckimlaac
open Go.RowKit
attribute [local go_sem ↓] Go.wp_at_zero Go.wp_at_succ

theorem One.drew {w wr : World} {S : Nat} {v : Value} {L : List (List M.Val)} (h : One w wr S v L) : One w wr.drew S v L := h.quiet (Below.refl _ _).drew

set_option maxHeartbeats 1000000 in
set_option maxRecDepth 1000000 in
theorem lockWalk (n cap : Nat) (ad : Option Addr) (w : World) (hd : 0 < n → ∃ b off, ad = some ⟨b, off, none⟩ ∧ ∀ i, i < n → ∃ z, w.cell? ⟨b, off + i, none⟩ = some (.int .i64 z)) (hm : n ≤ maxLen) :
    Calls Try.prog 3 #[.slice ad n cap] w fun e w' => e = .returned (.bool true) ∧ Below w.heap.size w w' := by
  unfold maxLen at hm
  have HD := hide hd
  clear hd
  go_enter Try.func3, Try.ntmps3
  go_wp2_with fail
  refine (topOne _).mono ?_
  rintro e w0 ⟨rfl, hb0⟩
  have HB0 := hide hb0
  clear hb0
  go_wp2_with fail
  refine (new _).mono ?_
  rintro e w1 ⟨rfl, hw1⟩
  have HO1 : Hid (One w w1 w0.heap.size (.slice none 0 0) []) := hide (by rw [hw1]; exact One.start HB0.out)
  generalize w0.heap.size = S at *
  clear hw1 HB0
  go_wp2_with fail
  have HO2 := hide HO1.out.starFirm
  generalize w1.heap.size = B at *
  go_loopw [7, 6] (fun i c wr => ∃ k : Nat, ∃ v : Value, k ≤ 40 ∧ i = .int .i64 k ∧ Hid (Firm w.heap.size wr (.slice (some ⟨B, 0, none⟩) 2 2) M.star) ∧ ((c = .int .i64 (-1) ∧ Hid (One w wr S v [])) ∨ (∃ h : Nat, ∃ y : Int, c = .int .i64 h ∧ h < n ∧ Hid (∀ b off, ad = some ⟨b, off, none⟩ → w.cell? ⟨b, off + h, none⟩ = some (.int .i64 y)) ∧ Hid (M.tupF (M.lockT y) = 0) ∧ Hid (One w wr S v [M.lockT y])))) (fun i _ _ => 40 - (intOf i).toNat)
  case atStart => exact ⟨0, _, Nat.zero_le _, rfl, hide HO2.out.2, Or.inl ⟨rfl, hide HO2.out.1⟩⟩
  case round =>
    clear HO2 HO1
    obtain ⟨k, v, hk, rfl, hF, hC⟩ := hrel
    by_cases hlt : k < n ∧ k < 40
    · obtain ⟨hkn, hk4⟩ := hlt
      have ik1 : (k : Int) < (n : Int) := by omega
      have ik2 : (k : Int) < 40 := by omega
      obtain ⟨b, off, rfl, hdz⟩ := HD.out (by omega)
      obtain ⟨z, hz⟩ := hdz k hkn
      have hbw : b < w.heap.size := World.block_lt_of_cell? w _ hz
      have HXR : Hid (∀ wr : World, Below w.heap.size w wr → wr.cell? ⟨b, off + k, none⟩ = some (.int .i64 z)) := hide fun wr hb => (hb.cell (p := ⟨b, off + k, none⟩) hbw).trans hz
      have HZ := hide hz
      clear hdz HD hz
      by_cases ht : M.tupF (M.lockT z) = 0
      · have HT := hide ht
        clear ht
        rcases hC with ⟨rfl, hO⟩ | ⟨h, y, rfl, hhn, hY, hTY, hO⟩
        · have cz := HXR.out wr hO.out.bel
          go_wp2_with fail
          refine (hO.out.lockYes hF.out z HT.out).mono ?_
          rintro e w5 ⟨rfl, v5, h5, hf5⟩
          have HO5 := hide h5
          have HF5 := hide hf5
          clear h5 hf5
          go_wp2_with fail
          refine (HO5.out.lockSome HF5.out).mono ?_
          rintro e w6 ⟨rfl, h6, hf6⟩
          have HO6 := hide h6
          have HF6 := hide hf6
          clear h6 hf6
          have ik0 : (0 : Int) ≤ (k : Int) := by omega
          go_wp2_with fail
          go_roundw
          case rel => exact ⟨k + 1, v5, by omega, by go_num, HF6, Or.inr ⟨k, z, rfl, hkn, hide (fun b' off' e => by simp at e; obtain ⟨rfl, rfl⟩ := e; exact HZ.out), HT, HO6⟩⟩
          case measure => simp [intOf]; omega
        · have cz := HXR.out wr hO.out.bel
          have hy := hY.out b off rfl
          have HYR : Hid (∀ wr : World, Below w.heap.size w wr → wr.cell? ⟨b, off + h, none⟩ = some (.int .i64 y)) := hide fun wr hb => (hb.cell (p := ⟨b, off + h, none⟩) hbw).trans hy
          have ih0 : ¬ (h : Int) < 0 := by omega
          have ih1 : (0 : Int) ≤ (h : Int) := by omega
          have ih2 : (h : Int) < (n : Int) := by omega
          clear hy
          by_cases hzy : z = y
          · subst hzy
            go_wp2_with fail
            refine (hO.out.lockNo hF.out z HT.out).mono ?_
            rintro e w5 ⟨rfl, v5, h5, hf5, ht5⟩
            have HO5 := hide h5
            have HF5 := hide hf5
            have HT5 := hide ht5
            have cz5 := HXR.out w5 h5.bel
            have cy5 := HYR.out w5 h5.bel
            have HO5d := hide HO5.out.drew
            have HF5d := hide (HF5.out.quiet (Below.refl _ _).drew HO5.out.sp.room)
            have HT5d := hide (HT5.out.quiet (Below.refl _ _).drew HO5.out.sp.room)
            clear h5 hf5 ht5 cz
            go_wp2_with fail
            go_region_held3 (fun w' => w'.cell? ⟨b, off + k, none⟩ = some (.int .i64 z) ∧ w'.cell? ⟨b, off + h, none⟩ = some (.int .i64 z)) (first | go_keep | assumption) (fail)
            go_wp2_with fail
            refine (HO5d.out.lockTake HF5d.out HT5d.out.vals HT.out).mono ?_
            rintro e w6 ⟨r6, v6, rfl, h6, hf6⟩
            have HO6 := hide h6
            have HF6 := hide hf6
            clear h6 hf6 cz5 cy5
            go_wp2_with fail
            refine (HO6.out.lockNone HF6.out).mono ?_
            rintro e w7 ⟨rfl, h7, hf7⟩
            have HO7 := hide h7
            have HF7 := hide hf7
            clear h7 hf7
            go_wp2_with fail
            go_roundw
            case rel => exact ⟨k + 1, v6, by omega, by go_num, HF7, Or.inl ⟨rfl, HO7⟩⟩
            case measure => simp [intOf]; omega
          · have hzb : (z == y) = false := by simpa using hzy
            go_wp2_with fail
            refine (hO.out.lockNo hF.out z HT.out).mono ?_
            rintro e w5 ⟨rfl, v5, h5, hf5, ht5⟩
            have HO5 := hide h5
            have HF5 := hide hf5
            have cz5 := HXR.out w5 h5.bel
            have cy5 := HYR.out w5 h5.bel
            have HO5d := hide HO5.out.drew
            have HF5d := hide (HF5.out.quiet (Below.refl _ _).drew HO5.out.sp.room)
            clear h5 hf5 ht5 cz
            go_wp2_with fail
            go_region_held3 (fun w' => w'.cell? ⟨b, off + k, none⟩ = some (.int .i64 z) ∧ w'.cell? ⟨b, off + h, none⟩ = some (.int .i64 y)) (first | go_keep | assumption) (fail)
            go_wp2_with fail
            refine (HO5d.out.lockSome HF5d.out).mono ?_
            rintro e w6 ⟨rfl, h6, hf6⟩
            have HO6 := hide h6
            have HF6 := hide hf6
            clear h6 hf6 cz5 cy5
            go_wp2_with fail
            go_roundw
            case rel => exact ⟨k + 1, v5, by omega, by go_num, HF6, Or.inr ⟨h, y, rfl, hhn, hY, hTY, HO6⟩⟩
            case measure => simp [intOf]; omega
      · have HT := hide ht
        clear ht
        rcases hC with ⟨rfl, hO⟩ | ⟨h, y, rfl, hhn, hY, hTY, hO⟩
        · have cz := HXR.out wr hO.out.bel
          go_wp2_with fail
          refine (hO.out.lockBad hF.out z HT.out).mono ?_
          rintro e w5 ⟨rfl, v5, h5, hf5, ht5⟩
          have HO5 := hide h5
          have HF5 := hide hf5
          have HT5 := hide ht5
          clear h5 hf5 ht5
          go_wp2_with fail
          refine (HO5.out.lockCheck HF5.out HT5.out.vals HT.out).mono ?_
          rintro e w6 ⟨rfl, h6, hf6⟩
          have HO6 := hide h6
          have HF6 := hide hf6
          clear h6 hf6
          go_wp2_with fail
          go_roundw
          case rel => exact ⟨k + 1, v5, by omega, by go_num, HF6, Or.inl ⟨rfl, HO6⟩⟩
          case measure => simp [intOf]; omega
        · have cz := HXR.out wr hO.out.bel
          go_wp2_with fail
          refine (hO.out.lockBad hF.out z HT.out).mono ?_
          rintro e w5 ⟨rfl, v5, h5, hf5, ht5⟩
          have HO5 := hide h5
          have HF5 := hide hf5
          have HT5 := hide ht5
          clear h5 hf5 ht5
          go_wp2_with fail
          refine (HO5.out.lockCheck HF5.out HT5.out.vals HT.out).mono ?_
          rintro e w6 ⟨rfl, h6, hf6⟩
          have HO6 := hide h6
          have HF6 := hide hf6
          clear h6 hf6
          go_wp2_with fail
          go_roundw
          case rel => exact ⟨k + 1, v5, by omega, by go_num, HF6, Or.inr ⟨h, y, rfl, hhn, hY, hTY, HO6⟩⟩
          case measure => simp [intOf]; omega
    · have HB : Hid (Below w.heap.size w wr) := by
        rcases hC with ⟨_, hO⟩ | ⟨_, _, _, _, _, _, hO⟩
        · exact hide hO.out.bel
        · exact hide hO.out.bel
      rcases (by omega : ¬ (k : Int) < (n : Int) ∨ ((k : Int) < (n : Int) ∧ ¬ (k : Int) < 40)) with e1 | ⟨e1, e2⟩
      all_goals
        clear hC HD
        go_wp2
        go_ret
        exact ⟨rfl, HB.out⟩

end Go.Proofs.Ytlefhfmckimlaac
