/-
  The walk of SpaceFull.
-/
import Derived.Test.YtlefhfmckimlaabDoorSpLit
import Derived.Test.YtlefhfmckimlaabDoorErrTold
namespace Go.Proofs.YtlefhfmckimlaabDoor
open Go.RowKit

/-- the tuple of the law, and as many of them as may be -/
def M.seven : M.Val := ⟨0, 7, ⟨#[]⟩⟩
def M.rep (k : Nat) : List (List M.Val) := List.replicate (min k 20) [M.seven]
theorem seven_ok : M.tupF [M.seven] = 0 := by decide
theorem seven_like : M.likeF [M.seven] = 0 := by decide
theorem seven_fit : M.fitAll [M.seven] [M.seven] = true := by simp [M.fitAll, M.fit1, M.Val.same, M.same]
theorem rep_len (k : Nat) : (M.rep k).length = min k 20 := by unfold M.rep; rw [List.length_replicate]
theorem rep_fine (k : Nat) : M.Fine (M.rep k) := ⟨fun t ht => by rw [List.eq_of_mem_replicate ht]; exact seven_ok, by rw [rep_len]; omega⟩
theorem rep_put (k : Nat) : M.putL (M.rep k) [M.seven] = M.rep (k + 1) := by
  by_cases h : k < 20
  · rw [putL_yes (putF_ok seven_ok (by rw [rep_len]; omega))]
    unfold M.rep
    rw [show min (k + 1) 20 = min k 20 + 1 by omega, List.replicate_succ']
  · rw [putL_no (by rw [putF_full seven_ok (by rw [rep_len]; omega)]; decide)]
    unfold M.rep
    rw [show min (k + 1) 20 = min k 20 by omega]
theorem rep_many (k : Nat) : M.cnt [M.seven] (M.rep k) = min k 20 := by
  unfold M.cnt
  rw [if_pos seven_like]
  unfold M.many M.rep
  rw [List.countP_replicate, if_pos seven_fit]

theorem fullPut (base S k : Nat) (v : Value) (w : World) (h : Space base w S v (M.rep k)) (hk : k < 20) :
    Calls Tryd.prog 7 #[.pointer (some ⟨S, 0, none⟩), .slice (some ⟨w.heap.size, 0, none⟩) 1 1] (w.alloc (.cells #[.int .i64 0, .int .i64 7, .string ⟨#[]⟩] 30)) fun e w' => e = .returned .nilIface ∧ (∃ v', Space base w' S v' (M.rep (k + 1))) ∧ Below base w w' := by
  have hb := (Below.refl w.heap.size w).alloc (Nat.le_refl _) (.cells #[.int .i64 0, .int .i64 7, .string ⟨#[]⟩] 30)
  have h' := Space.stays h hb
  have := put base S v _ [M.seven] (M.rep k) _ h' (lit_vals w M.seven (by decide))
  rw [putF_ok seven_ok (by rw [rep_len]; omega), rep_put] at this
  refine this.mono ?_
  rintro e w' ⟨rfl, v', h1, h2, _⟩
  exact ⟨rfl, ⟨v', h1⟩, (hb.mono (Nat.le_trans h.lo (Nat.le_of_lt h.cell.2.2))).trans (Sp.below h' h2 (Nat.le_refl _))⟩
theorem fullNo (base S k : Nat) (v : Value) (w : World) (h : Space base w S v (M.rep k)) (hk : ¬ k < 20) :
    Calls Tryd.prog 7 #[.pointer (some ⟨S, 0, none⟩), .slice (some ⟨w.heap.size, 0, none⟩) 1 1] (w.alloc (.cells #[.int .i64 0, .int .i64 7, .string ⟨#[]⟩] 30)) fun e w' => e = .returned (.iface 53 (.int .i64 4)) ∧ (∃ v', Space base w' S v' (M.rep (k + 1))) ∧ Below base w w' := by
  have hb := (Below.refl w.heap.size w).alloc (Nat.le_refl _) (.cells #[.int .i64 0, .int .i64 7, .string ⟨#[]⟩] 30)
  have h' := Space.stays h hb
  have := put base S v _ [M.seven] (M.rep k) _ h' (lit_vals w M.seven (by decide))
  rw [putF_full seven_ok (by rw [rep_len]; omega), rep_put] at this
  refine this.mono ?_
  rintro e w' ⟨rfl, v', h1, h2, _⟩
  exact ⟨rfl, ⟨v', h1⟩, (hb.mono (Nat.le_trans h.lo (Nat.le_of_lt h.cell.2.2))).trans (Sp.below h' h2 (Nat.le_refl _))⟩
theorem four (w : World) (hg : Hand w) : Calls Tryd.prog 15 #[.iface 53 (.int .i64 4), .int .i64 4] w fun e w' => e = .returned (.bool true) ∧ Below w.heap.size w w' := sameErr 4 4 w hg
theorem new_space (w : World) : Space w.heap.size (w.alloc (.cells #[.slice none 0 0] 52)) w.heap.size (.slice none 0 0) [] := ⟨Nat.le_refl _, heap_alloc_new w _, RowOf.nil _ _ _⟩
theorem fullCount (base S k : Nat) (v : Value) (w : World) (h : Space base w S v (M.rep k)) :
    Calls Tryd.prog 10 #[.pointer (some ⟨S, 0, none⟩), .slice (some ⟨w.heap.size, 0, none⟩) 1 1] (w.alloc (.cells #[.int .i64 0, .int .i64 7, .string ⟨#[]⟩] 30)) fun e w' => e = .returned (.tuple #[.int .i64 (min k 20 : Nat), .nilIface]) ∧ Below base w w' := by
  have hb := (Below.refl w.heap.size w).alloc (Nat.le_refl _) (.cells #[.int .i64 0, .int .i64 7, .string ⟨#[]⟩] 30)
  have h' := Space.stays h hb
  have := count base S v _ [M.seven] (M.rep k) _ h' (rep_fine k) (lit_vals w M.seven (by decide))
  rw [rep_many, seven_like] at this
  refine this.mono ?_
  rintro e w' ⟨rfl, h2⟩
  exact ⟨rfl, (hb.trans (h2.mono hb.size)).mono (Nat.le_trans h.lo (Nat.le_of_lt h.cell.2.2))⟩

theorem full_out (n : Int) (w : World) (h : n < 0 ∨ 30 < n) : Calls Tryd.prog 4 #[.int .i64 n] w fun e w' => e = .returned (.bool true) ∧ Below w.heap.size w w' := by
  have HA : Hid (Calls Tryd.prog 9 #[.pointer (some ⟨w.heap.size, 0, none⟩)] (w.alloc (.cells #[.slice none 0 0] 52)) fun e w' => ∃ ao cap, e = .returned (.slice ao 0 cap) ∧ Below w.heap.size w w') := hide ((all w.heap.size w.heap.size _ [] _ (new_space w) Fine.nil).mono (by
    rintro e w' ⟨ao, cap, rfl, _, hb⟩
    exact ⟨ao, cap, rfl, ((Below.refl _ _).alloc (Nat.le_refl _) _).trans (hb.mono (by simp))⟩))
  rcases h with h | h
  all_goals
    have h' : ¬ (0 ≤ n ∧ n ≤ 30) := by omega
    go_enter Tryd.func4, Tryd.ntmps4
    go_wp2_with fail
    refine (new _).mono ?_
    rintro e w1 ⟨rfl, rfl⟩
    first | (have hn0 : ¬ n < 0 := by omega) | skip
    go_wp2_with fail
    refine (unhide HA).mono ?_
    rintro e w2 ⟨ao, cap, rfl, hb2⟩
    go_wp2_with fail
    go_ret
    exact ⟨rfl, hb2⟩

set_option maxRecDepth 100000 in
theorem full_in (n : Nat) (w : World) (hn : n ≤ 30) (hg : Hand w) : Calls Tryd.prog 4 #[.int .i64 n] w fun e w' => e = .returned (.bool true) ∧ Below w.heap.size w w' := by
  have h1 : ¬ (n : Int) < 0 := by omega
  have h2 : ¬ (30 : Int) < (n : Int) := by omega
  have HG := hide hg
  clear hg
  go_enter Tryd.func4, Tryd.ntmps4
  go_wp2_with fail
  refine (new _).mono ?_
  rintro e w1 ⟨rfl, rfl⟩
  go_wp2_with fail
  go_loopw [4] (fun i wr => ∃ k : Nat, ∃ v : Value, k ≤ n ∧ i = .int .i64 k ∧ Hid (Space w.heap.size wr w.heap.size v (M.rep k)) ∧ Hid (Below w.heap.size w wr)) (fun i _ => n - (intOf i).toNat)
  case atStart => exact ⟨0, _, Nat.zero_le _, rfl, hide (new_space w), hide ((Below.refl _ _).alloc (Nat.le_refl _) _)⟩
  case round =>
    obtain ⟨k, v, hk, rfl, hS, hbel⟩ := hrel
    by_cases hlt : k < n
    · by_cases h20 : k < 20
      · have h20' : (k : Int) < 20 := by omega
        go_wp2_with fail
        refine (fullPut _ _ k v _ hS.out h20).mono ?_
        rintro e w2 ⟨rfl, ⟨v', hS2⟩, hb2⟩
        have HS2 := hide hS2
        have HB2 := hide hb2
        clear hS2 hb2
        go_wp2_with fail
        go_roundw
        case rel => exact ⟨k + 1, v', by omega, by go_num, HS2, hide (hbel.out.trans HB2.out)⟩
        case measure => simp [intOf]; omega
      · have h20' : ¬ (k : Int) < 20 := by omega
        go_wp2_with fail
        refine (fullNo _ _ k v _ hS.out h20).mono ?_
        rintro e w2 ⟨rfl, ⟨v', hS2⟩, hb2⟩
        have HS2 := hide hS2
        have HB2 := hide (hbel.out.trans hb2)
        clear hS2 hb2
        go_wp2_with fail
        refine (four _ (HG.out.stays HB2.out (Nat.le_refl _))).mono ?_
        rintro e w3 ⟨rfl, hb3⟩
        go_wp2_with fail
        go_roundw
        case rel => exact ⟨k + 1, v', by omega, by go_num, hide (Space.stays HS2.out hb3), hide (HB2.out.trans (hb3.mono HB2.out.size))⟩
        case measure => simp [intOf]; omega
    · have hkn : k = n := by omega
      subst hkn
      have HC := hide (fullCount _ _ k v _ hS.out)
      by_cases h20 : (20 : Int) < (k : Int)
      · have hm : min k 20 = 20 := by omega
        rw [hm] at HC
        go_wp2_with fail
        refine (unhide HC).mono ?_
        rintro e w2 ⟨rfl, hb2⟩
        go_wp2_with fail
        go_ret
        exact ⟨rfl, hbel.out.trans hb2⟩
      · have hm : min k 20 = k := by omega
        rw [hm] at HC
        go_wp2_with fail
        refine (unhide HC).mono ?_
        rintro e w2 ⟨rfl, hb2⟩
        go_wp2_with fail
        go_ret
        exact ⟨rfl, hbel.out.trans hb2⟩

theorem fullWalk (n : Int) (w : World) (hg : Hand w) : Calls Tryd.prog 4 #[.int .i64 n] w fun e w' => e = .returned (.bool true) ∧ Below w.heap.size w w' := by
  by_cases h : n < 0 ∨ 30 < n
  · exact full_out n w h
  · obtain ⟨m, rfl⟩ : ∃ m : Nat, n = m := ⟨n.toNat, by omega⟩
    exact full_in m w (by omega) hg

end Go.Proofs.YtlefhfmckimlaabDoor
