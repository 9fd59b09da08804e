/-
  The walk of the Go function QueueGap: it returns true, whatever comes in.
-/
import Derived.Test.YtlefhfmckimlaahDoorQueCalls
import Derived.Test.YtlefhfmckimlaahDoorErrTold
set_option linter.unusedVariables false
namespace Go.Proofs.YtlefhfmckimlaahDoor.queueGap
open Go.RowKit

def anyV : List M.Val := [⟨2, 0, ⟨#[]⟩⟩]
theorem any_like : M.likeF anyV = 0 := by decide +kernel
theorem ask_bad {who seq : Int} (h : who < 0 ∨ 1000000 < who) : M.askF ⟨who, seq, 1, anyV⟩ = 1 := M.askF_range (by show who < 0 ∨ 1000000 < who ∨ _; omega)
theorem ask_ok {who seq : Int} (h : ¬ (who < 0 ∨ 1000000 < who)) : M.askF ⟨who, seq, 1, anyV⟩ = 0 := by
  rw [M.askF_else (by show ¬ (who < 0 ∨ 1000000 < who ∨ (1 : Int) < 0 ∨ 2 < (1 : Int)); omega) (show (1 : Int) ≠ 0 by decide)]
  exact any_like

set_option maxRecDepth 100000 in
theorem walk (who seq : Int) (w : World) (hg : Hand w) :
    Calls Tryd.prog 5 #[.int .i64 who, .int .i64 seq] w fun e w' => e = .returned (.bool true) ∧ Below w.heap.size w w' := by
  have HE : Hid (∀ wx k d, Below w.heap.size w wx → Calls Tryd.prog 8 #[errV k, .int .i64 d] wx fun e w' => e = .returned (.bool (k == d)) ∧ Below wx.heap.size wx w') := hide fun wx k d hb => sameErr k d wx (hg.stays hb (Nat.le_refl _))
  clear hg
  go_enter Tryd.func5, Tryd.ntmps5
  go_wp2_with fail
  refine (qnew _).mono ?_
  rintro e w1 ⟨rfl, hw1⟩
  have HB1 : Hid (Below w.heap.size w w1) := hide (by rw [hw1]; exact ((Below.refl _ _).alloc (Nat.le_refl _) _).alloc (by simp) _)
  have HQ1 : Hid (Qs w.heap.size w1 (w.heap.size + 1) w.heap.size (.slice none 0 0) [] 0 (fun _ => 0)) := hide (by rw [hw1]; exact Qs.new w (Nat.le_refl _))
  clear hw1
  have HB2 : Hid (Below w.heap.size w (w1.alloc (.cells #[.int .i64 2, .int .i64 0, .string ⟨#[]⟩] 38))) := hide (HB1.out.alloc HB1.out.size _)
  have HP : Hid (Calls Tryd.prog 13 #[.pointer (some ⟨w.heap.size + 1, 0, none⟩), aggA who seq 1 (some ⟨w1.heap.size, 0, none⟩) 1 1] (w1.alloc (.cells #[.int .i64 2, .int .i64 0, .string ⟨#[]⟩] 38)) fun e w' => e = .returned (errV (M.pushE (fun _ => 0) 0 ⟨who, seq, 1, anyV⟩)) ∧ Below w.heap.size w w' ∧ ((M.pushE (fun _ => 0) 0 ⟨who, seq, 1, anyV⟩ ≠ 0 ∧ Qs w.heap.size w' (w.heap.size + 1) w.heap.size (.slice none 0 0) [] 0 (fun _ => 0)) ∨ (M.pushE (fun _ => 0) 0 ⟨who, seq, 1, anyV⟩ = 0 ∧ ∃ v' x, Qs w.heap.size w' (w.heap.size + 1) w.heap.size v' [x] 1 (M.upF (fun _ => 0) ⟨who, seq, 1, anyV⟩)))) := hide (by
    have hq2 := HQ1.out.below ((Below.refl _ _).alloc (Nat.le_refl _) (.cells #[.int .i64 2, .int .i64 0, .string ⟨#[]⟩] 38))
    refine (qpush who seq 1 (some ⟨w1.heap.size, 0, none⟩) 1 1 anyV _ hq2 (lit_q w1 ⟨2, 0, ⟨#[]⟩⟩ (by unfold maxLen; decide)) (fun k => by decide) (by simp) (by decide)).mono ?_
    rintro e w' ⟨rfl, hc⟩
    refine ⟨rfl, ?_⟩
    rcases hc with ⟨h0, hb⟩ | ⟨h0, v', x, hQ, _, hT, _⟩
    · exact ⟨HB2.out.trans (hb.mono HB2.out.size), Or.inl ⟨h0, hq2.below hb⟩⟩
    · exact ⟨HB2.out.trans (hq2.touchBelow hT (Nat.le_refl _)), Or.inr ⟨h0, v', x, hQ⟩⟩)
  go_wp2_with fail
  refine (unhide HP).mono ?_
  rintro e w3 ⟨rfl, hb3, hcase⟩
  have HB3 := hide hb3
  clear hb3
  by_cases hw : who < 0 ∨ 1000000 < who
  · have e1 : M.pushE (fun _ => 0) 0 ⟨who, seq, 1, anyV⟩ = 1 := by rw [M.pushE_bad (by rw [ask_bad hw]; decide), ask_bad hw]
    rw [e1] at hcase ⊢
    have HN := hide (qnext_bad (w.heap.size + 1) who w3 hw)
    have hq : who < 0 ∨ (¬ who < 0 ∧ 1000000 < who) := by omega
    clear hcase hw e1
    rw [errV_bad (by decide)]
    go_wp2_with fail
    refine (unhide HN).mono ?_
    rintro e w4 ⟨rfl, hw4⟩
    obtain rfl := hw4.symm
    rw [errV_bad (by decide)]
    have HE1 : Hid (Calls Tryd.prog 8 #[.iface 53 (.int .i64 1), .int .i64 1] w3 fun e w' => e = .returned (.bool true) ∧ Below w3.heap.size w3 w') := hide (HE.out w3 1 1 HB3.out)
    rcases hq with hq | ⟨hq, hq2⟩
    all_goals
      go_wp2_with fail
      refine (unhide HE1).mono ?_
      rintro e w5 ⟨rfl, hb5⟩
      go_wp2_with fail
      go_ret
      exact ⟨rfl, HB3.out.trans (hb5.mono HB3.out.size)⟩
  · by_cases hs : seq = 1
    · have e1 : M.pushE (fun _ => 0) 0 ⟨who, seq, 1, anyV⟩ = 0 := M.pushE_goes (ask_ok hw) hs (by decide)
      rw [e1] at hcase ⊢
      rcases hcase with ⟨h0, _⟩ | ⟨_, v', x, hQ⟩
      · exact absurd rfl h0
      have HQ3 := hide hQ
      have hu : M.upF (fun _ => 0) ⟨who, seq, 1, anyV⟩ who = 1 := by rw [show M.upF (fun _ => 0) ⟨who, seq, 1, anyV⟩ who = seq from M.upF_same, hs]
      have HN : Hid (Calls Tryd.prog 14 #[.pointer (some ⟨w.heap.size + 1, 0, none⟩), .int .i64 who] w3 fun e w' => e = .returned (.tuple #[.int .i64 2, .nilIface]) ∧ w' = w3) := hide (by
        have := qnext_ok hQ who (by omega) (by omega) (by rw [hu]; decide)
        rwa [hu] at this)
      have HC : Hid (Calls Tryd.prog 15 #[.pointer (some ⟨w.heap.size + 1, 0, none⟩)] w3 fun e w' => e = .returned (.int .i64 1) ∧ w' = w3) := hide (qcount hQ)
      clear hQ hu hw e1
      subst hs
      rw [errV_0]
      go_wp2_with fail
      refine (unhide HN).mono ?_
      rintro e w4 ⟨rfl, hw4⟩
      obtain rfl := hw4.symm
      go_wp2_with fail
      refine (unhide HC).mono ?_
      rintro e w5 ⟨rfl, hw5⟩
      obtain rfl := hw5.symm
      go_wp2_with fail
      go_ret
      exact ⟨rfl, HB3.out⟩
    · obtain ⟨k, hk, hk0⟩ : ∃ k : Int, M.pushE (fun _ => 0) 0 ⟨who, seq, 1, anyV⟩ = k ∧ ((seq < 1 ∧ k = 7) ∨ (¬ seq < 1 ∧ k = 6)) := by
        by_cases h1 : seq < 1
        · exact ⟨7, M.pushE_clash (ask_ok hw) (by show seq < 0 + 1; omega), Or.inl ⟨h1, rfl⟩⟩
        · exact ⟨6, M.pushE_state (ask_ok hw) (by show 0 + 1 < seq; omega), Or.inr ⟨h1, rfl⟩⟩
      rw [hk] at hcase ⊢
      have HQ3 : Hid (Qs w.heap.size w3 (w.heap.size + 1) w.heap.size (.slice none 0 0) [] 0 (fun _ => 0)) := hide (by
        rcases hcase with ⟨_, hb⟩ | ⟨h0, _⟩
        · exact hb
        · exfalso; omega)
      have HN := hide (qnext_ok HQ3.out who (by omega) (by omega) (by decide))
      have HC : Hid (∀ wx, Below w3.heap.size w3 wx → Calls Tryd.prog 15 #[.pointer (some ⟨w.heap.size + 1, 0, none⟩)] wx fun e w' => e = .returned (.int .i64 0) ∧ w' = wx) := hide fun wx hb => qcount (HQ3.out.below hb)
      have HE7 : Hid (Calls Tryd.prog 8 #[.iface 53 (.int .i64 7), .int .i64 7] w3 fun e w' => e = .returned (.bool true) ∧ Below w3.heap.size w3 w') := hide (HE.out w3 7 7 HB3.out)
      have HE6 : Hid (Calls Tryd.prog 8 #[.iface 53 (.int .i64 6), .int .i64 6] w3 fun e w' => e = .returned (.bool true) ∧ Below w3.heap.size w3 w') := hide (HE.out w3 6 6 HB3.out)
      have hsb : (seq == 1) = false := by simpa using hs
      clear hcase hw hs hk HP
      rcases hk0 with ⟨hq, rfl⟩ | ⟨hq, rfl⟩
      · rw [errV_bad (by decide)]
        go_wp2_with fail
        refine (unhide HN).mono ?_
        rintro e w4 ⟨rfl, hw4⟩
        obtain rfl := hw4.symm
        go_wp2_with fail
        refine (unhide HE7).mono ?_
        rintro e w5 ⟨rfl, hb5⟩
        have HC5 := hide (HC.out w5 hb5)
        have HB5 := hide (HB3.out.trans (hb5.mono HB3.out.size))
        clear hb5
        go_wp2_with fail
        refine (unhide HC5).mono ?_
        rintro e w6 ⟨rfl, hw6⟩
        obtain rfl := hw6.symm
        go_wp2_with fail
        go_ret
        exact ⟨rfl, HB5.out⟩
      · rw [errV_bad (by decide)]
        go_wp2_with fail
        refine (unhide HN).mono ?_
        rintro e w4 ⟨rfl, hw4⟩
        obtain rfl := hw4.symm
        go_wp2_with fail
        refine (unhide HE6).mono ?_
        rintro e w5 ⟨rfl, hb5⟩
        have HC5 := hide (HC.out w5 hb5)
        have HB5 := hide (HB3.out.trans (hb5.mono HB3.out.size))
        clear hb5
        go_wp2_with fail
        refine (unhide HC5).mono ?_
        rintro e w6 ⟨rfl, hw6⟩
        obtain rfl := hw6.symm
        go_wp2_with fail
        go_ret
        exact ⟨rfl, HB5.out⟩

end Go.Proofs.YtlefhfmckimlaahDoor.queueGap
