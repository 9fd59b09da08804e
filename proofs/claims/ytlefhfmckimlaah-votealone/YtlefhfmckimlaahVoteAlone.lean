/-
  The walk of the Go function VoteAlone: it returns true, whatever comes in.
-/
import Derived.Test.YtlefhfmckimlaahVoteWalks
import Derived.Deep.AppendLies
set_option linter.unusedVariables false
namespace Go.Proofs.Ytlefhfmckimlaah.voteAlone
open Go.RowKit

theorem lit_str (w : World) (s : ByteArray) (hs : s.size ≤ reachBytes) : AtS (w.alloc (.cells #[.string s] 9)) (some ⟨w.heap.size, 0, none⟩) [s] := fun _ => ⟨w.heap.size, 0, rfl, fun i hi => by
  have h0 : i = 0 := by simpa using hi
  subst h0
  exact ⟨by simp [go_sem], hs⟩⟩
theorem alone_hit (s : ByteArray) (i : Nat) (need : Int) (h : i < 1) : M.hitB [s] need i = decide (1 = need) := by
  obtain rfl : i = 0 := by omega
  rw [M.hitB_at (by simp)]
  simp [M.cntV_cons, M.cntV_nil]
theorem alone_most (s : ByteArray) : M.mostN [s] = 1 := by
  show M.mostT [s] 1 = 1
  rw [M.mostT_next (by simp)]
  simp [M.cntV_cons, M.cntV_nil, M.mostT]
theorem alone_one (s : ByteArray) : M.winE [s] 1 = 0 ∧ M.winS [s] 1 = s := by
  have hw : M.winI [s] 1 = 0 := M.winI_hit (by simp) (fun j hj => absurd hj (by omega)) (by rw [alone_hit s 0 1 (by omega)]; simp)
  have hw2 : M.winI [s] 1 < [s].length := by rw [hw]; simp
  have he := M.winE_hit (by decide : ¬ ((1 : Int) < 1 ∨ 7 < (1 : Int))) (by simp) hw2
  refine ⟨he, ?_⟩
  rw [M.winS_hit he hw2]
  simp only [hw, List.getElem_cons_zero]
theorem alone_not (s : ByteArray) {need : Int} (h : need ≠ 1) : M.winE [s] need ≠ 0 := by
  by_cases hr : need < 1 ∨ 7 < need
  · rw [M.winE_range hr]; decide
  · have hw : M.winI [s] need = 1 := M.winI_none (fun j hj => by rw [alone_hit s j need (by simpa using hj)]; exact decide_eq_false (fun e => h e.symm))
    rw [M.winE_none hr (by simp) (by rw [hw]; simp)]
    decide

set_option maxRecDepth 100000 in
theorem walk (s : ByteArray) (need : Int) (w : World) (hs : s.size ≤ reachBytes) :
    Calls Try.prog 4 #[.string s, .int .i64 need] w fun e w' => e = .returned (.bool true) ∧ Below w.heap.size w w' := by
  have hW := vWin (some ⟨w.heap.size, 0, none⟩) 1 1 [s] need _ rfl (by unfold maxLen; decide) (lit_str w s hs)
  have HB0 : Hid (Below w.heap.size w (w.alloc (.cells #[.string s] 9))) := hide ((Below.refl _ _).alloc (Nat.le_refl _) _)
  have HM : Hid (∀ wx : World, Calls Try.prog 7 #[.slice (some ⟨wx.heap.size, 0, none⟩) 1 1] (wx.alloc (.cells #[.string s] 9)) fun e w' => e = .returned (.tuple #[.int .i64 1, .nilIface]) ∧ Below wx.heap.size wx w') := hide fun wx => by
    have h := vMost (some ⟨wx.heap.size, 0, none⟩) 1 1 [s] _ rfl (by unfold maxLen; decide) (lit_str wx s hs)
    rw [M.mostR_ok (by simp), M.mostE_ok (by simp), alone_most] at h
    exact h.mono fun e w' ⟨he, hw⟩ => ⟨he, ((Below.refl _ _).alloc (Nat.le_refl _) _).trans (hw.mono (by simp))⟩
  clear hs
  by_cases hn : need = 1
  · subst hn
    obtain ⟨e1, e2⟩ := alone_one s
    rw [e1, e2] at hW
    have HW : Hid (Calls Try.prog 5 #[.slice (some ⟨w.heap.size, 0, none⟩) 1 1, .int .i64 1] (w.alloc (.cells #[.string s] 9)) fun e w' => e = .returned (.tuple #[.string s, .nilIface]) ∧ Below (w.alloc (.cells #[.string s] 9)).heap.size (w.alloc (.cells #[.string s] 9)) w') := hide hW
    clear hW e1 e2
    go_enter Try.func4, Try.ntmps4
    go_wp2_with fail
    refine (unhide HW).mono ?_
    rintro e w1 ⟨rfl, hb1⟩
    have HB1 := hide (HB0.out.trans (hb1.mono (by simp)))
    clear hb1
    go_wp2_with fail
    refine (HM.out _).mono ?_
    rintro e w2 ⟨rfl, hb2⟩
    have HB2 := hide (HB1.out.trans (hb2.mono HB1.out.size))
    clear hb2
    go_wp2_with fail
    go_ret
    exact ⟨by simp, HB2.out⟩
  · have hnb : (need != 1) = true := by simpa using hn
    rw [errV_bad (alone_not s hn)] at hW
    have HW := hide hW
    clear hW hn
    generalize M.winE [s] need = E at HW
    generalize M.winS [s] need = x at HW
    go_enter Try.func4, Try.ntmps4
    go_wp2_with fail
    refine (unhide HW).mono ?_
    rintro e w1 ⟨rfl, hb1⟩
    have HB1 := hide (HB0.out.trans (hb1.mono (by simp)))
    clear hb1
    go_wp2_with fail
    refine (HM.out _).mono ?_
    rintro e w2 ⟨rfl, hb2⟩
    have HB2 := hide (HB1.out.trans (hb2.mono HB1.out.size))
    clear hb2
    go_wp2_with fail
    go_ret
    exact ⟨rfl, HB2.out⟩

end Go.Proofs.Ytlefhfmckimlaah.voteAlone
