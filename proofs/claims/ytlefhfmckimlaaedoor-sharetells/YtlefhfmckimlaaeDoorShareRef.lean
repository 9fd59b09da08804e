/-
  What the document's own Dealt, Deal and Join do, and tuplesame.Shares at lists that are the same: each as one law of its call.
-/
import Derived.Test.YtlefhfmckimlaaeDoorShareDeal2
import Derived.Test.YtlefhfmckimlaaeDoorPolyRef2
import Derived.BigQuiet
import Derived.Deep.QuietTactic
import Derived.WalkSmall
set_option linter.unusedVariables false
namespace Go.Proofs.YtlefhfmckimlaaeDoor
open Go.RowKit

theorem pairIn (a b : Int) (w : World) : (Op.equalIn 10000 38 (.agg #[.int .i64 a, .int .i64 b]) (.agg #[.int .i64 a, .int .i64 b])).run Tryd.prog w = .ok true w := by
  go_simp
theorem pairNe (a b : Int) (w : World) : (binOp .neq 38 (.agg #[.int .i64 a, .int .i64 b]) (.agg #[.int .i64 a, .int .i64 b])).run Tryd.prog w = .ok (.bool false) w := by
  rw [run_neq_struct, pairIn]; rfl

section
attribute [local go_sem ↓] pairNe
theorem sameShares (a1 a2 : Option Addr) (n c1 c2 : Nat) (l : List (Int × Int)) (w : World) (hn : n = l.length) (hm : n ≤ maxLen) (h1 : AtP w a1 l) (h2 : AtP w a2 l) :
    Calls Tryd.prog 9 #[.slice a1 n c1, .slice a2 n c2] w fun e w' => e = .returned (.bool true) ∧ Below w.heap.size w w' := by
  unfold maxLen at hm
  have HL1 := hide h1
  have HL2 := hide h2
  have HN := hide hn
  clear h1 h2 hn
  go_enter Tryd.func9, Tryd.ntmps9
  go_wp2
  go_loopw [5] (fun i wr => ∃ k : Nat, k ≤ n ∧ i = .int .i64 k ∧ Hid (Below w.heap.size w wr)) (fun i _ => n - (intOf i).toNat)
  case atStart => exact ⟨0, Nat.zero_le _, rfl, hide (Below.refl _ _)⟩
  case round =>
    obtain ⟨k, hk, rfl, hbel⟩ := hrel
    by_cases hlt : k < n
    · have hkl : k < l.length := HN.out ▸ hlt
      have ik0 : (0 : Int) ≤ (k : Int) := by omega
      have ikn : (k : Int) < (n : Int) := by omega
      obtain ⟨b1, off1, rfl, g1⟩ := HL1.out (by omega)
      obtain ⟨b2, off2, rfl, g2⟩ := HL2.out (by omega)
      obtain ⟨d1, d2⟩ := (g1.stays hbel.out (Nat.le_refl _)) k hkl
      obtain ⟨d3, d4⟩ := (g2.stays hbel.out (Nat.le_refl _)) k hkl
      generalize l[k].1 = x at d1 d3
      generalize l[k].2 = y at d2 d4
      clear g1 g2
      go_wp2_with fail
      go_quiet (fail)
      go_wp2
      go_roundw
      case rel => exact ⟨k + 1, by omega, by go_num, hide (Go.below_drewN hbel.out _)⟩
      case measure => simp [intOf]; omega
    · go_wp2
      go_ret
      exact ⟨rfl, hbel.out⟩
end

theorem rDealt (s : Int) (a : Option Addr) (n cap : Nat) (r : List Int) (m : Int) (w : World) (hn : n = r.length) (hm : n ≤ maxLen) (hl : AtI w a r) :
    Calls Tryd.prog 5 #[.int .i64 s, .slice a n cap, .int .i64 m] w fun e w' => e = .returned (.int .i64 (M.dealE s r m)) ∧ w' = w := by
  have hF := rFac a n cap r w hn hm hl
  unfold maxLen at hm
  cases hs : M.inR s
  · have e1 := M.secE_s (r := r) hs
    rw [M.dealE_sec (by rw [e1]; decide), e1]
    have HS : Hid (∀ wx, Calls Tryd.prog 16 #[.int .i64 s] wx fun e w' => e = .returned (.bool false) ∧ w' = wx) := hide fun wx => by have := rIn s wx; rwa [hs] at this
    clear hF hn hl hs e1
    go_enter Tryd.func5, Tryd.ntmps5
    go_wp2_with fail
    refine (HS.out _).mono ?_
    rintro e w1 ⟨rfl, hw⟩
    obtain rfl := hw.symm
    go_wp2_with fail
    go_ret
    exact ⟨rfl, rfl⟩
  · have HS : Hid (∀ wx, Calls Tryd.prog 16 #[.int .i64 s] wx fun e w' => e = .returned (.bool true) ∧ w' = wx) := hide fun wx => by have := rIn s wx; rwa [hs] at this
    by_cases h6 : 6 < n
    · have e1 := M.secE_many hs (hn ▸ h6)
      have h6' : (6 : Int) < n := by omega
      rw [M.dealE_sec (by rw [e1]; decide), e1]
      clear hF hn hl hs e1
      go_enter Tryd.func5, Tryd.ntmps5
      go_wp2_with fail
      refine (HS.out _).mono ?_
      rintro e w1 ⟨rfl, hw⟩
      obtain rfl := hw.symm
      go_wp2_with fail
      go_ret
      exact ⟨rfl, rfl⟩
    · have h6' : ¬ (6 : Int) < n := by omega
      have e1 : M.secE s r = M.facE r := by rw [M.secE_few hs (hn ▸ h6), M.facE_few (by omega)]
      by_cases hf : M.facE r = 0
      · have hsec : M.secE s r = 0 := by rw [e1]; exact hf
        rw [hf] at hF
        have HF := hide hF
        have hq : (m < 1 ∧ M.dealE s r m = 1) ∨ (¬ m < 1 ∧ 7 < m ∧ M.dealE s r m = 1) ∨ (¬ m < 1 ∧ ¬ 7 < m ∧ m ≤ (n : Int) ∧ M.dealE s r m = 3) ∨ (¬ m < 1 ∧ ¬ 7 < m ∧ ¬ m ≤ (n : Int) ∧ M.dealE s r m = 0) := by
          by_cases q1 : m < 1
          · exact Or.inl ⟨q1, M.dealE_cnt hsec (decide_eq_false (by omega))⟩
          · by_cases q2 : 7 < m
            · exact Or.inr (Or.inl ⟨q1, q2, M.dealE_cnt hsec (decide_eq_false (by omega))⟩)
            · by_cases q3 : m ≤ (n : Int)
              · exact Or.inr (Or.inr (Or.inl ⟨q1, q2, q3, M.dealE_few hsec (M.cntB_mk (by omega) (by omega)) (by omega)⟩))
              · exact Or.inr (Or.inr (Or.inr ⟨q1, q2, q3, M.dealE_0 hsec (M.cntB_mk (by omega) (by omega)) (by omega)⟩))
        clear hF hn hl hs e1 hf hsec
        rcases hq with ⟨q1, q4⟩ | ⟨q1, q2, q4⟩ | ⟨q1, q2, q3, q4⟩ | ⟨q1, q2, q3, q4⟩
        all_goals
          rw [q4]
          clear q4
          go_enter Tryd.func5, Tryd.ntmps5
          go_wp2_with fail
          refine (HS.out _).mono ?_
          rintro e w1 ⟨rfl, hw⟩
          obtain rfl := hw.symm
          go_wp2_with fail
          refine (unhide HF).mono ?_
          rintro e w1 ⟨rfl, hw⟩
          obtain rfl := hw.symm
          go_wp2_with fail
          go_ret
          exact ⟨rfl, rfl⟩
      · rw [M.dealE_sec (by rw [e1]; exact hf), e1]
        generalize M.facE r = f at hF hf ⊢
        have HF := hide hF
        have hf' : (f == 0) = false := by simpa using hf
        clear hF hn hl hs e1 hf
        go_enter Tryd.func5, Tryd.ntmps5
        go_wp2_with fail
        refine (HS.out _).mono ?_
        rintro e w1 ⟨rfl, hw⟩
        obtain rfl := hw.symm
        go_wp2_with fail
        refine (unhide HF).mono ?_
        rintro e w1 ⟨rfl, hw⟩
        obtain rfl := hw.symm
        go_wp2_with fail
        go_ret
        exact ⟨rfl, rfl⟩

theorem rJoin (a : Option Addr) (n cap : Nat) (l : List (Int × Int)) (k : Int) (w : World) (hn : n = l.length) (hcap : n ≤ cap) (hcm : cap ≤ maxLen) (hl : AtP w a l) :
    Calls Tryd.prog 10 #[.slice a n cap, .int .i64 k] w fun e w' => e = .returned (.tuple #[.int .i64 (M.joinR l k), .int .i64 (M.joinE l k)]) ∧ Below w.heap.size w w' := by
  have hP := rPts a n cap l w hn (by omega) hl
  cases hc : M.cntB k
  · have h := M.joinE_cnt (l := l) hc
    rw [M.joinR_bad (by rw [h]; decide), h]
    have hq : k < 1 ∨ (¬ k < 1 ∧ 7 < k) := by have := M.cntB_no hc; omega
    clear hP hn hcap hcm hl h hc
    rcases hq with q1 | ⟨q1, q2⟩
    all_goals
      go_enter Tryd.func10, Tryd.ntmps10
      go_wp2_with fail
      go_ret2
      exact ⟨rfl, Below.refl _ _⟩
  · obtain ⟨c1, c7⟩ := M.cntB_yes hc
    have q1 : ¬ k < 1 := by omega
    have q2 : ¬ 7 < k := by omega
    by_cases hf : M.ptsE l = 0
    · rw [hf] at hP
      have HP := hide hP
      by_cases hfew : (l.length : Int) < k
      · have h := M.joinE_few hc hf hfew
        rw [M.joinR_bad (by rw [h]; decide), h]
        have q3 : (n : Int) < k := by omega
        unfold maxLen at hcm
        clear hP hn hl h hc hf hfew
        go_enter Tryd.func10, Tryd.ntmps10
        go_wp2_with fail
        refine (unhide HP).mono ?_
        rintro e w1 ⟨rfl, hb1⟩
        have HB1 := hide hb1
        clear hb1
        go_wp2_with fail
        go_ret2
        exact ⟨rfl, HB1.out⟩
      · have h := M.joinE_0 hc hf hfew
        obtain ⟨m, rfl⟩ : ∃ m : Nat, k = m := ⟨k.toNat, by omega⟩
        rw [M.joinR_ok h, h, Int.toNat_natCast]
        obtain ⟨g0, g7, hR⟩ := M.ptsE_ok hf
        obtain ⟨b, off, rfl, g⟩ := hl g0
        have HT : Hid (∀ wx, Below w.heap.size w wx → Calls Tryd.prog 25 #[.slice (some ⟨b, off, none⟩) m cap, .int .i64 0] wx fun e w' => e = .returned (.int .i64 (M.next (l.take m) 0)) ∧ Below wx.heap.size wx w') := hide fun wx hb =>
          rNext b off m cap (l.take m) 0 wx (by rw [List.length_take]; omega) (by omega) (by omega) (hR.take m) (by decide) (by decide) ((g.stays hb (Nat.le_refl _)).take m)
        have hmn : m ≤ n := by omega
        have q3 : ¬ (n : Int) < (m : Int) := by omega
        generalize M.next (l.take m) 0 = z at HT ⊢
        unfold maxLen at hcm
        clear hP hn hl h hc hf hfew hR g g0 g7
        go_enter Tryd.func10, Tryd.ntmps10
        go_wp2_with fail
        refine (unhide HP).mono ?_
        rintro e w1 ⟨rfl, hb1⟩
        have HB1 := hide hb1
        clear hb1
        go_wp2_with fail
        refine (HT.out _ HB1.out).mono ?_
        rintro e w2 ⟨rfl, hb2⟩
        have HB2 := hide (HB1.out.trans (hb2.mono HB1.out.size))
        clear hb2
        go_wp2_with fail
        go_ret2
        exact ⟨rfl, HB2.out⟩
    · have h := M.joinE_pts hc hf
      rw [M.joinR_bad (by rw [h]; exact hf), h]
      generalize M.ptsE l = f at hP hf ⊢
      have HP := hide hP
      have hf' : (f != 0) = true := by simpa using hf
      clear hP hn hcap hcm hl h hc hf
      go_enter Tryd.func10, Tryd.ntmps10
      go_wp2_with fail
      refine (unhide HP).mono ?_
      rintro e w1 ⟨rfl, hb1⟩
      have HB1 := hide hb1
      clear hb1
      go_wp2_with fail
      go_ret2
      exact ⟨rfl, HB1.out⟩

end Go.Proofs.YtlefhfmckimlaaeDoor
