/-
  The walk of OnceMoves.
-/
import Derived.Test.YtlefhfmckimlaabOnceMoves
namespace Go.Proofs.Ytlefhfmckimlaab
open Go.RowKit

theorem Two.start2 {w wr w0 w1 : World} (hb : Below w.heap.size w wr) (h0 : w0 = wr.alloc (.cells #[.slice none 0 0] 49)) (h1 : w1 = w0.alloc (.cells #[.slice none 0 0] 49)) : Two w w1 wr.heap.size w0.heap.size (.slice none 0 0) (.slice none 0 0) [] [] := by
  have hz : w0.heap.size = wr.heap.size + 1 := by rw [h0]; simp
  rw [hz, h1, h0]
  exact Two.start hb

set_option maxHeartbeats 1000000 in
set_option maxRecDepth 1000000 in
theorem moves (n cap : Nat) (ao : Option Addr) (av : Value) (Ls : List (List M.Val)) (a : List M.Val) (w : World) (hn : n = Ls.length) (hm : n ≤ maxLen) (hl : 0 < n → ∃ b off, ao = some ⟨b, off, none⟩ ∧ LieT w b off Ls) (hav : IsVals w av a) :
    Calls Try.prog 5 #[.slice ao n cap, av] w fun e w' => e = .returned (.bool true) ∧ Below w.heap.size w w' := by
  unfold maxLen at hm
  have HN := hide hn
  have HL := hide hl
  have HA := hide hav
  clear hn hl hav
  go_enter Try.func5, Try.ntmps5
  go_wp2_with fail
  refine (new _).mono ?_
  rintro e w0 ⟨rfl, hw0⟩
  have HW0 := hide hw0
  clear hw0
  go_wp2_with fail
  refine (new _).mono ?_
  rintro e w1 ⟨rfl, hw1⟩
  have HT1 := hide (Two.start2 (Below.refl _ _) HW0.out hw1)
  generalize w0.heap.size = O1 at *
  clear hw1 HW0
  go_wp2_with fail
  refine (HT1.out.nil).mono ?_
  rintro e w2 ⟨rfl, h2⟩
  have HB2 := hide h2.bel
  clear h2 HT1
  go_wp2_with fail
  refine (new _).mono ?_
  rintro e w3 ⟨rfl, hw3⟩
  have HW3 := hide hw3
  clear hw3
  go_wp2_with fail
  refine (new _).mono ?_
  rintro e w4 ⟨rfl, hw4⟩
  have HT := hide (Two.start2 HB2.out HW3.out hw4)
  generalize w2.heap.size = S at *
  generalize w3.heap.size = O at *
  clear hw4 HW3 HB2
  go_wp2_with fail
  go_loopw [9] (fun i wr => ∃ k : Nat, ∃ v u : Value, ∃ L : List (List M.Val), k ≤ 20 ∧ i = .int .i64 k ∧ Hid (Two w wr S O v u L [])) (fun i _ => 20 - (intOf i).toNat)
  case atStart => exact ⟨0, _, _, [], Nat.zero_le _, rfl, HT⟩
  case round =>
    clear HT
    obtain ⟨k, v, u, L, hk, rfl, hT⟩ := hrel
    by_cases hlt : k < n ∧ k < 20
    · obtain ⟨hkn, hk3⟩ := hlt
      have hkl : k < Ls.length := HN.out ▸ hkn
      have ik1 : (k : Int) < (n : Int) := by omega
      have ik2 : (k : Int) < 20 := by omega
      obtain ⟨b, off, rfl, hlie⟩ := HL.out (by omega)
      obtain ⟨x, hx, hxv⟩ := hlie k hkl
      have hbw : b < w.heap.size := World.block_lt_of_cell? w _ hx
      have cx : wr.cell? ⟨b, off + k, none⟩ = some x := (hT.out.bel.cell (p := ⟨b, off + k, none⟩) hbw).trans hx
      have HP := hide (hT.out.put hxv)
      clear hlie hx hxv HL
      generalize Ls[k] = lk at *
      generalize M.putF L lk = c at *
      generalize M.putL L lk = L2 at *
      go_wp2_with fail
      refine (unhide HP).mono ?_
      rintro e w5 ⟨rfl, v5, h5⟩
      have HT5 := hide h5
      clear h5
      go_wp2_with fail
      go_roundw
      case rel => exact ⟨k + 1, v5, u, L2, by omega, by go_num, HT5⟩
      case measure => simp [intOf]; omega
    · clear HL HN
      have h20 := hT.out.p.fs.2
      obtain ⟨nL, hnL⟩ : ∃ m, L.length = m := ⟨_, rfl⟩
      rw [hnL] at h20
      have HNL := hide hnL
      clear hnL
      by_cases ha : M.likeF a = 0
      · have HLA := hide ha
        obtain ⟨q, hq⟩ : ∃ q, M.many a L = q := ⟨_, rfl⟩
        have hqn : q ≤ nL := by rw [← hq, ← HNL.out]; exact many_le a L
        have HG : Hid (∀ wr v u, Two w wr S O v u L [] → Calls Try.prog 14 #[.pointer (some ⟨S, 0, none⟩), .pointer (some ⟨O, 0, none⟩), av] wr fun e w' => e = .returned (.tuple #[.int .i64 q, .nilIface]) ∧ ∃ v' u' L' K', Two w w' S O v' u' L' K' ∧ M.many a L' = 0 ∧ M.many a K' = q ∧ K'.length = q ∧ L'.length = nL - q) := hide fun wr v u h => by
          have := h.good HA.out ha
          rw [hq] at this
          refine this.mono ?_
          rintro e w' ⟨rfl, v', u', L', K', h1, h2, h3, h4, h5⟩
          exact ⟨rfl, v', u', L', K', h1, h2, h3, h4, by have := HNL.out; omega⟩
        clear ha hq
        rcases (by omega : ¬ (k : Int) < (n : Int) ∨ (k : Int) < (n : Int) ∧ ¬ (k : Int) < 20) with hex | ⟨hex, hex2⟩
        all_goals
          go_wp2_with fail
          refine (hT.out.allS HNL.out).mono ?_
          rintro e w5 ⟨ao5, c5, rfl, h5⟩
          have HT5 := hide h5
          clear h5
          go_wp2_with fail
          refine (unhide HG _ _ _ HT5.out).mono ?_
          rintro e w6 ⟨rfl, v6, u6, L6, K6, h6, hm1, hm2, hm3, hm4⟩
          have HT6 := hide h6
          have HM := hide (And.intro hm1 (And.intro hm2 (And.intro hm3 hm4)))
          clear h6 hm1 hm2 hm3 hm4 HT5
          go_wp2_with fail
          refine (HT6.out.cntS HA.out HLA.out HM.out.1).mono ?_
          rintro e w7 ⟨rfl, h7⟩
          have HT7 := hide h7
          clear h7 HT6
          go_wp2_with fail
          refine (HT7.out.cntO HA.out HLA.out HM.out.2.1).mono ?_
          rintro e w8 ⟨rfl, h8⟩
          have HT8 := hide h8
          clear h8 HT7
          go_wp2_with fail
          refine (HT8.out.allO HM.out.2.2.1).mono ?_
          rintro e w9 ⟨ao9, c9, rfl, h9⟩
          have HT9 := hide h9
          clear h9 HT8
          go_wp2_with fail
          refine (HT9.out.allS HM.out.2.2.2).mono ?_
          rintro e w10 ⟨ao10, c10, rfl, h10⟩
          have HB10 := hide h10.bel
          clear h10 HT9
          have hsum : ((nL - q : Nat) : Int) + (q : Int) = (nL : Int) := by omega
          go_wp2_with fail
          go_ret
          exact ⟨rfl, HB10.out⟩
      · have HG : Hid (∀ wr v u, Two w wr S O v u L [] → Calls Try.prog 14 #[.pointer (some ⟨S, 0, none⟩), .pointer (some ⟨O, 0, none⟩), av] wr fun e w' => e = .returned (.tuple #[.int .i64 0, .iface 43 (.int .i64 (M.likeF a))]) ∧ Two w w' S O v u L []) := hide fun wr v u h => h.bad HA.out ha
        have HLN := hide (fun w1 (h : IsVals w1 av a) => likeNo av a w1 h ha)
        generalize M.likeF a = lf at *
        clear ha
        rcases (by omega : ¬ (k : Int) < (n : Int) ∨ (k : Int) < (n : Int) ∧ ¬ (k : Int) < 20) with hex | ⟨hex, hex2⟩
        all_goals
          go_wp2_with fail
          refine (hT.out.allS HNL.out).mono ?_
          rintro e w5 ⟨ao5, c5, rfl, h5⟩
          have HT5 := hide h5
          clear h5
          go_wp2_with fail
          refine (unhide HG _ _ _ HT5.out).mono ?_
          rintro e w6 ⟨rfl, h6⟩
          have HT6 := hide h6
          clear h6 HT5
          go_wp2_with fail
          refine (unhide HLN _ (HA.out.stays HT6.out.bel (Nat.le_refl _))).mono ?_
          rintro e w7 ⟨rfl, hb7⟩
          have HT7 := hide (HT6.out.quiet hb7)
          clear hb7 HT6
          go_wp2_with fail
          refine (HT7.out.allS HNL.out).mono ?_
          rintro e w8 ⟨ao8, c8, rfl, h8⟩
          have HB8 := hide h8.bel
          clear h8 HT7
          go_wp2_with fail
          go_ret
          exact ⟨rfl, HB8.out⟩

theorem movesWalk (lv av : Value) (Ls : List (List M.Val)) (a : List M.Val) (w : World) (hl : IsTups w lv Ls) (hav : IsVals w av a) :
    Calls Try.prog 5 #[lv, av] w fun e w' => e = .returned (.bool true) ∧ Below w.heap.size w w' := by
  obtain ⟨ao, cap, rfl, hm⟩ := hl.shape
  refine moves Ls.length cap ao av Ls a w rfl hm (fun h0 => ?_) hav
  obtain ⟨b, off, c, h1, _, _, h2⟩ := hl.some h0
  simp only [Value.slice.injEq] at h1
  exact ⟨b, off, h1.1, h2⟩

end Go.Proofs.Ytlefhfmckimlaab
