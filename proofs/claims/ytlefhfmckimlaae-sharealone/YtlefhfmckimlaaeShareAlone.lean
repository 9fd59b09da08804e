/-
  The walk of the Go function ShareAlone: it returns true, whatever comes in.
-/
import Derived.Test.YtlefhfmckimlaaeShareDeal2
set_option linter.unusedVariables false
namespace Go.Proofs.Ytlefhfmckimlaae.shareAlone
open Go.RowKit

theorem right_drop {l : List (Int × Int)} (h : M.Right l) (k : Nat) : M.Right (l.drop k) := by
  refine ⟨fun i hi => ?_, fun i j hi hj e => ?_⟩
  · rw [List.getElem_drop]; exact h.1 (k + i) (by rw [List.length_drop] at hi; omega)
  · rw [List.getElem_drop, List.getElem_drop] at e
    have := h.2 (k + i) (k + j) (by rw [List.length_drop] at hi; omega) (by rw [List.length_drop] at hj; omega) e
    omega
theorem lie_drop {w : World} {b off : Nat} {l : List (Int × Int)} (h : LieP w b off l) (k : Nat) : LieP w b (off + k * 2) (l.drop k) := fun i hi => by
  have hi' : k + i < l.length := by rw [List.length_drop] at hi; omega
  have e : off + k * 2 + i * 2 = off + (k + i) * 2 := by omega
  rw [List.getElem_drop, e]
  exact h (k + i) hi'
theorem ev_alone {s : Int} (h0 : 0 ≤ s) (h1 : s < 257) (x : Int) : M.ev [s] x = s := by
  rw [M.ev_cons, M.ev_nil]; omega
/-- each alone tells it -/
theorem alone {s : Int} (h0 : 0 ≤ s) (h1 : s < 257) {k j : Nat} (hk : k ≤ 7) (hj : j < k) : M.joinE ((M.deal [s] k).drop j) 1 = 0 ∧ M.joinR ((M.deal [s] k).drop j) 1 = s := by
  have hR := right_drop (M.deal_on [s] hk).right j
  have hlen : ((M.deal [s] k).drop j).length = k - j := by rw [List.length_drop, M.deal_len]
  obtain ⟨e1, e2⟩ := M.join_right (n := 1) hR (by omega) (by omega) (by omega)
  refine ⟨e1, ?_⟩
  have hj' : j < (M.deal [s] k).length := by rw [M.deal_len]; exact hj
  have ht : ((M.deal [s] k).drop j).take 1 = [(M.deal [s] k)[j]] := by
    rw [← List.getElem_cons_drop hj']; rfl
  have hr1 := hR.take 1
  rw [ht] at hr1
  have e3 : M.joinR ((M.deal [s] k).drop j) 1 = M.next (((M.deal [s] k).drop j).take 1) 0 := e2
  rw [e3, ht, M.next_one _ hr1, M.deal_at [s] hj, ev_alone h0 h1]

theorem deal_bad {s m : Int} (h : M.dealE s [] m ≠ 0) : s < 0 ∨ (¬ s < 0 ∧ 256 < s) ∨ (¬ s < 0 ∧ ¬ 256 < s ∧ m < 1) ∨ (¬ s < 0 ∧ ¬ 256 < s ∧ ¬ m < 1 ∧ 7 < m) := by
  cases hs : M.inR s
  · have := M.inR_no hs; omega
  · have h1 := M.inR_yes hs
    have h0 : M.secE s [] = 0 := by rw [M.secE_few hs (by simp)]; rfl
    cases hc : M.cntB m
    · have := M.cntB_no hc; omega
    · have h2 := M.cntB_yes hc
      exact absurd (M.dealE_0 h0 hc (by simp; omega)) h

theorem walkBad (s m : Int) (w : World) (h : M.dealE s [] m ≠ 0) :
    Calls Try.prog 6 #[.int .i64 s, .int .i64 m] w fun e w' => e = .returned (.bool true) ∧ Below w.heap.size w w' := by
  have HD := hide (sDeal s none 0 0 [] m w rfl (Nat.zero_le _) (fun h0 => absurd h0 (by decide)) (fun _ => ⟨rfl, rfl⟩))
  rw [errV_bad h] at HD
  have hc := deal_bad h
  clear h
  generalize M.dealE s [] m = E at HD
  generalize M.dealR s [] m = L at HD
  rcases hc with h1 | ⟨h1, h2⟩ | ⟨h1, h2, h3⟩ | ⟨h1, h2, h3, h4⟩
  all_goals
    go_enter Try.func6, Try.ntmps6
    go_wp2_with fail
    refine (unhide HD).mono ?_
    rintro e w1 ⟨⟨v, k, c, rfl, hk, hkc, hcm, hat⟩, hb1⟩
    have HB := hide hb1
    clear hat hb1 hk
    go_wp2_with fail
    go_ret
    exact ⟨by simp, HB.out⟩

set_option maxRecDepth 100000 in
set_option maxHeartbeats 2000000 in
theorem walkOk (s m : Int) (w : World) (h : M.dealE s [] m = 0) :
    Calls Try.prog 6 #[.int .i64 s, .int .i64 m] w fun e w' => e = .returned (.bool true) ∧ Below w.heap.size w w' := by
  have HD := hide (sDeal s none 0 0 [] m w rfl (Nat.zero_le _) (fun h0 => absurd h0 (by decide)) (fun _ => ⟨rfl, rfl⟩))
  obtain ⟨⟨s0, s1⟩, _, _, ⟨m1, m7⟩, _⟩ := M.dealE_ok h
  obtain ⟨n, rfl⟩ : ∃ n : Nat, m = n := ⟨m.toNat, by omega⟩
  rw [M.dealR_ok h, Int.toNat_natCast, h] at HD
  have hn7 : n ≤ 7 := by omega
  have hn1 : 1 ≤ n := by omega
  clear h
  go_enter Try.func6, Try.ntmps6
  go_wp2_with fail
  refine (unhide HD).mono ?_
  rintro e w1 ⟨⟨v, k, c, rfl, hk, hkc, hcm, hat⟩, hb1⟩
  rw [M.deal_len] at hk
  subst hk
  obtain ⟨b, off, rfl, hlie⟩ := hat (by rw [M.deal_len]; omega)
  have HL := hide hlie
  have HB := hide hb1
  have HCM := hide hcm
  unfold maxLen at hcm
  clear hat hb1 hlie HD
  rw [errV_0]
  go_wp2_with fail
  go_loopw [7] (fun si wr => ∃ j : Nat, si = .int .i64 j ∧ j ≤ k ∧ Hid (Below w1.heap.size w1 wr)) (fun si _ => k - (intOf si).toNat)
  case atStart => exact ⟨0, rfl, Nat.zero_le _, hide (Below.refl _ _)⟩
  case round =>
    obtain ⟨j, rfl, hj, hbel⟩ := hrel
    by_cases hlt : j < k
    · have HJ : Hid (Calls Try.prog 11 #[.slice (some ⟨b, off + j * 2, none⟩) (k - j) (c - j), .int .i64 1] wr fun e w' => e = .returned (.tuple #[.int .i64 s, .nilIface]) ∧ Below wr.heap.size wr w') := hide (by
        have h1 := sJoin (some ⟨b, off + j * 2, none⟩) (k - j) (c - j) ((M.deal [s] k).drop j) 1 wr (by rw [List.length_drop, M.deal_len]) (by omega) (by have := HCM.out; omega) (fun _ => ⟨b, _, rfl, lie_drop (HL.out.stays hbel.out (Nat.le_refl _)) j⟩)
        obtain ⟨e1, e2⟩ := alone s0 s1 hn7 hlt
        rwa [e1, e2] at h1)
      have HC : Hid (∀ wx, Below w1.heap.size w1 wx → wx.cell? ⟨b, off + j * 2, none⟩ = some (.int .i64 ((j : Int) + 1)) ∧ wx.cell? ⟨b, off + j * 2 + 1, none⟩ = some (.int .i64 s)) := hide fun wx hb => by
        have h1 := (HL.out.stays hb (Nat.le_refl _)) j (by rw [M.deal_len]; exact hlt)
        rw [M.deal_at [s] hlt, ev_alone s0 s1] at h1
        exact h1
      go_wp2_with fail
      refine (unhide HJ).mono ?_
      rintro e w2 ⟨rfl, hb2⟩
      have HB2 := hide (hbel.out.trans (hb2.mono hbel.out.size))
      obtain ⟨c1, c2⟩ := HC.out _ HB2.out
      clear hb2
      go_wp2_with fail
      go_roundw
      case rel => exact ⟨j + 1, by go_num, by omega, HB2⟩
      case measure => simp [intOf]; omega
    · go_wp2_with fail
      go_ret
      exact ⟨by simp, HB.out.trans (hbel.out.mono HB.out.size)⟩

theorem walk (s m : Int) (w : World) : Calls Try.prog 6 #[.int .i64 s, .int .i64 m] w fun e w' => e = .returned (.bool true) ∧ Below w.heap.size w w' := by
  by_cases h : M.dealE s [] m = 0
  · exact walkOk s m w h
  · exact walkBad s m w h

end Go.Proofs.Ytlefhfmckimlaae.shareAlone
