/-
  The walk of the Go function ProofCatches: it returns true, whatever comes in.
-/
import Derived.Test.YtlefhfmckimlaafProofLit
set_option linter.unusedVariables false
namespace Go.Proofs.Ytlefhfmckimlaaf.proofCatches
open Go.RowKit

/-- by a polynomial's commits just what it is at a place is a share -/
theorem told {p : List Int} {x y : Int} (hp : M.comE p = 0) (hx : M.inR x = true) (hy : M.inR y = true) : M.chkE (M.commits p) x y = 0 ∧ M.chkR (M.commits p) x y = (M.ev p x == y) := by
  have h := M.chkE_0 (M.cmtE_commits hp) hx hy
  obtain ⟨y0, y1⟩ := M.inR_yes hy
  refine ⟨h, ?_⟩
  rw [M.chkR_ok h]
  exact M.true_iff (fun i hi => ((M.facE_ok (M.comE_ok hp).2).2 i hi).1) y0 y1

set_option maxRecDepth 100000 in
set_option maxHeartbeats 4000000 in
theorem walk (a : Option Addr) (n cap : Nat) (p : List Int) (x y : Int) (w : World) (hn : n = p.length) (hm : n ≤ maxLen) (hl : AtI w a p) :
    Calls Try.prog 3 #[.slice a n cap, .int .i64 x, .int .i64 y] w fun e w' => e = .returned (.bool true) ∧ Below w.heap.size w w' := by
  have HA := hide (com_three (z0 := 0) (z1 := 1) (z2 := 2) (r0 := 1) (r1 := 64) (r2 := 1010) (by decide +kernel) (by decide +kernel))
  have HC : Hid (∀ wx, Below w.heap.size w wx → Calls Try.prog 7 #[.slice a n cap] wx fun e w' => (∃ v k c, e = .returned (.tuple #[.slice v k c, errV (M.comE p)]) ∧ k = (M.comR p).length ∧ k ≤ c ∧ c ≤ maxLen ∧ AtI w' v (M.comR p)) ∧ Below wx.heap.size wx w') := hide fun wx hb => pCommit a n cap p wx hn hm (hl.stays hb (Nat.le_refl _))
  have HP : Hid (∀ wx, Below w.heap.size w wx → Calls Try.prog 8 #[.slice a n cap, .int .i64 x] wx fun e w' => e = .returned (.tuple #[.int .i64 (M.atR p x), errV (M.atE p x)]) ∧ Below wx.heap.size wx w') := hide fun wx hb => pAt a n cap p x wx hn hm (hl.stays hb (Nat.le_refl _))
  clear hn hm hl
  by_cases hc : M.comE p = 0
  · cases hx : M.inR x
    · have hE : M.atE p x = 1 := M.atE_x (M.comE_ok hc).2 hx
      rw [hc, errV_0] at HC
      rw [hE, errV_bad (show (1 : Int) ≠ 0 by decide)] at HP
      clear hc hx hE
      go_enter Try.func3, Try.ntmps3
      go_wp2_with fail
      refine (HA.out _ _ (by simp [go_sem]) (by simp [go_sem]) (by simp [go_sem])).mono ?_
      rintro e w1 ⟨⟨b1, o1, k1, rfl, c1, c2, c3⟩, hb1⟩
      have HB1 := hide (((Below.refl w.heap.size w).alloc (Nat.le_refl _) _).trans (hb1.mono (by simp)))
      clear hb1
      go_wp2_with fail
      refine (HC.out _ HB1.out).mono ?_
      rintro e w2 ⟨⟨v, k, c, rfl, hk, hkc, hcm, hat⟩, hb2⟩
      have HB2 := hide (HB1.out.trans (hb2.mono HB1.out.size))
      clear hb2 hat hk c1 c2 c3
      go_wp2_with fail
      refine (HP.out _ HB2.out).mono ?_
      rintro e w3 ⟨rfl, hb3⟩
      have HB3 := hide (HB2.out.trans (hb3.mono HB2.out.size))
      clear hb3
      go_wp2_with fail
      go_ret
      exact ⟨rfl, HB3.out⟩
    · have hE : M.atE p x = 0 := M.atE_0 (M.comE_ok hc).2 hx
      rw [M.comR_ok hc, hc, errV_0] at HC
      rw [hE, M.atR_ok hE, errV_0] at HP
      have hr := M.ev_range p x
      obtain ⟨t1, t2⟩ := told (y := M.ev p x) hc hx (M.inR_mk hr.1 hr.2)
      have HQ : Hid (∀ (v : Option Addr) (k c : Nat) (w2 wx : World), k = (M.commits p).length → AtI w2 v (M.commits p) → Below w2.heap.size w2 wx → Calls Try.prog 9 #[.slice v k c, .agg #[.int .i64 x, .int .i64 (M.ev p x)]] wx fun e w' => e = .returned (.tuple #[.bool true, .nilIface]) ∧ Below wx.heap.size wx w') := hide fun v k c w2 wx hk hat hb => by
        have hk7 : k ≤ maxLen := by
          have h7 := (M.facE_ok (M.comE_ok hc).2).1
          rw [hk, M.commits_len]; unfold maxLen; omega
        have := pCheck v k c (M.commits p) x (M.ev p x) wx hk hk7 (hat.stays hb (Nat.le_refl _))
        rwa [t1, t2, show (M.ev p x == M.ev p x) = true by simp, errV_0] at this
      have HR : Hid (∀ (v : Option Addr) (k c : Nat) (w2 wx : World), k = (M.commits p).length → AtI w2 v (M.commits p) → Below w2.heap.size w2 wx → Calls Try.prog 9 #[.slice v k c, .agg #[.int .i64 x, .int .i64 y]] wx fun e w' => e = .returned (.tuple #[.bool (M.chkR (M.commits p) x y), errV (M.chkE (M.commits p) x y)]) ∧ Below wx.heap.size wx w') := hide fun v k c w2 wx hk hat hb => by
        have hk7 : k ≤ maxLen := by
          have h7 := (M.facE_ok (M.comE_ok hc).2).1
          rw [hk, M.commits_len]; unfold maxLen; omega
        exact pCheck v k c (M.commits p) x y wx hk hk7 (hat.stays hb (Nat.le_refl _))
      have hq : M.chkE (M.commits p) x y = 1 ∨ (M.chkE (M.commits p) x y = 0 ∧ M.chkR (M.commits p) x y = (y == M.ev p x)) := by
        cases hy : M.inR y
        · exact Or.inl (M.chkE_xy (M.cmtE_commits hc) (Or.inr hy))
        · obtain ⟨u1, u2⟩ := told hc hx hy
          exact Or.inr ⟨u1, by rw [u2]; exact Bool.beq_comm⟩
      clear hc hx hE hr t1 t2
      generalize M.chkE (M.commits p) x y = E at HR hq
      generalize M.chkR (M.commits p) x y = R at HR hq
      generalize M.ev p x = z at HP HQ hq
      generalize M.commits p = C at HC HQ HR
      rcases hq with rfl | ⟨rfl, rfl⟩
      all_goals
        first
          | rw [errV_bad (show (1 : Int) ≠ 0 by decide)] at HR
          | rw [errV_0] at HR
        go_enter Try.func3, Try.ntmps3
        go_wp2_with fail
        refine (HA.out _ _ (by simp [go_sem]) (by simp [go_sem]) (by simp [go_sem])).mono ?_
        rintro e w1 ⟨⟨b1, o1, k1, rfl, c1, c2, c3⟩, hb1⟩
        have HB1 := hide (((Below.refl w.heap.size w).alloc (Nat.le_refl _) _).trans (hb1.mono (by simp)))
        clear hb1
        go_wp2_with fail
        refine (HC.out _ HB1.out).mono ?_
        rintro e w2 ⟨⟨v, k, c, rfl, hk, hkc, hcm, hat⟩, hb2⟩
        have HB2 := hide (HB1.out.trans (hb2.mono HB1.out.size))
        have HQ2 := hide fun wx => HQ.out v k c w2 wx hk hat
        have HR2 := hide fun wx => HR.out v k c w2 wx hk hat
        clear hb2 hat hk c1 c2 c3 HB1
        go_wp2_with fail
        refine (HP.out _ HB2.out).mono ?_
        rintro e w3 ⟨rfl, hb3⟩
        have HB3 := hide hb3
        clear hb3
        go_wp2_with fail
        refine (HQ2.out _ HB3.out).mono ?_
        rintro e w4 ⟨rfl, hb4⟩
        have HB4 := hide (HB3.out.trans (hb4.mono HB3.out.size))
        clear hb4 HB3
        go_wp2_with fail
        refine (HR2.out _ HB4.out).mono ?_
        rintro e w5 ⟨rfl, hb5⟩
        have HB5 := hide (HB4.out.trans (hb5.mono HB4.out.size))
        clear hb5 HB4
        go_wp2_with fail
        go_ret
        exact ⟨by simp, HB2.out.trans (HB5.out.mono HB2.out.size)⟩
  · rw [errV_bad hc] at HC
    generalize M.comE p = E at HC hc
    clear hc HP
    go_enter Try.func3, Try.ntmps3
    go_wp2_with fail
    refine (HA.out _ _ (by simp [go_sem]) (by simp [go_sem]) (by simp [go_sem])).mono ?_
    rintro e w1 ⟨⟨b1, o1, k1, rfl, c1, c2, c3⟩, hb1⟩
    have HB1 := hide (((Below.refl w.heap.size w).alloc (Nat.le_refl _) _).trans (hb1.mono (by simp)))
    clear hb1
    go_wp2_with fail
    refine (HC.out _ HB1.out).mono ?_
    rintro e w2 ⟨⟨v, k, c, rfl, hk, hkc, hcm, hat⟩, hb2⟩
    have HB2 := hide (HB1.out.trans (hb2.mono HB1.out.size))
    clear hb2 hat hk c1 c2 c3
    go_wp2_with fail
    go_ret
    exact ⟨rfl, HB2.out⟩

end Go.Proofs.Ytlefhfmckimlaaf.proofCatches
