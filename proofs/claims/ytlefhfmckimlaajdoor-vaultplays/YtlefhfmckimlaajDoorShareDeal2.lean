/-
  What Deal and Join of package share answer, whatever comes in, each as one law of its call.
-/
import Derived.Test.YtlefhfmckimlaajDoorShareDeal
set_option linter.unusedVariables false
namespace Go.Proofs.YtlefhfmckimlaajDoor
open Go.RowKit

theorem cells_cons (s : Int) (r : List Int) : (#[Value.int .i64 s] : Array Value).toList ++ cellsI r = cellsI (s :: r) := rfl

set_option maxRecDepth 100000 in
set_option maxHeartbeats 2000000 in
/-- Deal where nothing is wrong: the shares lie in a row of the call's own -/
theorem dealOkO (s : Int) (a : Option Addr) (n cap : Nat) (r : List Int) (m : Nat) (w : World) (hn : n = r.length) (hm : n ≤ maxLen) (hl : AtI w a r) (ht : Tidy a n cap) (hf : M.secE s r = 0) (h1 : 1 ≤ m) (h7 : m ≤ 7) (hlt : r.length < m) :
    Calls Tryd.prog 42 #[.int .i64 s, .slice a n cap, .int .i64 m] w fun e w' => (∃ g, e = .returned (.tuple #[.slice (some ⟨g, 0, none⟩) m m, .nilIface]) ∧ w'.ownsRow w.heap.size 31 2 (.slice (some ⟨g, 0, none⟩) m m) m (flatP (M.deal (s :: r) m))) ∧ Below w.heap.size w w' := by
  obtain ⟨i0, hi, hz0, hz1, hz2⟩ := info_parts infoInt
  have HI := hide (And.intro hi (And.intro hz0 (And.intro hz1 hz2)))
  have HC : Hid (Calls Tryd.prog 64 #[.int .i64 s, .slice a n cap] w fun e w' => e = .returned .nilIface ∧ w' = w) := hide (by
    have := sCheck s a n cap r w hn hm hl
    rwa [hf] at this)
  have HN : Hid (∀ wx, Calls Tryd.prog 46 #[.int .i64 (m : Int)] wx fun e w' => e = .returned (.bool true) ∧ w' = wx) := hide fun wx => by have := isCnt (m : Int) wx; rwa [M.cntB_mk (by omega) (by omega)] at this
  obtain ⟨⟨s0, s1⟩, hr6, hfr⟩ := M.secE_ok hf
  have HF := hide (M.facE_cons s0 s1 hr6 hfr)
  have HS : Hid (∀ (v : Value) (wx : World) (B : Nat), wx.ownsRow B 3 1 v (1 + n) (cellsI (s :: r)) → ∃ a1 c1, v = .slice a1 (1 + n) c1 ∧ Calls Tryd.prog 65 #[.slice a1 (1 + n) c1, .int .i64 m] wx fun e w' => (∃ g, e = .returned (.tuple #[.slice (some ⟨g, 0, none⟩) m m, .nilIface]) ∧ w'.ownsRow wx.heap.size 31 2 (.slice (some ⟨g, 0, none⟩) m m) m (flatP (M.deal (s :: r) m))) ∧ Below wx.heap.size wx w') := hide fun v wx B ho => by
    have hlen : 1 + n = (s :: r).length := by rw [List.length_cons]; omega
    obtain ⟨a1, c1, rfl, _, _, hat⟩ := atI_own hlen ho
    exact ⟨a1, c1, rfl, sharesOfO a1 (1 + n) c1 (s :: r) m wx hlen (by unfold maxLen; omega) hat HF.out h1 h7⟩
  have hle : ¬ (m : Int) ≤ (n : Int) := by omega
  have hn6 : n ≤ 6 := by omega
  have HL := hide hl
  have HR := hide hn
  have HLIT : Hid ((w.alloc (.cells #[.int .i64 s] 3)).ownsRow w.heap.size 3 1 (.slice (some ⟨w.heap.size, 0, none⟩) 1 1) 1 (#[Value.int .i64 s] : Array Value).toList) := hide (World.ownsRow_lit w #[.int .i64 s] 1 (Nat.le_refl _) (by decide) rfl)
  have HB1 : Hid (Below w.heap.size w (w.alloc (.cells #[.int .i64 s] 3))) := hide ((Below.refl _ w).alloc (Nat.le_refl _) _)
  clear hi hz0 hz1 hz2 hn hm hl hf s0 s1 hr6 hfr hlt
  cases a with
  | none =>
    obtain ⟨rfl, rfl⟩ := ht rfl
    have HNIL : Hid (r = []) := hide (List.length_eq_zero_iff.1 HR.out.symm)
    clear ht
    go_enter Tryd.func42, Tryd.ntmps42
    go_wp2_with fail
    refine (unhide HC).mono ?_
    rintro e w1 ⟨rfl, hw⟩
    obtain rfl := hw.symm
    go_wp2_with fail
    refine (unhide HN _).mono ?_
    rintro e w1 ⟨rfl, hw⟩
    obtain rfl := hw.symm
    go_wp2_with (at_builtin; refine wpList_append_own_none rfl (.tmp 25) (.tmp 26) 22 rfl w.heap.size 3 i0 1 Tryd.underlying22 HI.out.1 _ 1 _ rfl HLIT.out rfl ?_)
    obtain ⟨a1, c1, he, hcall⟩ := HS.out _ _ w.heap.size (by
      have h := HLIT.out
      rw [HNIL.out]
      exact h)
    cases he
    have HCALL := hide hcall
    clear hcall
    refine (unhide HCALL).mono ?_
    rintro e w3 ⟨⟨g, rfl, hat⟩, hb3⟩
    have HAT := hide (ownsRow_mono hat HB1.out.size)
    have HB3 := hide (HB1.out.trans (hb3.mono HB1.out.size))
    clear hat hb3
    go_wp2_with fail
    go_ret2
    exact ⟨⟨_, rfl, HAT.out⟩, HB3.out⟩
  | some ad =>
    clear ht
    go_enter Tryd.func42, Tryd.ntmps42
    go_wp2_with fail
    refine (unhide HC).mono ?_
    rintro e w1 ⟨rfl, hw⟩
    obtain rfl := hw.symm
    go_wp2_with fail
    refine (unhide HN _).mono ?_
    rintro e w1 ⟨rfl, hw⟩
    obtain rfl := hw.symm
    have HNEW : Hid (∀ j u, (cellsI r)[j]? = some u → (w.alloc (.cells #[.int .i64 s] 3)).cell? (ad.add j) = some u) := hide ((HL.out.stays HB1.out (Nat.le_refl _)).news)
    have HLEN : Hid ((cellsI r).length = n * 1) := hide (by rw [cellsI_len, ← HR.out, Nat.mul_one])
    go_wp2_with (at_builtin; refine wpList_append_own _ rfl (.tmp 25) (.tmp 26) 22 rfl w.heap.size 3 i0 (.int .i64 0) 1 8 Tryd.underlying22 HI.out.1 HI.out.2.1 HI.out.2.2.1 HI.out.2.2.2 rfl (by decide) (.slice (some ⟨w.heap.size, 0, none⟩) 1 1) 1 _ rfl HLIT.out ad n cap (cellsI r) rfl HLEN.out HNEW.out (cellsI_oneCell r) (by unfold maxLen; omega) (by omega) (by simp) ?_)
    intro v1 w2 hown hgrow _
    have HBX := hide (HB1.out.grown hgrow (by simp) (fun j hj => (HLIT.out.lt j hj).1))
    obtain ⟨a1, c1, rfl, hcall⟩ := HS.out v1 w2 w.heap.size hown
    have HCALL := hide hcall
    clear hown hgrow hcall
    go_wp2_with fail
    refine (unhide HCALL).mono ?_
    rintro e w3 ⟨⟨g, rfl, hat⟩, hb3⟩
    have HAT := hide (ownsRow_mono hat HBX.out.size)
    have HB3 := hide (HBX.out.trans (hb3.mono HBX.out.size))
    clear hat hb3
    go_wp2_with fail
    go_ret2
    exact ⟨⟨_, rfl, HAT.out⟩, HB3.out⟩
theorem dealOk (s : Int) (a : Option Addr) (n cap : Nat) (r : List Int) (m : Nat) (w : World) (hn : n = r.length) (hm : n ≤ maxLen) (hl : AtI w a r) (ht : Tidy a n cap) (hf : M.secE s r = 0) (h1 : 1 ≤ m) (h7 : m ≤ 7) (hlt : r.length < m) :
    Calls Tryd.prog 42 #[.int .i64 s, .slice a n cap, .int .i64 m] w fun e w' => (∃ g, e = .returned (.tuple #[.slice (some ⟨g, 0, none⟩) m m, .nilIface]) ∧ AtP w' (some ⟨g, 0, none⟩) (M.deal (s :: r) m)) ∧ Below w.heap.size w w' := by
  refine (dealOkO s a n cap r m w hn hm hl ht hf h1 h7 hlt).mono ?_
  rintro e w' ⟨⟨g, rfl, hrow⟩, hb⟩
  refine ⟨⟨g, rfl, ?_⟩, hb⟩
  obtain ⟨av, cv, hv, _, _, hat⟩ := atP_own (M.deal_len (s :: r) m).symm hrow
  cases hv
  exact hat

theorem sDeal (s : Int) (a : Option Addr) (n cap : Nat) (r : List Int) (m : Int) (w : World) (hn : n = r.length) (hm : n ≤ maxLen) (hl : AtI w a r) (ht : Tidy a n cap) :
    Calls Tryd.prog 42 #[.int .i64 s, .slice a n cap, .int .i64 m] w fun e w' => (∃ v k c, e = .returned (.tuple #[.slice v k c, errV (M.dealE s r m)]) ∧ k = (M.dealR s r m).length ∧ k ≤ c ∧ c ≤ maxLen ∧ AtP w' v (M.dealR s r m)) ∧ Below w.heap.size w w' := by
  have bad : ∀ {E : Int} {w' : World}, E ≠ 0 → M.dealE s r m = E → ∃ v k c, Ending.returned (.tuple #[.slice none 0 0, .iface 66 (.int .i64 E)]) = .returned (.tuple #[.slice v k c, errV (M.dealE s r m)]) ∧ k = (M.dealR s r m).length ∧ k ≤ c ∧ c ≤ maxLen ∧ AtP w' v (M.dealR s r m) := fun {E w'} hE h => by
    rw [M.dealR_bad (by rw [h]; exact hE), h, errV_bad hE]
    exact ⟨none, 0, 0, rfl, rfl, Nat.le_refl _, Nat.zero_le _, fun h0 => absurd h0 (by decide)⟩
  by_cases hf : M.secE s r = 0
  · cases hc : M.cntB m
    · refine (dealCnt s a n cap r m w hn hm hl hf hc).mono ?_
      rintro e w' ⟨rfl, hb⟩
      exact ⟨bad (by decide) (M.dealE_cnt hf hc), hb⟩
    · by_cases hfew : m ≤ (r.length : Int)
      · refine (dealFew s a n cap r m w hn hm hl hf hc hfew).mono ?_
        rintro e w' ⟨rfl, hb⟩
        exact ⟨bad (by decide) (M.dealE_few hf hc hfew), hb⟩
      · have e0 := M.dealE_0 hf hc hfew
        obtain ⟨c1, c7⟩ := M.cntB_yes hc
        obtain ⟨k, rfl⟩ : ∃ k : Nat, m = k := ⟨m.toNat, by omega⟩
        have hR : M.dealR s r (k : Int) = M.deal (s :: r) k := by rw [M.dealR_ok e0, Int.toNat_natCast]
        rw [e0, hR]
        refine (dealOk s a n cap r k w hn hm hl ht hf (by omega) (by omega) (by omega)).mono ?_
        rintro e w' ⟨⟨g, rfl, hat⟩, hb⟩
        exact ⟨⟨some ⟨g, 0, none⟩, k, k, rfl, (M.deal_len _ _).symm, Nat.le_refl _, by unfold maxLen; omega, hat⟩, hb⟩
  · refine (dealSec s a n cap r m w hn hm hl hf).mono ?_
    rintro e w' ⟨rfl, hb⟩
    exact ⟨bad hf (M.dealE_sec hf), hb⟩

theorem joinCnt (a : Option Addr) (n cap : Nat) (k : Int) (w : World) (hc : M.cntB k = false) :
    Calls Tryd.prog 29 #[.slice a n cap, .int .i64 k] w fun e w' => e = .returned (.tuple #[.int .i64 0, .iface 66 (.int .i64 1)]) ∧ Below w.heap.size w w' := by
  have HN : Hid (∀ wx, Calls Tryd.prog 46 #[.int .i64 k] wx fun e w' => e = .returned (.bool false) ∧ w' = wx) := hide fun wx => by have := isCnt k wx; rwa [hc] at this
  clear hc
  go_enter Tryd.func29, Tryd.ntmps29
  go_wp2_with fail
  refine (unhide HN _).mono ?_
  rintro e w1 ⟨rfl, hw⟩
  obtain rfl := hw.symm
  go_wp2_with fail
  go_ret2
  exact ⟨rfl, Below.refl _ _⟩

theorem joinPts (a : Option Addr) (n cap : Nat) (l : List (Int × Int)) (k : Int) (w : World) (hn : n = l.length) (hcap : n ≤ cap) (hcm : cap ≤ maxLen) (hl : AtP w a l) (hc : M.cntB k = true) (hf : M.ptsE l ≠ 0) :
    Calls Tryd.prog 29 #[.slice a n cap, .int .i64 k] w fun e w' => e = .returned (.tuple #[.int .i64 0, .iface 66 (.int .i64 (M.ptsE l))]) ∧ Below w.heap.size w w' := by
  have HN : Hid (∀ wx, Calls Tryd.prog 46 #[.int .i64 k] wx fun e w' => e = .returned (.bool true) ∧ w' = wx) := hide fun wx => by have := isCnt k wx; rwa [hc] at this
  have HZ : Hid (Calls Tryd.prog 47 #[.slice a n cap] w fun e w' => e = .returned (.tuple #[.int .i64 (M.nxR l 0), .iface 66 (.int .i64 (M.ptsE l))]) ∧ Below w.heap.size w w') := hide (by
    have := pZero a n cap l w hn hcap hcm hl
    rwa [errV_bad hf] at this)
  clear hc hn hcap hcm hl hf
  go_enter Tryd.func29, Tryd.ntmps29
  go_wp2_with fail
  refine (unhide HN _).mono ?_
  rintro e w1 ⟨rfl, hw⟩
  obtain rfl := hw.symm
  go_wp2_with fail
  refine (unhide HZ).mono ?_
  rintro e w1 ⟨rfl, hb1⟩
  go_wp2_with fail
  go_ret2
  exact ⟨rfl, hb1⟩

theorem joinFew (a : Option Addr) (n cap : Nat) (l : List (Int × Int)) (k : Int) (w : World) (hn : n = l.length) (hcap : n ≤ cap) (hcm : cap ≤ maxLen) (hl : AtP w a l) (hc : M.cntB k = true) (hf : M.ptsE l = 0) (hfew : (l.length : Int) < k) :
    Calls Tryd.prog 29 #[.slice a n cap, .int .i64 k] w fun e w' => e = .returned (.tuple #[.int .i64 0, .iface 66 (.int .i64 5)]) ∧ Below w.heap.size w w' := by
  have HN : Hid (∀ wx, Calls Tryd.prog 46 #[.int .i64 k] wx fun e w' => e = .returned (.bool true) ∧ w' = wx) := hide fun wx => by have := isCnt k wx; rwa [hc] at this
  have HZ : Hid (Calls Tryd.prog 47 #[.slice a n cap] w fun e w' => e = .returned (.tuple #[.int .i64 (M.nxR l 0), .nilIface]) ∧ Below w.heap.size w w') := hide (by
    have := pZero a n cap l w hn hcap hcm hl
    rwa [hf] at this)
  have hlt : (n : Int) < k := by omega
  unfold maxLen at hcm
  clear hc hn hl hf hfew
  go_enter Tryd.func29, Tryd.ntmps29
  go_wp2_with fail
  refine (unhide HN _).mono ?_
  rintro e w1 ⟨rfl, hw⟩
  obtain rfl := hw.symm
  go_wp2_with fail
  refine (unhide HZ).mono ?_
  rintro e w1 ⟨rfl, hb1⟩
  have HB1 := hide hb1
  clear hb1
  go_wp2_with fail
  go_ret2
  exact ⟨rfl, HB1.out⟩

theorem joinOk (a : Option Addr) (n cap : Nat) (l : List (Int × Int)) (k : Nat) (w : World) (hn : n = l.length) (hcap : n ≤ cap) (hcm : cap ≤ maxLen) (hl : AtP w a l) (h1 : 1 ≤ k) (h7 : k ≤ 7) (hf : M.ptsE l = 0) (hk : k ≤ n) :
    Calls Tryd.prog 29 #[.slice a n cap, .int .i64 k] w fun e w' => e = .returned (.tuple #[.int .i64 (M.next (l.take k) 0), .nilIface]) ∧ Below w.heap.size w w' := by
  have HN : Hid (∀ wx, Calls Tryd.prog 46 #[.int .i64 (k : Int)] wx fun e w' => e = .returned (.bool true) ∧ w' = wx) := hide fun wx => by have := isCnt (k : Int) wx; rwa [M.cntB_mk (by omega) (by omega)] at this
  have HZ : Hid (Calls Tryd.prog 47 #[.slice a n cap] w fun e w' => e = .returned (.tuple #[.int .i64 (M.nxR l 0), .nilIface]) ∧ Below w.heap.size w w') := hide (by
    have := pZero a n cap l w hn hcap hcm hl
    rwa [hf] at this)
  obtain ⟨b, off, rfl, g⟩ := hl (by omega)
  have e1 := M.ptsE_take hf (k := k) (by omega) (by omega)
  have HT : Hid (∀ wx, Below w.heap.size w wx → Calls Tryd.prog 47 #[.slice (some ⟨b, off, none⟩) k cap] wx fun e w' => e = .returned (.tuple #[.int .i64 (M.next (l.take k) 0), .nilIface]) ∧ Below wx.heap.size wx w') := hide fun wx hb => by
    have := pZero (some ⟨b, off, none⟩) k cap (l.take k) wx (by rw [List.length_take]; omega) (by omega) hcm (fun _ => ⟨b, off, rfl, (g.stays hb (Nat.le_refl _)).take k⟩)
    rwa [M.nxR_ok (by rw [M.nxE_zero]; exact e1), e1] at this
  generalize M.next (l.take k) 0 = z at HT ⊢
  have hlt : ¬ (n : Int) < (k : Int) := by omega
  unfold maxLen at hcm
  clear hn hl hf g e1
  go_enter Tryd.func29, Tryd.ntmps29
  go_wp2_with fail
  refine (unhide HN _).mono ?_
  rintro e w1 ⟨rfl, hw⟩
  obtain rfl := hw.symm
  go_wp2_with fail
  refine (unhide HZ).mono ?_
  rintro e w1 ⟨rfl, hb1⟩
  have HB1 := hide hb1
  clear hb1
  go_wp2_with fail
  refine (HT.out _ HB1.out).mono ?_
  rintro e w2 ⟨rfl, hb2⟩
  have HB2 := hide (HB1.out.trans (hb2.mono HB1.out.size))
  clear hb2
  go_wp2_with fail
  go_ret2
  exact ⟨rfl, HB2.out⟩

theorem sJoin (a : Option Addr) (n cap : Nat) (l : List (Int × Int)) (k : Int) (w : World) (hn : n = l.length) (hcap : n ≤ cap) (hcm : cap ≤ maxLen) (hl : AtP w a l) :
    Calls Tryd.prog 29 #[.slice a n cap, .int .i64 k] w fun e w' => e = .returned (.tuple #[.int .i64 (M.joinR l k), errV (M.joinE l k)]) ∧ Below w.heap.size w w' := by
  cases hc : M.cntB k
  · have h := M.joinE_cnt (l := l) hc
    rw [M.joinR_bad (by rw [h]; decide), h]
    exact joinCnt a n cap k w hc
  · by_cases hf : M.ptsE l = 0
    · by_cases hfew : (l.length : Int) < k
      · have h := M.joinE_few hc hf hfew
        rw [M.joinR_bad (by rw [h]; decide), h]
        exact joinFew a n cap l k w hn hcap hcm hl hc hf hfew
      · have h := M.joinE_0 hc hf hfew
        obtain ⟨c1, c7⟩ := M.cntB_yes hc
        obtain ⟨m, rfl⟩ : ∃ m : Nat, k = m := ⟨k.toNat, by omega⟩
        rw [M.joinR_ok h, h, Int.toNat_natCast]
        exact joinOk a n cap l m w hn hcap hcm hl (by omega) (by omega) hf (by omega)
    · have h := M.joinE_pts hc hf
      rw [M.joinR_bad (by rw [h]; exact hf), h, errV_bad hf]
      exact joinPts a n cap l k w hn hcap hcm hl hc hf

end Go.Proofs.YtlefhfmckimlaajDoor
