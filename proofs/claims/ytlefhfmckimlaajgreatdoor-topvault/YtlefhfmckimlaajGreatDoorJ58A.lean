/-
  What Deal and Join of package share answer, whatever comes in, each as one law of its call.
  What Commit of package proof does, as one law of its call.
-/
import Derived.Test.YtlefhfmckimlaajGreatDoorJ57A
import Derived.Test.YtlefhfmckimlaajGreatDoorProofCheck
set_option linter.unusedVariables false
namespace Go.Proofs.YtlefhfmckimlaajGreatDoor
open Go.RowKit

theorem cells_cons (s : Int) (r : List Int) : (#[Value.int .i64 s] : Array Value).toList ++ cellsI r = cellsI (s :: r) := rfl

set_option maxRecDepth 100000 in
set_option maxHeartbeats 2000000 in
/-- Deal where nothing is wrong: the shares lie in a row of the call's own -/
theorem dealOkO (s : Int) (a : Option Addr) (n cap : Nat) (r : List Int) (m : Nat) (w : World) (hn : n = r.length) (hm : n ≤ maxLen) (hl : AtI w a r) (ht : Tidy a n cap) (hf : M.secE s r = 0) (h1 : 1 ≤ m) (h7 : m ≤ 7) (hlt : r.length < m) :
    Calls Tryz.prog 52 #[.int .i64 s, .slice a n cap, .int .i64 m] w fun e w' => (∃ g, e = .returned (.tuple #[.slice (some ⟨g, 0, none⟩) m m, .nilIface]) ∧ w'.ownsRow w.heap.size 37 2 (.slice (some ⟨g, 0, none⟩) m m) m (flatP (M.deal (s :: r) m))) ∧ Below w.heap.size w w' := by
  obtain ⟨i0, hi, hz0, hz1, hz2⟩ := info_parts infoInt
  have HI := hide (And.intro hi (And.intro hz0 (And.intro hz1 hz2)))
  have HC : Hid (Calls Tryz.prog 81 #[.int .i64 s, .slice a n cap] w fun e w' => e = .returned .nilIface ∧ w' = w) := hide (by
    have := sCheck s a n cap r w hn hm hl
    rwa [hf] at this)
  have HN : Hid (∀ wx, Calls Tryz.prog 56 #[.int .i64 (m : Int)] wx fun e w' => e = .returned (.bool true) ∧ w' = wx) := hide fun wx => by have := isCnt (m : Int) wx; rwa [M.cntB_mk (by omega) (by omega)] at this
  obtain ⟨⟨s0, s1⟩, hr6, hfr⟩ := M.secE_ok hf
  have HF := hide (M.facE_cons s0 s1 hr6 hfr)
  have HS : Hid (∀ (v : Value) (wx : World) (B : Nat), wx.ownsRow B 3 1 v (1 + n) (cellsI (s :: r)) → ∃ a1 c1, v = .slice a1 (1 + n) c1 ∧ Calls Tryz.prog 82 #[.slice a1 (1 + n) c1, .int .i64 m] wx fun e w' => (∃ g, e = .returned (.tuple #[.slice (some ⟨g, 0, none⟩) m m, .nilIface]) ∧ w'.ownsRow wx.heap.size 37 2 (.slice (some ⟨g, 0, none⟩) m m) m (flatP (M.deal (s :: r) m))) ∧ Below wx.heap.size wx w') := hide fun v wx B ho => by
    have hlen : 1 + n = (s :: r).length := by rw [List.length_cons]; omega
    obtain ⟨a1, c1, rfl, _, _, hat⟩ := atI_own hlen ho
    exact ⟨a1, c1, rfl, sharesOfO a1 (1 + n) c1 (s :: r) m wx hlen (by unfold maxLen; omega) hat HF.out h1 h7⟩
  have hle : ¬ (m : Int) ≤ (n : Int) := by omega
  have hn6 : n ≤ 6 := by omega
  have HL := hide hl
  have HR := hide hn
  have HLIT : Hid ((w.alloc (.cells #[.int .i64 s] 3)).ownsRow w.heap.size 3 1 (.slice (some ⟨w.heap.size, 0, none⟩) 1 1) 1 (#[Value.int .i64 s] : Array Value).toList) := hide (World.ownsRow_lit w #[.int .i64 s] 1 (Nat.le_refl _) (by decide) rfl)
  have HB1 : Hid (Below w.heap.size w (w.alloc (.cells #[.int .i64 s] 3))) := hide ((Below.refl _ w).alloc (Nat.le_refl _) _)
  clear hi hz0 hz1 hz2 hn hm hl hf s0 s1 hr6 hfr hlt
  cases a with
  | none =>
    obtain ⟨rfl, rfl⟩ := ht rfl
    have HNIL : Hid (r = []) := hide (List.length_eq_zero_iff.1 HR.out.symm)
    clear ht
    go_enter Tryz.func52, Tryz.ntmps52
    go_wp2_with fail
    refine (unhide HC).mono ?_
    rintro e w1 ⟨rfl, hw⟩
    obtain rfl := hw.symm
    go_wp2_with fail
    refine (unhide HN _).mono ?_
    rintro e w1 ⟨rfl, hw⟩
    obtain rfl := hw.symm
    go_wp2_with (at_builtin; refine wpList_append_own_none rfl (.tmp 25) (.tmp 26) 23 rfl w.heap.size 3 i0 1 Tryz.underlying23 HI.out.1 _ 1 _ rfl HLIT.out rfl ?_)
    obtain ⟨a1, c1, he, hcall⟩ := HS.out _ _ w.heap.size (by
      have h := HLIT.out
      rw [HNIL.out]
      exact h)
    cases he
    have HCALL := hide hcall
    clear hcall
    refine (unhide HCALL).mono ?_
    rintro e w3 ⟨⟨g, rfl, hat⟩, hb3⟩
    have HAT := hide (ownsRow_mono hat HB1.out.size)
    have HB3 := hide (HB1.out.trans (hb3.mono HB1.out.size))
    clear hat hb3
    go_wp2_with fail
    go_ret2
    exact ⟨⟨_, rfl, HAT.out⟩, HB3.out⟩
  | some ad =>
    clear ht
    go_enter Tryz.func52, Tryz.ntmps52
    go_wp2_with fail
    refine (unhide HC).mono ?_
    rintro e w1 ⟨rfl, hw⟩
    obtain rfl := hw.symm
    go_wp2_with fail
    refine (unhide HN _).mono ?_
    rintro e w1 ⟨rfl, hw⟩
    obtain rfl := hw.symm
    have HNEW : Hid (∀ j u, (cellsI r)[j]? = some u → (w.alloc (.cells #[.int .i64 s] 3)).cell? (ad.add j) = some u) := hide ((HL.out.stays HB1.out (Nat.le_refl _)).news)
    have HLEN : Hid ((cellsI r).length = n * 1) := hide (by rw [cellsI_len, ← HR.out, Nat.mul_one])
    go_wp2_with (at_builtin; refine wpList_append_own _ rfl (.tmp 25) (.tmp 26) 23 rfl w.heap.size 3 i0 (.int .i64 0) 1 8 Tryz.underlying23 HI.out.1 HI.out.2.1 HI.out.2.2.1 HI.out.2.2.2 rfl (by decide) (.slice (some ⟨w.heap.size, 0, none⟩) 1 1) 1 _ rfl HLIT.out ad n cap (cellsI r) rfl HLEN.out HNEW.out (cellsI_oneCell r) (by unfold maxLen; omega) (by omega) (by simp) ?_)
    intro v1 w2 hown hgrow _
    have HBX := hide (HB1.out.grown hgrow (by simp) (fun j hj => (HLIT.out.lt j hj).1))
    obtain ⟨a1, c1, rfl, hcall⟩ := HS.out v1 w2 w.heap.size hown
    have HCALL := hide hcall
    clear hown hgrow hcall
    go_wp2_with fail
    refine (unhide HCALL).mono ?_
    rintro e w3 ⟨⟨g, rfl, hat⟩, hb3⟩
    have HAT := hide (ownsRow_mono hat HBX.out.size)
    have HB3 := hide (HBX.out.trans (hb3.mono HBX.out.size))
    clear hat hb3
    go_wp2_with fail
    go_ret2
    exact ⟨⟨_, rfl, HAT.out⟩, HB3.out⟩
theorem dealOk (s : Int) (a : Option Addr) (n cap : Nat) (r : List Int) (m : Nat) (w : World) (hn : n = r.length) (hm : n ≤ maxLen) (hl : AtI w a r) (ht : Tidy a n cap) (hf : M.secE s r = 0) (h1 : 1 ≤ m) (h7 : m ≤ 7) (hlt : r.length < m) :
    Calls Tryz.prog 52 #[.int .i64 s, .slice a n cap, .int .i64 m] w fun e w' => (∃ g, e = .returned (.tuple #[.slice (some ⟨g, 0, none⟩) m m, .nilIface]) ∧ AtP w' (some ⟨g, 0, none⟩) (M.deal (s :: r) m)) ∧ Below w.heap.size w w' := by
  refine (dealOkO s a n cap r m w hn hm hl ht hf h1 h7 hlt).mono ?_
  rintro e w' ⟨⟨g, rfl, hrow⟩, hb⟩
  refine ⟨⟨g, rfl, ?_⟩, hb⟩
  obtain ⟨av, cv, hv, _, _, hat⟩ := atP_own (M.deal_len (s :: r) m).symm hrow
  cases hv
  exact hat

theorem sDeal (s : Int) (a : Option Addr) (n cap : Nat) (r : List Int) (m : Int) (w : World) (hn : n = r.length) (hm : n ≤ maxLen) (hl : AtI w a r) (ht : Tidy a n cap) :
    Calls Tryz.prog 52 #[.int .i64 s, .slice a n cap, .int .i64 m] w fun e w' => (∃ v k c, e = .returned (.tuple #[.slice v k c, errV (M.dealE s r m)]) ∧ k = (M.dealR s r m).length ∧ k ≤ c ∧ c ≤ maxLen ∧ AtP w' v (M.dealR s r m)) ∧ Below w.heap.size w w' := by
  have bad : ∀ {E : Int} {w' : World}, E ≠ 0 → M.dealE s r m = E → ∃ v k c, Ending.returned (.tuple #[.slice none 0 0, .iface 66 (.int .i64 E)]) = .returned (.tuple #[.slice v k c, errV (M.dealE s r m)]) ∧ k = (M.dealR s r m).length ∧ k ≤ c ∧ c ≤ maxLen ∧ AtP w' v (M.dealR s r m) := fun {E w'} hE h => by
    rw [M.dealR_bad (by rw [h]; exact hE), h, errV_bad hE]
    exact ⟨none, 0, 0, rfl, rfl, Nat.le_refl _, Nat.zero_le _, fun h0 => absurd h0 (by decide)⟩
  by_cases hf : M.secE s r = 0
  · cases hc : M.cntB m
    · refine (dealCnt s a n cap r m w hn hm hl hf hc).mono ?_
      rintro e w' ⟨rfl, hb⟩
      exact ⟨bad (by decide) (M.dealE_cnt hf hc), hb⟩
    · by_cases hfew : m ≤ (r.length : Int)
      · refine (dealFew s a n cap r m w hn hm hl hf hc hfew).mono ?_
        rintro e w' ⟨rfl, hb⟩
        exact ⟨bad (by decide) (M.dealE_few hf hc hfew), hb⟩
      · have e0 := M.dealE_0 hf hc hfew
        obtain ⟨c1, c7⟩ := M.cntB_yes hc
        obtain ⟨k, rfl⟩ : ∃ k : Nat, m = k := ⟨m.toNat, by omega⟩
        have hR : M.dealR s r (k : Int) = M.deal (s :: r) k := by rw [M.dealR_ok e0, Int.toNat_natCast]
        rw [e0, hR]
        refine (dealOk s a n cap r k w hn hm hl ht hf (by omega) (by omega) (by omega)).mono ?_
        rintro e w' ⟨⟨g, rfl, hat⟩, hb⟩
        exact ⟨⟨some ⟨g, 0, none⟩, k, k, rfl, (M.deal_len _ _).symm, Nat.le_refl _, by unfold maxLen; omega, hat⟩, hb⟩
  · refine (dealSec s a n cap r m w hn hm hl hf).mono ?_
    rintro e w' ⟨rfl, hb⟩
    exact ⟨bad hf (M.dealE_sec hf), hb⟩

theorem joinCnt (a : Option Addr) (n cap : Nat) (k : Int) (w : World) (hc : M.cntB k = false) :
    Calls Tryz.prog 31 #[.slice a n cap, .int .i64 k] w fun e w' => e = .returned (.tuple #[.int .i64 0, .iface 66 (.int .i64 1)]) ∧ Below w.heap.size w w' := by
  have HN : Hid (∀ wx, Calls Tryz.prog 56 #[.int .i64 k] wx fun e w' => e = .returned (.bool false) ∧ w' = wx) := hide fun wx => by have := isCnt k wx; rwa [hc] at this
  clear hc
  go_enter Tryz.func31, Tryz.ntmps31
  go_wp2_with fail
  refine (unhide HN _).mono ?_
  rintro e w1 ⟨rfl, hw⟩
  obtain rfl := hw.symm
  go_wp2_with fail
  go_ret2
  exact ⟨rfl, Below.refl _ _⟩

theorem joinPts (a : Option Addr) (n cap : Nat) (l : List (Int × Int)) (k : Int) (w : World) (hn : n = l.length) (hcap : n ≤ cap) (hcm : cap ≤ maxLen) (hl : AtP w a l) (hc : M.cntB k = true) (hf : M.ptsE l ≠ 0) :
    Calls Tryz.prog 31 #[.slice a n cap, .int .i64 k] w fun e w' => e = .returned (.tuple #[.int .i64 0, .iface 66 (.int .i64 (M.ptsE l))]) ∧ Below w.heap.size w w' := by
  have HN : Hid (∀ wx, Calls Tryz.prog 56 #[.int .i64 k] wx fun e w' => e = .returned (.bool true) ∧ w' = wx) := hide fun wx => by have := isCnt k wx; rwa [hc] at this
  have HZ : Hid (Calls Tryz.prog 57 #[.slice a n cap] w fun e w' => e = .returned (.tuple #[.int .i64 (M.nxR l 0), .iface 66 (.int .i64 (M.ptsE l))]) ∧ Below w.heap.size w w') := hide (by
    have := pZero a n cap l w hn hcap hcm hl
    rwa [errV_bad hf] at this)
  clear hc hn hcap hcm hl hf
  go_enter Tryz.func31, Tryz.ntmps31
  go_wp2_with fail
  refine (unhide HN _).mono ?_
  rintro e w1 ⟨rfl, hw⟩
  obtain rfl := hw.symm
  go_wp2_with fail
  refine (unhide HZ).mono ?_
  rintro e w1 ⟨rfl, hb1⟩
  go_wp2_with fail
  go_ret2
  exact ⟨rfl, hb1⟩

theorem joinFew (a : Option Addr) (n cap : Nat) (l : List (Int × Int)) (k : Int) (w : World) (hn : n = l.length) (hcap : n ≤ cap) (hcm : cap ≤ maxLen) (hl : AtP w a l) (hc : M.cntB k = true) (hf : M.ptsE l = 0) (hfew : (l.length : Int) < k) :
    Calls Tryz.prog 31 #[.slice a n cap, .int .i64 k] w fun e w' => e = .returned (.tuple #[.int .i64 0, .iface 66 (.int .i64 5)]) ∧ Below w.heap.size w w' := by
  have HN : Hid (∀ wx, Calls Tryz.prog 56 #[.int .i64 k] wx fun e w' => e = .returned (.bool true) ∧ w' = wx) := hide fun wx => by have := isCnt k wx; rwa [hc] at this
  have HZ : Hid (Calls Tryz.prog 57 #[.slice a n cap] w fun e w' => e = .returned (.tuple #[.int .i64 (M.nxR l 0), .nilIface]) ∧ Below w.heap.size w w') := hide (by
    have := pZero a n cap l w hn hcap hcm hl
    rwa [hf] at this)
  have hlt : (n : Int) < k := by omega
  unfold maxLen at hcm
  clear hc hn hl hf hfew
  go_enter Tryz.func31, Tryz.ntmps31
  go_wp2_with fail
  refine (unhide HN _).mono ?_
  rintro e w1 ⟨rfl, hw⟩
  obtain rfl := hw.symm
  go_wp2_with fail
  refine (unhide HZ).mono ?_
  rintro e w1 ⟨rfl, hb1⟩
  have HB1 := hide hb1
  clear hb1
  go_wp2_with fail
  go_ret2
  exact ⟨rfl, HB1.out⟩

theorem joinOk (a : Option Addr) (n cap : Nat) (l : List (Int × Int)) (k : Nat) (w : World) (hn : n = l.length) (hcap : n ≤ cap) (hcm : cap ≤ maxLen) (hl : AtP w a l) (h1 : 1 ≤ k) (h7 : k ≤ 7) (hf : M.ptsE l = 0) (hk : k ≤ n) :
    Calls Tryz.prog 31 #[.slice a n cap, .int .i64 k] w fun e w' => e = .returned (.tuple #[.int .i64 (M.next (l.take k) 0), .nilIface]) ∧ Below w.heap.size w w' := by
  have HN : Hid (∀ wx, Calls Tryz.prog 56 #[.int .i64 (k : Int)] wx fun e w' => e = .returned (.bool true) ∧ w' = wx) := hide fun wx => by have := isCnt (k : Int) wx; rwa [M.cntB_mk (by omega) (by omega)] at this
  have HZ : Hid (Calls Tryz.prog 57 #[.slice a n cap] w fun e w' => e = .returned (.tuple #[.int .i64 (M.nxR l 0), .nilIface]) ∧ Below w.heap.size w w') := hide (by
    have := pZero a n cap l w hn hcap hcm hl
    rwa [hf] at this)
  obtain ⟨b, off, rfl, g⟩ := hl (by omega)
  have e1 := M.ptsE_take hf (k := k) (by omega) (by omega)
  have HT : Hid (∀ wx, Below w.heap.size w wx → Calls Tryz.prog 57 #[.slice (some ⟨b, off, none⟩) k cap] wx fun e w' => e = .returned (.tuple #[.int .i64 (M.next (l.take k) 0), .nilIface]) ∧ Below wx.heap.size wx w') := hide fun wx hb => by
    have := pZero (some ⟨b, off, none⟩) k cap (l.take k) wx (by rw [List.length_take]; omega) (by omega) hcm (fun _ => ⟨b, off, rfl, (g.stays hb (Nat.le_refl _)).take k⟩)
    rwa [M.nxR_ok (by rw [M.nxE_zero]; exact e1), e1] at this
  generalize M.next (l.take k) 0 = z at HT ⊢
  have hlt : ¬ (n : Int) < (k : Int) := by omega
  unfold maxLen at hcm
  clear hn hl hf g e1
  go_enter Tryz.func31, Tryz.ntmps31
  go_wp2_with fail
  refine (unhide HN _).mono ?_
  rintro e w1 ⟨rfl, hw⟩
  obtain rfl := hw.symm
  go_wp2_with fail
  refine (unhide HZ).mono ?_
  rintro e w1 ⟨rfl, hb1⟩
  have HB1 := hide hb1
  clear hb1
  go_wp2_with fail
  refine (HT.out _ HB1.out).mono ?_
  rintro e w2 ⟨rfl, hb2⟩
  have HB2 := hide (HB1.out.trans (hb2.mono HB1.out.size))
  clear hb2
  go_wp2_with fail
  go_ret2
  exact ⟨rfl, HB2.out⟩

theorem sJoin (a : Option Addr) (n cap : Nat) (l : List (Int × Int)) (k : Int) (w : World) (hn : n = l.length) (hcap : n ≤ cap) (hcm : cap ≤ maxLen) (hl : AtP w a l) :
    Calls Tryz.prog 31 #[.slice a n cap, .int .i64 k] w fun e w' => e = .returned (.tuple #[.int .i64 (M.joinR l k), errV (M.joinE l k)]) ∧ Below w.heap.size w w' := by
  cases hc : M.cntB k
  · have h := M.joinE_cnt (l := l) hc
    rw [M.joinR_bad (by rw [h]; decide), h]
    exact joinCnt a n cap k w hc
  · by_cases hf : M.ptsE l = 0
    · by_cases hfew : (l.length : Int) < k
      · have h := M.joinE_few hc hf hfew
        rw [M.joinR_bad (by rw [h]; decide), h]
        exact joinFew a n cap l k w hn hcap hcm hl hc hf hfew
      · have h := M.joinE_0 hc hf hfew
        obtain ⟨c1, c7⟩ := M.cntB_yes hc
        obtain ⟨m, rfl⟩ : ∃ m : Nat, k = m := ⟨k.toNat, by omega⟩
        rw [M.joinR_ok h, h, Int.toNat_natCast]
        exact joinOk a n cap l m w hn hcap hcm hl (by omega) (by omega) hf (by omega)
    · have h := M.joinE_pts hc hf
      rw [M.joinR_bad (by rw [h]; exact hf), h, errV_bad hf]
      exact joinPts a n cap l k w hn hcap hcm hl hc hf

end Go.Proofs.YtlefhfmckimlaajGreatDoor

set_option linter.unusedVariables false
namespace Go.Proofs.YtlefhfmckimlaajGreatDoor
open Go.RowKit

theorem made_ints : ∀ m : Nat, m ≤ 7 → (madeCells #[.int .i64 0] m).toList = cellsI (List.replicate m 0)
  | 0, _ => by kernel_rfl
  | 1, _ => by kernel_rfl
  | 2, _ => by kernel_rfl
  | 3, _ => by kernel_rfl
  | 4, _ => by kernel_rfl
  | 5, _ => by kernel_rfl
  | 6, _ => by kernel_rfl
  | 7, _ => by kernel_rfl
  | m + 8, h => absurd h (by omega)
/-- what is committed to so far, and nothing behind it -/
def halfC (p : List Int) (k : Nat) : List Int := M.commits (p.take k) ++ List.replicate (p.length - k) 0
theorem halfC_len (p : List Int) {k : Nat} (h : k ≤ p.length) : (halfC p k).length = p.length := by
  unfold halfC; rw [List.length_append, M.commits_len, List.length_replicate, List.length_take]; omega
theorem halfC_zero (p : List Int) : halfC p 0 = List.replicate p.length 0 := rfl
theorem halfC_all (p : List Int) : halfC p p.length = M.commits p := by
  unfold halfC; rw [Nat.sub_self, List.replicate_zero, List.append_nil, List.take_of_length_le (Nat.le_refl _)]
theorem halfC_next (p : List Int) {k : Nat} (h : k < p.length) : (halfC p k).set k (M.gI p[k]) = halfC p (k + 1) := by
  unfold halfC
  have e : p.length - k = (p.length - (k + 1)) + 1 := by omega
  have hl : (M.commits (p.take k)).length = k := by rw [M.commits_len, List.length_take]; omega
  rw [e, List.replicate_succ, List.set_append_right _ _ (by rw [hl]; exact Nat.le_refl _), hl, Nat.sub_self, List.set_cons_zero, List.take_succ_eq_append_getElem h, M.commits_snoc, List.append_assoc, List.singleton_append]
theorem cellsI_set (l : List Int) (i : Nat) (z : Int) : (cellsI l).set i (.int .i64 z) = cellsI (l.set i z) := by
  unfold cellsI; rw [List.map_set]

theorem comNone (a : Option Addr) (cap : Nat) (w : World) :
    Calls Tryz.prog 53 #[.slice a 0 cap] w fun e w' => e = .returned (.tuple #[.slice none 0 0, .iface 66 (.int .i64 5)]) ∧ Below w.heap.size w w' := by
  go_enter Tryz.func53, Tryz.ntmps53
  go_wp2
  go_ret2
  exact ⟨rfl, Below.refl _ _⟩

theorem comFac (a : Option Addr) (n cap : Nat) (p : List Int) (w : World) (hn : n = p.length) (hm : n ≤ maxLen) (hl : AtI w a p) (h0 : n ≠ 0) (hf : M.facE p ≠ 0) :
    Calls Tryz.prog 53 #[.slice a n cap] w fun e w' => e = .returned (.tuple #[.slice none 0 0, .iface 66 (.int .i64 (M.facE p))]) ∧ Below w.heap.size w w' := by
  have HA : Hid (Calls Tryz.prog 83 #[.slice a n cap, .int .i64 0] w fun e w' => e = .returned (.tuple #[.int .i64 (M.atR p 0), .iface 66 (.int .i64 (M.facE p))]) ∧ Below w.heap.size w w') := hide (by
    have := pAt a n cap p 0 w hn hm hl
    rwa [M.atE_fac hf, errV_bad hf] at this)
  have hz : ¬ (n : Int) = 0 := by omega
  unfold maxLen at hm
  clear hn hl hf h0
  go_enter Tryz.func53, Tryz.ntmps53
  go_wp2_with fail
  refine (unhide HA).mono ?_
  rintro e w1 ⟨rfl, hb1⟩
  go_wp2_with fail
  go_ret2
  exact ⟨rfl, hb1⟩

set_option maxRecDepth 100000 in
set_option maxHeartbeats 2000000 in
theorem comOkO (a : Option Addr) (n cap : Nat) (p : List Int) (w : World) (hn : n = p.length) (hl : AtI w a p) (h0 : n ≠ 0) (hf : M.facE p = 0) :
    Calls Tryz.prog 53 #[.slice a n cap] w fun e w' => (∃ g, e = .returned (.tuple #[.slice (some ⟨g, 0, none⟩) n n, .nilIface]) ∧ w'.ownsRow w.heap.size 3 1 (.slice (some ⟨g, 0, none⟩) n n) n (cellsI (M.commits p))) ∧ Below w.heap.size w w' := by
  obtain ⟨i0, hi, hz0, hz1, hz2⟩ := info_parts infoInt
  have HI := hide (And.intro hi (And.intro hz0 (And.intro hz1 hz2)))
  obtain ⟨h7, hr⟩ := M.facE_ok hf
  have hn7 : n ≤ 7 := by omega
  have HA : Hid (Calls Tryz.prog 83 #[.slice a n cap, .int .i64 0] w fun e w' => e = .returned (.tuple #[.int .i64 (M.atR p 0), .nilIface]) ∧ Below w.heap.size w w') := hide (by
    have := pAt a n cap p 0 w hn (by unfold maxLen; omega) hl
    rwa [M.atE_0 hf (by decide)] at this)
  have hz : ¬ (n : Int) = 0 := by omega
  obtain ⟨b, off, rfl, hlie⟩ := hl (by omega)
  have HL := hide hlie
  have HN := hide hn
  have HR := hide hr
  clear hi hz0 hz1 hz2 hlie hn hr hl hf h7
  go_enter Tryz.func53, Tryz.ntmps53
  go_wp2_with fail
  refine (unhide HA).mono ?_
  rintro e w0 ⟨rfl, hb0⟩
  have HB0 := hide hb0
  clear hb0 HA
  go_wp2_with (at_make; refine wpList_make_full _ rfl (.tmp 24) (.tmp 24) 23 rfl w0.heap.size 3 i0 (.int .i64 0) 1 Tryz.underlying23 HI.out.1 HI.out.2.1 HI.out.2.2.1 .i64 .i64 _ _ n rfl rfl rfl rfl (by rw [HI.out.2.2.2]; omega) (by unfold maxLen; omega) (Nat.le_refl _) ?_)
  intro w1 hown hgrow
  rw [made_ints n hn7, show cellsI (List.replicate n 0) = cellsI (halfC p 0) by rw [halfC_zero, HN.out]] at hown
  have HO := hide hown
  have HB := hide ((Below.refl w0.heap.size w0).grown hgrow (Nat.le_refl _) (fun k hk => by cases hk))
  clear hown hgrow
  go_wp2
  go_loopw [28] (fun si wr => ∃ k : Nat, si = .int .i64 k ∧ k ≤ n ∧ Hid (wr.ownsRow w0.heap.size 3 1 (.slice (some ⟨w0.heap.size, 0, none⟩) n n) n (cellsI (halfC p k))) ∧ Hid (Below w0.heap.size w0 wr)) (fun si _ => n - (intOf si).toNat)
  case atStart => exact ⟨0, rfl, Nat.zero_le _, HO, HB⟩
  case round =>
    obtain ⟨k, rfl, hk, hrow, hbel⟩ := hrel
    by_cases hlt : k < n
    · have hkl : k < p.length := by have := HN.out; omega
      have d1 := ((HL.out.stays HB0.out (Nat.le_refl _)).stays hbel.out (Nat.le_refl _)) k hkl
      obtain ⟨z0, z1⟩ := HR.out k hkl
      have HX := hide (halfC_next p hkl)
      generalize p[k] = z at d1 z0 z1 HX
      have HC : Hid (Calls Tryz.prog 84 #[.int .i64 z] wr fun e w' => e = .returned (.tuple #[.int .i64 (M.gI z), .nilIface]) ∧ w' = wr) := hide (commitTo z wr z0 z1)
      generalize M.gI z = y at HC HX
      have hkh : k < (halfC p k).length := by rw [halfC_len p (by omega)]; exact hkl
      have c1 : wr.cell? ⟨w0.heap.size, k, none⟩ = some (.int .i64 (halfC p k)[k]) := by rw [hrow.out.cellAt k (by omega), cellsI_at hkh]
      have f1 : wr.frozen? ⟨w0.heap.size, k, none⟩ = false := hrow.out.frozenAt _
      generalize (halfC p k)[k] = o1 at c1
      have hg : w0.heap.size < wr.heap.size := World.block_lt_of_cell? wr _ c1
      clear z0 z1 hkh
      go_wp2_with fail
      refine (unhide HC).mono ?_
      rintro e w2 ⟨rfl, hw⟩
      obtain rfl := hw.symm
      go_wp2_with fail
      go_roundw
      case rel => exact ⟨k + 1, by go_num, by omega, hide (by rw [← HX.out, ← cellsI_set]; exact (hrow.out.stored k (.int .i64 y)).1), hide (hbel.out.setCell (p := ⟨w0.heap.size, k, none⟩) (Nat.le_refl _) _)⟩
      case measure => simp [intOf]; omega
    · have hkm : k = p.length := by have := HN.out; omega
      rw [hkm, halfC_all] at hrow
      clear hkm
      go_wp2_with fail
      go_ret2
      refine ⟨⟨_, rfl, hrow.out.1, ?_⟩, HB0.out.trans (hbel.out.mono HB0.out.size)⟩
      rcases hrow.out.2 with q | ⟨g, cap, cur, hv, hg, hh, r⟩
      · exact Or.inl q
      · exact Or.inr ⟨g, cap, cur, hv, Nat.le_trans HB0.out.size hg, hh, r⟩
theorem comOk (a : Option Addr) (n cap : Nat) (p : List Int) (w : World) (hn : n = p.length) (hl : AtI w a p) (h0 : n ≠ 0) (hf : M.facE p = 0) :
    Calls Tryz.prog 53 #[.slice a n cap] w fun e w' => (∃ g, e = .returned (.tuple #[.slice (some ⟨g, 0, none⟩) n n, .nilIface]) ∧ AtI w' (some ⟨g, 0, none⟩) (M.commits p)) ∧ Below w.heap.size w w' := by
  refine (comOkO a n cap p w hn hl h0 hf).mono ?_
  rintro e w' ⟨⟨g, rfl, hrow⟩, hb⟩
  refine ⟨⟨g, rfl, ?_⟩, hb⟩
  obtain ⟨av, cv, hv, _, _, hat⟩ := atI_own (by rw [M.commits_len]; exact hn) hrow
  cases hv
  exact hat

/-- Commit, whatever comes in -/
theorem pCommit (a : Option Addr) (n cap : Nat) (p : List Int) (w : World) (hn : n = p.length) (hm : n ≤ maxLen) (hl : AtI w a p) :
    Calls Tryz.prog 53 #[.slice a n cap] w fun e w' => (∃ v k c, e = .returned (.tuple #[.slice v k c, errV (M.comE p)]) ∧ k = (M.comR p).length ∧ k ≤ c ∧ c ≤ maxLen ∧ AtI w' v (M.comR p)) ∧ Below w.heap.size w w' := by
  have bad : ∀ {E : Int} {w' : World}, E ≠ 0 → M.comE p = E → ∃ v k c, Ending.returned (.tuple #[.slice none 0 0, .iface 66 (.int .i64 E)]) = .returned (.tuple #[.slice v k c, errV (M.comE p)]) ∧ k = (M.comR p).length ∧ k ≤ c ∧ c ≤ maxLen ∧ AtI w' v (M.comR p) := fun {E w'} hE h => by
    rw [M.comR_bad (by rw [h]; exact hE), h, errV_bad hE]
    exact ⟨none, 0, 0, rfl, rfl, Nat.le_refl _, Nat.zero_le _, fun h0 => absurd h0 (by decide)⟩
  by_cases h0 : n = 0
  · subst h0
    refine (comNone a cap w).mono ?_
    rintro e w' ⟨rfl, hb⟩
    exact ⟨bad (by decide) (M.comE_none hn.symm), hb⟩
  · have hE := M.comE_some (p := p) (by omega)
    by_cases hf : M.facE p = 0
    · have e0 : M.comE p = 0 := by rw [hE]; exact hf
      rw [e0, M.comR_ok e0]
      have h7 := (M.facE_ok hf).1
      refine (comOk a n cap p w hn hl h0 hf).mono ?_
      rintro e w' ⟨⟨g, rfl, hat⟩, hb⟩
      exact ⟨⟨some ⟨g, 0, none⟩, n, n, rfl, by rw [M.commits_len]; exact hn, Nat.le_refl _, by unfold maxLen; omega, hat⟩, hb⟩
    · refine (comFac a n cap p w hn hm hl h0 hf).mono ?_
      rintro e w' ⟨rfl, hb⟩
      exact ⟨bad hf hE, hb⟩

end Go.Proofs.YtlefhfmckimlaajGreatDoor
