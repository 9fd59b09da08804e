/-
  The walk of the Go function CrowdPlays: it returns true, whatever comes in.
-/
import Derived.Test.YtlefhfmckimlaaiGreatDoorJ50A
import Derived.Deep.AppendLies
import Derived.Deep.DeepCutAuto
import Derived.Deep.CutBlock
import Derived.Laws.OwnMore
set_option linter.unusedVariables false
namespace Go.Proofs.YtlefhfmckimlaaiGreatDoor.crowdPlays
open Go.RowKit
attribute [local go_sem ↓] Go.wp_at_zero Go.wp_at_succ

set_option maxRecDepth 100000 in
theorem walk_out (n : Int) (rav : Option Addr) (rn rcap : Nat) (v2 v3 : Value) (w : World) (h : n < 1 ∨ 7 < n) (hg : Hand w) :
    Calls Tryz.prog 4 #[.int .i64 n, .slice rav rn rcap, v2, v3] w fun e w' => e = .returned (.bool true) ∧ Below w.heap.size w w' := by
  have HCN : Hid (Calls Tryz.prog 15 #[.int .i64 n, .slice rav rn rcap] w fun e w' => e = .returned (.tuple #[.pointer none, .iface 74 (.int .i64 1)]) ∧ Below w.heap.size w w') := hide (by have := crNew_range n rav rn rcap w h; rwa [errV_bad (by decide)] at this)
  have HSM : Hid (∀ wx, Below w.heap.size w wx → Calls Tryz.prog 7 #[.iface 74 (.int .i64 1), .int .i64 1] wx fun e w' => e = .returned (.bool true) ∧ Below wx.heap.size wx w') := hide fun wx hb => by
    have := sameErr 1 1 wx (hg.stays hb (Nat.le_refl _))
    rwa [errV_bad (by decide)] at this
  have hx : n < 1 ∨ (¬ n < 1 ∧ 7 < n) := by omega
  clear hg h
  rcases hx with h1 | ⟨h1, h2⟩
  all_goals
    go_enter Tryz.func4, Tryz.ntmps4
    go_wp2_with fail
    refine (unhide HCN).mono ?_
    rintro e w1 ⟨rfl, hb1⟩
    have HB1 := hide hb1
    clear hb1
    go_wp2_with fail
    refine (HSM.out _ HB1.out).mono ?_
    rintro e w2 ⟨rfl, hb2⟩
    have HB2 := hide (HB1.out.trans (hb2.mono HB1.out.size))
    clear hb2
    go_wp2_with fail
    go_ret
    exact ⟨rfl, HB2.out⟩

set_option maxRecDepth 100000 in
theorem walk_bad (n : Nat) (rav : Option Addr) (rn rcap : Nat) (R : List M.Rul) (v2 v3 : Value) (w : World) (h1 : 1 ≤ n) (h7 : n ≤ 7) (hrn : rn = R.length) (hrm : rn ≤ maxLen) (hR : AtR w rav R) (hg : Hand w) (hE : M.rulE R ≠ 0) :
    Calls Tryz.prog 4 #[.int .i64 n, .slice rav rn rcap, v2, v3] w fun e w' => e = .returned (.bool true) ∧ Below w.heap.size w w' := by
  have HRU : Hid (Calls Tryz.prog 5 #[.slice rav rn rcap] w fun e w' => e = .returned (.int .i64 (M.rulE R)) ∧ Below w.heap.size w w') := hide (refRules rav rn rcap R w hrn hrm hR)
  have HCN : Hid (∀ wx, Below w.heap.size w wx → Calls Tryz.prog 15 #[.int .i64 n, .slice rav rn rcap] wx fun e w' => e = .returned (.tuple #[.pointer none, errV (M.rulE R)]) ∧ Below wx.heap.size wx w') := hide fun wx hb => crNew_bad n rav rn rcap R wx h1 h7 hrn hrm (hR.stays hb (Nat.le_refl _)) hE
  have HSM : Hid (∀ wx, Below w.heap.size w wx → Calls Tryz.prog 7 #[errV (M.rulE R), .int .i64 (M.rulE R)] wx fun e w' => e = .returned (.bool true) ∧ Below wx.heap.size wx w') := hide fun wx hb => by
    have := sameErr (M.rulE R) (M.rulE R) wx (hg.stays hb (Nat.le_refl _))
    rwa [show (M.rulE R == M.rulE R) = true by simp] at this
  rw [errV_bad hE] at HCN HSM
  generalize M.rulE R = E at *
  have hz : (E == 0) = false := by simpa using hE
  have n1 : ¬ (n : Int) < 1 := by omega
  have n7 : ¬ (7 : Int) < (n : Int) := by omega
  clear hrn hrm hR hg hE
  go_enter Tryz.func4, Tryz.ntmps4
  go_wp2_with fail
  refine (unhide HRU).mono ?_
  rintro e w1 ⟨rfl, hb1⟩
  have HB1 := hide hb1
  clear hb1
  go_wp2_with fail
  refine (HCN.out _ HB1.out).mono ?_
  rintro e w2 ⟨rfl, hb2⟩
  have HB2 := hide (HB1.out.trans (hb2.mono HB1.out.size))
  clear hb2
  go_wp2_with fail
  refine (HSM.out _ HB2.out).mono ?_
  rintro e w3 ⟨rfl, hb3⟩
  have HB3 := hide (HB2.out.trans (hb3.mono HB2.out.size))
  clear hb3
  go_wp2_with fail
  go_ret
  exact ⟨rfl, HB3.out⟩

/-- what the document's way has put together so far -/
structure Say (w0 w : World) (v : Value) (k : Nat) (lie : List ByteArray) (s : ByteArray) : Prop where
  row : w.ownsRow w0.heap.size 9 1 v k (cellsS (M.sayL k lie s))
theorem Say.at {w0 w : World} {v : Value} {k : Nat} {lie : List ByteArray} {s : ByteArray} (h : Say w0 w v k lie s) (hs : s.size ≤ reachBytes) (hl : ∀ x ∈ lie, x.size ≤ reachBytes) : ∃ a cap, v = .slice a k cap ∧ AtS w a (M.sayL k lie s) := by
  obtain ⟨a, cap, e, _, _, h2⟩ := atS_own (l := M.sayL k lie s) (M.sayL_len k lie s).symm (fun x hx => by
    obtain ⟨q, hq, rfl⟩ := List.mem_map.1 hx
    by_cases hql : q < lie.length
    · by_cases hno : lie[q] = M.sNo
      · rw [M.sayA_true hql hno]; exact hs
      · rw [M.sayA_lie hql hno]; exact hl _ (List.getElem_mem hql)
    · rw [M.sayA_none (by omega)]; exact hs) h.row
  exact ⟨a, cap, e, h2⟩

set_option maxRecDepth 100000 in
set_option maxHeartbeats 4000000 in
theorem walk_ok (n : Nat) (rav : Option Addr) (rn rcap : Nat) (R : List M.Rul) (av : Option Addr) (m cap : Nat) (l : List M.Ask) (lv : Option Addr) (ln lc : Nat) (lies : List (List ByteArray)) (w : World) (h1 : 1 ≤ n) (h7 : n ≤ 7) (hrn : rn = R.length) (hrm : rn ≤ maxLen) (hR : AtR w rav R) (hE : M.rulE R = 0)
    (hm : m = l.length) (hmm : m ≤ maxLen) (hl : AtA w av l) (hln : ln = lies.length) (hlm : ln ≤ maxLen) (hli : AtL w lv lies) (hg : Hand w) (ht : Tab w) :
    Calls Tryz.prog 4 #[.int .i64 n, .slice rav rn rcap, .slice av m cap, .slice lv ln lc] w fun e w' => e = .returned (.bool true) ∧ Below w.heap.size w w' := by
  obtain ⟨i0, hi, hz0, hz1, hz2⟩ := info_parts infoSt
  have HI := hide (And.intro hi (And.intro hz0 (And.intro hz1 hz2)))
  have HRU : Hid (Calls Tryz.prog 5 #[.slice rav rn rcap] w fun e w' => e = .returned (.int .i64 0) ∧ Below w.heap.size w w') := hide (by have := refRules rav rn rcap R w hrn hrm hR; rwa [hE] at this)
  have HCN : Hid (∀ wx, Below w.heap.size w wx → Calls Tryz.prog 15 #[.int .i64 n, .slice rav rn rcap] wx fun e w' => ∃ K F, e = .returned (.tuple #[.pointer (some ⟨K, 0, none⟩), .nilIface]) ∧ CwIs w.heap.size w' F K n M.Cop.new R ∧ Below wx.heap.size wx w') := hide fun wx hb => by
    refine (crNew_ok w.heap.size n rav rn rcap R wx hb.size h1 h7 hrn hrm (hR.stays hb (Nat.le_refl _)) hE).mono ?_
    rintro e w' ⟨K, F, rfl, q1, _, q3⟩
    exact ⟨K, F, rfl, q1, q3⟩
  have HSM : Hid (∀ wx, Below w.heap.size w wx → Calls Tryz.prog 7 #[.nilIface, .int .i64 0] wx fun e w' => e = .returned (.bool true) ∧ Below wx.heap.size wx w') := hide fun wx hb => sameErr 0 0 wx (hg.stays hb (Nat.le_refl _))
  have HST : Hid (∀ wx K F, Below w.heap.size w wx → CwIs w.heap.size wx F K n M.Cop.new R → CQ w ((wx.alloc (.cells #[.slice none 0 0] 46)).alloc (.cells #[.slice rav rn rcap, .pointer (some ⟨wx.heap.size, 0, none⟩), .slice none 0 0, .int .i64 0] 50)) K (wx.heap.size + 1) n M.Cop.new M.Cop.new R) := hide fun wx K F hb hC => by
    have hr := Rc.new hb (.slice rav rn rcap)
    have hb2 : Below wx.heap.size wx ((wx.alloc (.cells #[.slice none 0 0] 46)).alloc (.cells #[.slice rav rn rcap, .pointer (some ⟨wx.heap.size, 0, none⟩), .slice none 0 0, .int .i64 0] 50)) := ((Below.refl _ _).alloc (Nat.le_refl _) _).alloc (by simp) _
    refine ⟨⟨F, wx.heap.size, .slice none 0 0, .slice none 0 0, rav, rn, rcap, [], hC.quiet hb2, ⟨hr, rfl, rfl, M.Cop.new_ok, hR, hrn, hE⟩, (Off.new (w := wx) hC.highs (fun i hi => ?_)).symm⟩, hr.bel, hg, ht⟩
    rcases hi with rfl | rfl | hi | hi
    · exact Nat.le_succ _
    · exact Nat.le_refl _
    · cases hi
    · cases hi
  have HLA : Hid (∀ k (hk : k < l.length), ∃ b off a n c, av = some ⟨b, off, none⟩ ∧ IsVals w (.slice a n c) l[k].t ∧ ∀ wy, Below w.heap.size w wy → wy.cell? ⟨b, off + k * 4, none⟩ = some (.int .i64 l[k].who) ∧ wy.cell? ⟨b, off + k * 4 + 1, none⟩ = some (.int .i64 l[k].seq) ∧ wy.cell? ⟨b, off + k * 4 + 2, none⟩ = some (.int .i64 l[k].deed) ∧ wy.cell? ⟨b, off + k * 4 + 3, none⟩ = some (.slice a n c)) := hide fun k hk => by
    obtain ⟨b, off, e, hlie⟩ := hl (by omega)
    obtain ⟨a, n, c, h1, h2, h3, h4, h5⟩ := hlie.get hk
    have hlt := World.block_lt_of_cell? w _ h1
    exact ⟨b, off, a, n, c, e, h5, fun wy hy => ⟨(hy.cell (p := ⟨b, off + k * 4, none⟩) hlt).trans h1, (hy.cell (p := ⟨b, off + k * 4 + 1, none⟩) hlt).trans h2, (hy.cell (p := ⟨b, off + k * 4 + 2, none⟩) hlt).trans h3, (hy.cell (p := ⟨b, off + k * 4 + 3, none⟩) hlt).trans h4⟩⟩
  have HLI : Hid (∀ k (hk : k < lies.length), ∃ b off x c, lv = some ⟨b, off, none⟩ ∧ lies[k].length ≤ maxLen ∧ AtS w x lies[k] ∧ ∀ wy, Below w.heap.size w wy → wy.cell? ⟨b, off + k, none⟩ = some (.slice x lies[k].length c)) := hide fun k hk => by
    obtain ⟨b, off, e, hlie⟩ := hli (by omega)
    obtain ⟨x, c, g1, g2, g3⟩ := hlie k hk
    exact ⟨b, off, x, c, e, g2, g3, fun wy hy => (hy.cell (p := ⟨b, off + k, none⟩) (World.block_lt_of_cell? w _ g1)).trans g1⟩
  obtain ⟨Q, hQ⟩ : ∃ Q : Nat, Q = (n - 1) / 3 := ⟨_, rfl⟩
  have hnd : M.need n = (Q : Int) + 1 := by unfold M.need; omega
  have HND := hide hnd
  have hquo : ((n : Int) - 1).tdiv 3 = (Q : Int) := by rw [Int.tdiv_eq_ediv_of_nonneg (by omega)]; omega
  have hQ2 : Q ≤ 2 := by omega
  have HNE : Hid (∀ wx K E c d, CQ w wx K E n c d R → Calls Tryz.prog 16 #[.pointer (some ⟨K, 0, none⟩)] wx fun e w' => e = .returned (.int .i64 ((Q : Int) + 1)) ∧ w' = wx) := hide fun wx K E c d h => by
    have := h.need
    rwa [hnd] at this
  have HM := hide hm
  have HLN := hide hln
  have n1 : ¬ (n : Int) < 1 := by omega
  have n7 : ¬ (7 : Int) < (n : Int) := by omega
  unfold maxLen at hmm hlm
  clear hrn hrm hR hE ht hg hl hm hli hln hQ hnd hi hz0 hz1 hz2
  go_enter Tryz.func4, Tryz.ntmps4
  go_wp2_with fail
  refine (unhide HRU).mono ?_
  rintro e w1 ⟨rfl, hb1⟩
  have HB1 := hide hb1
  clear hb1
  go_wp2_with fail
  refine (HCN.out _ HB1.out).mono ?_
  rintro e w2 ⟨K, F, rfl, hC2, hb2⟩
  have HB2 := hide (HB1.out.trans (hb2.mono HB1.out.size))
  have HC2 := hide hC2
  clear hb2 hC2
  go_wp2_with fail
  refine (HSM.out _ HB2.out).mono ?_
  rintro e w3 ⟨rfl, hb3⟩
  have HB3 := hide (HB2.out.trans (hb3.mono HB2.out.size))
  have HC3 := hide (HC2.out.quiet hb3)
  clear hb3 HC2
  go_wp2_with fail
  refine (rNewCopy rav rn rcap w3).mono ?_
  rintro e w4 ⟨rfl, hw4⟩
  have HK4 := hide (HST.out w3 K F HB3.out HC3.out)
  rw [← hw4] at HK4
  obtain ⟨E, hE⟩ : ∃ E, E = w3.heap.size + 1 := ⟨_, rfl⟩
  rw [← hE] at HK4
  rw [← hE]
  clear hw4 hE HRU HCN HSM HST HB1 HB2 HB3 HC3
  go_wp2_with fail
  refine (HNE.out _ _ _ _ _ HK4.out).mono ?_
  rintro e w5 ⟨rfl, hw5⟩
  obtain rfl := hw5.symm
  go_wp2_with fail
  go_loopw [15] (fun si wr => ∃ (k : Nat) (c : M.Cop), si = .int .i64 k ∧ k ≤ m ∧ k ≤ 30 ∧ Hid (c.n ≤ k) ∧ Hid (CQ w wr K E n c c R)) (fun si _ => 30 - (intOf si).toNat)
  case atStart => exact ⟨0, M.Cop.new, rfl, Nat.zero_le _, by omega, hide (Nat.le_refl _), HK4⟩
  case round =>
    clear HK4
    obtain ⟨k, c, rfl, hk1, hk2, hcn, hK⟩ := hrel
    by_cases hlt : k < m ∧ k < 30
    · obtain ⟨hlm2, hl3⟩ := hlt
      have hkl : k < l.length := HM.out ▸ hlm2
      have i1 : (k : Int) < (m : Int) := by omega
      have i2 : (k : Int) < 30 := by omega
      have i3 : (0 : Int) ≤ (k : Int) := by omega
      obtain ⟨b, off, a, an, ac, rfl, hv, hat⟩ := HLA.out k hkl
      have HV := hide hv
      have HAT := hide hat
      generalize l[k] = x at *
      obtain ⟨xw, xs, xd, xt⟩ := x
      simp only at HV HAT
      clear hv hat
      go_upto_if 79 with fail
      go_cut [16] from 76 to 83 (fun s wx => ∃ (la : Option Addr) (lm lc' : Nat) (lie : List ByteArray), s = .slice la lm lc' ∧ Hid (lm = lie.length) ∧ lm ≤ 9223372036854775807 ∧ Hid (AtS w la lie) ∧ wx = wr)
      case first =>
        by_cases hkn : (k : Int) < ln
        · have hkL : k < lies.length := by have := HLN.out; omega
          obtain ⟨b2, o2, x2, cc2, rfl, g1, g2, g3⟩ := HLI.out k hkL
          have c2 := g3 _ hK.out.bel
          have HG2 := hide g2
          have HLL : Hid (lies[k].length = lies[k].length) := hide rfl
          generalize lies[k] = lie at *
          obtain ⟨lm, hlm3⟩ : ∃ lm, lm = lie.length := ⟨_, rfl⟩
          rw [← hlm3] at c2 g1
          have HLM := hide hlm3
          unfold maxLen at g1
          clear g2 g3 hkL hlm3
          go_wp2_with fail
          go_meet
          case rel => exact ⟨x2, lm, cc2, lie, rfl, HLM, by omega, HG2, rfl⟩
        · go_wp2_with fail
          go_meet
          case rel => exact ⟨none, 0, 0, [], rfl, hide rfl, by omega, hide (fun h => absurd h (by simp)), rfl⟩
      case rest =>
        obtain ⟨la, lm, lc', lie, rfl, hLM, hlm4, hAS, rfl⟩ := hcut
        obtain ⟨E1, hE1⟩ : ∃ E1, E1 = (M.crR R c n lie ⟨xw, xs, xd, xt⟩).1 := ⟨_, rfl⟩
        obtain ⟨s1, hs1⟩ : ∃ s1, s1 = (M.crR R c n lie ⟨xw, xs, xd, xt⟩).2.1 := ⟨_, rfl⟩
        obtain ⟨c1, hc1⟩ : ∃ c1, c1 = (M.crR R c n lie ⟨xw, xs, xd, xt⟩).2.2 := ⟨_, rfl⟩
        have HN1 : Hid (c1.n ≤ k + 1) := hide (by have := M.crR_many (R := R) (c := c) (n := n) (lie := lie) (x := ⟨xw, xs, xd, xt⟩); rw [← hc1] at this; have := hcn.out; omega)
        have HCD : Hid (∀ wx d, CQ w wx K E n c d R → Calls Tryz.prog 18 #[.pointer (some ⟨K, 0, none⟩), aggA xw xs xd a an ac, .slice la lm lc'] wx fun e w' => e = .returned (.tuple #[.string s1, errV E1]) ∧ CQ w w' K E n c1 d R) := hide fun wx d h => by
          have := h.do (lc := lc') ⟨xw, xs, xd, xt⟩ HV.out hAS.out hLM.out (by unfold maxLen; omega) (by have := hcn.out; omega)
          rwa [← hs1, ← hE1, ← hc1] at this
        have HWAY : Hid ((n < lm ∧ E1 = 3 ∧ s1 = ⟨#[]⟩ ∧ c1 = c) ∨ (¬ n < lm ∧ (M.doR R c ⟨xw, xs, xd, xt⟩).1 ≠ 0 ∧ E1 = (M.doR R c ⟨xw, xs, xd, xt⟩).1 ∧ s1 = ⟨#[]⟩ ∧ c1 = c ∧ (M.doR R c ⟨xw, xs, xd, xt⟩).2.2 = c) ∨ (¬ n < lm ∧ (M.doR R c ⟨xw, xs, xd, xt⟩).1 = 0 ∧ E1 = M.winE (M.sayL n lie (M.doR R c ⟨xw, xs, xd, xt⟩).2.1) (M.need n) ∧ s1 = M.winS (M.sayL n lie (M.doR R c ⟨xw, xs, xd, xt⟩).2.1) (M.need n) ∧ c1 = (M.doR R c ⟨xw, xs, xd, xt⟩).2.2)) := hide (by
          by_cases q1 : n < lie.length
          · rw [M.crR_more q1] at hE1 hs1 hc1
            exact Or.inl ⟨by rw [hLM.out]; exact q1, hE1, hs1, hc1⟩
          · by_cases q2 : (M.doR R c ⟨xw, xs, xd, xt⟩).1 = 0
            · rw [M.crR_ok q1 q2] at hE1 hs1 hc1
              exact Or.inr (Or.inr ⟨by rw [hLM.out]; exact q1, q2, hE1, hs1, hc1⟩)
            · rw [M.crR_bad q1 q2] at hE1 hs1 hc1
              exact Or.inr (Or.inl ⟨by rw [hLM.out]; exact q1, q2, hE1, hs1, hc1, (M.doR_err q2).1⟩))
        obtain ⟨sd, hsd⟩ : ∃ sd, sd = (M.doR R c ⟨xw, xs, xd, xt⟩).2.1 := ⟨_, rfl⟩
        obtain ⟨Ed, hEd⟩ : ∃ Ed, Ed = (M.doR R c ⟨xw, xs, xd, xt⟩).1 := ⟨_, rfl⟩
        obtain ⟨cd, hcd⟩ : ∃ cd, cd = (M.doR R c ⟨xw, xs, xd, xt⟩).2.2 := ⟨_, rfl⟩
        rw [← hsd, ← hEd, ← hcd] at HWAY
        have HSD : Hid (sd.size ≤ 70) := hide (by
          rw [hsd]
          obtain ⟨F5, S5, u5, dv5, ra5, rn5, rc5, D5, g1, _, _⟩ := hK.out.is
          exact M.doR_small g1.ok)
        have HRD : Hid (∀ wx d, CQ w wx K E n d c R → Calls Tryz.prog 9 #[.pointer (some ⟨E, 0, none⟩), aggA xw xs xd a an ac] wx fun e w' => e = .returned (.tuple #[.string sd, .int .i64 Ed]) ∧ CQ w w' K E n d cd R) := hide fun wx d h => by
          have := h.rdo ⟨xw, xs, xd, xt⟩ HV.out (by have := hcn.out; omega)
          rwa [← hsd, ← hEd, ← hcd] at this
        clear hE1 hs1 hc1 hsd hEd hcd
        go_upto_if 87 with fail
        go_cut [9, 17] from 84 to 135 (fun se ss wx => ∃ W : World, W = wx ∧ se = .int .i64 E1 ∧ ss = .string s1 ∧ Hid (CQ w W K E n c c1 R))
        case first =>
          rcases HWAY.out with ⟨q1, rfl, rfl, rfl⟩ | ⟨q1, q2, rfl, rfl, rfl, rfl⟩ | ⟨q1, q2, q3, q4, rfl⟩
          · have j1 : (n : Int) < (lm : Int) := by omega
            go_wp2_with fail
            go_meet
            case rel => exact ⟨_, rfl, rfl, rfl, hK⟩
          · have j1 : ¬ (n : Int) < (lm : Int) := by omega
            have hz : (E1 == 0) = false := by simpa using q2
            obtain ⟨z0, z1, z2, z3⟩ := HAT.out _ hK.out.bel
            clear q2
            go_wp2_with fail
            refine (HRD.out _ _ hK.out).mono ?_
            rintro e w2 ⟨rfl, hK2⟩
            have HK2 := hide hK2
            clear hK2
            go_wp2_with fail
            go_meet
            case rel => exact ⟨_, rfl, rfl, rfl, HK2⟩
          · have j1 : ¬ (n : Int) < (lm : Int) := by omega
            have HAC := hide hAS.out
            have HSL : Hid (∀ x ∈ lie, x.size ≤ reachBytes) := hide fun x hx => by
              obtain ⟨q, hq, rfl⟩ := List.getElem_of_mem hx
              obtain ⟨_, _, _, hlie⟩ := hAS.out (by omega)
              exact (hlie q hq).2
            have HS7 : Hid (sd.size ≤ reachBytes) := hide (by have := HSD.out; unfold reachBytes; omega)
            have HWN : Hid (∀ wx va vc, AtS wx va (M.sayL n lie sd) → Calls Tryz.prog 17 #[.slice va n vc, .int .i64 ((Q : Int) + 1)] wx fun e w' => ((E1 = 0 ∧ e = .returned (.tuple #[.string s1, .bool true])) ∨ (E1 = 5 ∧ s1 = ⟨#[]⟩ ∧ e = .returned (.tuple #[.string ⟨#[]⟩, .bool false]))) ∧ Below wx.heap.size wx w') := hide fun wx va vc ha => by
              have hr := M.need_range h1 h7
              have := win_said (nd := M.need n) (by omega) (by omega) (by rw [M.sayL_len]; exact h7) (m := n) (cap := vc) (M.sayL_len n lie sd).symm ha
              rw [← q3, ← q4, HND.out] at this
              exact this
            obtain ⟨z0, z1, z2, z3⟩ := HAT.out _ hK.out.bel
            subst q2
            clear q3 q4
            go_wp2_with fail
            refine (HRD.out _ _ hK.out).mono ?_
            rintro e w2 ⟨rfl, hK2⟩
            have HK2 := hide hK2
            clear hK2 z0 z1 z2 z3
            go_wp2_with fail
            go_loopw [20, 21] (fun sv sk wx => ∃ (q : Nat) (va : Option Addr) (vc : Nat), sv = .slice va q vc ∧ sk = .int .i64 q ∧ q ≤ n ∧ Hid (Say w wx (.slice va q vc) q lie sd) ∧ Hid (CQ w wx K E n c c1 R)) (fun _ sk _ => n - (intOf sk).toNat)
            case atStart => exact ⟨0, none, 0, rfl, rfl, Nat.zero_le _, hide ⟨World.ownsRow_nil _ _ _ _⟩, HK2⟩
            case round =>
              clear HK2
              obtain ⟨q, va, vc, rfl, rfl, hq, hSY, hKq⟩ := hrel
              by_cases hqn : q < n
              · have q5 : (q : Int) < (n : Int) := by omega
                have q6 : (0 : Int) ≤ (q : Int) := by omega
                have HFIN : Hid (∀ (y : ByteArray) (g3 : Nat) (k3 : Nat) (w3 : World), y = M.sayA lie sd q → w3.ownsRow w.heap.size 9 1 (.slice (some ⟨g3, 0, none⟩) (q + 1) k3) (q + 1) (cellsS (M.sayL q lie sd) ++ [.string y]) → Say w w3 (.slice (some ⟨g3, 0, none⟩) (q + 1) k3) (q + 1) lie sd) := hide fun y g3 k3 w3 hy ho => ⟨by
                  rw [M.sayL_next, ← hy]
                  have e : cellsS (M.sayL q lie sd ++ [y]) = cellsS (M.sayL q lie sd) ++ [.string y] := by simp [cellsS]
                  rw [e]; exact ho⟩
                have HAPP : Hid (∀ y : ByteArray, CQ w (wr.alloc (.cells #[.string y] 9)) K E n c c1 R ∧ (wr.alloc (.cells #[.string y] 9)).ownsRow w.heap.size 9 1 (.slice va q vc) q (cellsS (M.sayL q lie sd))) := hide fun y => ⟨hKq.out.quiet ((Below.refl _ _).alloc (Nat.le_refl _) _), ownsRow_at hSY.out.row (fun g hg => by
                  obtain ⟨_, cc, fr, hh⟩ := ownsRow_tag hSY.out.row hg
                  exact ((Below.refl wr.heap.size wr).alloc (Nat.le_refl _) _).block g (heap_lt hh))⟩
                have HBL : Hid (w.heap.size ≤ wr.heap.size) := hide hKq.out.bel.size
                by_cases hql : q < lm
                · have q7 : (q : Int) < (lm : Int) := by omega
                  have hqL : q < lie.length := hLM.out ▸ hql
                  obtain ⟨lb, lo, rfl, hlie⟩ := HAC.out (by omega)
                  have x2 := ((hlie.stays hKq.out.bel (Nat.le_refl _)) q hqL).1
                  have gx := World.block_lt_of_cell? _ _ x2
                  by_cases hno : lie[q] = M.sNo
                  · have HA : Hid (sd = M.sayA lie sd q) := hide (M.sayA_true hqL hno).symm
                    rw [hno] at x2
                    have x2' : wr.cell? ⟨lb, lo + q, none⟩ = some (.string ⟨#[]⟩) := x2
                    clear hno x2 hlie
                    have HNW : Hid (∀ j u, [Value.string sd][j]? = some u → (wr.alloc (.cells #[.string sd] 9)).cell? ((⟨wr.heap.size, 0, none⟩ : Addr).add j) = some u) := hide (World.news_of_block (heap_alloc_new wr _))
                    have HRW := hide (HAPP.out sd).2
                    have HKW := hide (HAPP.out sd).1
                    go_wp2_with (at_builtin; refine wpList_append_lies _ rfl (.tmp 123) (.tmp 125) 57 rfl w.heap.size 9 i0 (.string ⟨#[]⟩) 1 16 Tryz.underlying57 HI.out.1 HI.out.2.1 HI.out.2.2.1 HI.out.2.2.2 rfl (by decide) (.slice va q vc) q (cellsS (M.sayL q lie sd)) rfl HRW.out ⟨wr.heap.size, 0, none⟩ 1 1 [.string sd] rfl rfl HNW.out (by intro u hu; simp at hu; subst hu; rfl) (by decide) (by unfold maxLen; omega) (by omega) (Nat.le_trans HBL.out (by simp)) (wr.heap.size + 1) (by simp) ?_)
                    intro g3 k3 w3 hown3 hgrow3 hat3 hlt3
                    have HS3 := hide (HFIN.out sd g3 k3 w3 HA.out hown3)
                    have HK3 := hide (HKW.out.grown HRW.out hgrow3)
                    clear hown3 hgrow3 hat3
                    go_wp2_with fail
                    go_roundw
                    case rel => exact ⟨q + 1, some ⟨g3, 0, none⟩, k3, rfl, by go_num, by omega, HS3, HK3⟩
                    case measure => simp [intOf]; omega
                  · have HA : Hid (lie[q] = M.sayA lie sd q) := hide (M.sayA_lie hqL hno).symm
                    have hne : (lie[q].toList == (⟨#[]⟩ : ByteArray).toList) = false := by
                      cases hq' : (lie[q].toList == (⟨#[]⟩ : ByteArray).toList)
                      · rfl
                      · exact absurd (txt_eq.1 hq') hno
                    have hne2 : (lie[q].toList == []) = false := by
                      rw [show (⟨#[]⟩ : ByteArray).toList = [] by simp [ByteArray.toList_eq]] at hne
                      exact hne
                    generalize lie[q] = y at *
                    clear hno hlie
                    have HNW : Hid (∀ j u, [Value.string y][j]? = some u → (wr.alloc (.cells #[.string y] 9)).cell? ((⟨wr.heap.size, 0, none⟩ : Addr).add j) = some u) := hide (World.news_of_block (heap_alloc_new wr _))
                    have HRW := hide (HAPP.out y).2
                    have HKW := hide (HAPP.out y).1
                    go_wp2_with (at_builtin; refine wpList_append_lies _ rfl (.tmp 116) (.tmp 121) 57 rfl w.heap.size 9 i0 (.string ⟨#[]⟩) 1 16 Tryz.underlying57 HI.out.1 HI.out.2.1 HI.out.2.2.1 HI.out.2.2.2 rfl (by decide) (.slice va q vc) q (cellsS (M.sayL q lie sd)) rfl HRW.out ⟨wr.heap.size, 0, none⟩ 1 1 [.string y] rfl rfl HNW.out (by intro u hu; simp at hu; subst hu; rfl) (by decide) (by unfold maxLen; omega) (by omega) (Nat.le_trans HBL.out (by simp)) (wr.heap.size + 1) (by simp) ?_)
                    intro g3 k3 w3 hown3 hgrow3 hat3 hlt3
                    have HS3 := hide (HFIN.out y g3 k3 w3 HA.out hown3)
                    have HK3 := hide (HKW.out.grown HRW.out hgrow3)
                    clear hown3 hgrow3 hat3
                    go_wp2_with fail
                    go_roundw
                    case rel => exact ⟨q + 1, some ⟨g3, 0, none⟩, k3, rfl, by go_num, by omega, HS3, HK3⟩
                    case measure => simp [intOf]; omega
                · have q7 : ¬ (q : Int) < (lm : Int) := by omega
                  have HA : Hid (sd = M.sayA lie sd q) := hide (M.sayA_none (by rw [← hLM.out]; omega)).symm
                  have HNW : Hid (∀ j u, [Value.string sd][j]? = some u → (wr.alloc (.cells #[.string sd] 9)).cell? ((⟨wr.heap.size, 0, none⟩ : Addr).add j) = some u) := hide (World.news_of_block (heap_alloc_new wr _))
                  have HRW := hide (HAPP.out sd).2
                  have HKW := hide (HAPP.out sd).1
                  go_wp2_with (at_builtin; refine wpList_append_lies _ rfl (.tmp 123) (.tmp 125) 57 rfl w.heap.size 9 i0 (.string ⟨#[]⟩) 1 16 Tryz.underlying57 HI.out.1 HI.out.2.1 HI.out.2.2.1 HI.out.2.2.2 rfl (by decide) (.slice va q vc) q (cellsS (M.sayL q lie sd)) rfl HRW.out ⟨wr.heap.size, 0, none⟩ 1 1 [.string sd] rfl rfl HNW.out (by intro u hu; simp at hu; subst hu; rfl) (by decide) (by unfold maxLen; omega) (by omega) (Nat.le_trans HBL.out (by simp)) (wr.heap.size + 1) (by simp) ?_)
                  intro g3 k3 w3 hown3 hgrow3 hat3 hlt3
                  have HS3 := hide (HFIN.out sd g3 k3 w3 HA.out hown3)
                  have HK3 := hide (HKW.out.grown HRW.out hgrow3)
                  clear hown3 hgrow3 hat3
                  go_wp2_with fail
                  go_roundw
                  case rel => exact ⟨q + 1, some ⟨g3, 0, none⟩, k3, rfl, by go_num, by omega, HS3, HK3⟩
                  case measure => simp [intOf]; omega
              · have q5 : ¬ (q : Int) < (n : Int) := by omega
                have hqe : q = n := by omega
                obtain ⟨va2, vc2, e2, hat2⟩ := hSY.out.at HS7.out HSL.out
                simp only [Value.slice.injEq, true_and] at e2
                obtain ⟨rfl, rfl⟩ := e2
                have HAT2 : Hid (AtS wr va (M.sayL n lie sd)) := hide (by rw [← hqe]; exact hat2)
                have HWX := hide (HWN.out wr va vc HAT2.out)
                clear hat2 hSY
                rw [hqe]
                clear hqe
                go_wp2_with fail
                refine (unhide HWX).mono ?_
                rintro e w3 ⟨h | h, hb3⟩
                · obtain ⟨h9, rfl⟩ := h
                  have HK3 := hide (hKq.out.quiet hb3)
                  clear hb3
                  subst h9
                  go_wp2_with fail
                  go_meet
                  case rel => exact ⟨_, rfl, rfl, rfl, HK3⟩
                · obtain ⟨h9, h8, rfl⟩ := h
                  have HK3 := hide (hKq.out.quiet hb3)
                  clear hb3
                  subst h9 h8
                  go_wp2_with fail
                  go_meet
                  case rel => exact ⟨_, rfl, rfl, rfl, HK3⟩
        case rest =>
          obtain ⟨w6, rfl, rfl, rfl, hK6⟩ := hcut
          have hss : (s1.toList == s1.toList) = true := by simp
          obtain ⟨z0, z1, z2, z3⟩ := HAT.out _ hK6.out.bel
          obtain ⟨N1, hN1⟩ : ∃ N1 : Int, N1 = c1.n := ⟨_, rfl⟩
          obtain ⟨Z1, hZ1⟩ : ∃ Z1 : Int, Z1 = M.mark c1.l := ⟨_, rfl⟩
          have HRM : Hid (∀ wx, CQ w wx K E n c1 c1 R → Calls Tryz.prog 12 #[.pointer (some ⟨E, 0, none⟩)] wx fun e w' => e = .returned (.tuple #[.int .i64 N1, .int .i64 Z1]) ∧ CQ w w' K E n c1 c1 R) := hide fun wx h => by
            have := h.rmark
            rwa [← hN1, ← hZ1] at this
          have HMO : Hid (∀ wx (q : Nat), q < n → CQ w wx K E n c1 c1 R → Calls Tryz.prog 19 #[.pointer (some ⟨K, 0, none⟩), .int .i64 q] wx fun e w' => e = .returned (.tuple #[.int .i64 N1, .int .i64 Z1, .nilIface]) ∧ CQ w w' K E n c1 c1 R) := hide fun wx q hq h => by
            have := h.mark_ok q hq
            rwa [← hN1, ← hZ1] at this
          have HSE : Hid (∀ wx, CQ w wx K E n c1 c1 R → Calls Tryz.prog 7 #[.iface 74 (.int .i64 1), .int .i64 1] wx fun e w' => e = .returned (.bool true) ∧ CQ w w' K E n c1 c1 R) := hide fun wx h => by
            have := h.same 1
            rwa [errV_bad (by decide)] at this
          clear hN1 hZ1 HWAY HRD
          go_wp2_with fail
          refine (HCD.out _ _ hK6.out).mono ?_
          rintro e w7 ⟨rfl, hK7⟩
          have HK7 := hide hK7
          clear hK7 z0 z1 z2 z3
          go_wp2_with fail
          refine (HK7.out.same E1).mono ?_
          rintro e w8 ⟨rfl, hK8⟩
          have HK8 := hide hK8
          clear hK8
          go_wp2_with fail
          refine (HRM.out _ HK8.out).mono ?_
          rintro e w9 ⟨rfl, hK9⟩
          have HK9 := hide hK9
          clear hK9
          go_wp2_with fail
          go_loopw [28] (fun sk wx => ∃ q : Int, sk = .int .i64 q ∧ -1 ≤ q ∧ q ≤ (n : Int) + 1 ∧ Hid (CQ w wx K E n c1 c1 R)) (fun sk _ => ((n : Int) + 1 - intOf sk).toNat)
          case atStart => exact ⟨-1, rfl, by omega, by omega, HK9⟩
          case round =>
            clear HK9
            obtain ⟨q, rfl, p1, p2, hKq⟩ := hrel
            by_cases hqn : q ≤ (n : Int)
            · by_cases q0 : q < 0
              · have HMQ := hide (hKq.out.mark_no q (by omega))
                have HSQ := HSE
                go_wp2_with fail
                refine (unhide HMQ).mono ?_
                rintro e wa ⟨rfl, hKa⟩
                have HKa := hide hKa
                clear hKa
                go_wp2_with fail
                refine (HSQ.out _ HKa.out).mono ?_
                rintro e wb ⟨rfl, hKb⟩
                have HKb := hide hKb
                clear hKb
                go_wp2_with fail
                go_roundw
                case rel => exact ⟨q + 1, by go_num, by omega, by omega, HKb⟩
                case measure => simp [intOf]; omega
              · by_cases q1 : (n : Int) ≤ q
                · have HMQ := hide (hKq.out.mark_no q (by omega))
                  have HSQ := HSE
                  go_wp2_with fail
                  refine (unhide HMQ).mono ?_
                  rintro e wa ⟨rfl, hKa⟩
                  have HKa := hide hKa
                  clear hKa
                  go_wp2_with fail
                  refine (HSQ.out _ HKa.out).mono ?_
                  rintro e wb ⟨rfl, hKb⟩
                  have HKb := hide hKb
                  clear hKb
                  go_wp2_with fail
                  go_roundw
                  case rel => exact ⟨q + 1, by go_num, by omega, by omega, HKb⟩
                  case measure => simp [intOf]; omega
                · obtain ⟨qn, rfl⟩ : ∃ qn : Nat, q = qn := ⟨q.toNat, by omega⟩
                  have HMQ := hide (HMO.out _ qn (by omega) hKq.out)
                  go_wp2_with fail
                  refine (unhide HMQ).mono ?_
                  rintro e wa ⟨rfl, hKa⟩
                  have HKa := hide hKa
                  clear hKa
                  go_wp2_with fail
                  go_roundw
                  case rel => exact ⟨(qn : Int) + 1, by go_num, by omega, by omega, HKa⟩
                  case measure => simp [intOf]; omega
            · go_wp2_with fail
              go_roundw
              case rel => exact ⟨k + 1, c1, by go_num, by omega, by omega, HN1, hKq⟩
              case measure => simp [intOf]; omega
    · have hx : ¬ (k : Int) < (m : Int) ∨ ((k : Int) < (m : Int) ∧ ¬ (k : Int) < 30) := by omega
      clear hlt
      rcases hx with h1 | ⟨h1, h2⟩
      all_goals
        go_wp2_with fail
        go_ret
        exact ⟨rfl, hK.out.bel⟩

theorem walk (n : Int) (rav : Option Addr) (rn rcap : Nat) (R : List M.Rul) (av : Option Addr) (m cap : Nat) (l : List M.Ask) (lv : Option Addr) (ln lc : Nat) (lies : List (List ByteArray)) (w : World) (hrn : rn = R.length) (hrm : rn ≤ maxLen) (hR : AtR w rav R)
    (hm : m = l.length) (hmm : m ≤ maxLen) (hl : AtA w av l) (hln : ln = lies.length) (hlm : ln ≤ maxLen) (hli : AtL w lv lies) (hg : Hand w) (ht : Tab w) :
    Calls Tryz.prog 4 #[.int .i64 n, .slice rav rn rcap, .slice av m cap, .slice lv ln lc] w fun e w' => e = .returned (.bool true) ∧ Below w.heap.size w w' := by
  by_cases h : n < 1 ∨ 7 < n
  · exact walk_out n rav rn rcap _ _ w h hg
  · obtain ⟨N, rfl⟩ : ∃ N : Nat, n = N := ⟨n.toNat, by omega⟩
    by_cases hE : M.rulE R = 0
    · exact walk_ok N rav rn rcap R av m cap l lv ln lc lies w (by omega) (by omega) hrn hrm hR hE hm hmm hl hln hlm hli hg ht
    · exact walk_bad N rav rn rcap R _ _ w (by omega) (by omega) hrn hrm hR hg hE

end Go.Proofs.YtlefhfmckimlaaiGreatDoor.crowdPlays
