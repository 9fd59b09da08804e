/-
  The walk of the Go function CopyPlays: it returns true, whatever comes in.
-/
import Derived.Test.YtlefhfmckimlaaiGreatDoorJ40A
set_option linter.unusedVariables false
namespace Go.Proofs.YtlefhfmckimlaaiGreatDoor.copyPlays
open Go.RowKit
attribute [local go_sem ↓] Go.wp_at_zero Go.wp_at_succ

theorem walk_bad (rav : Option Addr) (rn rcap : Nat) (R : List M.Rul) (av : Option Addr) (m cap : Nat) (w : World) (hrn : rn = R.length) (hrm : rn ≤ maxLen) (hR : AtR w rav R) (hg : Hand w) (hE : M.rulE R ≠ 0) :
    Calls Tryz.prog 3 #[.slice rav rn rcap, .slice av m cap] w fun e w' => e = .returned (.bool true) ∧ Below w.heap.size w w' := by
  have HRU : Hid (Calls Tryz.prog 5 #[.slice rav rn rcap] w fun e w' => e = .returned (.int .i64 (M.rulE R)) ∧ Below w.heap.size w w') := hide (refRules rav rn rcap R w hrn hrm hR)
  have HNW : Hid (∀ wx, Below w.heap.size w wx → Calls Tryz.prog 6 #[.slice rav rn rcap] wx fun e w' => e = .returned (.tuple #[.pointer none, errV (M.rulE R)]) ∧ Below wx.heap.size wx w') := hide fun wx hb => mNew_bad rav rn rcap R wx hrn hrm (hR.stays hb (Nat.le_refl _)) hE
  have HSM : Hid (∀ wx, Below w.heap.size w wx → Calls Tryz.prog 7 #[errV (M.rulE R), .int .i64 (M.rulE R)] wx fun e w' => e = .returned (.bool true) ∧ Below wx.heap.size wx w') := hide fun wx hb => by
    have := sameErr (M.rulE R) (M.rulE R) wx (hg.stays hb (Nat.le_refl _))
    rwa [show (M.rulE R == M.rulE R) = true by simp] at this
  rw [errV_bad hE] at HNW HSM
  generalize M.rulE R = E at *
  have hz : (E == 0) = false := by simpa using hE
  clear hrn hrm hR hg hE
  go_enter Tryz.func3, Tryz.ntmps3
  go_wp2_with fail
  refine (unhide HRU).mono ?_
  rintro e w1 ⟨rfl, hb1⟩
  have HB1 := hide hb1
  clear hb1
  go_wp2_with fail
  refine (HNW.out _ HB1.out).mono ?_
  rintro e w2 ⟨rfl, hb2⟩
  have HB2 := hide (HB1.out.trans (hb2.mono HB1.out.size))
  clear hb2
  go_wp2_with fail
  refine (HSM.out _ HB2.out).mono ?_
  rintro e w3 ⟨rfl, hb3⟩
  have HB3 := hide (HB2.out.trans (hb3.mono HB2.out.size))
  clear hb3
  go_wp2_with fail
  go_ret
  exact ⟨rfl, HB3.out⟩

set_option maxRecDepth 100000 in
set_option maxHeartbeats 4000000 in
theorem walk_ok (rav : Option Addr) (rn rcap : Nat) (R : List M.Rul) (av : Option Addr) (m cap : Nat) (l : List M.Ask) (w : World) (hrn : rn = R.length) (hrm : rn ≤ maxLen) (hR : AtR w rav R) (hm : m = l.length) (hmm : m ≤ maxLen) (hl : AtA w av l) (hg : Hand w) (ht : Tab w) (hE : M.rulE R = 0) :
    Calls Tryz.prog 3 #[.slice rav rn rcap, .slice av m cap] w fun e w' => e = .returned (.bool true) ∧ Below w.heap.size w w' := by
  have HRU : Hid (Calls Tryz.prog 5 #[.slice rav rn rcap] w fun e w' => e = .returned (.int .i64 0) ∧ Below w.heap.size w w') := hide (by have := refRules rav rn rcap R w hrn hrm hR; rwa [hE] at this)
  have HNW : Hid (∀ wx, Below w.heap.size w wx → Calls Tryz.prog 6 #[.slice rav rn rcap] wx fun e w' => ∃ C F, e = .returned (.tuple #[.pointer (some ⟨C, 0, none⟩), .nilIface]) ∧ CpIs w.heap.size w' F C M.Cop.new R ∧ (∀ i, F i → wx.heap.size ≤ i) ∧ Below wx.heap.size wx w') := hide fun wx hb => mNew_ok w.heap.size rav rn rcap R wx hb.size hrn hrm (hR.stays hb (Nat.le_refl _)) hE
  have HSM : Hid (∀ wx, Below w.heap.size w wx → Calls Tryz.prog 7 #[.nilIface, .int .i64 0] wx fun e w' => e = .returned (.bool true) ∧ Below wx.heap.size wx w') := hide fun wx hb => sameErr 0 0 wx (hg.stays hb (Nat.le_refl _))
  have HST : Hid (∀ wx C F, Below w.heap.size w wx → CpIs w.heap.size wx F C M.Cop.new R → CP w ((wx.alloc (.cells #[.slice none 0 0] 46)).alloc (.cells #[.slice rav rn rcap, .pointer (some ⟨wx.heap.size, 0, none⟩), .slice none 0 0, .int .i64 0] 50)) C (wx.heap.size + 1) wx.heap.size M.Cop.new M.Cop.new R) := hide fun wx C F hb hC => by
    have hr := Rc.new hb (.slice rav rn rcap)
    have hb2 : Below wx.heap.size wx ((wx.alloc (.cells #[.slice none 0 0] 46)).alloc (.cells #[.slice rav rn rcap, .pointer (some ⟨wx.heap.size, 0, none⟩), .slice none 0 0, .int .i64 0] 50)) := ((Below.refl _ _).alloc (Nat.le_refl _) _).alloc (by simp) _
    refine ⟨⟨F, .slice none 0 0, .slice none 0 0, rav, rn, rcap, [], hC.quiet hb2, ⟨hr, rfl, rfl, M.Cop.new_ok, hR, hrn, hE⟩, (Off.new (w := wx) hC.highs (fun i hi => ?_)).symm⟩, hr.bel, hg, ht⟩
    rcases hi with rfl | rfl | hi | hi
    · exact Nat.le_succ _
    · exact Nat.le_refl _
    · cases hi
    · cases hi
  have HLA : Hid (∀ k (hk : k < l.length), ∃ b off a n c, av = some ⟨b, off, none⟩ ∧ IsVals w (.slice a n c) l[k].t ∧ ∀ wy, Below w.heap.size w wy → wy.cell? ⟨b, off + k * 4, none⟩ = some (.int .i64 l[k].who) ∧ wy.cell? ⟨b, off + k * 4 + 1, none⟩ = some (.int .i64 l[k].seq) ∧ wy.cell? ⟨b, off + k * 4 + 2, none⟩ = some (.int .i64 l[k].deed) ∧ wy.cell? ⟨b, off + k * 4 + 3, none⟩ = some (.slice a n c)) := hide fun k hk => by
    obtain ⟨b, off, e, hlie⟩ := hl (by omega)
    obtain ⟨a, n, c, h1, h2, h3, h4, h5⟩ := hlie.get hk
    have hlt := World.block_lt_of_cell? w _ h1
    exact ⟨b, off, a, n, c, e, h5, fun wy hy => ⟨(hy.cell (p := ⟨b, off + k * 4, none⟩) hlt).trans h1, (hy.cell (p := ⟨b, off + k * 4 + 1, none⟩) hlt).trans h2, (hy.cell (p := ⟨b, off + k * 4 + 2, none⟩) hlt).trans h3, (hy.cell (p := ⟨b, off + k * 4 + 3, none⟩) hlt).trans h4⟩⟩
  have HM := hide hm
  unfold maxLen at hmm
  clear hrn hrm hR hg hE ht hl hm
  go_enter Tryz.func3, Tryz.ntmps3
  go_wp2_with fail
  refine (unhide HRU).mono ?_
  rintro e w1 ⟨rfl, hb1⟩
  have HB1 := hide hb1
  clear hb1
  go_wp2_with fail
  refine (HNW.out _ HB1.out).mono ?_
  rintro e w2 ⟨C, F, rfl, hC2, _, hb2⟩
  have HB2 := hide (HB1.out.trans (hb2.mono HB1.out.size))
  have HC2 := hide hC2
  clear hb2 hC2
  go_wp2_with fail
  refine (HSM.out _ HB2.out).mono ?_
  rintro e w3 ⟨rfl, hb3⟩
  have HB3 := hide (HB2.out.trans (hb3.mono HB2.out.size))
  have HC3 := hide (HC2.out.quiet hb3)
  clear hb3 HC2
  go_wp2_with fail
  refine (rNewCopy rav rn rcap w3).mono ?_
  rintro e w4 ⟨rfl, hw4⟩
  have HK4 := hide (HST.out w3 C F HB3.out HC3.out)
  rw [← hw4] at HK4
  obtain ⟨E, hE⟩ : ∃ E, E = w3.heap.size + 1 := ⟨_, rfl⟩
  obtain ⟨S, hS⟩ : ∃ S, S = w3.heap.size := ⟨_, rfl⟩
  rw [← hE, ← hS] at HK4
  rw [← hE]
  clear hw4 hE hS HRU HNW HSM HST HB1 HB2 HB3 HC3
  go_wp2_with fail
  go_loopw [10] (fun si wr => ∃ (k : Nat) (c : M.Cop), si = .int .i64 k ∧ k ≤ m ∧ k ≤ 60 ∧ Hid (c.n ≤ k) ∧ Hid (CP w wr C E S c c R)) (fun si _ => 60 - (intOf si).toNat)
  case atStart => exact ⟨0, M.Cop.new, rfl, Nat.zero_le _, by omega, hide (Nat.le_refl _), HK4⟩
  case round =>
    obtain ⟨k, c, rfl, hk1, hk2, hcn, hK⟩ := hrel
    by_cases hlt : k < m ∧ k < 60
    · obtain ⟨hlm, hl6⟩ := hlt
      have hkl : k < l.length := HM.out ▸ hlm
      have i1 : (k : Int) < (m : Int) := by omega
      have i2 : (k : Int) < 60 := by omega
      have i3 : (0 : Int) ≤ (k : Int) := by omega
      obtain ⟨b, off, a, n, cp, rfl, hv, hat⟩ := HLA.out k hkl
      have HV := hide hv
      have HAT := hide hat
      generalize l[k] = x at *
      obtain ⟨who, seq, deed, t⟩ := x
      simp only at HV HAT
      obtain ⟨q0, q1, q2, q3⟩ := HAT.out wr hK.out.bel
      obtain ⟨s0, hs0⟩ : ∃ s0, s0 = (M.doR R c ⟨who, seq, deed, t⟩).2.1 := ⟨_, rfl⟩
      obtain ⟨E0, hE0⟩ : ∃ E0, E0 = (M.doR R c ⟨who, seq, deed, t⟩).1 := ⟨_, rfl⟩
      obtain ⟨c1, hc1⟩ : ∃ c1, c1 = (M.doR R c ⟨who, seq, deed, t⟩).2.2 := ⟨_, rfl⟩
      have HN1 : Hid (c1.n ≤ k + 1) := hide (by have := M.doR_many R c ⟨who, seq, deed, t⟩; rw [← hc1] at this; have := hcn.out; omega)
      have HRD : Hid (∀ wx d, CP w wx C E S d c R → Calls Tryz.prog 9 #[.pointer (some ⟨E, 0, none⟩), aggA who seq deed a n cp] wx fun e w' => e = .returned (.tuple #[.string s0, .int .i64 E0]) ∧ CP w w' C E S d c1 R) := hide fun wx d h => by
        have := h.rdo ⟨who, seq, deed, t⟩ HV.out (by have := hcn.out; omega)
        rwa [← hs0, ← hE0, ← hc1] at this
      have HDO : Hid (∀ wx d, CP w wx C E S c d R → Calls Tryz.prog 10 #[.pointer (some ⟨C, 0, none⟩), aggA who seq deed a n cp] wx fun e w' => e = .returned (.tuple #[.string s0, errV E0]) ∧ CP w w' C E S c1 d R) := hide fun wx d h => by
        have := h.do ⟨who, seq, deed, t⟩ HV.out (by have := hcn.out; omega)
        rwa [← hs0, ← hE0, ← hc1] at this
      have HMK : Hid (∀ wx d, CP w wx C E S c1 d R → Calls Tryz.prog 11 #[.pointer (some ⟨C, 0, none⟩)] wx fun e w' => e = .returned (.tuple #[.int .i64 c1.n, .int .i64 (M.mark c1.l)]) ∧ CP w w' C E S c1 d R) := hide fun wx d h => h.mark
      have HRM : Hid (∀ wx d, CP w wx C E S d c1 R → Calls Tryz.prog 12 #[.pointer (some ⟨E, 0, none⟩)] wx fun e w' => e = .returned (.tuple #[.int .i64 c1.n, .int .i64 (M.mark c1.l)]) ∧ CP w w' C E S d c1 R) := hide fun wx d h => h.rmark
      generalize M.mark c1.l = Z at *
      generalize (c1.n : Int) = N at *
      clear hs0 hE0 hc1 hv hat
      go_wp2_with fail
      refine (HRD.out _ _ hK.out).mono ?_
      rintro e w1 ⟨rfl, hK1⟩
      have HK1 := hide hK1
      clear hK1 q0 q1 q2 q3
      obtain ⟨q0, q1, q2, q3⟩ := HAT.out w1 HK1.out.bel
      go_wp2_with fail
      refine (HDO.out _ _ HK1.out).mono ?_
      rintro e w2 ⟨rfl, hK2⟩
      have HK2 := hide hK2
      clear hK2 q0 q1 q2 q3 HK1
      go_wp2_with fail
      refine (HMK.out _ _ HK2.out).mono ?_
      rintro e w3 ⟨rfl, hK3⟩
      have HK3 := hide hK3
      clear hK3 HK2
      go_wp2_with fail
      refine (HRM.out _ _ HK3.out).mono ?_
      rintro e w5 ⟨rfl, hK5⟩
      have HK5 := hide hK5
      clear hK5 HK3
      have HK5d := hide (HK5.out.quiet ((Below.refl _ _).drew))
      obtain ⟨u, z1, z0, zE, zS, hu, au, cu, rfl⟩ := HK5.out.cells
      have HU := hide hu
      clear hu HRD HDO HMK HRM
      have hss : (s0.toList == s0.toList) = true := by simp
      go_wp2_with fail
      go_region_held3 (fun w' => w'.cell? ⟨E, 1, none⟩ = some (.pointer (some ⟨S, 0, none⟩)) ∧ w'.cell? ⟨S, 0, none⟩ = some (.slice au c1.l.length cu)) (first | go_keep | assumption)
        (first
          | (go_at_call 7; refine (HK5d.out.same E0).mono ?_; rintro e w6 ⟨rfl, hK6, hb6⟩; have HK6 := hide hK6; have z61 : w6.cell? ⟨E, 1, none⟩ = some (.pointer (some ⟨S, 0, none⟩)) := (hb6.cell (p := ⟨E, 1, none⟩) zE).trans z1; have z60 : w6.cell? ⟨S, 0, none⟩ = some (.slice au c1.l.length cu) := (hb6.cell (p := ⟨S, 0, none⟩) zS).trans z0; have HU6 := hide (HU.out.stays (((Below.refl _ _).drew).trans hb6) (Nat.le_refl _)); have HS6 := hide hb6.size; clear hK6 hb6)
          | (go_at_call 14; refine (HK6.out.space).mono ?_; rintro e w7 ⟨ao, cp7, rfl, ht7, hK7, hb7⟩; have HK7 := hide hK7; have HT7 := hide ht7; have z71 : w7.cell? ⟨E, 1, none⟩ = some (.pointer (some ⟨S, 0, none⟩)) := (hb7.cell (p := ⟨E, 1, none⟩) (Nat.lt_of_lt_of_le zE HS6.out)).trans z61; have z70 : w7.cell? ⟨S, 0, none⟩ = some (.slice au c1.l.length cu) := (hb7.cell (p := ⟨S, 0, none⟩) (Nat.lt_of_lt_of_le zS HS6.out)).trans z60; have HU7 := hide (HU6.out.stays hb7 (Nat.le_refl _)); clear hK7 hb7 ht7)
          | (go_at_call 13; refine (sameTups _ _ c1.l w7 HT7.out HU7.out).mono ?_; rintro e w8 ⟨rfl, hb8⟩; have HK8 := hide (HK7.out.quiet hb8); have z81 : w8.cell? ⟨E, 1, none⟩ = some (.pointer (some ⟨S, 0, none⟩)) := (hb8.cell (p := ⟨E, 1, none⟩) (World.block_lt_of_cell? w7 _ z71)).trans z71; have z80 : w8.cell? ⟨S, 0, none⟩ = some (.slice au c1.l.length cu) := (hb8.cell (p := ⟨S, 0, none⟩) (World.block_lt_of_cell? w7 _ z70)).trans z70; clear hb8))
      go_wp2_with fail
      go_roundw
      case rel => exact ⟨k + 1, c1, by go_num, by omega, by omega, HN1, HK8⟩
      case measure => simp [intOf]; omega
    · have hx : ¬ (k : Int) < (m : Int) ∨ ((k : Int) < (m : Int) ∧ ¬ (k : Int) < 60) := by omega
      clear hlt
      rcases hx with h1 | ⟨h1, h2⟩
      all_goals
        go_wp2_with fail
        go_ret
        exact ⟨rfl, hK.out.bel⟩

theorem walk (rav : Option Addr) (rn rcap : Nat) (R : List M.Rul) (av : Option Addr) (m cap : Nat) (l : List M.Ask) (w : World) (hrn : rn = R.length) (hrm : rn ≤ maxLen) (hR : AtR w rav R) (hm : m = l.length) (hmm : m ≤ maxLen) (hl : AtA w av l) (hg : Hand w) (ht : Tab w) :
    Calls Tryz.prog 3 #[.slice rav rn rcap, .slice av m cap] w fun e w' => e = .returned (.bool true) ∧ Below w.heap.size w w' := by
  by_cases hE : M.rulE R = 0
  · exact walk_ok rav rn rcap R av m cap l w hrn hrm hR hm hmm hl hg ht hE
  · exact walk_bad rav rn rcap R av m cap w hrn hrm hR hg hE

end Go.Proofs.YtlefhfmckimlaaiGreatDoor.copyPlays
