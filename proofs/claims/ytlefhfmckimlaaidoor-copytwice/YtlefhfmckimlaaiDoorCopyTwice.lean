/-
  The walk of the Go function CopyTwice: it returns true, whatever comes in.
-/
import Derived.Test.YtlefhfmckimlaaiDoorCopyTwiceA
import Derived.BigQuiet
import Derived.Deep.QuietTactic
set_option linter.unusedVariables false
namespace Go.Proofs.YtlefhfmckimlaaiDoor.copyTwice
open Go.RowKit
attribute [local go_sem ↓] Go.wp_at_zero Go.wp_at_succ

set_option maxRecDepth 100000 in
set_option maxHeartbeats 4000000 in
theorem walk (rav : Option Addr) (rn rcap : Nat) (R : List M.Rul) (av : Option Addr) (m cap : Nat) (l : List M.Ask) (w : World) (hrn : rn = R.length) (hrm : rn ≤ maxLen) (hR : AtR w rav R) (hm : m = l.length) (hmm : m ≤ maxLen) (hl : AtA w av l) (ht : Tab w) :
    Calls Tryd.prog 3 #[.slice rav rn rcap, .slice av m cap] w fun e w' => e = .returned (.bool true) ∧ Below w.heap.size w w' := by
  have HON := hide (On.new w ht)
  have HLA : Hid (∀ k (hk : k < l.length), ∃ b off a n c, av = some ⟨b, off, none⟩ ∧ IsVals w (.slice a n c) l[k].t ∧ ∀ wy, Below w.heap.size w wy → wy.cell? ⟨b, off + k * 4, none⟩ = some (.int .i64 l[k].who) ∧ wy.cell? ⟨b, off + k * 4 + 1, none⟩ = some (.int .i64 l[k].seq) ∧ wy.cell? ⟨b, off + k * 4 + 2, none⟩ = some (.int .i64 l[k].deed) ∧ wy.cell? ⟨b, off + k * 4 + 3, none⟩ = some (.slice a n c)) := hide fun k hk => by
    obtain ⟨b, off, e, hlie⟩ := hl (by omega)
    obtain ⟨a, n, c, h1, h2, h3, h4, h5⟩ := hlie.get hk
    have hlt := World.block_lt_of_cell? w _ h1
    exact ⟨b, off, a, n, c, e, h5, fun wy hy => ⟨(hy.cell (p := ⟨b, off + k * 4, none⟩) hlt).trans h1, (hy.cell (p := ⟨b, off + k * 4 + 1, none⟩) hlt).trans h2, (hy.cell (p := ⟨b, off + k * 4 + 2, none⟩) hlt).trans h3, (hy.cell (p := ⟨b, off + k * 4 + 3, none⟩) hlt).trans h4⟩⟩
  have HNW : Hid (∀ wx, Below w.heap.size w wx → (M.rulE R = 0 ∧ Calls Tryd.prog 7 #[.slice rav rn rcap] wx fun e w' => ∃ C F, e = .returned (.tuple #[.pointer (some ⟨C, 0, none⟩), .nilIface]) ∧ CpIs w.heap.size w' F C M.Cop.new R ∧ (∀ i, F i → wx.heap.size ≤ i) ∧ Below wx.heap.size wx w') ∨ (M.rulE R ≠ 0 ∧ Calls Tryd.prog 7 #[.slice rav rn rcap] wx fun e w' => e = .returned (.tuple #[.pointer none, .iface 82 (.int .i64 (M.rulE R))]) ∧ Below wx.heap.size wx w')) := hide fun wx hb => by
    by_cases hE : M.rulE R = 0
    · exact Or.inl ⟨hE, mNew_ok w.heap.size rav rn rcap R wx hb.size hrn hrm (hR.stays hb (Nat.le_refl _)) hE⟩
    · have := mNew_bad rav rn rcap R wx hrn hrm (hR.stays hb (Nat.le_refl _)) hE
      rw [errV_bad hE] at this
      exact Or.inr ⟨hE, this⟩
  have HT := hide ht
  have HM := hide hm
  unfold maxLen at hmm
  clear hrn hrm hR hl hm ht
  go_enter Tryd.func3, Tryd.ntmps3
  go_wp2_with fail
  refine (unhide HON).mono ?_
  rintro e w1 ⟨C0, rfl, hO1⟩
  have HO1 := hide hO1
  clear hO1
  have HD1 := hide HO1.out.do1
  go_wp2_with fail
  refine (unhide HD1).mono ?_
  rintro e w2 ⟨rfl, hO2⟩
  have HO2 := hide hO2
  clear hO2 HD1 HO1
  go_wp2_with fail
  refine (HO2.out.do2).mono ?_
  rintro e w3 ⟨rfl, hO3⟩
  have HO3 := hide hO3
  clear hO3 HO2
  go_wp2_with fail
  refine (HO3.out.do3).mono ?_
  rintro e w4 ⟨rfl, hO4⟩
  have HO4 := hide hO4
  clear hO4 HO3
  go_wp2_with fail
  refine (HO4.out.mark).mono ?_
  rintro e w5 ⟨rfl, hb5⟩
  have HB5 := hide hb5
  clear hb5 HO4 HON
  go_wp2_with fail
  rcases HNW.out w5 HB5.out with ⟨hE, hN⟩ | ⟨hE, hN⟩
  · have HN5 := hide hN
    have HE := hide hE
    clear hN hE
    refine (unhide HN5).mono ?_
    rintro e w6 ⟨C, F, rfl, hC6, hF6, hb6⟩
    have HB6 := hide (HB5.out.trans (hb6.mono HB5.out.size))
    have HC6 := hide hC6
    clear hC6 hF6 hb6 HN5
    have HN6 : Hid (Calls Tryd.prog 7 #[.slice rav rn rcap] w6 fun e w' => ∃ C F, e = .returned (.tuple #[.pointer (some ⟨C, 0, none⟩), .nilIface]) ∧ CpIs w.heap.size w' F C M.Cop.new R ∧ (∀ i, F i → w6.heap.size ≤ i) ∧ Below w6.heap.size w6 w') := hide (by
      rcases HNW.out w6 HB6.out with ⟨_, hN⟩ | ⟨hE, _⟩
      · exact hN
      · exact absurd HE.out hE)
    go_wp2_with fail
    refine (unhide HN6).mono ?_
    rintro e w7 ⟨E, G, rfl, hC7, hG7, hb7⟩
    have HK7 : Hid (Tw w w7 C E M.Cop.new M.Cop.new R) := hide ⟨⟨F, G, HC6.out.quiet hb7, hC7, (Off.new (w := w6) HC6.out.highs hG7).symm⟩, HB6.out.trans (hb7.mono HB6.out.size), HT.out⟩
    clear hC7 hG7 hb7 HN6 HC6 HB6 HB5 HNW
    go_wp2_with fail
    go_loopw [20] (fun si wr => ∃ (k : Nat) (c : M.Cop), si = .int .i64 k ∧ k ≤ m ∧ k ≤ 40 ∧ Hid (c.n ≤ k) ∧ Hid (c.Ok) ∧ Hid (Tw w wr C E c c R)) (fun si _ => 40 - (intOf si).toNat)
    case atStart => exact ⟨0, M.Cop.new, rfl, Nat.zero_le _, by omega, hide (Nat.le_refl _), hide M.Cop.new_ok, HK7⟩
    case round =>
      obtain ⟨k, c, rfl, hk1, hk2, hcn, hok, hK⟩ := hrel
      by_cases hlt : k < m ∧ k < 40
      · obtain ⟨hlm, hl6⟩ := hlt
        have hkl : k < l.length := HM.out ▸ hlm
        have i1 : (k : Int) < (m : Int) := by omega
        have i2 : (k : Int) < 40 := by omega
        have i3 : (0 : Int) ≤ (k : Int) := by omega
        obtain ⟨b, off, a, n, cp, rfl, hv, hat⟩ := HLA.out k hkl
        have HV := hide hv
        have HAT := hide hat
        generalize l[k] = x at *
        obtain ⟨who, seq, deed, t⟩ := x
        simp only at HV HAT
        obtain ⟨q0, q1, q2, q3⟩ := HAT.out wr hK.out.bel
        obtain ⟨s0, hs0⟩ : ∃ s0, s0 = (M.doR R c ⟨who, seq, deed, t⟩).2.1 := ⟨_, rfl⟩
        obtain ⟨E0, hE0⟩ : ∃ E0, E0 = (M.doR R c ⟨who, seq, deed, t⟩).1 := ⟨_, rfl⟩
        obtain ⟨c1, hc1⟩ : ∃ c1, c1 = (M.doR R c ⟨who, seq, deed, t⟩).2.2 := ⟨_, rfl⟩
        have HN1 : Hid (c1.n ≤ k + 1) := hide (by have := M.doR_many R c ⟨who, seq, deed, t⟩; rw [← hc1] at this; have := hcn.out; omega)
        have HO1 : Hid c1.Ok := hide (by rw [hc1]; exact hok.out.next)
        have HTW : Hid (E0 = 0 → M.doR R c1 ⟨who, seq, deed, t⟩ = (0, s0, c1)) := hide fun h0 => by
          have := M.doR_twice (R := R) (a := ⟨who, seq, deed, t⟩) hok.out (by rw [← hE0]; exact h0)
          rwa [← hc1, ← hs0] at this
        have HDX : Hid (∀ wx d, Tw w wx C E c d R → Calls Tryd.prog 8 #[.pointer (some ⟨C, 0, none⟩), aggA who seq deed a n cp] wx fun e w' => e = .returned (.tuple #[.string s0, errV E0]) ∧ Tw w w' C E c1 d R) := hide fun wx d h => by
          have := h.do ⟨who, seq, deed, t⟩ HV.out (by have := hcn.out; omega)
          rwa [← hs0, ← hE0, ← hc1] at this
        have HDY : Hid (∀ wx d, Tw w wx C E d c R → Calls Tryd.prog 8 #[.pointer (some ⟨E, 0, none⟩), aggA who seq deed a n cp] wx fun e w' => e = .returned (.tuple #[.string s0, errV E0]) ∧ Tw w w' C E d c1 R) := hide fun wx d h => by
          have := h.symm.do ⟨who, seq, deed, t⟩ HV.out (by have := hcn.out; omega)
          rw [← hs0, ← hE0, ← hc1] at this
          exact this.mono fun _ _ he => ⟨he.1, he.2.symm⟩
        have HD2 : Hid (E0 = 0 → ∀ wx d, Tw w wx C E c1 d R → Calls Tryd.prog 8 #[.pointer (some ⟨C, 0, none⟩), aggA who seq deed a n cp] wx fun e w' => e = .returned (.tuple #[.string s0, .nilIface]) ∧ Tw w w' C E c1 d R) := hide fun h0 wx d h => by
          have := h.do ⟨who, seq, deed, t⟩ HV.out (by have := HN1.out; omega)
          rw [HTW.out h0] at this
          exact this
        have HMX : Hid (∀ wx d, Tw w wx C E c1 d R → Calls Tryd.prog 9 #[.pointer (some ⟨C, 0, none⟩)] wx fun e w' => e = .returned (.tuple #[.int .i64 c1.n, .int .i64 (M.mark c1.l)]) ∧ Tw w w' C E c1 d R) := hide fun wx d h => h.mark
        have HMY : Hid (∀ wx d, Tw w wx C E d c1 R → Calls Tryd.prog 9 #[.pointer (some ⟨E, 0, none⟩)] wx fun e w' => e = .returned (.tuple #[.int .i64 c1.n, .int .i64 (M.mark c1.l)]) ∧ Tw w w' C E d c1 R) := hide fun wx d h => h.symm.mark.mono fun _ _ he => ⟨he.1, he.2.symm⟩
        generalize M.mark c1.l = Z at *
        generalize (c1.n : Int) = N at *
        have hss : (s0.toList == s0.toList) = true := by simp
        clear hs0 hE0 hc1 hv hat HTW
        by_cases h0 : E0 = 0
        · subst h0
          rw [show errV 0 = Value.nilIface from rfl] at HDX HDY
          have HD2' := hide (HD2.out rfl)
          clear HD2
          go_wp2_with fail
          refine (HDX.out _ _ hK.out).mono ?_
          rintro e w1 ⟨rfl, hK1⟩
          have HK1 := hide hK1
          clear hK1 q0 q1 q2 q3
          go_wp2_with fail
          refine (HMX.out _ _ HK1.out).mono ?_
          rintro e w2 ⟨rfl, hK2⟩
          have HK2 := hide hK2
          clear hK2 HK1
          obtain ⟨q0, q1, q2, q3⟩ := HAT.out w2 HK2.out.bel
          go_wp2_with fail
          refine (HD2'.out _ _ HK2.out).mono ?_
          rintro e w3 ⟨rfl, hK3⟩
          have HK3 := hide hK3
          clear hK3 HK2 q0 q1 q2 q3
          go_wp2_with fail
          refine (HMX.out _ _ HK3.out).mono ?_
          rintro e w4 ⟨rfl, hK4⟩
          have HK4 := hide hK4
          clear hK4 HK3
          obtain ⟨q0, q1, q2, q3⟩ := HAT.out w4 HK4.out.bel
          go_wp2_with fail
          refine (HDY.out _ _ HK4.out).mono ?_
          rintro e w5 ⟨rfl, hK5⟩
          have HK5 := hide hK5
          clear hK5 HK4 q0 q1 q2 q3
          go_wp2_with fail
          refine (HMY.out _ _ HK5.out).mono ?_
          rintro e w6 ⟨rfl, hK6⟩
          have HK6 := hide hK6
          clear hK6 HK5
          go_wp2_with fail
          go_quiet (fail)
          have HK7 := hide (HK6.out.quiet (Go.below_drewN (Below.refl _ _) nq))
          go_wp2_with fail
          go_roundw
          case rel => exact ⟨k + 1, c1, by go_num, by omega, by omega, HN1, HO1, HK7⟩
          case measure => simp [intOf]; omega
        · rw [errV_bad h0] at HDX HDY
          clear HD2 h0
          go_wp2_with fail
          refine (HDX.out _ _ hK.out).mono ?_
          rintro e w1 ⟨rfl, hK1⟩
          have HK1 := hide hK1
          clear hK1 q0 q1 q2 q3
          go_wp2_with fail
          refine (HMX.out _ _ HK1.out).mono ?_
          rintro e w2 ⟨rfl, hK2⟩
          have HK2 := hide hK2
          clear hK2 HK1
          obtain ⟨q0, q1, q2, q3⟩ := HAT.out w2 HK2.out.bel
          go_wp2_with fail
          refine (HDY.out _ _ HK2.out).mono ?_
          rintro e w5 ⟨rfl, hK5⟩
          have HK5 := hide hK5
          clear hK5 HK2 q0 q1 q2 q3
          go_wp2_with fail
          refine (HMY.out _ _ HK5.out).mono ?_
          rintro e w6 ⟨rfl, hK6⟩
          have HK6 := hide hK6
          clear hK6 HK5
          go_wp2_with fail
          go_quiet (fail)
          have HK7 := hide (HK6.out.quiet (Go.below_drewN (Below.refl _ _) nq))
          go_wp2_with fail
          go_roundw
          case rel => exact ⟨k + 1, c1, by go_num, by omega, by omega, HN1, HO1, HK7⟩
          case measure => simp [intOf]; omega
      · have hx : ¬ (k : Int) < (m : Int) ∨ ((k : Int) < (m : Int) ∧ ¬ (k : Int) < 40) := by omega
        clear hlt
        have HSP := hide hK.out.space
        have HSY : Hid (∀ wx, Tw w wx C E c c R → Calls Tryd.prog 11 #[.pointer (some ⟨E, 0, none⟩)] wx fun e w' => ∃ ao cap, e = .returned (.slice ao c.l.length cap) ∧ IsTups w' (.slice ao c.l.length cap) c.l ∧ Tw w w' C E c c R ∧ Below wx.heap.size wx w') := hide fun wx h => h.symm.space.mono fun e w' ⟨ao, cap, h1, h2, h3, h4⟩ => ⟨ao, cap, h1, h2, h3.symm, h4⟩
        obtain ⟨cl, hcl⟩ : ∃ cl, cl = c.l := ⟨_, rfl⟩
        rw [← hcl] at HSP HSY
        clear hcl
        rcases hx with h1 | ⟨h1, h2⟩
        all_goals
          go_wp2_with fail
          refine (unhide HSP).mono ?_
          rintro e w1 ⟨a1, p1, rfl, ht1, hK1, _⟩
          have HT1 := hide ht1
          have HK1 := hide hK1
          clear ht1 hK1
          go_wp2_with fail
          refine (HSY.out _ HK1.out).mono ?_
          rintro e w2 ⟨a2, p2, rfl, ht2, hK2, hb2⟩
          have HT2 := hide ht2
          have HT1' := hide (HT1.out.stays hb2 (Nat.le_refl _))
          have HK2 := hide hK2
          clear ht2 hK2 hb2 HT1 HK1
          go_wp2_with fail
          refine (sameTups _ _ cl _ HT1'.out HT2.out).mono ?_
          rintro e w3 ⟨rfl, hb3⟩
          have HK3 := hide (HK2.out.quiet hb3)
          clear hb3
          go_wp2_with fail
          go_ret
          exact ⟨rfl, HK3.out.bel⟩
  · have HN5 := hide hN
    have HE := hide hE
    clear hN hE
    have HNB : Hid (∀ wx, Below w.heap.size w wx → Calls Tryd.prog 7 #[.slice rav rn rcap] wx fun e w' => e = .returned (.tuple #[.pointer none, .iface 82 (.int .i64 (M.rulE R))]) ∧ Below wx.heap.size wx w') := hide fun wx hb => by
      rcases HNW.out wx hb with ⟨hE, _⟩ | ⟨_, hN⟩
      · exact absurd hE HE.out
      · exact hN
    generalize M.rulE R = X at *
    refine (unhide HN5).mono ?_
    rintro e w6 ⟨rfl, hb6⟩
    have HB6 := hide (HB5.out.trans (hb6.mono HB5.out.size))
    clear hb6 HN5
    go_wp2_with fail
    refine (HNB.out _ HB6.out).mono ?_
    rintro e w7 ⟨rfl, hb7⟩
    have HB7 := hide (HB6.out.trans (hb7.mono HB6.out.size))
    clear hb7
    go_wp2_with fail
    go_ret
    exact ⟨rfl, HB7.out⟩

end Go.Proofs.YtlefhfmckimlaaiDoor.copyTwice
