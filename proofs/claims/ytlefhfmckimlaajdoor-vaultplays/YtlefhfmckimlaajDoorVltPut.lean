/-
  What Put of package vault does, as one law of its call.
-/
import Derived.Test.YtlefhfmckimlaajDoorJ23A
import Derived.Test.YtlefhfmckimlaajDoorShelf
import Derived.Deep.RegionHeld3
import Derived.Deep.CutRange
set_option linter.unusedVariables false
namespace Go.Proofs.YtlefhfmckimlaajDoor
open Go.RowKit Go.WideMaps Go.Maps

theorem cloneN (s : ByteArray) (w : World) (hs : s.size ≤ 281474976710656) : Calls Tryd.prog 24 #[.string s] w fun e w' => e = .returned (.string s) ∧ Below w.heap.size w w' := by
  go_enter Tryd.func24, Tryd.ntmps24
  go_wp2_with fail
  refine (Tryd.stringslite_Clone s _ hs).mono ?_
  rintro e w1 ⟨rfl, hb⟩
  go_wp2_with fail
  go_ret
  exact ⟨rfl, hb⟩

section
variable {base : Nat} {w : World} {F : Nat → Prop} {V : Nat} {v : M.Vlt} {a : ByteArray} {s : Int} {ra : Option Addr} {rn rc : Nat} {r : List Int}
theorem vPut_long (h : VtIs base w F V v) (ha : a.size ≤ maxLen) (h1 : 12 < a.size) :
    Calls Tryd.prog 8 #[.pointer (some ⟨V, 0, none⟩), .string a, .int .i64 s, .slice ra rn rc] w fun e w' => e = .returned (errV 4) ∧ Below w.heap.size w w' := by
  rw [errV_bad (by decide)]
  have i1 : (12 : Int) < (a.size : Int) := by omega
  unfold maxLen at ha
  clear h h1
  go_enter Tryd.func8, Tryd.ntmps8
  go_wp2_with fail
  go_ret
  exact ⟨rfl, Below.refl _ _⟩
theorem vPut_there (h : VtIs base w F V v) (h1 : ¬ 12 < a.size) (h2 : (v.g a).isSome = true) :
    Calls Tryd.prog 8 #[.pointer (some ⟨V, 0, none⟩), .string a, .int .i64 s, .slice ra rn rc] w fun e w' => e = .returned (errV 7) ∧ Below w.heap.size w w' := by
  obtain ⟨B, K, rfl, hc⟩ := h.is
  obtain ⟨p, hg⟩ := Option.isSome_iff_exists.1 h2
  obtain ⟨sa, sc, ca, cc, hlk, _, _⟩ := hc.lookYes a (by unfold maxLen; omega) hg
  obtain ⟨c0, c1, c2, cn⟩ := hc.cells
  rw [errV_bad (by decide)]
  have i1 : ¬ (12 : Int) < (a.size : Int) := by omega
  clear h h1 h2 hc hg
  go_enter Tryd.func8, Tryd.ntmps8
  go_wp2_with fail
  go_ret
  exact ⟨rfl, (Below.refl _ _).alloc (Nat.le_refl _) _⟩
set_option maxRecDepth 100000 in
theorem vPut_shape (h : VtIs base w F V v) (h1 : ¬ 12 < a.size) (h2 : v.g a = none) (hn : rn = r.length) (hm : rn ≤ maxLen) (h3 : r.length + 1 ≠ v.need) :
    Calls Tryd.prog 8 #[.pointer (some ⟨V, 0, none⟩), .string a, .int .i64 s, .slice ra rn rc] w fun e w' => e = .returned (errV 3) ∧ Below w.heap.size w w' := by
  obtain ⟨B, K, rfl, hc⟩ := h.is
  have hlk := hc.lookNo a (by unfold maxLen; omega) h2
  obtain ⟨c0, c1, c2, cn⟩ := hc.cells
  have HB1 : Hid (Below w.heap.size w (w.alloc (.cells #[nilS, nilS] 71))) := hide ((Below.refl _ _).alloc (Nat.le_refl _) _)
  have HV1 := hide (hc.quiet HB1.out)
  obtain ⟨d0, d1, d2, dn⟩ := HV1.out.cells
  have i1 : ¬ (12 : Int) < (a.size : Int) := by omega
  have hv1 := h.ok.one
  have hv2 := h.ok.le
  have hv3 := h.ok.seven
  rw [errV_bad (by decide)]
  obtain ⟨q, hq⟩ : ∃ q : Nat, v.need = q + 1 := ⟨v.need - 1, by omega⟩
  rw [hq] at c1 d1
  have c1' : w.cell? ⟨V, 1, none⟩ = some (.int .i64 ((q : Int) + 1)) := c1
  have d1' : (w.alloc (.cells #[nilS, nilS] 71)).cell? ⟨V, 1, none⟩ = some (.int .i64 ((q : Int) + 1)) := d1
  have i2 : ((rn : Int) == (q : Int)) = false := by simp; omega
  have i4 : q ≤ 7 := by omega
  unfold maxLen at hm
  clear h h1 h2 hc hn h3 HV1 hq c1 d1 hv1 hv2 hv3
  go_enter Tryd.func8, Tryd.ntmps8
  go_wp2_with fail
  go_ret
  exact ⟨rfl, HB1.out⟩
theorem vPut_deal (h : VtIs base w F V v) (h1 : ¬ 12 < a.size) (h2 : v.g a = none) (hn : rn = r.length) (hm : rn ≤ maxLen) (hl : AtI w ra r) (ht : Tidy ra rn rc) (h3 : r.length + 1 = v.need) (h4 : M.dealE s r v.many ≠ 0) :
    Calls Tryd.prog 8 #[.pointer (some ⟨V, 0, none⟩), .string a, .int .i64 s, .slice ra rn rc] w fun e w' => e = .returned (errV (M.dealE s r v.many)) ∧ Below w.heap.size w w' := by
  obtain ⟨B, K, rfl, hc⟩ := h.is
  have hlk := hc.lookNo a (by unfold maxLen; omega) h2
  obtain ⟨c0, c1, c2, cn⟩ := hc.cells
  have HB1 : Hid (Below w.heap.size w (w.alloc (.cells #[nilS, nilS] 71))) := hide ((Below.refl _ _).alloc (Nat.le_refl _) _)
  have HV1 := hide (hc.quiet HB1.out)
  obtain ⟨d0, d1, d2, dn⟩ := HV1.out.cells
  have i1 : ¬ (12 : Int) < (a.size : Int) := by omega
  have hv1 := h.ok.one
  have hv2 := h.ok.le
  have hv3 := h.ok.seven
  have HD : Hid (Calls Tryd.prog 23 #[.int .i64 s, .slice ra rn rc, .int .i64 v.many] (w.alloc (.cells #[nilS, nilS] 71)) fun e w' => e = .returned (.tuple #[aggK nilS nilS, .iface 66 (.int .i64 (M.dealE s r v.many))]) ∧ Below w.heap.size w w') := hide (by
    refine (vDeal_bad hn hm (hl.stays HB1.out (Nat.le_refl _)) ht h4).mono ?_
    rintro e w' ⟨rfl, hb⟩
    exact ⟨rfl, HB1.out.trans (hb.mono HB1.out.size)⟩)
  rw [errV_bad h4]
  have i2 : (rn : Int) = (v.need : Int) - 1 := by omega
  have i3 : ((rn : Int) == (v.need : Int) - 1) = true := by simp; omega
  generalize M.dealE s r v.many = E at *
  unfold maxLen at hm
  generalize v.need = nd at *
  generalize v.many = mn at *
  clear h h1 h2 hc hn h3 h4 hl ht HV1
  go_enter Tryd.func8, Tryd.ntmps8
  go_wp2_with fail
  refine (unhide HD).mono ?_
  rintro e w1 ⟨rfl, hb1⟩
  have HB2 := hide hb1
  clear hb1
  go_wp2_with fail
  go_ret
  exact ⟨rfl, HB2.out.alloc HB2.out.size _⟩
theorem dealN (h : VtIs base w F V v) (hn : rn = r.length) (hm : rn ≤ maxLen) (hl : AtI w ra r) (ht : Tidy ra rn rc) (h4 : M.dealE s r v.many = 0) :
    Calls Tryd.prog 23 #[.int .i64 s, .slice ra rn rc, .int .i64 v.many] (w.alloc (.cells #[nilS, nilS] 71)) fun e w' => ∃ g g2, e = .returned (.tuple #[aggK (.slice (some ⟨g, 0, none⟩) v.many v.many) (.slice (some ⟨g2, 0, none⟩) (1 + rn) (1 + rn)), .nilIface]) ∧ KeptOf w.heap.size w' v.many (s :: r) (.slice (some ⟨g, 0, none⟩) v.many v.many) (.slice (some ⟨g2, 0, none⟩) (1 + rn) (1 + rn)) ∧ Below w.heap.size w w' := by
  have hb1 : Below w.heap.size w (w.alloc (.cells #[nilS, nilS] 71)) := (Below.refl _ _).alloc (Nat.le_refl _) _
  refine (vDeal_ok hn hm (hl.stays hb1 (Nat.le_refl _)) ht h.ok.seven h4).mono ?_
  rintro e w' ⟨g, g2, rfl, hk, hb⟩
  exact ⟨g, g2, rfl, ⟨rowV_mono hk.shares hb1.size, rowV_mono hk.commits hb1.size⟩, hb1.trans (hb.mono hb1.size)⟩
theorem vPut_full (h : VtIs base w F V v) (h1 : ¬ 12 < a.size) (h2 : v.g a = none) (hn : rn = r.length) (hm : rn ≤ maxLen) (hl : AtI w ra r) (ht : Tidy ra rn rc) (h3 : r.length + 1 = v.need) (h4 : M.dealE s r v.many = 0) (h5 : 20 ≤ v.n) :
    Calls Tryd.prog 8 #[.pointer (some ⟨V, 0, none⟩), .string a, .int .i64 s, .slice ra rn rc] w fun e w' => e = .returned (errV 4) ∧ Below w.heap.size w w' := by
  obtain ⟨B, K, rfl, hc⟩ := h.is
  have hlk := hc.lookNo a (by unfold maxLen; omega) h2
  obtain ⟨c0, c1, c2, cn⟩ := hc.cells
  have HB1 : Hid (Below w.heap.size w (w.alloc (.cells #[nilS, nilS] 71))) := hide ((Below.refl _ _).alloc (Nat.le_refl _) _)
  have HV1 := hide (hc.quiet HB1.out)
  obtain ⟨d0, d1, d2, dn⟩ := HV1.out.cells
  have i1 : ¬ (12 : Int) < (a.size : Int) := by omega
  have hv1 := h.ok.one
  have hv2 := h.ok.le
  have hv3 := h.ok.seven
  have HD := hide (dealN h hn hm hl ht h4)
  rw [errV_bad (by decide)]
  have i2 : (rn : Int) = (v.need : Int) - 1 := by omega
  have i3 : ((rn : Int) == (v.need : Int) - 1) = true := by simp; omega
  have i4 : (20 : Int) ≤ (v.n : Int) := by omega
  have h20 := h.ok.twenty
  have HVB : Hid (∀ wx, Below w.heap.size w wx → Vt base wx V B v K) := hide fun wx hb => hc.quiet hb
  unfold maxLen at hm
  clear h h1 h2 hn h3 h4 hl ht HV1 h5 hc
  have HAL : Hid (∀ wx o, Below w.heap.size w wx → Below w.heap.size w (wx.alloc o)) := hide fun wx o hb => hb.alloc hb.size o
  go_enter Tryd.func8, Tryd.ntmps8
  go_wp2_with fail
  refine (unhide HD).mono ?_
  rintro e w1 ⟨g, g2, rfl, ho, hb1⟩
  have HB2 := hide (HAL.out w1 (.cells #[.slice (some ⟨g, 0, none⟩) v.many v.many, .slice (some ⟨g2, 0, none⟩) (1 + rn) (1 + rn)] 71) hb1)
  have HV2 := hide (HVB.out _ HB2.out)
  clear hb1 ho
  obtain ⟨f0, f1, f2, fn⟩ := HV2.out.cells
  have hlen := HV2.out.len
  go_wp2_with fail
  go_ret
  exact ⟨rfl, HB2.out⟩
set_option maxRecDepth 100000 in
set_option maxHeartbeats 1000000 in
theorem vPut_did (h : VtIs base w F V v) (h1 : ¬ 12 < a.size) (h2 : v.g a = none) (hn : rn = r.length) (hm : rn ≤ maxLen) (hl : AtI w ra r) (ht : Tidy ra rn rc) (h3 : r.length + 1 = v.need) (h4 : M.dealE s r v.many = 0) (h5 : ¬ 20 ≤ v.n) :
    Calls Tryd.prog 8 #[.pointer (some ⟨V, 0, none⟩), .string a, .int .i64 s, .slice ra rn rc] w fun e w' => e = .returned .nilIface ∧ ∃ F', VtIs base w' F' V (M.vputV v a s r) ∧ Tc F w w' ∧ Gr w F F' := by
  have hE := M.vputE_0 (s := s) (r := r) h1 h2 h3 h4 h5
  have HOK : Hid ((M.vputV v a s r).Ok) := hide h.ok.put
  have HVV : Hid (M.vputV v a s r = ⟨v.many, v.need, fun b => if b = a then some (s :: r) else v.g b, v.n + 1⟩) := hide (by unfold M.vputV; rw [if_pos hE])
  obtain ⟨B, K, rfl, hc⟩ := h.is
  have hlk := hc.lookNo a (by unfold maxLen; omega) h2
  obtain ⟨c0, c1, c2, cn⟩ := hc.cells
  have HB1 : Hid (Below w.heap.size w (w.alloc (.cells #[nilS, nilS] 71))) := hide ((Below.refl _ _).alloc (Nat.le_refl _) _)
  have HV1 := hide (hc.quiet HB1.out)
  obtain ⟨d0, d1, d2, dn⟩ := HV1.out.cells
  have i1 : ¬ (12 : Int) < (a.size : Int) := by omega
  have hv1 := h.ok.one
  have hv2 := h.ok.le
  have hv3 := h.ok.seven
  have HD := hide (dealN h hn hm hl ht h4)
  have i2 : (rn : Int) = (v.need : Int) - 1 := by omega
  have i3 : ((rn : Int) == (v.need : Int) - 1) = true := by simp; omega
  have i4 : ¬ (20 : Int) ≤ (v.n : Int) := by omega
  have h20 := h.ok.twenty
  have HVB : Hid (∀ wx, Below w.heap.size w wx → Vt base wx V B v K) := hide fun wx hb => hc.quiet hb
  have HFO : Hid (∀ b, vtF V B v K b → b < w.heap.size) := hide hc.highs
  have HNO := hide h2
  have HBASE := hide hc.base_le
  have HNX : Hid (v.n < maxLen) := hide (by unfold maxLen; omega)
  have HCL : Hid (∀ wx, Calls Tryd.prog 24 #[.string a] wx fun e w' => e = .returned (.string a) ∧ Below wx.heap.size wx w') := hide fun wx => cloneN _ wx (by omega)
  have HA12 : Hid (a.size ≤ maxLen) := hide (by unfold maxLen; omega)
  have HAL : Hid (∀ wx o, Below w.heap.size w wx → Below w.heap.size w (wx.alloc o)) := hide fun wx o hb => hb.alloc hb.size o
  unfold maxLen at hm
  clear h h1 h2 hn h3 h4 hl ht HV1 h5 hc hE
  go_enter Tryd.func8, Tryd.ntmps8
  go_wp2_with fail
  refine (unhide HD).mono ?_
  rintro e w1 ⟨g, g2, rfl, ho, hb1⟩
  obtain ⟨w3, hw3⟩ : ∃ w3, w3 = w1.alloc (.cells #[.slice (some ⟨g, 0, none⟩) v.many v.many, .slice (some ⟨g2, 0, none⟩) (1 + rn) (1 + rn)] 71) := ⟨_, rfl⟩
  have hb13 : Below w1.heap.size w1 w3 := by rw [hw3]; exact (Below.refl _ _).alloc (Nat.le_refl _) _
  have HB5 : Hid (Below w.heap.size w w3) := hide (hb1.trans (hb13.mono hb1.size))
  have HV3 := hide (HVB.out _ HB5.out)
  have HKO : Hid (∀ wx, Below w3.heap.size w3 wx → KeptOf base wx v.many (s :: r) (.slice (some ⟨g, 0, none⟩) v.many v.many) (.slice (some ⟨g2, 0, none⟩) (1 + rn) (1 + rn))) := hide fun wx hbx => by
    have hx := hb13.trans (hbx.mono hb13.size)
    refine ⟨rowV_mono (rowV_at ho.shares (fun i hi => ?_)) HBASE.out, rowV_mono (rowV_at ho.commits (fun i hi => ?_)) HBASE.out⟩
    · obtain ⟨_, cc, fr, hh⟩ := rowV_tag ho.shares hi
      exact hx.block i (heapV_lt hh)
    · obtain ⟨_, cc, fr, hh⟩ := rowV_tag ho.commits hi
      exact hx.block i (heapV_lt hh)
  have HNW : Hid (w.heap.size ≤ g ∧ w.heap.size ≤ g2) := hide ⟨(rowV_tag ho.shares (g := g) rfl).1, (rowV_tag ho.commits (g := g2) rfl).1⟩
  have HBX : Hid (∀ wx, Below w3.heap.size w3 wx → wx.cell? ⟨w1.heap.size, 0, none⟩ = some (.slice (some ⟨g, 0, none⟩) v.many v.many) ∧ wx.cell? ⟨w1.heap.size, 1, none⟩ = some (.slice (some ⟨g2, 0, none⟩) (1 + rn) (1 + rn)) ∧ w1.heap.size < wx.heap.size) := hide fun wx hb => by
    have e0 : w3.heap.size = w1.heap.size + 1 := by rw [hw3]; simp
    have e1 : w3.cell? ⟨w1.heap.size, 0, none⟩ = some (.slice (some ⟨g, 0, none⟩) v.many v.many) := by rw [hw3]; simp [go_sem]
    have e2 : w3.cell? ⟨w1.heap.size, 1, none⟩ = some (.slice (some ⟨g2, 0, none⟩) (1 + rn) (1 + rn)) := by rw [hw3]; simp [go_sem]
    have := hb.size
    exact ⟨(hb.cell (p := ⟨w1.heap.size, 0, none⟩) (by simp; omega)).trans e1, (hb.cell (p := ⟨w1.heap.size, 1, none⟩) (by simp; omega)).trans e2, by omega⟩
  have HUP : Hid (∀ wx, Below w3.heap.size w3 wx → ∃ w4, (Instr.mapUpdate 67 (.map (some B)) (.string a) (aggK (.slice (some ⟨g, 0, none⟩) v.many v.many) (.slice (some ⟨g2, 0, none⟩) (1 + rn) (1 + rn)))).run Tryd.prog wx = .ok () w4 ∧ Vt base w4 V B ⟨v.many, v.need, fun b => if b = a then some (s :: r) else v.g b, v.n + 1⟩ (fun b => if b = a then (.slice (some ⟨g, 0, none⟩) v.many v.many, .slice (some ⟨g2, 0, none⟩) (1 + rn) (1 + rn)) else K b) ∧ Tc (vtF V B v K) wx w4) := hide fun wx hbx => (HV3.out.quiet hbx).put HA12.out HNX.out HNO.out (HKO.out wx hbx)
  have HOFF : Hid (∀ wx w4, w1.heap.size < wx.heap.size → Tc (vtF V B v K) wx w4 → ∀ j, w4.cell? ⟨w1.heap.size, j, none⟩ = wx.cell? ⟨w1.heap.size, j, none⟩) := hide fun wx w4 hlt ht j => World.cell?_of_block (w := wx) (a := ⟨w1.heap.size, j, none⟩) (ht.block w1.heap.size hlt (fun hF => by have := HFO.out _ hF; have := hb1.size; omega))
  obtain ⟨f0, f1, f2, fn⟩ := HV3.out.cells
  obtain ⟨b0, b1, bn⟩ := HBX.out w3 (Below.refl _ _)
  have hlen := HV3.out.len
  have HW3 := hide hw3
  clear hb1 ho hb13 c0 c1 c2 cn d0 d1 d2 dn hw3
  go_upto_region 11 with fail
  rw [← HW3.out]
  clear HW3
  go_wp2_with fail
  go_region_held3 (fun w' => w'.cell? ⟨V, 2, none⟩ = some (.map (some B)) ∧ w'.cell? ⟨w1.heap.size, 0, none⟩ = some (.slice (some ⟨g, 0, none⟩) v.many v.many) ∧ w'.cell? ⟨w1.heap.size, 1, none⟩ = some (.slice (some ⟨g2, 0, none⟩) (1 + rn) (1 + rn))) (first | go_keep | assumption)
    (first
      | (go_at_call 24; refine (HCL.out _).mono ?_; rintro e w5 ⟨rfl, hb5⟩; have HB6 := hide (((Below.refl w3.heap.size w3).drew).trans (show Below w3.heap.size w3.drew w5 from hb5)); obtain ⟨t0, t1, t2, tn⟩ := (HV3.out.quiet HB6.out).cells; obtain ⟨t3, t4, t5⟩ := HBX.out w5 HB6.out; obtain ⟨w4, hr4, hc4, ht4⟩ := HUP.out w5 HB6.out; have HC4 := hide hc4; have HT4 := hide (ht4.after (HB5.out.trans (HB6.out.mono HB5.out.size))); have u2 := hc4.cells.2.2.1; have u3 := (HOFF.out w5 w4 t5 ht4 0).trans t3; have u4 := (HOFF.out w5 w4 t5 ht4 1).trans t4; clear hb5 hc4 ht4))
  go_wp2_with fail
  go_ret
  refine ⟨rfl, _, ⟨HOK.out, B, _, rfl, by rw [HVV.out]; exact HC4.out⟩, HT4.out, fun i hi => ?_⟩
  rw [HVV.out] at hi
  rcases hi with rfl | rfl | ⟨b, p, hp, hi⟩
  · exact Or.inl (Or.inl rfl)
  · exact Or.inl (Or.inr (Or.inl rfl))
  · by_cases e : b = a
    · subst e
      simp only [if_pos] at hi
      rcases hi with hi | hi
      · have e2 : g = i := by simpa [Value.ownBlock] using hi
        exact Or.inr (by rw [← e2]; exact HNW.out.1)
      · have e2 : g2 = i := by simpa [Value.ownBlock] using hi
        exact Or.inr (by rw [← e2]; exact HNW.out.2)
    · simp only [if_neg e] at hp hi
      exact Or.inl (Or.inr (Or.inr ⟨b, p, hp, hi⟩))
end

end Go.Proofs.YtlefhfmckimlaajDoor
