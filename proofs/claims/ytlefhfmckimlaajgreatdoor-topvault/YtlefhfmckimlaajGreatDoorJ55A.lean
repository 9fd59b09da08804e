/-
  What New, Part and True of package vault do, each as one law of its call.
  What Part of package vault does, as one law of its call.
  What package poly asks of points: each as one law of its call.
-/
import Derived.Test.YtlefhfmckimlaajGreatDoorJ52A
import Derived.Test.YtlefhfmckimlaajGreatDoorProofCheck
import Derived.Test.YtlefhfmckimlaajGreatDoorJ7A
import Derived.WalkSmall
import Derived.Deep.RegionHeld3
import Derived.Deep.RegionWith
set_option linter.unusedVariables false
namespace Go.Proofs.YtlefhfmckimlaajGreatDoor
open Go.RowKit Go.WideMaps Go.Maps

theorem vNew_bad (many need : Int) (w : World) (h : many < 1 ∨ 7 < many ∨ need < 1 ∨ many < need) :
    Calls Tryz.prog 6 #[.int .i64 many, .int .i64 need] w fun e w' => e = .returned (.tuple #[.pointer none, .iface 66 (.int .i64 1)]) ∧ w' = w := by
  have hx : many < 1 ∨ (¬ many < 1 ∧ 7 < many) ∨ (¬ many < 1 ∧ ¬ 7 < many ∧ need < 1) ∨ (¬ many < 1 ∧ ¬ 7 < many ∧ ¬ need < 1 ∧ many < need) := by omega
  clear h
  rcases hx with h1 | ⟨h1, h2⟩ | ⟨h1, h2, h3⟩ | ⟨h1, h2, h3, h4⟩
  all_goals
    go_enter Tryz.func6, Tryz.ntmps6
    go_wp2_with fail
    go_ret2
    exact ⟨rfl, rfl⟩
theorem Vt.made {base : Nat} {w : World} (hb : base ≤ w.heap.size) (many need : Nat) :
    Vt base ((w.alloc (.map #[] 0)).alloc (.cells #[.int .i64 many, .int .i64 need, .map (some w.heap.size)] 69)) (w.heap.size + 1) w.heap.size (M.Vlt.new many need) (fun _ => (nilS, nilS)) := by
  refine ⟨by omega, hb, ?_, ⟨.map [], ?_, holds_none⟩, fun a p h => by cases h⟩
  · have := heap_alloc_new (w.alloc (.map #[] 0)) (.cells #[.int .i64 many, .int .i64 need, .map (some w.heap.size)] 69)
    rw [show (w.alloc (.map #[] 0)).heap.size = w.heap.size + 1 by simp] at this
    exact this
  · exact (World.ownsMap_made w Tryz.prog 9 heldV).alloc _
theorem vNew_ok (base many need : Nat) (w : World) (hb : base ≤ w.heap.size) (h1 : 1 ≤ need) (h2 : need ≤ many) (h7 : many ≤ 7) :
    Calls Tryz.prog 6 #[.int .i64 many, .int .i64 need] w fun e w' => ∃ V F, e = .returned (.tuple #[.pointer (some ⟨V, 0, none⟩), .nilIface]) ∧ VtIs base w' F V (M.Vlt.new many need) ∧ (∀ i, F i → w.heap.size ≤ i) ∧ Below w.heap.size w w' := by
  have HV := hide (Vt.made (w := w) hb many need)
  have hmm := @run_makeMap Tryz.prog
  have n1 : ¬ (many : Int) < 1 := by omega
  have n2 : ¬ (7 : Int) < (many : Int) := by omega
  have n3 : ¬ (need : Int) < 1 := by omega
  have n4 : ¬ (many : Int) < (need : Int) := by omega
  clear hb
  go_enter Tryz.func6, Tryz.ntmps6
  go_wp2_with fail
  go_ret2
  refine ⟨_, rfl, _, ⟨M.Vlt.new_ok h1 h2 h7, _, _, rfl, HV.out⟩, fun i hi => ?_, ((Below.refl _ _).alloc (Nat.le_refl _) _).alloc (by simp) _⟩
  rcases hi with rfl | rfl | ⟨a, p, hp, _⟩
  · exact Nat.le_succ _
  · exact Nat.le_refl _
  · cases hp

theorem vPlace (V many : Nat) (x : Int) (w : World) (hV : w.cell? ⟨V, 0, none⟩ = some (.int .i64 many)) :
    Calls Tryz.prog 27 #[.pointer (some ⟨V, 0, none⟩), .int .i64 x] w fun e w' => e = .returned (.bool (M.placeB many x)) ∧ w' = w := by
  have hVl : V < w.heap.size := World.block_lt_of_cell? w _ hV
  by_cases h1 : 1 ≤ x
  · by_cases h2 : x ≤ (many : Int)
    · rw [M.placeB_yes h1 h2]
      go_enter Tryz.func27, Tryz.ntmps27
      go_wp2
      go_ret
      exact ⟨by simp, rfl⟩
    · rw [M.placeB_no (by omega)]
      go_enter Tryz.func27, Tryz.ntmps27
      go_wp2
      go_ret
      exact ⟨by simp, rfl⟩
  · rw [M.placeB_no (by omega)]
    go_enter Tryz.func27, Tryz.ntmps27
    go_wp2
    go_ret
    exact ⟨by simp, rfl⟩


end Go.Proofs.YtlefhfmckimlaajGreatDoor

set_option linter.unusedVariables false
namespace Go.Proofs.YtlefhfmckimlaajGreatDoor
open Go.RowKit Go.WideMaps Go.Maps

section
variable {base : Nat} {w : World} {F : Nat → Prop} {V : Nat} {v : M.Vlt}
set_option maxRecDepth 100000 in
theorem vPart (a : ByteArray) (x : Int) (h : VtIs base w F V v) (ha : a.size ≤ maxLen) :
    Calls Tryz.prog 9 #[.pointer (some ⟨V, 0, none⟩), .string a, .int .i64 x] w fun e w' => e = .returned (.tuple #[.agg #[.int .i64 (M.partR v a x).1, .int .i64 (M.partR v a x).2], errV (M.partE v a x)]) ∧ Below w.heap.size w w' := by
  obtain ⟨B, K, rfl, hc⟩ := h.is
  have HB : Hid (∀ o, Below w.heap.size w (w.alloc o)) := hide fun o => (Below.refl _ _).alloc (Nat.le_refl _) o
  have HB2 : Hid (∀ o o2, Below w.heap.size w ((w.alloc o).alloc o2)) := hide fun o o2 => ((Below.refl _ _).alloc (Nat.le_refl _) _).alloc (by simp) _
  have HQ := hide (hc.quiet (HB.out (.cells #[.int .i64 0, .int .i64 0] 37)))
  obtain ⟨c0, c1, c2, cn⟩ := (hc.quiet (HB.out (.cells #[.int .i64 0, .int .i64 0] 37))).cells
  have hmany := h.ok.seven
  cases hg : v.g a with
  | none =>
    have e1 : M.partR v a x = (0, 0) := by unfold M.partR; rw [hg]
    have e2 : M.partE v a x = 5 := by unfold M.partE; rw [hg]
    rw [e1, e2, errV_bad (by decide)]
    have hlk := HQ.out.lookNo a ha hg
    clear hg e1 e2 h hc HQ
    go_enter Tryz.func9, Tryz.ntmps9
    go_wp2_with fail
    refine bodyPost_ret (v := .tuple #[.agg #[.int .i64 0, .int .i64 0], .iface 66 (.int .i64 5)]) (by simp [results, Tryz.results9, go_sem]) rfl ⟨rfl, ?_⟩
    exact HB2.out _ _
  | some p =>
    obtain ⟨sa, sc, ca, cc, hlk, hat, _⟩ := HQ.out.lookYes a ha hg
    have HCE := hide ((hc.quiet (HB2.out (.cells #[.int .i64 0, .int .i64 0] 37) (.cells #[.slice sa v.many sc, .slice ca p.length cc] 73))).cells.1)
    have HPL : Hid (Calls Tryz.prog 27 #[.pointer (some ⟨V, 0, none⟩), .int .i64 x] ((w.alloc (.cells #[.int .i64 0, .int .i64 0] 37)).alloc (.cells #[.slice sa v.many sc, .slice ca p.length cc] 73)) fun e w' => e = .returned (.bool (M.placeB v.many x)) ∧ w' = (w.alloc (.cells #[.int .i64 0, .int .i64 0] 37)).alloc (.cells #[.slice sa v.many sc, .slice ca p.length cc] 73)) := hide (vPlace V v.many x _ HCE.out)
    by_cases hx : 1 ≤ x ∧ x ≤ (v.many : Int)
    · have e1 : M.partR v a x = (x, M.ev p x) := by unfold M.partR; rw [hg]; exact if_pos hx
      have e2 : M.partE v a x = 0 := by unfold M.partE; rw [hg]; exact if_pos hx
      rw [e1, e2]
      rw [M.placeB_yes hx.1 hx.2] at HPL
      obtain ⟨i, rfl⟩ : ∃ i : Nat, x = (i : Int) + 1 := ⟨(x - 1).toNat, by omega⟩
      have hi : i < v.many := by omega
      obtain ⟨b, off, rfl, hlie⟩ := hat (by rw [M.deal_len]; omega)
      obtain ⟨d1, d2⟩ := (hlie.stays ((Below.refl _ _).alloc (Nat.le_refl _) (.cells #[.slice (some ⟨b, off, none⟩) v.many sc, .slice ca p.length cc] 73)) (Nat.le_refl _)) i (by rw [M.deal_len]; exact hi)
      rw [M.deal_at p hi] at d1 d2
      simp only at d1 d2
      have x3 : (i : Int) < (v.many : Int) := by omega
      have x4 : (0 : Int) ≤ (i : Int) := by omega
      have x5 : (i : Int) + 1 - 1 = (i : Int) := by omega
      generalize M.ev p ((i : Int) + 1) = z at *
      generalize v.many = mn at *
      clear hg e1 e2 h hc hat hlie hx HQ HCE
      go_enter Tryz.func9, Tryz.ntmps9
      go_wp2_with fail
      refine (unhide HPL).mono ?_
      rintro e w9 ⟨rfl, hw9⟩
      obtain rfl := hw9
      go_wp2_with fail
      refine bodyPost_ret (v := .tuple #[.agg #[.int .i64 ((i : Int) + 1), .int .i64 z], .nilIface]) (by simp [results, Tryz.results9, go_sem]) rfl ⟨rfl, ?_⟩
      exact HB2.out _ _
    · have e1 : M.partR v a x = (0, 0) := by unfold M.partR; rw [hg]; exact if_neg hx
      have e2 : M.partE v a x = 1 := by unfold M.partE; rw [hg]; exact if_neg hx
      rw [e1, e2, errV_bad (by decide)]
      rw [M.placeB_no hx] at HPL
      generalize v.many = mn at *
      clear hg e1 e2 h hc hat hx HQ HCE
      go_enter Tryz.func9, Tryz.ntmps9
      go_wp2_with fail
      refine (unhide HPL).mono ?_
      rintro e w9 ⟨rfl, hw9⟩
      obtain rfl := hw9
      go_wp2_with fail
      refine bodyPost_ret (v := .tuple #[.agg #[.int .i64 0, .int .i64 0], .iface 66 (.int .i64 1)]) (by simp [results, Tryz.results9, go_sem]) rfl ⟨rfl, ?_⟩
      exact HB2.out _ _
end

end Go.Proofs.YtlefhfmckimlaajGreatDoor

set_option linter.unusedVariables false
namespace Go.Proofs.YtlefhfmckimlaajGreatDoor
open Go.RowKit

theorem isThere (B : Nat) (u v a : Int) (w : World) (hB : w.cell? ⟨B, 0, none⟩ = some (.int .i64 a)) :
    Calls Tryz.prog 140 #[.agg #[.int .i64 u, .int .i64 v], .pointer (some ⟨B, 0, none⟩)] w fun e w' => e = .returned (.bool (u == a)) ∧ Below w.heap.size w w' := by
  have hBl : B < w.heap.size := World.block_lt_of_cell? w _ hB
  go_enter Tryz.func140, Tryz.ntmps140
  go_wp2
  go_ret
  exact ⟨rfl, (Below.refl _ _).alloc (Nat.le_refl _) _⟩

theorem findPts (b off i cap B : Nat) (l : List (Int × Int)) (a : Int) (w : World) (hi : i ≤ l.length) (h7 : i ≤ 7) (hl : LieP w b off l) (hB : w.cell? ⟨B, 0, none⟩ = some (.int .i64 a)) :
    Calls Tryz.prog 55 #[.slice (some ⟨b, off, none⟩) i cap, .func (.func 140) #[] #[.pointer (some ⟨B, 0, none⟩)]] w fun e w' => (∃ r, e = .returned (.int .i64 r) ∧ decide (0 ≤ r) = M.ahead l i a) ∧ Below w.heap.size w w' := by
  have HL := hide hl
  have HB := hide hB
  clear hl hB
  go_enter Tryz.func55, Tryz.ntmps55
  go_wp2
  go_loopw [8] (fun s wr => ∃ k : Nat, k ≤ i ∧ s = .int .i64 k ∧ Hid (M.ahead l k a = false) ∧ Hid (Below w.heap.size w wr)) (fun s _ => i - (intOf s).toNat)
  case atStart => exact ⟨0, Nat.zero_le _, rfl, hide (M.ahead_zero l a), hide (Below.refl _ _)⟩
  case round =>
    obtain ⟨k, hk, rfl, hno, hbel⟩ := hrel
    by_cases hlt : k < i
    · have hkl : k < l.length := by omega
      obtain ⟨c1, c2⟩ := (HL.out.stays hbel.out (Nat.le_refl _)) k hkl
      have hBc : wr.cell? ⟨B, 0, none⟩ = some (.int .i64 a) := (hbel.out.cell (p := ⟨B, 0, none⟩) (World.block_lt_of_cell? w _ HB.out)).trans HB.out
      have hC := isThere B l[k].1 l[k].2 a wr hBc
      have HS := hide (M.ahead_succ hkl a)
      clear hBc
      generalize l[k].1 = u at c1 hC HS
      generalize l[k].2 = v at c2 hC
      cases hb : (u == a)
      · rw [hb] at hC
        have HC := hide hC
        have HN : Hid (M.ahead l (k + 1) a = false) := hide (by rw [HS.out, hno.out, hb]; rfl)
        clear hC hb
        go_wp2_with fail
        refine (unhide HC).mono ?_
        rintro e w1 ⟨rfl, hb1⟩
        go_wp2_with fail
        go_roundw
        case rel => exact ⟨k + 1, by omega, by go_num, HN, hide (hbel.out.trans (hb1.mono hbel.out.size))⟩
        case measure => simp [intOf]; omega
      · rw [hb] at hC
        have HC := hide hC
        have hfin : Hid (M.ahead l i a = true) := hide (by
          have h1 : M.ahead l (k + 1) a = true := by rw [HS.out, hno.out, hb]; rfl
          exact M.ahead_mono (by omega) h1)
        clear hC hb
        go_wp2_with fail
        refine (unhide HC).mono ?_
        rintro e w1 ⟨rfl, hb1⟩
        go_wp2_with fail
        go_ret
        exact ⟨⟨_, rfl, by rw [hfin.out]; simp⟩, hbel.out.trans (hb1.mono hbel.out.size)⟩
    · have hfin : Hid (M.ahead l i a = false) := hide (by rw [show i = k by omega]; exact hno.out)
      go_wp2
      go_ret
      exact ⟨⟨_, rfl, by rw [hfin.out]; decide⟩, hbel.out⟩

theorem hasAhead (b off i cap B : Nat) (l : List (Int × Int)) (a : Int) (w : World) (hi : i ≤ l.length) (h7 : i ≤ 7) (hl : LieP w b off l) (hB : w.cell? ⟨B, 0, none⟩ = some (.int .i64 a)) :
    Calls Tryz.prog 28 #[.slice (some ⟨b, off, none⟩) i cap, .func (.func 140) #[] #[.pointer (some ⟨B, 0, none⟩)]] w fun e w' => e = .returned (.bool (M.ahead l i a)) ∧ Below w.heap.size w w' := by
  have HI := hide (findPts b off i cap B l a w hi h7 hl hB)
  clear hi hl hB
  go_enter Tryz.func28, Tryz.ntmps28
  go_wp2_with fail
  refine (unhide HI).mono ?_
  rintro e w1 ⟨⟨r, rfl, hr⟩, hb1⟩
  have HR := hide hr
  clear hr
  go_wp2_with fail
  go_ret
  exact ⟨by rw [← HR.out]; rfl, hb1⟩

theorem ptsNone (a : Option Addr) (cap : Nat) (w : World) : Calls Tryz.prog 119 #[.slice a 0 cap] w fun e w' => e = .returned (errV 5) ∧ Below w.heap.size w w' := by
  go_enter Tryz.func119, Tryz.ntmps119
  go_wp2
  go_ret
  exact ⟨rfl, Below.refl _ _⟩
theorem ptsMany (a : Option Addr) (n cap : Nat) (w : World) (h : 7 < n) (hm : n ≤ maxLen) : Calls Tryz.prog 119 #[.slice a n cap] w fun e w' => e = .returned (errV 4) ∧ Below w.heap.size w w' := by
  unfold maxLen at hm
  have h0 : ¬ (n : Int) = 0 := by omega
  have h7 : (7 : Int) < n := by omega
  go_enter Tryz.func119, Tryz.ntmps119
  go_wp2
  go_ret
  exact ⟨rfl, Below.refl _ _⟩

set_option maxHeartbeats 2000000 in
theorem ptsSome (b off n cap : Nat) (l : List (Int × Int)) (w : World) (hn : n = l.length) (h0 : 0 < n) (h7 : n ≤ 7) (hcap : n ≤ cap) (hcm : cap ≤ maxLen) (hl : LieP w b off l) :
    Calls Tryz.prog 119 #[.slice (some ⟨b, off, none⟩) n cap] w fun e w' => e = .returned (errV (M.first (M.ptF l) l.length)) ∧ Below w.heap.size w w' := by
  unfold maxLen at hcm
  have HL := hide hl
  have HN := hide hn
  clear hl hn
  have hz : ¬ (n : Int) = 0 := by omega
  have h7' : ¬ (7 : Int) < n := by omega
  go_enter Tryz.func119, Tryz.ntmps119
  go_wp2
  go_loopw [15] (fun s wr => ∃ k : Nat, k ≤ n ∧ s = .int .i64 k ∧ Hid (M.first (M.ptF l) k = 0) ∧ Hid (Below w.heap.size w wr)) (fun s _ => n - (intOf s).toNat)
  case atStart => exact ⟨0, Nat.zero_le _, rfl, hide rfl, hide (Below.refl _ _)⟩
  case round =>
    obtain ⟨k, hk, rfl, hno, hbel⟩ := hrel
    by_cases hlt : k < n
    · have hkl : k < l.length := by have := HN.out; omega
      have hkc : k ≤ cap := by omega
      obtain ⟨c1, c2⟩ := (HL.out.stays hbel.out (Nat.le_refl _)) k hkl
      have HA : Hid (∀ (u : Int) (wx : World), Below wr.heap.size wr wx → wx.cell? ⟨wr.heap.size, 0, none⟩ = some (.int .i64 u) → Calls Tryz.prog 28 #[.slice (some ⟨b, off, none⟩) k cap, .func (.func 140) #[] #[.pointer (some ⟨wr.heap.size, 0, none⟩)]] wx fun e w' => e = .returned (.bool (M.ahead l k u)) ∧ Below wx.heap.size wx w') := hide fun u wx hb hc =>
        hasAhead b off k cap wr.heap.size l u wx (by omega) (by omega) ((HL.out.stays hbel.out (Nat.le_refl _)).stays hb (Nat.le_refl _)) hc
      have HP := hide (M.pt_at hkl)
      have HOK : Hid (M.okP l k = (M.inR l[k].1 && M.inR l[k].2)) := hide (by unfold M.okP; rw [HP.out])
      have HBAD : Hid (∀ e : Int, e ≠ 0 → M.ptF l k = e → M.first (M.ptF l) l.length = e) := hide fun e h1 h2 => by rw [M.first_bad hkl hno.out (by rw [h2]; exact h1), h2]
      have HNX := hide (M.first_next hno.out)
      have HPT : Hid ((M.pt l k).1 = l[k].1) := hide (by rw [HP.out])
      clear hcap
      generalize l[k].1 = u at c1 HOK HPT
      generalize l[k].2 = v at c2 HOK
      have HBW : Hid (∀ w1, Below (wr.heap.size + 1) (wr.alloc (.cells #[.int .i64 u, .int .i64 v] 37)) w1 → Below w.heap.size w w1) := hide fun w1 h1 => hbel.out.trans (((Below.refl _ wr).alloc (Nat.le_refl _) _).trans (h1.mono (by simp)) |>.mono hbel.out.size)
      cases hu : M.inR u
      · have HU := hide (M.inR_no hu)
        have hfin : Hid (M.first (M.ptF l) l.length = 1) := hide (HBAD.out 1 (by decide) (M.ptF_range (by rw [HOK.out, hu]; rfl)))
        clear hu
        go_wp2_with (go_at_call 30; refine (Md.isNo u _ HU.out).mono ?_; rintro e w1 ⟨rfl, rfl⟩)
        go_ret
        exact ⟨by rw [hfin.out]; rfl, HBW.out _ (Below.refl _ _)⟩
      · obtain ⟨u0, u1⟩ := M.inR_yes hu
        cases hv : M.inR v
        · have HV := hide (M.inR_no hv)
          have hfin : Hid (M.first (M.ptF l) l.length = 1) := hide (HBAD.out 1 (by decide) (M.ptF_range (by rw [HOK.out, hu, hv]; rfl)))
          clear hu hv
          go_wp2_with (first | (go_at_call_of 30 u; refine (Md.isYes u _ (by assumption) (by assumption)).mono ?_; rintro e w1 ⟨rfl, rfl⟩) | (go_at_call_of 30 v; refine (Md.isNo v _ HV.out).mono ?_; rintro e w1 ⟨rfl, rfl⟩))
          go_ret
          exact ⟨by rw [hfin.out]; rfl, HBW.out _ (Below.refl _ _)⟩
        · obtain ⟨v0, v1⟩ := M.inR_yes hv
          have hok : M.okP l k = true := by rw [HOK.out, hu, hv]; rfl
          cases ha : M.ahead l k u
          · have HS : Hid (M.first (M.ptF l) (k + 1) = 0) := hide (by rw [HNX.out]; exact M.ptF_ok hok (by rw [HPT.out]; exact ha))
            have HA' := HA.out u
            rw [ha] at HA'
            have HAA := hide HA'
            clear HA' ha hu hv hok HBAD HNX
            go_wp2_with (first | (go_at_call_of 30 u; refine (Md.isYes u _ (by assumption) (by assumption)).mono ?_; rintro e w1 ⟨rfl, rfl⟩) | (go_at_call_of 30 v; refine (Md.isYes v _ (by assumption) (by assumption)).mono ?_; rintro e w1 ⟨rfl, rfl⟩) | (go_at_call 28; refine (HAA.out _ ((Below.refl _ wr).alloc (Nat.le_refl _) _) (by simp [go_sem])).mono ?_; rintro e w1 ⟨rfl, hb1⟩))
            go_roundw
            case rel => exact ⟨k + 1, by omega, by go_num, HS, hide (HBW.out _ (by simpa using hb1))⟩
            case measure => simp [intOf]; omega
          · have hfin : Hid (M.first (M.ptF l) l.length = 7) := hide (HBAD.out 7 (by decide) (M.ptF_clash hok (by rw [HPT.out]; exact ha)))
            have HA' := HA.out u
            rw [ha] at HA'
            have HAA := hide HA'
            clear HA' ha hu hv hok HBAD HNX
            go_wp2_with (first | (go_at_call_of 30 u; refine (Md.isYes u _ (by assumption) (by assumption)).mono ?_; rintro e w1 ⟨rfl, rfl⟩) | (go_at_call_of 30 v; refine (Md.isYes v _ (by assumption) (by assumption)).mono ?_; rintro e w1 ⟨rfl, rfl⟩) | (go_at_call 28; refine (HAA.out _ ((Below.refl _ wr).alloc (Nat.le_refl _) _) (by simp [go_sem])).mono ?_; rintro e w1 ⟨rfl, hb1⟩))
            go_ret
            exact ⟨by rw [hfin.out]; rfl, HBW.out _ (by simpa using hb1)⟩
    · have hfin : Hid (M.first (M.ptF l) l.length = 0) := hide (by rw [← HN.out, show n = k by omega]; exact hno.out)
      go_wp2
      go_ret
      exact ⟨by rw [hfin.out]; rfl, hbel.out⟩

theorem checkPts (a : Option Addr) (n cap : Nat) (l : List (Int × Int)) (w : World) (hn : n = l.length) (hcap : n ≤ cap) (hcm : cap ≤ maxLen) (hl : AtP w a l) :
    Calls Tryz.prog 119 #[.slice a n cap] w fun e w' => e = .returned (errV (M.ptsE l)) ∧ Below w.heap.size w w' := by
  by_cases h0 : n = 0
  · rw [M.ptsE_none (by omega)]
    subst h0
    exact ptsNone a cap w
  · by_cases h7 : 7 < n
    · rw [M.ptsE_many (by omega)]
      exact ptsMany a n cap w h7 (by omega)
    · rw [M.ptsE_some (by omega) (by omega)]
      obtain ⟨b, off, rfl, g⟩ := hl (by omega)
      exact ptsSome b off n cap l w hn (by omega) (by omega) hcap hcm g

end Go.Proofs.YtlefhfmckimlaajGreatDoor
