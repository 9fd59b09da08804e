/-
  What package poly asks of points: each as one law of its call.
-/
import Derived.Test.YtlefhfmckimlaajDoorJ12A
import Derived.Deep.RegionWith
set_option linter.unusedVariables false
namespace Go.Proofs.YtlefhfmckimlaajDoor
open Go.RowKit

theorem isThere (B : Nat) (u v a : Int) (w : World) (hB : w.cell? ⟨B, 0, none⟩ = some (.int .i64 a)) :
    Calls Tryd.prog 117 #[.agg #[.int .i64 u, .int .i64 v], .pointer (some ⟨B, 0, none⟩)] w fun e w' => e = .returned (.bool (u == a)) ∧ Below w.heap.size w w' := by
  have hBl : B < w.heap.size := World.block_lt_of_cell? w _ hB
  go_enter Tryd.func117, Tryd.ntmps117
  go_wp2
  go_ret
  exact ⟨rfl, (Below.refl _ _).alloc (Nat.le_refl _) _⟩

theorem findPts (b off i cap B : Nat) (l : List (Int × Int)) (a : Int) (w : World) (hi : i ≤ l.length) (h7 : i ≤ 7) (hl : LieP w b off l) (hB : w.cell? ⟨B, 0, none⟩ = some (.int .i64 a)) :
    Calls Tryd.prog 45 #[.slice (some ⟨b, off, none⟩) i cap, .func (.func 117) #[] #[.pointer (some ⟨B, 0, none⟩)]] w fun e w' => (∃ r, e = .returned (.int .i64 r) ∧ decide (0 ≤ r) = M.ahead l i a) ∧ Below w.heap.size w w' := by
  have HL := hide hl
  have HB := hide hB
  clear hl hB
  go_enter Tryd.func45, Tryd.ntmps45
  go_wp2
  go_loopw [8] (fun s wr => ∃ k : Nat, k ≤ i ∧ s = .int .i64 k ∧ Hid (M.ahead l k a = false) ∧ Hid (Below w.heap.size w wr)) (fun s _ => i - (intOf s).toNat)
  case atStart => exact ⟨0, Nat.zero_le _, rfl, hide (M.ahead_zero l a), hide (Below.refl _ _)⟩
  case round =>
    obtain ⟨k, hk, rfl, hno, hbel⟩ := hrel
    by_cases hlt : k < i
    · have hkl : k < l.length := by omega
      obtain ⟨c1, c2⟩ := (HL.out.stays hbel.out (Nat.le_refl _)) k hkl
      have hBc : wr.cell? ⟨B, 0, none⟩ = some (.int .i64 a) := (hbel.out.cell (p := ⟨B, 0, none⟩) (World.block_lt_of_cell? w _ HB.out)).trans HB.out
      have hC := isThere B l[k].1 l[k].2 a wr hBc
      have HS := hide (M.ahead_succ hkl a)
      clear hBc
      generalize l[k].1 = u at c1 hC HS
      generalize l[k].2 = v at c2 hC
      cases hb : (u == a)
      · rw [hb] at hC
        have HC := hide hC
        have HN : Hid (M.ahead l (k + 1) a = false) := hide (by rw [HS.out, hno.out, hb]; rfl)
        clear hC hb
        go_wp2_with fail
        refine (unhide HC).mono ?_
        rintro e w1 ⟨rfl, hb1⟩
        go_wp2_with fail
        go_roundw
        case rel => exact ⟨k + 1, by omega, by go_num, HN, hide (hbel.out.trans (hb1.mono hbel.out.size))⟩
        case measure => simp [intOf]; omega
      · rw [hb] at hC
        have HC := hide hC
        have hfin : Hid (M.ahead l i a = true) := hide (by
          have h1 : M.ahead l (k + 1) a = true := by rw [HS.out, hno.out, hb]; rfl
          exact M.ahead_mono (by omega) h1)
        clear hC hb
        go_wp2_with fail
        refine (unhide HC).mono ?_
        rintro e w1 ⟨rfl, hb1⟩
        go_wp2_with fail
        go_ret
        exact ⟨⟨_, rfl, by rw [hfin.out]; simp⟩, hbel.out.trans (hb1.mono hbel.out.size)⟩
    · have hfin : Hid (M.ahead l i a = false) := hide (by rw [show i = k by omega]; exact hno.out)
      go_wp2
      go_ret
      exact ⟨⟨_, rfl, by rw [hfin.out]; decide⟩, hbel.out⟩

theorem hasAhead (b off i cap B : Nat) (l : List (Int × Int)) (a : Int) (w : World) (hi : i ≤ l.length) (h7 : i ≤ 7) (hl : LieP w b off l) (hB : w.cell? ⟨B, 0, none⟩ = some (.int .i64 a)) :
    Calls Tryd.prog 26 #[.slice (some ⟨b, off, none⟩) i cap, .func (.func 117) #[] #[.pointer (some ⟨B, 0, none⟩)]] w fun e w' => e = .returned (.bool (M.ahead l i a)) ∧ Below w.heap.size w w' := by
  have HI := hide (findPts b off i cap B l a w hi h7 hl hB)
  clear hi hl hB
  go_enter Tryd.func26, Tryd.ntmps26
  go_wp2_with fail
  refine (unhide HI).mono ?_
  rintro e w1 ⟨⟨r, rfl, hr⟩, hb1⟩
  have HR := hide hr
  clear hr
  go_wp2_with fail
  go_ret
  exact ⟨by rw [← HR.out]; rfl, hb1⟩

theorem ptsNone (a : Option Addr) (cap : Nat) (w : World) : Calls Tryd.prog 97 #[.slice a 0 cap] w fun e w' => e = .returned (errV 5) ∧ Below w.heap.size w w' := by
  go_enter Tryd.func97, Tryd.ntmps97
  go_wp2
  go_ret
  exact ⟨rfl, Below.refl _ _⟩
theorem ptsMany (a : Option Addr) (n cap : Nat) (w : World) (h : 7 < n) (hm : n ≤ maxLen) : Calls Tryd.prog 97 #[.slice a n cap] w fun e w' => e = .returned (errV 4) ∧ Below w.heap.size w w' := by
  unfold maxLen at hm
  have h0 : ¬ (n : Int) = 0 := by omega
  have h7 : (7 : Int) < n := by omega
  go_enter Tryd.func97, Tryd.ntmps97
  go_wp2
  go_ret
  exact ⟨rfl, Below.refl _ _⟩

set_option maxHeartbeats 2000000 in
theorem ptsSome (b off n cap : Nat) (l : List (Int × Int)) (w : World) (hn : n = l.length) (h0 : 0 < n) (h7 : n ≤ 7) (hcap : n ≤ cap) (hcm : cap ≤ maxLen) (hl : LieP w b off l) :
    Calls Tryd.prog 97 #[.slice (some ⟨b, off, none⟩) n cap] w fun e w' => e = .returned (errV (M.first (M.ptF l) l.length)) ∧ Below w.heap.size w w' := by
  unfold maxLen at hcm
  have HL := hide hl
  have HN := hide hn
  clear hl hn
  have hz : ¬ (n : Int) = 0 := by omega
  have h7' : ¬ (7 : Int) < n := by omega
  go_enter Tryd.func97, Tryd.ntmps97
  go_wp2
  go_loopw [15] (fun s wr => ∃ k : Nat, k ≤ n ∧ s = .int .i64 k ∧ Hid (M.first (M.ptF l) k = 0) ∧ Hid (Below w.heap.size w wr)) (fun s _ => n - (intOf s).toNat)
  case atStart => exact ⟨0, Nat.zero_le _, rfl, hide rfl, hide (Below.refl _ _)⟩
  case round =>
    obtain ⟨k, hk, rfl, hno, hbel⟩ := hrel
    by_cases hlt : k < n
    · have hkl : k < l.length := by have := HN.out; omega
      have hkc : k ≤ cap := by omega
      obtain ⟨c1, c2⟩ := (HL.out.stays hbel.out (Nat.le_refl _)) k hkl
      have HA : Hid (∀ (u : Int) (wx : World), Below wr.heap.size wr wx → wx.cell? ⟨wr.heap.size, 0, none⟩ = some (.int .i64 u) → Calls Tryd.prog 26 #[.slice (some ⟨b, off, none⟩) k cap, .func (.func 117) #[] #[.pointer (some ⟨wr.heap.size, 0, none⟩)]] wx fun e w' => e = .returned (.bool (M.ahead l k u)) ∧ Below wx.heap.size wx w') := hide fun u wx hb hc =>
        hasAhead b off k cap wr.heap.size l u wx (by omega) (by omega) ((HL.out.stays hbel.out (Nat.le_refl _)).stays hb (Nat.le_refl _)) hc
      have HP := hide (M.pt_at hkl)
      have HOK : Hid (M.okP l k = (M.inR l[k].1 && M.inR l[k].2)) := hide (by unfold M.okP; rw [HP.out])
      have HBAD : Hid (∀ e : Int, e ≠ 0 → M.ptF l k = e → M.first (M.ptF l) l.length = e) := hide fun e h1 h2 => by rw [M.first_bad hkl hno.out (by rw [h2]; exact h1), h2]
      have HNX := hide (M.first_next hno.out)
      have HPT : Hid ((M.pt l k).1 = l[k].1) := hide (by rw [HP.out])
      clear hcap
      generalize l[k].1 = u at c1 HOK HPT
      generalize l[k].2 = v at c2 HOK
      have HBW : Hid (∀ w1, Below (wr.heap.size + 1) (wr.alloc (.cells #[.int .i64 u, .int .i64 v] 31)) w1 → Below w.heap.size w w1) := hide fun w1 h1 => hbel.out.trans (((Below.refl _ wr).alloc (Nat.le_refl _) _).trans (h1.mono (by simp)) |>.mono hbel.out.size)
      cases hu : M.inR u
      · have HU := hide (M.inR_no hu)
        have hfin : Hid (M.first (M.ptF l) l.length = 1) := hide (HBAD.out 1 (by decide) (M.ptF_range (by rw [HOK.out, hu]; rfl)))
        clear hu
        go_wp2_with (go_at_call 28; refine (Md.isNo u _ HU.out).mono ?_; rintro e w1 ⟨rfl, rfl⟩)
        go_ret
        exact ⟨by rw [hfin.out]; rfl, HBW.out _ (Below.refl _ _)⟩
      · obtain ⟨u0, u1⟩ := M.inR_yes hu
        cases hv : M.inR v
        · have HV := hide (M.inR_no hv)
          have hfin : Hid (M.first (M.ptF l) l.length = 1) := hide (HBAD.out 1 (by decide) (M.ptF_range (by rw [HOK.out, hu, hv]; rfl)))
          clear hu hv
          go_wp2_with (first | (go_at_call_of 28 u; refine (Md.isYes u _ (by assumption) (by assumption)).mono ?_; rintro e w1 ⟨rfl, rfl⟩) | (go_at_call_of 28 v; refine (Md.isNo v _ HV.out).mono ?_; rintro e w1 ⟨rfl, rfl⟩))
          go_ret
          exact ⟨by rw [hfin.out]; rfl, HBW.out _ (Below.refl _ _)⟩
        · obtain ⟨v0, v1⟩ := M.inR_yes hv
          have hok : M.okP l k = true := by rw [HOK.out, hu, hv]; rfl
          cases ha : M.ahead l k u
          · have HS : Hid (M.first (M.ptF l) (k + 1) = 0) := hide (by rw [HNX.out]; exact M.ptF_ok hok (by rw [HPT.out]; exact ha))
            have HA' := HA.out u
            rw [ha] at HA'
            have HAA := hide HA'
            clear HA' ha hu hv hok HBAD HNX
            go_wp2_with (first | (go_at_call_of 28 u; refine (Md.isYes u _ (by assumption) (by assumption)).mono ?_; rintro e w1 ⟨rfl, rfl⟩) | (go_at_call_of 28 v; refine (Md.isYes v _ (by assumption) (by assumption)).mono ?_; rintro e w1 ⟨rfl, rfl⟩) | (go_at_call 26; refine (HAA.out _ ((Below.refl _ wr).alloc (Nat.le_refl _) _) (by simp [go_sem])).mono ?_; rintro e w1 ⟨rfl, hb1⟩))
            go_roundw
            case rel => exact ⟨k + 1, by omega, by go_num, HS, hide (HBW.out _ (by simpa using hb1))⟩
            case measure => simp [intOf]; omega
          · have hfin : Hid (M.first (M.ptF l) l.length = 7) := hide (HBAD.out 7 (by decide) (M.ptF_clash hok (by rw [HPT.out]; exact ha)))
            have HA' := HA.out u
            rw [ha] at HA'
            have HAA := hide HA'
            clear HA' ha hu hv hok HBAD HNX
            go_wp2_with (first | (go_at_call_of 28 u; refine (Md.isYes u _ (by assumption) (by assumption)).mono ?_; rintro e w1 ⟨rfl, rfl⟩) | (go_at_call_of 28 v; refine (Md.isYes v _ (by assumption) (by assumption)).mono ?_; rintro e w1 ⟨rfl, rfl⟩) | (go_at_call 26; refine (HAA.out _ ((Below.refl _ wr).alloc (Nat.le_refl _) _) (by simp [go_sem])).mono ?_; rintro e w1 ⟨rfl, hb1⟩))
            go_ret
            exact ⟨by rw [hfin.out]; rfl, HBW.out _ (by simpa using hb1)⟩
    · have hfin : Hid (M.first (M.ptF l) l.length = 0) := hide (by rw [← HN.out, show n = k by omega]; exact hno.out)
      go_wp2
      go_ret
      exact ⟨by rw [hfin.out]; rfl, hbel.out⟩

theorem checkPts (a : Option Addr) (n cap : Nat) (l : List (Int × Int)) (w : World) (hn : n = l.length) (hcap : n ≤ cap) (hcm : cap ≤ maxLen) (hl : AtP w a l) :
    Calls Tryd.prog 97 #[.slice a n cap] w fun e w' => e = .returned (errV (M.ptsE l)) ∧ Below w.heap.size w w' := by
  by_cases h0 : n = 0
  · rw [M.ptsE_none (by omega)]
    subst h0
    exact ptsNone a cap w
  · by_cases h7 : 7 < n
    · rw [M.ptsE_many (by omega)]
      exact ptsMany a n cap w h7 (by omega)
    · rw [M.ptsE_some (by omega) (by omega)]
      obtain ⟨b, off, rfl, g⟩ := hl (by omega)
      exact ptsSome b off n cap l w hn (by omega) (by omega) hcap hcm g

end Go.Proofs.YtlefhfmckimlaajDoor
