/-
  What the document's own Factors, At and Points do, each as one law of its call.
-/
import Derived.Test.YtlefhfmckimlaadDoorPolyMem
import Derived.Test.YtlefhfmckimlaadDoorModRef
import Derived.BigQuiet
import Derived.Deep.QuietTactic
set_option linter.unusedVariables false
namespace Go.Proofs.YtlefhfmckimlaadDoor
open Go.RowKit

theorem rIn (a : Int) (w : World) : Calls Tryd.prog 10 #[.int .i64 a] w fun e w' => e = .returned (.bool (M.inR a)) ∧ w' = w := Md.refIn a w

theorem rFac (a : Option Addr) (n cap : Nat) (p : List Int) (w : World) (hn : n = p.length) (hm : n ≤ maxLen) (hl : AtI w a p) :
    Calls Tryd.prog 17 #[.slice a n cap] w fun e w' => e = .returned (.int .i64 (M.facE p)) ∧ w' = w := by
  unfold maxLen at hm
  by_cases h7 : 7 < n
  · have h7' : (7 : Int) < n := by omega
    rw [M.facE_many (hn ▸ h7)]
    clear hn hl
    go_enter Tryd.func17, Tryd.ntmps17
    go_wp2
    go_ret
    exact ⟨rfl, rfl⟩
  · have h7' : ¬ (7 : Int) < n := by omega
    rw [M.facE_few (hn ▸ h7)]
    have HL := hide hl
    have HN := hide hn
    clear hl hn
    go_enter Tryd.func17, Tryd.ntmps17
    go_wp2
    go_loop [3] (fun i => ∃ k : Nat, k ≤ n ∧ i = .int .i64 k ∧ Hid (M.first (M.facF p) k = 0)) (fun i => n - (intOf i).toNat)
    case atStart => exact ⟨0, Nat.zero_le _, rfl, hide rfl⟩
    case round =>
      obtain ⟨k, hk, rfl, hno⟩ := hrel
      by_cases hlt : k < n
      · have hkl : k < p.length := HN.out ▸ hlt
        obtain ⟨b, off, rfl, hlie⟩ := HL.out (by omega)
        have c1 := hlie k hkl
        have HF := hide (M.facF_at hkl)
        clear hlie
        generalize hz : p[k] = z at c1 HF
        clear hz
        cases hb : M.inR z
        · have HC : Hid (∀ w, Calls Tryd.prog 10 #[.int .i64 z] w fun e w' => e = .returned (.bool false) ∧ w' = w) := hide fun w => by have := rIn z w; rwa [hb] at this
          have hfin : Hid (M.first (M.facF p) p.length = 1) := hide (by
            have h1 := HF.out
            rw [hb] at h1
            rw [M.first_bad hkl hno.out (by rw [h1]; decide), h1]; rfl)
          clear hb
          go_wp2_with fail
          refine (unhide HC _).mono ?_
          rintro e w1 ⟨rfl, rfl⟩
          go_wp2_with fail
          go_ret
          exact ⟨by rw [hfin.out]; rfl, rfl⟩
        · have HC : Hid (∀ w, Calls Tryd.prog 10 #[.int .i64 z] w fun e w' => e = .returned (.bool true) ∧ w' = w) := hide fun w => by have := rIn z w; rwa [hb] at this
          have HS : Hid (M.first (M.facF p) (k + 1) = 0) := hide (by rw [M.first_next hno.out, HF.out, if_pos hb])
          clear hb
          go_wp2_with fail
          refine (unhide HC _).mono ?_
          rintro e w1 ⟨rfl, rfl⟩
          go_wp2_with fail
          go_round
          case rel => exact ⟨k + 1, by omega, by go_num, HS⟩
          case measure => simp [intOf]; omega
      · have hfin : Hid (M.first (M.facF p) p.length = 0) := hide (by rw [← HN.out, show n = k by omega]; exact hno.out)
        go_wp2
        go_ret
        exact ⟨by rw [hfin.out]; rfl, rfl⟩

theorem rAt (a : Option Addr) (n cap : Nat) (p : List Int) (x : Int) (w : World) (hn : n = p.length) (hl : AtI w a p) (hf : M.facE p = 0) (hx0 : 0 ≤ x) (hx1 : x < 257) :
    Calls Tryd.prog 18 #[.slice a n cap, .int .i64 x] w fun e w' => e = .returned (.int .i64 (M.ev p x)) ∧ w' = w := by
  obtain ⟨h7, hr⟩ := M.facE_ok hf
  have h7n : n ≤ 7 := by omega
  have HL := hide hl
  have HN := hide hn
  have HR := hide hr
  clear hl hn hr hf h7
  go_enter Tryd.func18, Tryd.ntmps18
  go_wp2
  go_loop [5, 6, 7] (fun ss st si => ∃ (k : Nat) (s t : Int), ss = .int .i64 s ∧ st = .int .i64 t ∧ si = .int .i64 k ∧ k ≤ n ∧ (0 ≤ s ∧ s < 257) ∧ (0 ≤ t ∧ t < 257) ∧ Hid (s = M.ev (p.take k) x) ∧ Hid (t = M.upI x k)) (fun _ _ si => n - (intOf si).toNat)
  case atStart => exact ⟨0, 0, 1, rfl, rfl, rfl, Nat.zero_le _, by decide, by decide, hide rfl, hide rfl⟩
  case round =>
    obtain ⟨k, s, t, rfl, rfl, rfl, hk, ⟨s0, s1⟩, ⟨t0, t1⟩, hs, ht⟩ := hrel
    by_cases hlt : k < n
    · have hkl : k < p.length := by have := HN.out; omega
      obtain ⟨b, off, rfl, hlie⟩ := HL.out (by omega)
      have c1 := hlie k hkl
      obtain ⟨z0, z1⟩ := HR.out k hkl
      have HS : Hid (M.ev (p.take (k + 1)) x = (M.ev (p.take k) x + p[k] * M.upI x k) % 257) := hide (by
        rw [List.take_succ_eq_append_getElem hkl, M.ev_snoc, List.length_take, Nat.min_eq_left (by omega)])
      have HT := hide (M.upI_succ x k)
      clear hlie
      generalize p[k] = z at c1 z0 z1 HS
      obtain ⟨p0, p1⟩ := prod_range z0 z1 t0 t1
      obtain ⟨q0, q1⟩ := prod_range t0 t1 hx0 hx1
      go_wp2
      go_round
      case rel => exact ⟨k + 1, (s + z * t) % 257, t * x % 257, rfl, rfl, by go_num, by omega, by omega, by omega, hide (by rw [HS.out, hs.out, ht.out]), hide (by rw [HT.out, ht.out])⟩
      case measure => simp [intOf]; omega
    · have hfin : Hid (s = M.ev p x) := hide (by rw [hs.out, List.take_of_length_le (by have := HN.out; omega)])
      clear hs
      go_wp2
      go_ret
      exact ⟨by rw [hfin.out]; rfl, rfl⟩

theorem rPtsNone (a : Option Addr) (cap : Nat) (w : World) : Calls Tryd.prog 20 #[.slice a 0 cap] w fun e w' => e = .returned (.int .i64 5) ∧ Below w.heap.size w w' := by
  go_enter Tryd.func20, Tryd.ntmps20
  go_wp2
  go_ret
  exact ⟨rfl, Below.refl _ _⟩
theorem rPtsMany (a : Option Addr) (n cap : Nat) (w : World) (h : 7 < n) (hm : n ≤ maxLen) : Calls Tryd.prog 20 #[.slice a n cap] w fun e w' => e = .returned (.int .i64 4) ∧ Below w.heap.size w w' := by
  unfold maxLen at hm
  have h0 : ¬ (n : Int) = 0 := by omega
  have h7 : (7 : Int) < n := by omega
  go_enter Tryd.func20, Tryd.ntmps20
  go_wp2
  go_ret
  exact ⟨rfl, Below.refl _ _⟩

set_option maxHeartbeats 2000000 in
theorem rPtsSome (b off n cap : Nat) (l : List (Int × Int)) (w : World) (hn : n = l.length) (h0 : 0 < n) (h7 : n ≤ 7) (hl : LieP w b off l) :
    Calls Tryd.prog 20 #[.slice (some ⟨b, off, none⟩) n cap] w fun e w' => e = .returned (.int .i64 (M.first (M.ptF l) l.length)) ∧ Below w.heap.size w w' := by
  have HL := hide hl
  have HN := hide hn
  clear hl hn
  have hz : ¬ (n : Int) = 0 := by omega
  have h7' : ¬ (7 : Int) < n := by omega
  go_enter Tryd.func20, Tryd.ntmps20
  go_wp2
  go_loopw [3] (fun s wr => ∃ k : Nat, k ≤ n ∧ s = .int .i64 k ∧ Hid (M.first (M.ptF l) k = 0) ∧ Hid (Below w.heap.size w wr)) (fun s _ => n - (intOf s).toNat)
  case atStart => exact ⟨0, Nat.zero_le _, rfl, hide rfl, hide (Below.refl _ _)⟩
  case round =>
    obtain ⟨k, hk, rfl, hno, hbel⟩ := hrel
    by_cases hlt : k < n
    · have hkl : k < l.length := by have := HN.out; omega
      obtain ⟨c1, c2⟩ := (HL.out.stays hbel.out (Nat.le_refl _)) k hkl
      have HCK : Hid (∀ wx, Below w.heap.size w wx → wx.cell? ⟨b, off + k * 2, none⟩ = some (.int .i64 l[k].1)) := hide fun wx hb => ((HL.out.stays hb (Nat.le_refl _)) k hkl).1
      have HP := hide (M.pt_at hkl)
      have HOK : Hid (M.okP l k = (M.inR l[k].1 && M.inR l[k].2)) := hide (by unfold M.okP; rw [HP.out])
      have HBAD : Hid (∀ e : Int, e ≠ 0 → M.ptF l k = e → M.first (M.ptF l) l.length = e) := hide fun e h1 h2 => by rw [M.first_bad hkl hno.out (by rw [h2]; exact h1), h2]
      have HNX := hide (M.first_next hno.out)
      have HPT : Hid ((M.pt l k).1 = l[k].1) := hide (by rw [HP.out])
      generalize l[k].1 = u at c1 HOK HPT HCK
      generalize l[k].2 = v at c2 HOK
      have HU := hide (rIn u)
      have HV := hide (rIn v)
      cases hu : M.inR u
      · rw [hu] at HU
        have hfin : Hid (M.first (M.ptF l) l.length = 1) := hide (HBAD.out 1 (by decide) (M.ptF_range (by rw [HOK.out, hu]; rfl)))
        clear hu
        generalize M.inR v = bv at HV
        go_wp2_with fail
        refine (HU.out _).mono ?_
        rintro e w1 ⟨rfl, rfl⟩
        go_wp2_with fail
        refine (HV.out _).mono ?_
        rintro e w1 ⟨rfl, rfl⟩
        go_wp2_with fail
        go_ret
        exact ⟨by rw [hfin.out]; rfl, hbel.out⟩
      · cases hv : M.inR v
        · rw [hu] at HU
          rw [hv] at HV
          have hfin : Hid (M.first (M.ptF l) l.length = 1) := hide (HBAD.out 1 (by decide) (M.ptF_range (by rw [HOK.out, hu, hv]; rfl)))
          clear hu hv
          go_wp2_with fail
          refine (HU.out _).mono ?_
          rintro e w1 ⟨rfl, rfl⟩
          go_wp2_with fail
          refine (HV.out _).mono ?_
          rintro e w1 ⟨rfl, rfl⟩
          go_wp2_with fail
          go_ret
          exact ⟨by rw [hfin.out]; rfl, hbel.out⟩
        · rw [hu] at HU
          rw [hv] at HV
          have HK : Hid (M.okP l k = true) := hide (by rw [HOK.out, hu, hv]; rfl)
          clear hu hv
          go_wp2_with fail
          refine (HU.out _).mono ?_
          rintro e w1 ⟨rfl, hw⟩
          obtain rfl := hw.symm
          go_wp2_with fail
          refine (HV.out _).mono ?_
          rintro e w1 ⟨rfl, hw⟩
          obtain rfl := hw.symm
          clear c1 c2
          go_wp2_with fail
          go_loopw [6] (fun s wy => ∃ j : Nat, j ≤ k ∧ s = .int .i64 j ∧ Hid (M.ahead l j u = false) ∧ Hid (Below w.heap.size w wy)) (fun s _ => k - (intOf s).toNat)
          case atStart => exact ⟨0, Nat.zero_le _, rfl, hide (M.ahead_zero l u), hbel⟩
          case round =>
            obtain ⟨j, hj, rfl, hna, hby⟩ := hrel
            by_cases hjk : j < k
            · have hjl : j < l.length := by omega
              have hjn : j < n := by omega
              obtain ⟨d1, d2⟩ := (HL.out.stays hby.out (Nat.le_refl _)) j hjl
              have d3 := HCK.out _ hby.out
              have HS := hide (M.ahead_succ hjl u)
              clear d2
              generalize l[j].1 = z at d1 HS
              by_cases hzu : z = u
              · have hfin : Hid (M.first (M.ptF l) l.length = 7) := hide (HBAD.out 7 (by decide) (M.ptF_clash HK.out (by
                  rw [HPT.out]
                  refine M.ahead_mono (i := j + 1) (by omega) ?_
                  rw [HS.out, hzu]; simp)))
                have hq : (z == u) = true := by simpa using hzu
                clear hzu
                go_wp2_with fail
                go_quiet (fail)
                go_wp2_with fail
                go_ret
                exact ⟨by rw [hfin.out]; rfl, Go.below_drewN hby.out _⟩
              · have hq : (z == u) = false := by simpa using hzu
                have HN2 : Hid (M.ahead l (j + 1) u = false) := hide (by rw [HS.out, hna.out, hq]; rfl)
                clear hzu
                go_wp2_with fail
                go_quiet (fail)
                go_wp2_with fail
                go_roundw
                case rel => exact ⟨j + 1, by omega, by go_num, HN2, hide (Go.below_drewN hby.out _)⟩
                case measure => simp [intOf]; omega
            · have HS : Hid (M.first (M.ptF l) (k + 1) = 0) := hide (by rw [HNX.out]; exact M.ptF_ok HK.out (by rw [HPT.out, show k = j by omega]; exact hna.out))
              go_wp2_with fail
              go_roundw
              case rel => exact ⟨k + 1, by omega, by go_num, HS, hby⟩
              case measure => simp [intOf]; omega
    · have hfin : Hid (M.first (M.ptF l) l.length = 0) := hide (by rw [← HN.out, show n = k by omega]; exact hno.out)
      go_wp2
      go_ret
      exact ⟨by rw [hfin.out]; rfl, hbel.out⟩

theorem rPts (a : Option Addr) (n cap : Nat) (l : List (Int × Int)) (w : World) (hn : n = l.length) (hm : n ≤ maxLen) (hl : AtP w a l) :
    Calls Tryd.prog 20 #[.slice a n cap] w fun e w' => e = .returned (.int .i64 (M.ptsE l)) ∧ Below w.heap.size w w' := by
  by_cases h0 : n = 0
  · rw [M.ptsE_none (by omega)]
    subst h0
    exact rPtsNone a cap w
  · by_cases h7 : 7 < n
    · rw [M.ptsE_many (by omega)]
      exact rPtsMany a n cap w h7 hm
    · rw [M.ptsE_some (by omega) (by omega)]
      obtain ⟨b, off, rfl, g⟩ := hl (by omega)
      exact rPtsSome b off n cap l w hn (by omega) (by omega) g

end Go.Proofs.YtlefhfmckimlaadDoor
