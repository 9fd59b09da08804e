/-
  What Next and Zero of package poly do, each as one law of its call.
-/
import Derived.Test.YtlefhfmckimlaajDoorPolyPts
import Derived.BigQuiet
import Derived.Deep.QuietTactic
set_option linter.unusedVariables false
namespace Go.Proofs.YtlefhfmckimlaajDoor
open Go.RowKit

theorem apart (a b : Int) (w : World) (a0 : 0 ≤ a) (a1 : a < 257) (b0 : 0 ≤ b) (b1 : b < 257) : Calls Tryd.prog 118 #[.int .i64 a, .int .i64 b] w fun e w' => e = .returned (.int .i64 ((a - b + 257) % 257)) ∧ w' = w := by
  go_enter Tryd.func118, Tryd.ntmps118
  go_wp2
  go_ret
  exact ⟨rfl, rfl⟩

set_option maxHeartbeats 2000000 in
theorem weigh (b off n cap : Nat) (l : List (Int × Int)) (i : Nat) (x : Int) (w : World) (hn : n = l.length) (h7 : n ≤ 7) (hi : i < n) (hR : M.Right l) (hx0 : 0 ≤ x) (hx1 : x < 257) (hl : LieP w b off l) :
    Calls Tryd.prog 98 #[.slice (some ⟨b, off, none⟩) n cap, .int .i64 i, .int .i64 x] w fun e w' => e = .returned (.tuple #[.int .i64 (M.wtI l i x), .nilIface]) ∧ Below w.heap.size w w' := by
  have hil : i < l.length := hn ▸ hi
  have HL := hide hl
  have HN := hide hn
  have HR := hide hR
  have HU := hide (M.under_ne hR hil)
  have HW : Hid (M.wtI l i x = M.over l i x l.length * M.invI (M.over l i l[i].1 l.length) % 257) := hide (by unfold M.wtI; rw [M.pt_at hil])
  obtain ⟨y, hy⟩ : ∃ y, y = l[i].1 := ⟨_, rfl⟩
  have hyr := (hR.1 i hil).1
  have HI : Hid (∀ wr, Below w.heap.size w wr → wr.cell? ⟨b, off + i * 2, none⟩ = some (.int .i64 y)) := hide fun wr hb => by rw [hy]; exact ((hl.stays hb (Nat.le_refl _)) i hil).1
  rw [← hy] at HW HU hyr
  obtain ⟨y0, y1⟩ := hyr
  clear hl hn hR hy
  go_enter Tryd.func98, Tryd.ntmps98
  go_wp2
  go_loopw [8, 9, 16] (fun so su sj wr => ∃ (k : Nat) (ov un : Int), so = .int .i64 ov ∧ su = .int .i64 un ∧ sj = .int .i64 k ∧ k ≤ n ∧ (0 ≤ ov ∧ ov < 257) ∧ (0 ≤ un ∧ un < 257) ∧ Hid (ov = M.over l i x k) ∧ Hid (un = M.over l i y k) ∧ Hid (Below w.heap.size w wr)) (fun _ _ sj _ => n - (intOf sj).toNat)
  case atStart => exact ⟨0, 1, 1, rfl, rfl, rfl, Nat.zero_le _, by decide, by decide, hide rfl, hide rfl, hide (Below.refl _ _)⟩
  case round =>
    obtain ⟨k, ov, un, rfl, rfl, rfl, hk, ⟨o0, o1⟩, ⟨n0, n1⟩, hov, hun, hbel⟩ := hrel
    by_cases hlt : k < n
    · have hkl : k < l.length := by have := HN.out; omega
      obtain ⟨c1, c2⟩ := (HL.out.stays hbel.out (Nat.le_refl _)) k hkl
      obtain ⟨z0, z1⟩ := (HR.out.1 k hkl).1
      have HST : Hid (k ≠ i → M.over l i x (k + 1) = M.over l i x k * ((x - l[k].1 + 257) % 257) % 257 ∧ M.over l i y (k + 1) = M.over l i y k * ((y - l[k].1 + 257) % 257) % 257) := hide fun h => ⟨M.over_step h hkl x, M.over_step h hkl y⟩
      generalize l[k].1 = z at c1 z0 z1 HST
      generalize l[k].2 = v at c2
      by_cases hki : k = i
      · have HE : Hid (k = i) := hide hki
        have hne : ((k : Int) != (i : Int)) = false := by simp; omega
        clear hki
        go_wp2_with fail
        go_roundw
        case rel =>
          exact ⟨k + 1, ov, un, rfl, rfl, by go_num, by omega, ⟨o0, o1⟩, ⟨n0, n1⟩, hide (by rw [hov.out, HE.out, M.over_skip]), hide (by rw [hun.out, HE.out, M.over_skip]), hide (hbel.out.trans (((Below.refl _ wr).alloc (Nat.le_refl _) _).mono hbel.out.size))⟩
        case measure => simp [intOf]; omega
      · have HE := hide (HST.out hki)
        have hne : ((k : Int) != (i : Int)) = true := by simp; omega
        have ci := HI.out wr hbel.out
        have hbl : b < wr.heap.size := World.block_lt_of_cell? wr _ ci
        have h1 := fun w => apart x z w hx0 hx1 z0 z1
        have h2 := fun w => apart y z w y0 y1 z0 z1
        obtain ⟨d, hd⟩ : ∃ d, d = (x - z + 257) % 257 := ⟨_, rfl⟩
        obtain ⟨f, hf⟩ : ∃ f, f = (y - z + 257) % 257 := ⟨_, rfl⟩
        rw [← hd] at h1 HE
        rw [← hf] at h2 HE
        have d0 : 0 ≤ d := by omega
        have d1 : d < 257 := by omega
        have f0 : 0 ≤ f := by omega
        have f1 : f < 257 := by omega
        obtain ⟨p0, p1⟩ := prod_range o0 o1 d0 d1
        obtain ⟨q0, q1⟩ := prod_range n0 n1 f0 f1
        have H1 := hide h1
        have H2 := hide h2
        clear h1 h2 hd hf hki
        go_wp2_with fail
        refine (unhide H1 _).mono ?_
        rintro e w1 ⟨rfl, rfl⟩
        go_wp2_with fail
        go_quiet ((go_at_call 118; exact Calls.quiet_of_same (H2.out _)))
        go_wp2_with fail
        go_roundw
        case rel =>
          exact ⟨k + 1, ov * d % 257, un * f % 257, rfl, rfl, by go_num, by omega, by omega, by omega, hide (by rw [HE.out.1, hov.out]), hide (by rw [HE.out.2, hun.out]), hide (hbel.out.trans ((Go.below_drewN ((Below.refl _ wr).alloc (Nat.le_refl _) _) _).mono hbel.out.size))⟩
        case measure => simp [intOf]; omega
    · have hkn : k = l.length := by have := HN.out; omega
      rw [hkn] at hov hun
      have HFIN : Hid (M.wtI l i x = ov * M.invI un % 257) := hide (by rw [HW.out, hov.out, hun.out])
      have hpos : 0 < un := by rw [hun.out]; exact HU.out
      have h1 := fun w => Md.invOk un w hpos n1
      obtain ⟨v, hv⟩ : ∃ v, v = M.invI un := ⟨_, rfl⟩
      have hvr := M.invI_range un
      rw [← hv] at h1 hvr HFIN
      obtain ⟨v0, v1⟩ := hvr
      obtain ⟨p0, p1⟩ := prod_range o0 o1 v0 v1
      have H1 := hide h1
      have HK := hide hkn
      clear h1 hv hkn hov hun
      go_wp2_with fail
      refine (unhide H1 _).mono ?_
      rintro e w1 ⟨rfl, rfl⟩
      go_wp2_with fail
      go_ret2
      exact ⟨by rw [HFIN.out]; rfl, hbel.out⟩

theorem nextPts (a : Option Addr) (n cap : Nat) (l : List (Int × Int)) (x : Int) (w : World) (hn : n = l.length) (hcap : n ≤ cap) (hcm : cap ≤ maxLen) (hl : AtP w a l) (hf : M.ptsE l ≠ 0) :
    Calls Tryd.prog 67 #[.slice a n cap, .int .i64 x] w fun e w' => e = .returned (.tuple #[.int .i64 0, .iface 66 (.int .i64 (M.ptsE l))]) ∧ Below w.heap.size w w' := by
  have HC : Hid (Calls Tryd.prog 97 #[.slice a n cap] w fun e w' => e = .returned (.iface 66 (.int .i64 (M.ptsE l))) ∧ Below w.heap.size w w') := hide (by
    have := checkPts a n cap l w hn hcap hcm hl
    rwa [errV_bad hf] at this)
  clear hn hcm hl hf hcap
  go_enter Tryd.func67, Tryd.ntmps67
  go_wp2_with fail
  refine (unhide HC).mono ?_
  rintro e w1 ⟨rfl, hb1⟩
  go_wp2_with fail
  go_ret2
  exact ⟨rfl, hb1⟩

theorem nextX (a : Option Addr) (n cap : Nat) (l : List (Int × Int)) (x : Int) (w : World) (hn : n = l.length) (hcap : n ≤ cap) (hcm : cap ≤ maxLen) (hl : AtP w a l) (hf : M.ptsE l = 0) (hx : x < 0 ∨ 257 ≤ x) :
    Calls Tryd.prog 67 #[.slice a n cap, .int .i64 x] w fun e w' => e = .returned (.tuple #[.int .i64 0, .iface 66 (.int .i64 1)]) ∧ Below w.heap.size w w' := by
  have HC : Hid (Calls Tryd.prog 97 #[.slice a n cap] w fun e w' => e = .returned .nilIface ∧ Below w.heap.size w w') := hide (by
    have := checkPts a n cap l w hn hcap hcm hl
    rwa [hf] at this)
  have HX := hide hx
  clear hn hcm hl hf hcap hx
  go_enter Tryd.func67, Tryd.ntmps67
  go_wp2_with fail
  refine (unhide HC).mono ?_
  rintro e w1 ⟨rfl, hb1⟩
  go_wp2_with fail
  refine (Md.isNo x _ HX.out).mono ?_
  rintro e w2 ⟨rfl, rfl⟩
  go_wp2_with fail
  go_ret2
  exact ⟨rfl, hb1⟩

set_option maxHeartbeats 2000000 in
theorem nextOk (a : Option Addr) (n cap : Nat) (l : List (Int × Int)) (x : Int) (w : World) (hn : n = l.length) (hcap : n ≤ cap) (hcm : cap ≤ maxLen) (hl : AtP w a l) (hf : M.ptsE l = 0) (hx0 : 0 ≤ x) (hx1 : x < 257) :
    Calls Tryd.prog 67 #[.slice a n cap, .int .i64 x] w fun e w' => e = .returned (.tuple #[.int .i64 (M.next l x), .nilIface]) ∧ Below w.heap.size w w' := by
  obtain ⟨g0, g7, hR⟩ := M.ptsE_ok hf
  have HC : Hid (Calls Tryd.prog 97 #[.slice a n cap] w fun e w' => e = .returned .nilIface ∧ Below w.heap.size w w') := hide (by
    have := checkPts a n cap l w hn hcap hcm hl
    rwa [hf] at this)
  obtain ⟨b, off, rfl, hlie⟩ := hl g0
  have h7 : n ≤ 7 := by omega
  have HL := hide hlie
  have HN := hide hn
  have HR := hide hR
  have HALL := hide (M.sumI_all hR g0 x)
  clear hn hl hf hcap hcm hR hlie g0 g7
  go_enter Tryd.func67, Tryd.ntmps67
  go_wp2_with fail
  refine (unhide HC).mono ?_
  rintro e w1 ⟨rfl, hb1⟩
  have HB1 := hide hb1
  clear hb1 HC
  go_wp2_with fail
  refine (Md.isYes x _ hx0 hx1).mono ?_
  rintro e w2 ⟨rfl, hw⟩
  obtain rfl := hw.symm
  go_wp2_with fail
  go_loopw [7, 23] (fun ss sj wr => ∃ (k : Nat) (s : Int), ss = .int .i64 s ∧ sj = .int .i64 k ∧ k ≤ n ∧ (0 ≤ s ∧ s < 257) ∧ Hid (s = M.sumI l x k) ∧ Hid (Below w.heap.size w wr)) (fun _ sj _ => n - (intOf sj).toNat)
  case atStart => exact ⟨0, 0, rfl, rfl, Nat.zero_le _, by decide, hide rfl, HB1⟩
  case round =>
    obtain ⟨k, s, rfl, rfl, hk, ⟨s0, s1⟩, hs, hbel⟩ := hrel
    by_cases hlt : k < n
    · have hkl : k < l.length := by have := HN.out; omega
      obtain ⟨c1, c2⟩ := (HL.out.stays hbel.out (Nat.le_refl _)) k hkl
      obtain ⟨z0, z1⟩ := (HR.out.1 k hkl).2
      have HST := hide (M.sumI_step hkl x)
      have HWT : Hid (∀ wx, Below w.heap.size w wx → Calls Tryd.prog 98 #[.slice (some ⟨b, off, none⟩) n cap, .int .i64 k, .int .i64 x] wx fun e w' => e = .returned (.tuple #[.int .i64 (M.wtI l k x), .nilIface]) ∧ Below wx.heap.size wx w') := hide fun wx hb => weigh b off n cap l k x wx HN.out h7 hlt HR.out hx0 hx1 (HL.out.stays hb (Nat.le_refl _))
      obtain ⟨t, ht⟩ : ∃ t, t = M.wtI l k x := ⟨_, rfl⟩
      have htr := M.wtI_range l k x
      rw [← ht] at htr HST HWT
      obtain ⟨t0, t1⟩ := htr
      clear ht
      generalize l[k].1 = u at c1
      generalize l[k].2 = z at c2 z0 z1 HST
      obtain ⟨p0, p1⟩ := prod_range z0 z1 t0 t1
      have HA : Hid (Below w.heap.size w (wr.alloc (.cells #[.int .i64 u, .int .i64 z] 31))) := hide (hbel.out.trans (((Below.refl _ wr).alloc (Nat.le_refl _) _).mono hbel.out.size))
      go_wp2_with fail
      refine (unhide HWT _ HA.out).mono ?_
      rintro e w2 ⟨rfl, hb2⟩
      obtain ⟨hc, hfz⟩ := bcell hb2
      have HB2 := hide (HA.out.trans (hb2.mono HA.out.size))
      clear hb2
      go_wp2_with fail
      go_roundw
      case rel => exact ⟨k + 1, (s + z * t) % 257, rfl, by go_num, by omega, by omega, hide (by rw [HST.out, hs.out]), HB2⟩
      case measure => simp [intOf]; omega
    · have HFIN : Hid (s = M.next l x) := hide (by rw [hs.out, ← HALL.out, ← HN.out, show k = n by omega])
      clear hs
      go_wp2_with fail
      go_ret2
      exact ⟨by rw [HFIN.out]; rfl, hbel.out⟩

theorem pNext (a : Option Addr) (n cap : Nat) (l : List (Int × Int)) (x : Int) (w : World) (hn : n = l.length) (hcap : n ≤ cap) (hcm : cap ≤ maxLen) (hl : AtP w a l) :
    Calls Tryd.prog 67 #[.slice a n cap, .int .i64 x] w fun e w' => e = .returned (.tuple #[.int .i64 (M.nxR l x), errV (M.nxE l x)]) ∧ Below w.heap.size w w' := by
  by_cases hf : M.ptsE l = 0
  · cases hx : M.inR x
    · have h := M.nxE_x hf hx
      rw [M.nxR_bad (by rw [h]; decide), h]
      exact nextX a n cap l x w hn hcap hcm hl hf (M.inR_no hx)
    · have h := M.nxE_0 hf hx
      rw [M.nxR_ok h, h]
      exact nextOk a n cap l x w hn hcap hcm hl hf (M.inR_yes hx).1 (M.inR_yes hx).2
  · have h := M.nxE_pts (x := x) hf
    rw [M.nxR_bad (by rw [h]; exact hf), h, errV_bad hf]
    exact nextPts a n cap l x w hn hcap hcm hl hf

theorem pZero (a : Option Addr) (n cap : Nat) (l : List (Int × Int)) (w : World) (hn : n = l.length) (hcap : n ≤ cap) (hcm : cap ≤ maxLen) (hl : AtP w a l) :
    Calls Tryd.prog 47 #[.slice a n cap] w fun e w' => e = .returned (.tuple #[.int .i64 (M.nxR l 0), errV (M.ptsE l)]) ∧ Below w.heap.size w w' := by
  have h := pNext a n cap l 0 w hn hcap hcm hl
  rw [M.nxE_zero] at h
  have H := hide h
  clear h hn hcap hcm hl
  go_enter Tryd.func47, Tryd.ntmps47
  go_wp2_with fail
  refine (unhide H).mono ?_
  rintro e w1 ⟨rfl, hb1⟩
  go_wp2_with fail
  go_ret2
  exact ⟨rfl, hb1⟩

end Go.Proofs.YtlefhfmckimlaajDoor
