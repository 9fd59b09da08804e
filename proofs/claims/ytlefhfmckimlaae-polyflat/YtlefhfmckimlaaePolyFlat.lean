/-
  The walk of the Go function PolyFlat: it returns true, whatever the two numbers.
-/
import Derived.Test.YtlefhfmckimlaaePolyAt3
import Derived.Test.YtlefhfmckimlaaePolyNext
set_option linter.unusedVariables false
namespace Go.Proofs.Ytlefhfmckimlaae.polyFlat
open Go.RowKit

theorem fac_one {n : Int} (h : M.inR n = true) : M.facE [n] = 0 := by
  rw [M.facE_few (by simp)]
  show M.first (M.facF [n]) 1 = 0
  rw [M.first_next rfl, M.facF_at (by simp)]
  simp [h]
theorem fac_bad {n : Int} (h : M.inR n = false) : M.facE [n] = 1 := by
  rw [M.facE_few (by simp)]
  show M.first (M.facF [n]) 1 = 1
  rw [M.first_next rfl, M.facF_at (by simp)]
  simp [h]
theorem pts_one {n : Int} (h : M.inR n = true) : M.ptsE [(3, n)] = 0 := by
  rw [M.ptsE_some (by simp) (by simp)]
  show M.first (M.ptF [(3, n)]) 1 = 0
  rw [M.first_next rfl]
  refine M.ptF_ok ?_ (M.ahead_zero _ _)
  unfold M.okP M.pt
  simp only [List.getD_cons_zero]
  rw [h]; rfl
theorem pts_bad {n : Int} (h : M.inR n = false) : M.ptsE [(3, n)] = 1 := by
  rw [M.ptsE_some (by simp) (by simp)]
  show M.first (M.ptF [(3, n)]) 1 = 1
  rw [M.first_next rfl]
  refine M.ptF_range ?_
  unfold M.okP M.pt
  simp only [List.getD_cons_zero]
  rw [h]; rfl
theorem ev_one {n : Int} (h0 : 0 ≤ n) (h1 : n < 257) (x : Int) : M.ev [n] x = n := by
  rw [M.ev_cons, M.ev_nil]; omega
theorem next_one {n : Int} (h : M.inR n = true) (x : Int) : M.next [(3, n)] x = n := by
  obtain ⟨_, _, hR⟩ := M.ptsE_ok (pts_one h)
  exact M.nevI_zero hR x (i := 0) (by simp)

theorem atI_one {w : World} {B : Nat} {n : Int} (h : w.cell? ⟨B, 0, none⟩ = some (.int .i64 n)) : AtI w (some ⟨B, 0, none⟩) [n] := fun _ => ⟨B, 0, rfl, fun i hi => by
  obtain rfl : i = 0 := by simpa using hi
  simpa using h⟩
theorem atP_one {w : World} {B : Nat} {a n : Int} (h : w.cell? ⟨B, 0, none⟩ = some (.int .i64 a)) (h' : w.cell? ⟨B, 1, none⟩ = some (.int .i64 n)) : AtP w (some ⟨B, 0, none⟩) [(a, n)] := fun _ => ⟨B, 0, rfl, fun i hi => by
  obtain rfl : i = 0 := by simpa using hi
  exact ⟨by simpa using h, by simpa using h'⟩⟩

theorem walk (n x : Int) (w : World) : Calls Try.prog 4 #[.int .i64 n, .int .i64 x] w fun e w' => e = .returned (.bool true) ∧ Below w.heap.size w w' := by
  by_cases h : M.inR n = true ∧ M.inR x = true
  · obtain ⟨hn, hx⟩ := h
    obtain ⟨n0, n1⟩ := M.inR_yes hn
    have HA : Hid (∀ (wx : World) (B : Nat), wx.cell? ⟨B, 0, none⟩ = some (.int .i64 n) → Calls Try.prog 8 #[.slice (some ⟨B, 0, none⟩) 1 1, .int .i64 x] wx fun e w' => e = .returned (.tuple #[.int .i64 n, .nilIface]) ∧ Below wx.heap.size wx w') := hide fun wx B hc => by
      have := pAt (some ⟨B, 0, none⟩) 1 1 [n] x wx rfl (by decide) (atI_one hc)
      have he := M.atE_0 (fac_one hn) hx
      rwa [M.atR_ok he, he, ev_one n0 n1] at this
    have HB : Hid (∀ (wx : World) (B : Nat), wx.cell? ⟨B, 0, none⟩ = some (.int .i64 3) → wx.cell? ⟨B, 1, none⟩ = some (.int .i64 n) → Calls Try.prog 9 #[.slice (some ⟨B, 0, none⟩) 1 1, .int .i64 x] wx fun e w' => e = .returned (.tuple #[.int .i64 n, .nilIface]) ∧ Below wx.heap.size wx w') := hide fun wx B hc hc' => by
      have := pNext (some ⟨B, 0, none⟩) 1 1 [(3, n)] x wx rfl (by decide) (by decide) (atP_one hc hc')
      have he := M.nxE_0 (pts_one hn) hx
      rwa [M.nxR_ok he, he, next_one hn] at this
    clear hn hx
    go_enter Try.func4, Try.ntmps4
    go_wp2_with fail
    refine (HA.out _ _ (by simp [go_sem])).mono ?_
    rintro e w1 ⟨rfl, hb1⟩
    go_wp2_with fail
    refine (HB.out _ _ (by simp [go_sem]) (by simp [go_sem])).mono ?_
    rintro e w2 ⟨rfl, hb2⟩
    go_wp2_with fail
    go_ret
    have s1 := hb1.size
    simp only [World.size_alloc] at s1
    exact ⟨by simp, (((Below.refl w.heap.size w).alloc (Nat.le_refl _) _).trans (hb1.mono (by simp))).trans (((Below.refl w.heap.size w1).alloc (by omega) _).trans (hb2.mono (by simp; omega)))⟩
  · have hE1 : M.atE [n] x ≠ 0 := fun e => h ⟨by
      cases g : M.inR n
      · have := (M.atE_ok e).1
        rw [fac_bad g] at this; exact absurd this (by decide)
      · rfl, (M.atE_ok e).2⟩
    have hE2 : M.nxE [(3, n)] x ≠ 0 := fun e => h ⟨by
      cases g : M.inR n
      · have := (M.nxE_ok e).1
        rw [pts_bad g] at this; exact absurd this (by decide)
      · rfl, (M.nxE_ok e).2⟩
    have HA : Hid (∀ (wx : World) (B : Nat), wx.cell? ⟨B, 0, none⟩ = some (.int .i64 n) → Calls Try.prog 8 #[.slice (some ⟨B, 0, none⟩) 1 1, .int .i64 x] wx fun e w' => e = .returned (.tuple #[.int .i64 0, .iface 39 (.int .i64 (M.atE [n] x))]) ∧ Below wx.heap.size wx w') := hide fun wx B hc => by
      have := pAt (some ⟨B, 0, none⟩) 1 1 [n] x wx rfl (by decide) (atI_one hc)
      rwa [M.atR_bad hE1, errV_bad hE1] at this
    have HB : Hid (∀ (wx : World) (B : Nat), wx.cell? ⟨B, 0, none⟩ = some (.int .i64 3) → wx.cell? ⟨B, 1, none⟩ = some (.int .i64 n) → Calls Try.prog 9 #[.slice (some ⟨B, 0, none⟩) 1 1, .int .i64 x] wx fun e w' => e = .returned (.tuple #[.int .i64 0, .iface 39 (.int .i64 (M.nxE [(3, n)] x))]) ∧ Below wx.heap.size wx w') := hide fun wx B hc hc' => by
      have := pNext (some ⟨B, 0, none⟩) 1 1 [(3, n)] x wx rfl (by decide) (by decide) (atP_one hc hc')
      rwa [M.nxR_bad hE2, errV_bad hE2] at this
    have hq : n < 0 ∨ (¬ n < 0 ∧ 256 < n) ∨ (¬ n < 0 ∧ ¬ 256 < n ∧ x < 0) ∨ (¬ n < 0 ∧ ¬ 256 < n ∧ ¬ x < 0 ∧ 256 < x) := by
      have : ¬ ((0 ≤ n ∧ n < 257) ∧ (0 ≤ x ∧ x < 257)) := fun g => h ⟨M.inR_mk g.1.1 g.1.2, M.inR_mk g.2.1 g.2.2⟩
      omega
    clear h hE1 hE2
    generalize M.atE [n] x = E1 at HA
    generalize M.nxE [(3, n)] x = E2 at HB
    rcases hq with q1 | ⟨q1, q2⟩ | ⟨q1, q2, q3⟩ | ⟨q1, q2, q3, q4⟩
    all_goals
      go_enter Try.func4, Try.ntmps4
      go_wp2_with fail
      refine (HA.out _ _ (by simp [go_sem])).mono ?_
      rintro e w1 ⟨rfl, hb1⟩
      go_wp2_with fail
      refine (HB.out _ _ (by simp [go_sem]) (by simp [go_sem])).mono ?_
      rintro e w2 ⟨rfl, hb2⟩
      go_wp2_with fail
      go_ret
      have s1 := hb1.size
      simp only [World.size_alloc] at s1
      exact ⟨by simp <;> omega, (((Below.refl w.heap.size w).alloc (Nat.le_refl _) _).trans (hb1.mono (by simp))).trans (((Below.refl w.heap.size w1).alloc (by omega) _).trans (hb2.mono (by simp; omega)))⟩

end Go.Proofs.Ytlefhfmckimlaae.polyFlat
