/-
  What the document's own In and Power do, each as one law of its call.
  What the document's own Factors, At and Points do, each as one law of its call.
-/
import Derived.Test.YtlefhfmckimlaajDoorModWalks
import Derived.Test.YtlefhfmckimlaajDoorJ12A
import Derived.BigQuiet
import Derived.Deep.QuietTactic
namespace Go.Proofs.YtlefhfmckimlaajDoor.Md
open Go.RowKit

/-- a number of the chapter's -/
def inB (a : Int) : Bool := decide (0 ≤ a ∧ a < 257)
theorem inB_yes {a : Int} (h : inB a = true) : 0 ≤ a ∧ a < 257 := of_decide_eq_true h
theorem inB_no {a : Int} (h : inB a = false) : a < 0 ∨ 257 ≤ a := by have := of_decide_eq_false h; omega

theorem refIn (a : Int) (w : World) : Calls Tryd.prog 16 #[.int .i64 a] w fun e w' => e = .returned (.bool (inB a)) ∧ w' = w := by
  cases h : inB a
  · rcases inB_no h with h1 | h1
    · clear h
      go_enter Tryd.func16, Tryd.ntmps16
      go_wp2
      go_ret
      exact ⟨rfl, rfl⟩
    · clear h
      have h0 : 0 ≤ a := by omega
      go_enter Tryd.func16, Tryd.ntmps16
      go_wp2
      go_ret
      exact ⟨by simp; omega, rfl⟩
  · obtain ⟨h0, h1⟩ := inB_yes h
    clear h
    go_enter Tryd.func16, Tryd.ntmps16
    go_wp2
    go_ret
    exact ⟨by simp; omega, rfl⟩

set_option maxHeartbeats 1000000 in
theorem refPower (a b : Nat) (ha : a < b) (hb : 2 ≤ b) (hb1 : b ≤ 1000000) : ∀ (n : Nat) (w : World), n ≤ 1000000 →
    Calls Tryd.prog 35 #[.int .i64 a, .int .i64 n, .int .i64 b] w fun e w' => e = .returned (.int .i64 (M.pw a n b : Nat)) ∧ w' = w := by
  intro n
  induction n using Nat.strongRecOn with
  | ind n ih =>
    intro w hn
    by_cases h0 : n = 0
    · subst h0
      rw [M.pw_zero hb]
      clear ih
      go_enter Tryd.func35, Tryd.ntmps35
      go_wp2
      go_ret
      exact ⟨rfl, rfl⟩
    · have HI : Hid (∀ w, Calls Tryd.prog 35 #[.int .i64 a, .int .i64 ((n : Int) / 2), .int .i64 b] w fun e w' => e = .returned (.int .i64 (M.pw a (n / 2) b : Nat)) ∧ w' = w) := hide fun w => by
        rw [show (n : Int) / 2 = ((n / 2 : Nat) : Int) by omega]
        exact ih (n / 2) (by omega) w (by omega)
      obtain ⟨h, hh⟩ : ∃ h, h = M.pw a (n / 2) b := ⟨_, rfl⟩
      have hl : h < b := by rw [hh]; exact M.pw_lt (by omega)
      rw [← hh] at HI
      obtain ⟨q0, q1⟩ := sq_range hl hl hb1
      have hm : h * h % b < b := Nat.mod_lt _ (by omega)
      obtain ⟨s0, s1⟩ := sq_range hm ha hb1
      have em : (h : Int) * h % b = ((h * h % b : Nat) : Int) := by simp
      rw [← em] at s0 s1
      have hz : ((n : Int) == 0) = false := by simp; omega
      clear ih
      rcases Nat.mod_two_eq_zero_or_one n with h2 | h2
      · have HF : Hid (h * h % b = M.pw a n b) := hide (by rw [hh]; exact M.pw_half h2)
        have h2i : (n : Int) % 2 = 0 := by omega
        clear hh em h0
        go_enter Tryd.func35, Tryd.ntmps35
        go_wp2_with fail
        refine (HI.out _).mono ?_
        rintro e w' ⟨rfl, rfl⟩
        go_wp2_with fail
        go_ret
        exact ⟨by rw [← HF.out]; simp, rfl⟩
      · have HF : Hid (h * h % b * a % b = M.pw a n b) := hide (by rw [hh]; exact M.pw_half1 h2)
        have h2i : (n : Int) % 2 = 1 := by omega
        clear hh em h0
        go_enter Tryd.func35, Tryd.ntmps35
        go_wp2_with fail
        refine (HI.out _).mono ?_
        rintro e w' ⟨rfl, rfl⟩
        go_wp2_with fail
        go_ret
        exact ⟨by rw [← HF.out]; simp; rw [Int.mul_emod (_ % _), Int.emod_emod, ← Int.mul_emod], rfl⟩

theorem refPowerI (a n b : Int) (w : World) (h : Pow a n b) : Calls Tryd.prog 35 #[.int .i64 a, .int .i64 n, .int .i64 b] w fun e w' => e = .returned (.int .i64 (M.pwI a n b)) ∧ w' = w := by
  obtain ⟨h1, h2, h3, h4, h5, h6⟩ := h
  have := refPower a.toNat b.toNat (by omega) (by omega) (by omega) n.toNat w (by omega)
  rwa [Int.toNat_of_nonneg h3, Int.toNat_of_nonneg h5, Int.toNat_of_nonneg (by omega : 0 ≤ b)] at this

end Go.Proofs.YtlefhfmckimlaajDoor.Md

set_option linter.unusedVariables false
namespace Go.Proofs.YtlefhfmckimlaajDoor
open Go.RowKit

theorem rIn (a : Int) (w : World) : Calls Tryd.prog 16 #[.int .i64 a] w fun e w' => e = .returned (.bool (M.inR a)) ∧ w' = w := Md.refIn a w

theorem rFac (a : Option Addr) (n cap : Nat) (p : List Int) (w : World) (hn : n = p.length) (hm : n ≤ maxLen) (hl : AtI w a p) :
    Calls Tryd.prog 33 #[.slice a n cap] w fun e w' => e = .returned (.int .i64 (M.facE p)) ∧ w' = w := by
  unfold maxLen at hm
  by_cases h7 : 7 < n
  · have h7' : (7 : Int) < n := by omega
    rw [M.facE_many (hn ▸ h7)]
    clear hn hl
    go_enter Tryd.func33, Tryd.ntmps33
    go_wp2
    go_ret
    exact ⟨rfl, rfl⟩
  · have h7' : ¬ (7 : Int) < n := by omega
    rw [M.facE_few (hn ▸ h7)]
    have HL := hide hl
    have HN := hide hn
    clear hl hn
    go_enter Tryd.func33, Tryd.ntmps33
    go_wp2
    go_loop [3] (fun i => ∃ k : Nat, k ≤ n ∧ i = .int .i64 k ∧ Hid (M.first (M.facF p) k = 0)) (fun i => n - (intOf i).toNat)
    case atStart => exact ⟨0, Nat.zero_le _, rfl, hide rfl⟩
    case round =>
      obtain ⟨k, hk, rfl, hno⟩ := hrel
      by_cases hlt : k < n
      · have hkl : k < p.length := HN.out ▸ hlt
        obtain ⟨b, off, rfl, hlie⟩ := HL.out (by omega)
        have c1 := hlie k hkl
        have HF := hide (M.facF_at hkl)
        clear hlie
        generalize hz : p[k] = z at c1 HF
        clear hz
        cases hb : M.inR z
        · have HC : Hid (∀ w, Calls Tryd.prog 16 #[.int .i64 z] w fun e w' => e = .returned (.bool false) ∧ w' = w) := hide fun w => by have := rIn z w; rwa [hb] at this
          have hfin : Hid (M.first (M.facF p) p.length = 1) := hide (by
            have h1 := HF.out
            rw [hb] at h1
            rw [M.first_bad hkl hno.out (by rw [h1]; decide), h1]; rfl)
          clear hb
          go_wp2_with fail
          refine (unhide HC _).mono ?_
          rintro e w1 ⟨rfl, rfl⟩
          go_wp2_with fail
          go_ret
          exact ⟨by rw [hfin.out]; rfl, rfl⟩
        · have HC : Hid (∀ w, Calls Tryd.prog 16 #[.int .i64 z] w fun e w' => e = .returned (.bool true) ∧ w' = w) := hide fun w => by have := rIn z w; rwa [hb] at this
          have HS : Hid (M.first (M.facF p) (k + 1) = 0) := hide (by rw [M.first_next hno.out, HF.out, if_pos hb])
          clear hb
          go_wp2_with fail
          refine (unhide HC _).mono ?_
          rintro e w1 ⟨rfl, rfl⟩
          go_wp2_with fail
          go_round
          case rel => exact ⟨k + 1, by omega, by go_num, HS⟩
          case measure => simp [intOf]; omega
      · have hfin : Hid (M.first (M.facF p) p.length = 0) := hide (by rw [← HN.out, show n = k by omega]; exact hno.out)
        go_wp2
        go_ret
        exact ⟨by rw [hfin.out]; rfl, rfl⟩

theorem rAt (a : Option Addr) (n cap : Nat) (p : List Int) (x : Int) (w : World) (hn : n = p.length) (hl : AtI w a p) (hf : M.facE p = 0) (hx0 : 0 ≤ x) (hx1 : x < 257) :
    Calls Tryd.prog 34 #[.slice a n cap, .int .i64 x] w fun e w' => e = .returned (.int .i64 (M.ev p x)) ∧ w' = w := by
  obtain ⟨h7, hr⟩ := M.facE_ok hf
  have h7n : n ≤ 7 := by omega
  have HL := hide hl
  have HN := hide hn
  have HR := hide hr
  clear hl hn hr hf h7
  go_enter Tryd.func34, Tryd.ntmps34
  go_wp2
  go_loop [5, 6, 7] (fun ss st si => ∃ (k : Nat) (s t : Int), ss = .int .i64 s ∧ st = .int .i64 t ∧ si = .int .i64 k ∧ k ≤ n ∧ (0 ≤ s ∧ s < 257) ∧ (0 ≤ t ∧ t < 257) ∧ Hid (s = M.ev (p.take k) x) ∧ Hid (t = M.upI x k)) (fun _ _ si => n - (intOf si).toNat)
  case atStart => exact ⟨0, 0, 1, rfl, rfl, rfl, Nat.zero_le _, by decide, by decide, hide rfl, hide rfl⟩
  case round =>
    obtain ⟨k, s, t, rfl, rfl, rfl, hk, ⟨s0, s1⟩, ⟨t0, t1⟩, hs, ht⟩ := hrel
    by_cases hlt : k < n
    · have hkl : k < p.length := by have := HN.out; omega
      obtain ⟨b, off, rfl, hlie⟩ := HL.out (by omega)
      have c1 := hlie k hkl
      obtain ⟨z0, z1⟩ := HR.out k hkl
      have HS : Hid (M.ev (p.take (k + 1)) x = (M.ev (p.take k) x + p[k] * M.upI x k) % 257) := hide (by
        rw [List.take_succ_eq_append_getElem hkl, M.ev_snoc, List.length_take, Nat.min_eq_left (by omega)])
      have HT := hide (M.upI_succ x k)
      clear hlie
      generalize p[k] = z at c1 z0 z1 HS
      obtain ⟨p0, p1⟩ := prod_range z0 z1 t0 t1
      obtain ⟨q0, q1⟩ := prod_range t0 t1 hx0 hx1
      go_wp2
      go_round
      case rel => exact ⟨k + 1, (s + z * t) % 257, t * x % 257, rfl, rfl, by go_num, by omega, by omega, by omega, hide (by rw [HS.out, hs.out, ht.out]), hide (by rw [HT.out, ht.out])⟩
      case measure => simp [intOf]; omega
    · have hfin : Hid (s = M.ev p x) := hide (by rw [hs.out, List.take_of_length_le (by have := HN.out; omega)])
      clear hs
      go_wp2
      go_ret
      exact ⟨by rw [hfin.out]; rfl, rfl⟩

end Go.Proofs.YtlefhfmckimlaajDoor
