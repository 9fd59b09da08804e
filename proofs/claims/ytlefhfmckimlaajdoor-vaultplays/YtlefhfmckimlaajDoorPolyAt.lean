/-
  What At of package poly does, and what it asks: each as one law of its call.
-/
import Derived.Test.YtlefhfmckimlaajDoorJ12A
import Derived.RangeFuncNested
import Derived.RangeFuncBound
import Derived.RangeFuncCalls
import Derived.RangeFuncLeaves
import Derived.RangeFuncBox
import Derived.Shelf.Abstract
import Derived.Shelf.RegionOpen
import Derived.WalkKit
import Derived.OwnWalkIn
import Derived.TacticsInMore
import Derived.LoopNIn
import Derived.LoopIn
set_option linter.unusedVariables false
namespace Go.Proofs.YtlefhfmckimlaajDoor
open Go.RowKit Go.Shelf
attribute [local go_sem] Oper.semAt_some

theorem isBad (a : Int) (w : World) : Calls Tryd.prog 115 #[.int .i64 a] w fun e w' => e = .returned (.bool (!M.inR a)) ∧ w' = w := by
  cases h : M.inR a
  · have H := hide (M.inR_no h)
    clear h
    go_enter Tryd.func115, Tryd.ntmps115
    go_wp2_with (go_at_call 28; refine (Md.isNo _ _ H.out).mono ?_; rintro e w' ⟨rfl, rfl⟩)
    go_ret
    exact ⟨rfl, rfl⟩
  · obtain ⟨h0, h1⟩ := M.inR_yes h
    clear h
    go_enter Tryd.func115, Tryd.ntmps115
    go_wp2_with (go_at_call 28; refine (Md.isYes _ _ (by assumption) (by assumption)).mono ?_; rintro e w' ⟨rfl, rfl⟩)
    go_ret
    exact ⟨rfl, rfl⟩

/-- one of the factors is none of the chapter's -/
def badB (p : List Int) : Bool := decide (M.first (M.facF p) p.length ≠ 0)

theorem findInts (a : Option Addr) (n cap : Nat) (p : List Int) (w : World) (hn : n = p.length) (h7 : n ≤ 7) (hl : AtI w a p) :
    Calls Tryd.prog 99 #[.slice a n cap, .func (.func 115) #[] #[]] w fun e w' => (∃ r, e = .returned (.int .i64 r) ∧ decide (0 ≤ r) = badB p) ∧ w' = w := by
  have HL := hide hl
  have HN := hide hn
  clear hl hn
  go_enter Tryd.func99, Tryd.ntmps99
  go_wp2
  go_loop [8] (fun i => ∃ k : Nat, k ≤ n ∧ i = .int .i64 k ∧ Hid (M.first (M.facF p) k = 0)) (fun i => n - (intOf i).toNat)
  case atStart => exact ⟨0, Nat.zero_le _, rfl, hide rfl⟩
  case round =>
    obtain ⟨k, hk, rfl, hno⟩ := hrel
    by_cases hlt : k < n
    · have hkl : k < p.length := HN.out ▸ hlt
      obtain ⟨b, off, rfl, hlie⟩ := HL.out (by omega)
      have c1 := hlie k hkl
      have HF := hide (M.facF_at hkl)
      clear hlie
      generalize hz : p[k] = z at c1 HF
      clear hz
      cases hb : M.inR z
      · have hC : ∀ w, Calls Tryd.prog 115 #[.int .i64 z] w fun e w' => e = .returned (.bool true) ∧ w' = w := fun w => by have := isBad z w; rwa [hb] at this
        have HC := hide hC
        have hfin : Hid (badB p = true) := hide (by
          have h1 := HF.out
          rw [hb] at h1
          unfold badB
          rw [M.first_bad hkl hno.out (by rw [h1]; decide), h1]; rfl)
        clear hC hb
        go_wp2_with fail
        refine (unhide HC _).mono ?_
        rintro e w1 ⟨rfl, rfl⟩
        go_wp2_with fail
        go_ret
        exact ⟨⟨_, rfl, by rw [hfin.out]; simp⟩, rfl⟩
      · have hC : ∀ w, Calls Tryd.prog 115 #[.int .i64 z] w fun e w' => e = .returned (.bool false) ∧ w' = w := fun w => by have := isBad z w; rwa [hb] at this
        have HC := hide hC
        have HS : Hid (M.first (M.facF p) (k + 1) = 0) := hide (by rw [M.first_next hno.out, HF.out, if_pos hb])
        clear hC hb
        go_wp2_with fail
        refine (unhide HC _).mono ?_
        rintro e w1 ⟨rfl, rfl⟩
        go_wp2_with fail
        go_round
        case rel => exact ⟨k + 1, by omega, by go_num, HS⟩
        case measure => simp [intOf]; omega
    · have hfin : Hid (badB p = false) := hide (by
        have h1 := hno.out
        have h2 := HN.out
        unfold badB
        rw [← h2, show n = k by omega, h1]; rfl)
      go_wp2
      go_ret
      exact ⟨⟨_, rfl, by rw [hfin.out]; decide⟩, rfl⟩

theorem hasBad (a : Option Addr) (n cap : Nat) (p : List Int) (w : World) (hn : n = p.length) (h7 : n ≤ 7) (hl : AtI w a p) :
    Calls Tryd.prog 69 #[.slice a n cap, .func (.func 115) #[] #[]] w fun e w' => e = .returned (.bool (badB p)) ∧ w' = w := by
  have HI := hide (findInts a n cap p w hn h7 hl)
  clear hn hl
  go_enter Tryd.func69, Tryd.ntmps69
  go_wp2_with fail
  refine (unhide HI).mono ?_
  rintro e w1 ⟨⟨r, rfl, hr⟩, rfl⟩
  have HR := hide hr
  clear hr
  go_wp2_with fail
  go_ret
  exact ⟨by rw [← HR.out]; rfl, rfl⟩

theorem checkFac (a : Option Addr) (n cap : Nat) (p : List Int) (w : World) (hn : n = p.length) (hm : n ≤ maxLen) (hl : AtI w a p) :
    Calls Tryd.prog 95 #[.slice a n cap] w fun e w' => e = .returned (errV (M.facE p)) ∧ w' = w := by
  unfold maxLen at hm
  by_cases h7 : 7 < n
  · have h7' : (7 : Int) < n := by omega
    rw [M.facE_many (hn ▸ h7)]
    clear hn hl
    go_enter Tryd.func95, Tryd.ntmps95
    go_wp2
    go_ret
    exact ⟨rfl, rfl⟩
  · have h7' : ¬ (7 : Int) < n := by omega
    have hC := hasBad a n cap p w hn (by omega) hl
    have hc := M.fac_first p p.length
    rw [M.facE_few (hn ▸ h7)]
    generalize hq : M.first (M.facF p) p.length = q at hc ⊢
    have hb : badB p = decide (q ≠ 0) := by unfold badB; rw [hq]
    rw [hb] at hC
    clear hb hq hn hl
    by_cases h0 : q = 0
    · subst h0
      have HC : Hid (Calls Tryd.prog 69 #[.slice a n cap, .func (.func 115) #[] #[]] w fun e w' => e = .returned (.bool false) ∧ w' = w) := hide hC
      clear hC hc
      go_enter Tryd.func95, Tryd.ntmps95
      go_wp2_with fail
      refine (unhide HC).mono ?_
      rintro e w1 ⟨rfl, rfl⟩
      go_wp2_with fail
      go_ret
      exact ⟨rfl, rfl⟩
    · rw [decide_eq_true h0] at hC
      have HC := hide hC
      have H1 : Hid (q = 1) := hide (by omega)
      clear hC hc h0
      go_enter Tryd.func95, Tryd.ntmps95
      go_wp2_with fail
      refine (unhide HC).mono ?_
      rintro e w1 ⟨rfl, rfl⟩
      go_wp2_with fail
      go_ret
      exact ⟨by rw [H1.out]; rfl, rfl⟩

end Go.Proofs.YtlefhfmckimlaajDoor
