/-
  What Deal and Join of package share ask, each as one law of its call.
-/
import Derived.Test.YtlefhfmckimlaajDoorJ15A
import Derived.Test.YtlefhfmckimlaajDoorPolyNext
import Derived.BigQuiet
import Derived.Deep.QuietTactic
import Derived.Test.YtlefhfmckimlaajDoorJ12A
import Derived.Test.YtlefhfmckimlaajDoorJ3A
set_option linter.unusedVariables false
namespace Go.Proofs.YtlefhfmckimlaajDoor
open Go.RowKit Go.Shelf

theorem isFac (a : Int) (w : World) : Calls Tryd.prog 94 #[.int .i64 a] w fun e w' => e = .returned (.bool (!M.inR a)) ∧ w' = w := by
  cases h : M.inR a
  · have H := hide (M.inR_no h)
    clear h
    go_enter Tryd.func94, Tryd.ntmps94
    go_wp2_with (go_at_call 28; refine (Md.isNo _ _ H.out).mono ?_; rintro e w' ⟨rfl, rfl⟩)
    go_ret
    exact ⟨rfl, rfl⟩
  · obtain ⟨h0, h1⟩ := M.inR_yes h
    clear h
    go_enter Tryd.func94, Tryd.ntmps94
    go_wp2_with (go_at_call 28; refine (Md.isYes _ _ (by assumption) (by assumption)).mono ?_; rintro e w' ⟨rfl, rfl⟩)
    go_ret
    exact ⟨rfl, rfl⟩

theorem findFac (a : Option Addr) (n cap : Nat) (p : List Int) (w : World) (hn : n = p.length) (h7 : n ≤ 7) (hl : AtI w a p) :
    Calls Tryd.prog 99 #[.slice a n cap, .func (.func 94) #[] #[]] w fun e w' => (∃ r, e = .returned (.int .i64 r) ∧ decide (0 ≤ r) = badB p) ∧ w' = w := by
  have HL := hide hl
  have HN := hide hn
  clear hl hn
  go_enter Tryd.func99, Tryd.ntmps99
  go_wp2
  go_loop [8] (fun i => ∃ k : Nat, k ≤ n ∧ i = .int .i64 k ∧ Hid (M.first (M.facF p) k = 0)) (fun i => n - (intOf i).toNat)
  case atStart => exact ⟨0, Nat.zero_le _, rfl, hide rfl⟩
  case round =>
    obtain ⟨k, hk, rfl, hno⟩ := hrel
    by_cases hlt : k < n
    · have hkl : k < p.length := HN.out ▸ hlt
      obtain ⟨b, off, rfl, hlie⟩ := HL.out (by omega)
      have c1 := hlie k hkl
      have HF := hide (M.facF_at hkl)
      clear hlie
      generalize hz : p[k] = z at c1 HF
      clear hz
      cases hb : M.inR z
      · have HC : Hid (∀ w, Calls Tryd.prog 94 #[.int .i64 z] w fun e w' => e = .returned (.bool true) ∧ w' = w) := hide fun w => by have := isFac z w; rwa [hb] at this
        have hfin : Hid (badB p = true) := hide (by
          have h1 := HF.out
          rw [hb] at h1
          unfold badB
          rw [M.first_bad hkl hno.out (by rw [h1]; decide), h1]; rfl)
        clear hb
        go_wp2_with fail
        refine (unhide HC _).mono ?_
        rintro e w1 ⟨rfl, rfl⟩
        go_wp2_with fail
        go_ret
        exact ⟨⟨_, rfl, by rw [hfin.out]; simp⟩, rfl⟩
      · have HC : Hid (∀ w, Calls Tryd.prog 94 #[.int .i64 z] w fun e w' => e = .returned (.bool false) ∧ w' = w) := hide fun w => by have := isFac z w; rwa [hb] at this
        have HS : Hid (M.first (M.facF p) (k + 1) = 0) := hide (by rw [M.first_next hno.out, HF.out, if_pos hb])
        clear hb
        go_wp2_with fail
        refine (unhide HC _).mono ?_
        rintro e w1 ⟨rfl, rfl⟩
        go_wp2_with fail
        go_round
        case rel => exact ⟨k + 1, by omega, by go_num, HS⟩
        case measure => simp [intOf]; omega
    · have hfin : Hid (badB p = false) := hide (by
        have h1 := hno.out
        have h2 := HN.out
        unfold badB
        rw [← h2, show n = k by omega, h1]; rfl)
      go_wp2
      go_ret
      exact ⟨⟨_, rfl, by rw [hfin.out]; decide⟩, rfl⟩

theorem hasFac (a : Option Addr) (n cap : Nat) (p : List Int) (w : World) (hn : n = p.length) (h7 : n ≤ 7) (hl : AtI w a p) :
    Calls Tryd.prog 69 #[.slice a n cap, .func (.func 94) #[] #[]] w fun e w' => e = .returned (.bool (badB p)) ∧ w' = w := by
  have HI := hide (findFac a n cap p w hn h7 hl)
  clear hn hl
  go_enter Tryd.func69, Tryd.ntmps69
  go_wp2_with fail
  refine (unhide HI).mono ?_
  rintro e w1 ⟨⟨r, rfl, hr⟩, rfl⟩
  have HR := hide hr
  clear hr
  go_wp2_with fail
  go_ret
  exact ⟨by rw [← HR.out]; rfl, rfl⟩

theorem sCheck (s : Int) (a : Option Addr) (n cap : Nat) (r : List Int) (w : World) (hn : n = r.length) (hm : n ≤ maxLen) (hl : AtI w a r) :
    Calls Tryd.prog 64 #[.int .i64 s, .slice a n cap] w fun e w' => e = .returned (errV (M.secE s r)) ∧ w' = w := by
  unfold maxLen at hm
  cases hs : M.inR s
  · rw [M.secE_s hs]
    have HS := hide (M.inR_no hs)
    clear hs hn hl
    go_enter Tryd.func64, Tryd.ntmps64
    go_wp2_with fail
    refine (Md.isNo s _ HS.out).mono ?_
    rintro e w1 ⟨rfl, rfl⟩
    go_wp2_with fail
    go_ret
    exact ⟨rfl, rfl⟩
  · by_cases h6 : 6 < n
    · have h6' : (6 : Int) < n := by omega
      rw [M.secE_many hs (hn ▸ h6)]
      obtain ⟨s0, s1⟩ := M.inR_yes hs
      clear hs hn hl
      go_enter Tryd.func64, Tryd.ntmps64
      go_wp2_with fail
      refine (Md.isYes s _ s0 s1).mono ?_
      rintro e w1 ⟨rfl, rfl⟩
      go_wp2_with fail
      go_ret
      exact ⟨rfl, rfl⟩
    · have h6' : ¬ (6 : Int) < n := by omega
      have hC := hasFac a n cap r w hn (by omega) hl
      have hc := M.fac_first r r.length
      rw [M.secE_few hs (hn ▸ h6)]
      obtain ⟨s0, s1⟩ := M.inR_yes hs
      generalize hq : M.first (M.facF r) r.length = q at hc ⊢
      have hb : badB r = decide (q ≠ 0) := by unfold badB; rw [hq]
      rw [hb] at hC
      clear hb hq hn hl hs
      by_cases h0 : q = 0
      · subst h0
        have HC : Hid (Calls Tryd.prog 69 #[.slice a n cap, .func (.func 94) #[] #[]] w fun e w' => e = .returned (.bool false) ∧ w' = w) := hide hC
        clear hC hc
        go_enter Tryd.func64, Tryd.ntmps64
        go_wp2_with fail
        refine (Md.isYes s _ s0 s1).mono ?_
        rintro e w1 ⟨rfl, hw⟩
        obtain rfl := hw.symm
        go_wp2_with fail
        refine (unhide HC).mono ?_
        rintro e w1 ⟨rfl, rfl⟩
        go_wp2_with fail
        go_ret
        exact ⟨rfl, rfl⟩
      · rw [decide_eq_true h0] at hC
        have HC := hide hC
        have H1 : Hid (q = 1) := hide (by omega)
        clear hC hc h0
        go_enter Tryd.func64, Tryd.ntmps64
        go_wp2_with fail
        refine (Md.isYes s _ s0 s1).mono ?_
        rintro e w1 ⟨rfl, hw⟩
        obtain rfl := hw.symm
        go_wp2_with fail
        refine (unhide HC).mono ?_
        rintro e w1 ⟨rfl, rfl⟩
        go_wp2_with fail
        go_ret
        exact ⟨by rw [H1.out]; rfl, rfl⟩

theorem isCnt (n : Int) (w : World) : Calls Tryd.prog 46 #[.int .i64 n] w fun e w' => e = .returned (.bool (M.cntB n)) ∧ w' = w := by
  by_cases h1 : 1 ≤ n
  · by_cases h7 : n ≤ 7
    · rw [M.cntB_mk h1 h7]
      go_enter Tryd.func46, Tryd.ntmps46
      go_wp2
      go_ret
      exact ⟨by simp, rfl⟩
    · have e : M.cntB n = false := decide_eq_false (by omega)
      rw [e]
      clear e
      go_enter Tryd.func46, Tryd.ntmps46
      go_wp2
      go_ret
      exact ⟨by simp, rfl⟩
  · have e : M.cntB n = false := decide_eq_false (by omega)
    rw [e]
    clear e
    go_enter Tryd.func46, Tryd.ntmps46
    go_wp2
    go_ret
    exact ⟨by simp, rfl⟩

end Go.Proofs.YtlefhfmckimlaajDoor
