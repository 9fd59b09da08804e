/-
  What Tuple and Like of package cover do, each as one law of its call.
-/
import Derived.Test.YtlefhfmckimlaagDoorDigest
import Derived.Test.YtlefhfmckimlaagDoorCoverMath
import Derived.Test.YtlefhfmckimlaagDoorSpFresh
import Derived.Test.YtlefhfmckimlaagDoorPolyMem
set_option linter.unusedVariables false
namespace Go.Proofs.YtlefhfmckimlaagDoor
open Go.RowKit

theorem wrd_eq (k n : Int) (s : ByteArray) : M.wrd k n s = M.word k n s := rfl

/-- a show that is none -/
def M.noShow (z : Int) : Bool := decide (z < 0) || decide (2 < z)
theorem noShow_yes {z : Int} (h : M.noShow z = true) : ¬ (0 ≤ z ∧ z ≤ 2) := by
  unfold M.noShow at h; simp at h; omega
theorem noShow_no {z : Int} (h : M.noShow z = false) : 0 ≤ z ∧ z ≤ 2 := by
  unfold M.noShow at h; simp at h; omega

theorem isShow (z : Int) (w : World) : Calls Tryd.prog 68 #[.int .i64 z] w fun e w' => e = .returned (.bool (M.noShow z)) ∧ w' = w := by
  by_cases h0 : z < 0
  · have HS : Hid (M.noShow z = true) := hide (by unfold M.noShow; simp [h0])
    go_enter Tryd.func68, Tryd.ntmps68
    go_wp2
    go_ret
    exact ⟨by rw [HS.out]; rfl, rfl⟩
  · have HS : Hid (M.noShow z = decide (2 < z)) := hide (by unfold M.noShow; simp [h0])
    go_enter Tryd.func68, Tryd.ntmps68
    go_wp2
    go_ret
    exact ⟨by rw [HS.out]; rfl, rfl⟩

/-- one of them is none -/
def M.badShow (s : List Int) : Bool := decide (M.first (M.shwF s) s.length ≠ 0)

theorem findShow (a : Option Addr) (n cap : Nat) (s : List Int) (w : World) (hn : n = s.length) (h5 : n ≤ 5) (hl : AtI w a s) :
    Calls Tryd.prog 61 #[.slice a n cap, .func (.func 68) #[] #[]] w fun e w' => (∃ r, e = .returned (.int .i64 r) ∧ decide (0 ≤ r) = M.badShow s) ∧ w' = w := by
  have HL := hide hl
  have HN := hide hn
  clear hl hn
  go_enter Tryd.func61, Tryd.ntmps61
  go_wp2
  go_loop [8] (fun i => ∃ k : Nat, k ≤ n ∧ i = .int .i64 k ∧ Hid (M.first (M.shwF s) k = 0)) (fun i => n - (intOf i).toNat)
  case atStart => exact ⟨0, Nat.zero_le _, rfl, hide rfl⟩
  case round =>
    obtain ⟨k, hk, rfl, hno⟩ := hrel
    by_cases hlt : k < n
    · have hkl : k < s.length := HN.out ▸ hlt
      obtain ⟨b, off, rfl, hlie⟩ := HL.out (by omega)
      have c1 := hlie k hkl
      have HF := hide (M.shwF_at hkl)
      clear hlie
      generalize hz : s[k] = z at c1 HF
      clear hz
      cases hb : M.noShow z
      · have HC : Hid (∀ w, Calls Tryd.prog 68 #[.int .i64 z] w fun e w' => e = .returned (.bool false) ∧ w' = w) := hide fun w => by have := isShow z w; rwa [hb] at this
        have HS : Hid (M.first (M.shwF s) (k + 1) = 0) := hide (by rw [M.first_next hno.out, HF.out, if_pos (noShow_no hb)])
        clear hb
        go_wp2_with fail
        refine (unhide HC _).mono ?_
        rintro e w1 ⟨rfl, rfl⟩
        go_wp2_with fail
        go_round
        case rel => exact ⟨k + 1, by omega, by go_num, HS⟩
        case measure => simp [intOf]; omega
      · have HC : Hid (∀ w, Calls Tryd.prog 68 #[.int .i64 z] w fun e w' => e = .returned (.bool true) ∧ w' = w) := hide fun w => by have := isShow z w; rwa [hb] at this
        have hfin : Hid (M.badShow s = true) := hide (by
          have h1 := HF.out
          rw [if_neg (noShow_yes hb)] at h1
          unfold M.badShow
          rw [M.first_bad hkl hno.out (by rw [h1]; decide), h1]; rfl)
        clear hb
        go_wp2_with fail
        refine (unhide HC _).mono ?_
        rintro e w1 ⟨rfl, rfl⟩
        go_wp2_with fail
        go_ret
        exact ⟨⟨_, rfl, by rw [hfin.out]; simp⟩, rfl⟩
    · have hfin : Hid (M.badShow s = false) := hide (by
        have h1 := hno.out
        have h2 := HN.out
        unfold M.badShow
        rw [← h2, show n = k by omega, h1]; rfl)
      go_wp2
      go_ret
      exact ⟨⟨_, rfl, by rw [hfin.out]; decide⟩, rfl⟩

theorem hasShow (a : Option Addr) (n cap : Nat) (s : List Int) (w : World) (hn : n = s.length) (h5 : n ≤ 5) (hl : AtI w a s) :
    Calls Tryd.prog 38 #[.slice a n cap, .func (.func 68) #[] #[]] w fun e w' => e = .returned (.bool (M.badShow s)) ∧ w' = w := by
  have HI := hide (findShow a n cap s w hn h5 hl)
  clear hn hl
  go_enter Tryd.func38, Tryd.ntmps38
  go_wp2_with fail
  refine (unhide HI).mono ?_
  rintro e w1 ⟨⟨r, rfl, hr⟩, rfl⟩
  have HR := hide hr
  clear hr
  go_wp2_with fail
  go_ret
  exact ⟨by rw [← HR.out]; rfl, rfl⟩

theorem shw_first (s : List Int) : ∀ k, M.first (M.shwF s) k = 0 ∨ M.first (M.shwF s) k = 1
  | 0 => Or.inl rfl
  | k + 1 => by
    rcases shw_first s k with h | h
    · rw [M.first_next h]
      unfold M.shwF
      split
      · exact Or.inl rfl
      · exact Or.inr rfl
    · refine Or.inr ?_
      show (if M.first (M.shwF s) k ≠ 0 then M.first (M.shwF s) k else M.shwF s k) = 1
      rw [h]; rfl

/-- what is wrong with the shows of so many fields -/
theorem cShows (a : Option Addr) (n cap m : Nat) (s : List Int) (w : World) (hn : n = s.length) (hm : n ≤ maxLen) (h5 : m ≤ 5) (hl : AtI w a s) :
    Calls Tryd.prog 47 #[.slice a n cap, .int .i64 m] w fun e w' => e = .returned (errV (M.shwE m s)) ∧ w' = w := by
  unfold maxLen at hm
  by_cases hne : n = m
  · have hC := hasShow a n cap s w hn (by omega) hl
    have hc := shw_first s s.length
    rw [M.shwE_some (hn ▸ hne)]
    generalize hq : M.first (M.shwF s) s.length = q at hc ⊢
    have hb : M.badShow s = decide (q ≠ 0) := by unfold M.badShow; rw [hq]
    rw [hb] at hC
    clear hb hq hn hl
    subst hne
    rcases hc with rfl | rfl
    · have HC : Hid (Calls Tryd.prog 38 #[.slice a n cap, .func (.func 68) #[] #[]] w fun e w' => e = .returned (.bool false) ∧ w' = w) := hide hC
      clear hC
      go_enter Tryd.func47, Tryd.ntmps47
      go_wp2_with fail
      refine (unhide HC).mono ?_
      rintro e w1 ⟨rfl, rfl⟩
      go_wp2_with fail
      go_ret
      exact ⟨rfl, rfl⟩
    · have HC : Hid (Calls Tryd.prog 38 #[.slice a n cap, .func (.func 68) #[] #[]] w fun e w' => e = .returned (.bool true) ∧ w' = w) := hide hC
      clear hC
      go_enter Tryd.func47, Tryd.ntmps47
      go_wp2_with fail
      refine (unhide HC).mono ?_
      rintro e w1 ⟨rfl, rfl⟩
      go_wp2_with fail
      go_ret
      exact ⟨rfl, rfl⟩
  · rw [M.shwE_shape (hn ▸ hne)]
    have hb : ((n : Int) != (m : Int)) = true := by simpa using (by omega : ¬ (n : Int) = (m : Int))
    clear hn hl hne
    go_enter Tryd.func47, Tryd.ntmps47
    go_wp2
    go_ret
    exact ⟨rfl, rfl⟩

abbrev aggV (v : M.Val) : Value := .agg #[.int .i64 v.k, .int .i64 v.n, .string v.s]

/-- one field as it is seen -/
theorem cField (v c : M.Val) (z : Int) (w : World) (hv : v.fault = 0) (hz : 0 ≤ z ∧ z ≤ 2) (ht : Tab w) (hs : v.s.size ≤ maxLen) :
    Calls Tryd.prog 48 #[aggV v, .int .i64 z, aggV c] w fun e w' => e = .returned (.tuple #[aggV (M.cov1 c v z), .nilIface]) ∧ Below w.heap.size w w' := by
  obtain ⟨k, n, s⟩ := v
  obtain ⟨k', n', s'⟩ := c
  have B3 : ∀ o1 o2 o3 : Obj, Below w.heap.size w (((w.alloc o1).alloc o2).alloc o3) := fun o1 o2 o3 => (((Below.refl _ _).alloc (Nat.le_refl _) _).alloc (by simp) _).alloc (by simp; omega) _
  have HB3 := hide B3
  clear B3
  rcases (by omega : z = 0 ∨ z = 1 ∨ z = 2) with rfl | rfl | rfl
  · rw [M.cov1_open]
    clear ht hv hz hs
    go_enter Tryd.func48, Tryd.ntmps48
    go_wp2
    refine bodyPost_ret (v := .tuple #[.agg #[.int .i64 k, .int .i64 n, .string s], .nilIface]) (by simp [results, Tryd.results48, go_sem]) rfl ⟨rfl, ?_⟩
    exact HB3.out _ _ _
  · by_cases hk : k = 2
    · rw [M.cov1_any _ hk]
      subst hk
      clear ht hv hz hs
      go_enter Tryd.func48, Tryd.ntmps48
      go_wp2
      refine bodyPost_ret (v := .tuple #[.agg #[.int .i64 2, .int .i64 n, .string s], .nilIface]) (by simp [results, Tryd.results48, go_sem]) rfl ⟨rfl, ?_⟩
      exact HB3.out _ _ _
    · rw [M.cov1_likely _ hk]
      have hk' : (k == 2) = false := by simpa using hk
      have HT : Hid (∀ wx, Below w.heap.size w wx → Tab wx) := hide fun wx hb => ht.stays hb (Nat.le_refl _)
      have HD : Hid (∀ wx, Below w.heap.size w wx → Calls Tryd.prog 69 #[.agg #[.int .i64 k, .int .i64 n, .string s]] wx fun e w' => e = .returned (.tuple #[.int .i64 (M.hash (M.wrd k n s)), .nilIface]) ∧ Below wx.heap.size wx w') := hide fun wx hb => dvalOk k n s wx hs hv (HT.out wx hb)
      clear ht hv hz hs HT hk
      show Calls Tryd.prog 48 #[aggV ⟨k, n, s⟩, .int .i64 1, aggV ⟨k', n', s'⟩] w fun e w' => e = .returned (.tuple #[.agg #[.int .i64 0, .int .i64 (M.hash (M.wrd k n s)), .string ⟨#[]⟩], .nilIface]) ∧ Below w.heap.size w w'
      generalize M.hash (M.wrd k n s) = h at HD ⊢
      go_enter Tryd.func48, Tryd.ntmps48
      go_wp2_with fail
      refine (HD.out _ (HB3.out _ _ _)).mono ?_
      rintro e w1 ⟨rfl, hb1⟩
      obtain ⟨hc, hf⟩ := bcell hb1
      have hsz := hb1.size
      simp at hsz
      have hlt : w.heap.size + 1 + 1 < w1.heap.size := by omega
      have HB1 := hide ((HB3.out _ _ _).trans (hb1.mono (by simp; omega)))
      clear hb1
      go_wp2_with fail
      refine bodyPost_ret (v := .tuple #[.agg #[.int .i64 0, .int .i64 h, .string ⟨#[]⟩], .nilIface]) (by simp [results, Tryd.results48, go_sem, hc]) rfl ⟨rfl, ?_⟩
      exact ((HB1.out.setCell (p := ⟨w.heap.size + 1 + 1, 0, none⟩) (Nat.le_trans (Nat.le_succ _) (Nat.le_succ _)) _).setCell (p := ⟨w.heap.size + 1 + 1, 1, none⟩) (Nat.le_trans (Nat.le_succ _) (Nat.le_succ _)) _).setCell (p := ⟨w.heap.size + 1 + 1, 2, none⟩) (Nat.le_trans (Nat.le_succ _) (Nat.le_succ _)) _
  · rw [M.cov1_closed]
    clear ht hv hz hs
    go_enter Tryd.func48, Tryd.ntmps48
    go_wp2
    refine bodyPost_ret (v := .tuple #[.agg #[.int .i64 k', .int .i64 n', .string s'], .nilIface]) (by simp [results, Tryd.results48, go_sem]) rfl ⟨rfl, ?_⟩
    exact HB3.out _ _ _

end Go.Proofs.YtlefhfmckimlaagDoor
