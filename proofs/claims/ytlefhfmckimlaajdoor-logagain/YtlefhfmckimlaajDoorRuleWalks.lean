/-
  What Check of package rule does, with what it asks of one rule: each as one law of its call.
-/
import Derived.Test.YtlefhfmckimlaajDoorJ10A
import Derived.Test.YtlefhfmckimlaajDoorJ19A
set_option linter.unusedVariables false
namespace Go.Proofs.YtlefhfmckimlaajDoor
open Go.RowKit

def M.whoB (x : Int) : Bool := decide (0 ≤ x) && decide (x ≤ 1000000)
def M.deedB (x : Int) : Bool := decide (0 ≤ x) && decide (x ≤ 2)
theorem whoB_iff (x : Int) : M.whoB x = true ↔ 0 ≤ x ∧ x ≤ 1000000 := by unfold M.whoB; simp
theorem deedB_iff (x : Int) : M.deedB x = true ↔ 0 ≤ x ∧ x ≤ 2 := by unfold M.deedB; simp
theorem whoB_no {x : Int} (h : M.whoB x = false) : x < 0 ∨ 1000000 < x := by unfold M.whoB at h; simp at h; omega
theorem deedB_no {x : Int} (h : M.deedB x = false) : x < 0 ∨ 2 < x := by unfold M.deedB at h; simp at h; omega
theorem askB_split (who deed : Int) : M.askB who deed = (M.whoB who && M.deedB deed) := by
  unfold M.askB M.whoB M.deedB
  by_cases h1 : 0 ≤ who <;> by_cases h2 : who ≤ 1000000 <;> by_cases h3 : 0 ≤ deed <;> by_cases h4 : deed ≤ 2 <;> simp [h1, h2, h3, h4]

theorem isWho (x : Int) (w : World) : Calls Tryd.prog 78 #[.int .i64 x] w fun e w' => e = .returned (.bool (M.whoB x)) ∧ w' = w := by
  by_cases h0 : 0 ≤ x
  · have HS : Hid (M.whoB x = decide (x ≤ 1000000)) := hide (by unfold M.whoB; simp [h0])
    go_enter Tryd.func78, Tryd.ntmps78
    go_wp2
    go_ret
    exact ⟨by rw [HS.out]; rfl, rfl⟩
  · have HS : Hid (M.whoB x = false) := hide (by unfold M.whoB; simp [h0])
    go_enter Tryd.func78, Tryd.ntmps78
    go_wp2
    go_ret
    exact ⟨by rw [HS.out]; rfl, rfl⟩

theorem isDeed (x : Int) (w : World) : Calls Tryd.prog 79 #[.int .i64 x] w fun e w' => e = .returned (.bool (M.deedB x)) ∧ w' = w := by
  by_cases h0 : 0 ≤ x
  · have HS : Hid (M.deedB x = decide (x ≤ 2)) := hide (by unfold M.deedB; simp [h0])
    go_enter Tryd.func79, Tryd.ntmps79
    go_wp2
    go_ret
    exact ⟨by rw [HS.out]; rfl, rfl⟩
  · have HS : Hid (M.deedB x = false) := hide (by unfold M.deedB; simp [h0])
    go_enter Tryd.func79, Tryd.ntmps79
    go_wp2
    go_ret
    exact ⟨by rw [HS.out]; rfl, rfl⟩

/-- a rule as it is handed on -/
abbrev aggR (d x : Int) (a : Option Addr) (n c : Nat) (m : Bool) : Value := .agg #[.int .i64 d, .int .i64 x, .slice a n c, .bool m]

/-- what is wrong with one -/
theorem checkOne (d x : Int) (a : Option Addr) (n c : Nat) (m : Bool) (l : List M.Val) (w : World) (hv : IsVals w (.slice a n c) l) :
    Calls Tryd.prog 76 #[aggR d x a n c m] w fun e w' => e = .returned (errV (M.rulF ⟨d, x, l, m⟩)) ∧ Below w.heap.size w w' := by
  have HA : Hid (∀ o, Below w.heap.size w (w.alloc o)) := hide fun o => (Below.refl _ _).alloc (Nat.le_refl _) o
  have HL : Hid (∀ wx, Below w.heap.size w wx → Calls Tryd.prog 81 #[.slice a n c] wx fun e w' => e = .returned (errV (M.likeF l)) ∧ Below wx.heap.size wx w') := hide fun wx hb => like _ l wx (hv.stays hb (Nat.le_refl _))
  clear hv
  cases hd : M.deedB d
  · have hq := deedB_no hd
    have HE : Hid (M.rulF ⟨d, x, l, m⟩ = 1) := hide (M.rulF_range (r := ⟨d, x, l, m⟩) (by show d < 0 ∨ 2 < d ∨ _; omega))
    have HD : Hid (∀ wx, Calls Tryd.prog 79 #[.int .i64 d] wx fun e w' => e = .returned (.bool false) ∧ w' = wx) := hide fun wx => by have := isDeed d wx; rwa [hd] at this
    rw [HE.out]
    clear hq hd HE HL
    go_enter Tryd.func76, Tryd.ntmps76
    go_wp2_with fail
    refine (HD.out _).mono ?_
    rintro e w1 ⟨rfl, rfl⟩
    go_wp2_with fail
    go_ret
    exact ⟨rfl, HA.out _⟩
  · have hq := (deedB_iff d).1 hd
    have HD : Hid (∀ wx, Calls Tryd.prog 79 #[.int .i64 d] wx fun e w' => e = .returned (.bool true) ∧ w' = wx) := hide fun wx => by have := isDeed d wx; rwa [hd] at this
    clear hd
    by_cases hx : x = -1
    · have HE : Hid (M.rulF ⟨d, x, l, m⟩ = M.likeF l) := hide (M.rulF_like (r := ⟨d, x, l, m⟩) (by show ¬ (d < 0 ∨ 2 < d ∨ x < -1 ∨ 1000000 < x); omega))
      rw [HE.out]
      generalize errV (M.likeF l) = E at HL ⊢
      clear hq HE
      subst hx
      go_enter Tryd.func76, Tryd.ntmps76
      go_wp2_with fail
      refine (HD.out _).mono ?_
      rintro e w1 ⟨rfl, rfl⟩
      go_wp2_with fail
      refine (HL.out _ (HA.out _)).mono ?_
      rintro e w2 ⟨rfl, hb2⟩
      go_wp2_with fail
      go_ret
      exact ⟨rfl, (HA.out _).trans (hb2.mono (by simp))⟩
    · have hxb : (x != -1) = true := by simpa using hx
      cases hw : M.whoB x
      · have hr := whoB_no hw
        have HE : Hid (M.rulF ⟨d, x, l, m⟩ = 1) := hide (M.rulF_range (r := ⟨d, x, l, m⟩) (by show d < 0 ∨ 2 < d ∨ x < -1 ∨ 1000000 < x; omega))
        have HW : Hid (∀ wx, Calls Tryd.prog 78 #[.int .i64 x] wx fun e w' => e = .returned (.bool false) ∧ w' = wx) := hide fun wx => by have := isWho x wx; rwa [hw] at this
        rw [HE.out]
        clear hq hw hr hx HE HL
        go_enter Tryd.func76, Tryd.ntmps76
        go_wp2_with fail
        refine (HD.out _).mono ?_
        rintro e w1 ⟨rfl, rfl⟩
        go_wp2_with fail
        refine (HW.out _).mono ?_
        rintro e w1 ⟨rfl, rfl⟩
        go_wp2_with fail
        go_ret
        exact ⟨rfl, HA.out _⟩
      · have hr := (whoB_iff x).1 hw
        have HE : Hid (M.rulF ⟨d, x, l, m⟩ = M.likeF l) := hide (M.rulF_like (r := ⟨d, x, l, m⟩) (by show ¬ (d < 0 ∨ 2 < d ∨ x < -1 ∨ 1000000 < x); omega))
        have HW : Hid (∀ wx, Calls Tryd.prog 78 #[.int .i64 x] wx fun e w' => e = .returned (.bool true) ∧ w' = wx) := hide fun wx => by have := isWho x wx; rwa [hw] at this
        rw [HE.out]
        generalize errV (M.likeF l) = E at HL ⊢
        clear hq hw hr hx HE
        go_enter Tryd.func76, Tryd.ntmps76
        go_wp2_with fail
        refine (HD.out _).mono ?_
        rintro e w1 ⟨rfl, rfl⟩
        go_wp2_with fail
        refine (HW.out _).mono ?_
        rintro e w1 ⟨rfl, rfl⟩
        go_wp2_with fail
        refine (HL.out _ (HA.out _)).mono ?_
        rintro e w2 ⟨rfl, hb2⟩
        go_wp2_with fail
        go_ret
        exact ⟨rfl, (HA.out _).trans (hb2.mono (by simp))⟩

theorem IsVals.isSlice {w : World} {v : Value} {l : List M.Val} (h : IsVals w v l) : ∃ a n c, v = .slice a n c := by
  rcases h with ⟨h, _⟩ | ⟨a, c, h, _⟩ | ⟨b, off, c, _, h, _⟩
  · exact ⟨_, _, _, h⟩
  · exact ⟨_, _, _, h⟩
  · exact ⟨_, _, _, h⟩
/-- rules at their places, with their slices -/
theorem LieR.get {w : World} {b off : Nat} {l : List M.Rul} (h : LieR w b off l) {k : Nat} (hk : k < l.length) : ∃ a n c, w.cell? ⟨b, off + k * 4, none⟩ = some (.int .i64 l[k].deed) ∧ w.cell? ⟨b, off + k * 4 + 1, none⟩ = some (.int .i64 l[k].who) ∧ w.cell? ⟨b, off + k * 4 + 2, none⟩ = some (.slice a n c) ∧ w.cell? ⟨b, off + k * 4 + 3, none⟩ = some (.bool l[k].may) ∧ IsVals w (.slice a n c) l[k].like := by
  obtain ⟨h1, h2, ⟨v, h3, h4⟩, h5⟩ := h k hk
  obtain ⟨a, n, c, rfl⟩ := h4.isSlice
  exact ⟨a, n, c, h1, h2, h3, h5, h4⟩

theorem rCheck_many (a : Option Addr) (n cap : Nat) (w : World) (h : 8 < n) (hn : n ≤ maxLen) :
    Calls Tryd.prog 53 #[.slice a n cap] w fun e w' => e = .returned (errV 4) ∧ Below w.heap.size w w' := by
  unfold maxLen at hn
  have h8 : (8 : Int) < n := by omega
  go_enter Tryd.func53, Tryd.ntmps53
  go_wp2
  go_ret
  exact ⟨rfl, Below.refl _ _⟩

theorem rCheck_some (a : Option Addr) (n cap : Nat) (l : List M.Rul) (w : World) (hn : n = l.length) (h : n ≤ 8) (hl : AtR w a l) :
    Calls Tryd.prog 53 #[.slice a n cap] w fun e w' => e = .returned (errV (M.first (M.rulA l) n)) ∧ Below w.heap.size w w' := by
  have HL := hide hl
  have HN := hide hn
  have h8 : ¬ (8 : Int) < n := by omega
  clear hl hn
  go_enter Tryd.func53, Tryd.ntmps53
  go_wp2
  go_loopw [12] (fun i wr => ∃ k : Nat, k ≤ n ∧ i = .int .i64 k ∧ Hid (M.first (M.rulA l) k = 0) ∧ Hid (Below w.heap.size w wr)) (fun i _ => n - (intOf i).toNat)
  case atStart => exact ⟨0, Nat.zero_le _, rfl, hide rfl, hide (Below.refl _ _)⟩
  case round =>
    obtain ⟨k, hk, rfl, hno, hbel⟩ := hrel
    by_cases hlt : k < n
    · have hkl : k < l.length := HN.out ▸ hlt
      obtain ⟨b, off, rfl, hlie⟩ := HL.out (by omega)
      obtain ⟨a, m, c, c1, c2, c3, c4, hv⟩ := (hlie.stays hbel.out (Nat.le_refl _)).get hkl
      have hbl : b < wr.heap.size := World.block_lt_of_cell? wr _ c1
      have HF := hide (M.rulA_at hkl)
      generalize l[k] = r at *
      obtain ⟨d, x, lk, my⟩ := r
      have HC : Hid (∀ wx, Below wr.heap.size wr wx → Calls Tryd.prog 76 #[aggR d x a m c my] wx fun e w' => e = .returned (errV (M.rulF ⟨d, x, lk, my⟩)) ∧ Below wx.heap.size wx w') := hide fun wx hb => checkOne d x a m c my lk wx (hv.stays hb (Nat.le_refl _))
      have HA : Hid (∀ o, Below wr.heap.size wr (wr.alloc o)) := hide fun o => (Below.refl _ _).alloc (Nat.le_refl _) o
      clear hv hlie
      by_cases hb : M.rulF ⟨d, x, lk, my⟩ = 0
      · have HS : Hid (M.first (M.rulA l) (k + 1) = 0) := hide (by rw [M.first_next hno.out, HF.out, hb])
        rw [hb] at HC
        have HC2 : Hid (∀ wx, Below wr.heap.size wr wx → Calls Tryd.prog 76 #[aggR d x a m c my] wx fun e w' => e = .returned .nilIface ∧ Below wx.heap.size wx w') := HC
        clear hb HC HF
        go_wp2_with fail
        refine (HC2.out _ (HA.out _)).mono ?_
        rintro e w1 ⟨rfl, hb1⟩
        have HB1 := hide (hbel.out.trans (((HA.out _).trans (hb1.mono (by simp))).mono hbel.out.size))
        clear hb1
        go_wp2_with fail
        go_roundw
        case rel => exact ⟨k + 1, by omega, by go_num, HS, HB1⟩
        case measure => simp [intOf]; omega
      · rw [errV_bad hb] at HC
        have HS : Hid (M.first (M.rulA l) n = M.rulF ⟨d, x, lk, my⟩) := hide (by rw [M.first_bad hlt hno.out (by rw [HF.out]; exact hb), HF.out])
        have HB := hide hb
        clear hb HF
        generalize M.rulF ⟨d, x, lk, my⟩ = E at *
        go_wp2_with fail
        refine (HC.out _ (HA.out _)).mono ?_
        rintro e w1 ⟨rfl, hb1⟩
        have HB1 := hide (hbel.out.trans (((HA.out _).trans (hb1.mono (by simp))).mono hbel.out.size))
        clear hb1
        go_wp2_with fail
        go_ret
        exact ⟨by rw [HS.out, errV_bad HB.out]; rfl, HB1.out⟩
    · have HS : Hid (M.first (M.rulA l) n = 0) := hide (by have := hno.out; rwa [show k = n by omega] at this)
      go_wp2
      go_ret
      exact ⟨by rw [HS.out]; rfl, hbel.out⟩

/-- what is wrong with rules -/
theorem rCheck (a : Option Addr) (n cap : Nat) (l : List M.Rul) (w : World) (hn : n = l.length) (hm : n ≤ maxLen) (hl : AtR w a l) :
    Calls Tryd.prog 53 #[.slice a n cap] w fun e w' => e = .returned (errV (M.rulE l)) ∧ Below w.heap.size w w' := by
  by_cases h : 8 < n
  · rw [M.rulE_many (hn ▸ h)]; exact rCheck_many a n cap w h hm
  · rw [M.rulE_some (hn ▸ h), ← hn]; exact rCheck_some a n cap l w hn (by omega) hl

/-- what is wrong with asking -/
theorem checkAll (a : Option Addr) (n cap : Nat) (l : List M.Rul) (who deed : Int) (tv : Value) (t : List M.Val) (w : World) (hn : n = l.length) (hm : n ≤ maxLen) (hl : AtR w a l) (ht : IsVals w tv t) :
    Calls Tryd.prog 108 #[.slice a n cap, .int .i64 who, .int .i64 deed, tv] w fun e w' => e = .returned (errV (M.mayE l who deed t)) ∧ Below w.heap.size w w' := by
  have hC := rCheck a n cap l w hn hm hl
  clear hn hm
  by_cases h1 : M.rulE l = 0
  · rw [h1] at hC
    have HC : Hid (Calls Tryd.prog 53 #[.slice a n cap] w fun e w' => e = .returned .nilIface ∧ Below w.heap.size w w') := hide hC
    clear hC
    cases hw : M.whoB who
    · have HE : Hid (M.mayE l who deed t = 1) := hide (M.mayE_ask h1 (by rw [askB_split, hw]; rfl))
      have HW : Hid (∀ wx, Calls Tryd.prog 78 #[.int .i64 who] wx fun e w' => e = .returned (.bool false) ∧ w' = wx) := hide fun wx => by have := isWho who wx; rwa [hw] at this
      rw [HE.out]
      clear hl ht hw HE h1
      go_enter Tryd.func108, Tryd.ntmps108
      go_wp2_with fail
      refine (unhide HC).mono ?_
      rintro e w1 ⟨rfl, hb1⟩
      go_wp2_with fail
      refine (HW.out _).mono ?_
      rintro e w2 ⟨rfl, rfl⟩
      go_wp2_with fail
      go_ret
      exact ⟨rfl, hb1⟩
    · have HW : Hid (∀ wx, Calls Tryd.prog 78 #[.int .i64 who] wx fun e w' => e = .returned (.bool true) ∧ w' = wx) := hide fun wx => by have := isWho who wx; rwa [hw] at this
      cases hd : M.deedB deed
      · have HE : Hid (M.mayE l who deed t = 1) := hide (M.mayE_ask h1 (by rw [askB_split, hw, hd]; rfl))
        have HD : Hid (∀ wx, Calls Tryd.prog 79 #[.int .i64 deed] wx fun e w' => e = .returned (.bool false) ∧ w' = wx) := hide fun wx => by have := isDeed deed wx; rwa [hd] at this
        rw [HE.out]
        clear hl ht hw hd HE h1
        go_enter Tryd.func108, Tryd.ntmps108
        go_wp2_with fail
        refine (unhide HC).mono ?_
        rintro e w1 ⟨rfl, hb1⟩
        go_wp2_with fail
        refine (HW.out _).mono ?_
        rintro e w2 ⟨rfl, rfl⟩
        go_wp2_with fail
        refine (HD.out _).mono ?_
        rintro e w2 ⟨rfl, rfl⟩
        go_wp2_with fail
        go_ret
        exact ⟨rfl, hb1⟩
      · have HE : Hid (M.mayE l who deed t = M.tupF t) := hide (M.mayE_tup h1 (by rw [askB_split, hw, hd]; rfl))
        have HD : Hid (∀ wx, Calls Tryd.prog 79 #[.int .i64 deed] wx fun e w' => e = .returned (.bool true) ∧ w' = wx) := hide fun wx => by have := isDeed deed wx; rwa [hd] at this
        have HT : Hid (∀ wx, Below w.heap.size w wx → Calls Tryd.prog 80 #[tv] wx fun e w' => e = .returned (errV (M.tupF t)) ∧ Below wx.heap.size wx w') := hide fun wx hb => tcheck _ t wx (ht.stays hb (Nat.le_refl _))
        rw [HE.out]
        generalize errV (M.tupF t) = E at HT ⊢
        clear hl ht hw hd HE h1
        go_enter Tryd.func108, Tryd.ntmps108
        go_wp2_with fail
        refine (unhide HC).mono ?_
        rintro e w1 ⟨rfl, hb1⟩
        have HB1 := hide hb1
        clear hb1
        go_wp2_with fail
        refine (HW.out _).mono ?_
        rintro e w2 ⟨rfl, rfl⟩
        go_wp2_with fail
        refine (HD.out _).mono ?_
        rintro e w2 ⟨rfl, rfl⟩
        go_wp2_with fail
        refine (HT.out _ HB1.out).mono ?_
        rintro e w2 ⟨rfl, hb2⟩
        go_wp2_with fail
        go_ret
        exact ⟨rfl, HB1.out.trans (hb2.mono HB1.out.size)⟩
  · have HE : Hid (M.mayE l who deed t = M.rulE l) := hide (M.mayE_rul h1)
    rw [errV_bad h1] at hC
    rw [HE.out, errV_bad h1]
    have HC := hide hC
    clear hl ht HE h1 hC
    generalize M.rulE l = E at *
    go_enter Tryd.func108, Tryd.ntmps108
    go_wp2_with fail
    refine (unhide HC).mono ?_
    rintro e w1 ⟨rfl, hb1⟩
    go_wp2_with fail
    go_ret
    exact ⟨rfl, hb1⟩

end Go.Proofs.YtlefhfmckimlaajDoor
