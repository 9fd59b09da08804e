/-
  What Check of package rule does, with what it asks of one rule: each as one law of its call.
  A row of rules that a call puts together itself.
-/
import Derived.Test.YtlefhfmckimlaajGreatDoorJ9A
import Derived.Test.YtlefhfmckimlaajGreatDoorJ21A
import Derived.Laws.OwnMore
import Derived.OwnWalk
set_option linter.unusedVariables false
namespace Go.Proofs.YtlefhfmckimlaajGreatDoor
open Go.RowKit

def M.whoB (x : Int) : Bool := decide (0 ≤ x) && decide (x ≤ 1000000)
def M.deedB (x : Int) : Bool := decide (0 ≤ x) && decide (x ≤ 2)
theorem whoB_iff (x : Int) : M.whoB x = true ↔ 0 ≤ x ∧ x ≤ 1000000 := by unfold M.whoB; simp
theorem deedB_iff (x : Int) : M.deedB x = true ↔ 0 ≤ x ∧ x ≤ 2 := by unfold M.deedB; simp
theorem whoB_no {x : Int} (h : M.whoB x = false) : x < 0 ∨ 1000000 < x := by unfold M.whoB at h; simp at h; omega
theorem deedB_no {x : Int} (h : M.deedB x = false) : x < 0 ∨ 2 < x := by unfold M.deedB at h; simp at h; omega
theorem askB_split (who deed : Int) : M.askB who deed = (M.whoB who && M.deedB deed) := by
  unfold M.askB M.whoB M.deedB
  by_cases h1 : 0 ≤ who <;> by_cases h2 : who ≤ 1000000 <;> by_cases h3 : 0 ≤ deed <;> by_cases h4 : deed ≤ 2 <;> simp [h1, h2, h3, h4]

theorem isWho (x : Int) (w : World) : Calls Tryz.prog 94 #[.int .i64 x] w fun e w' => e = .returned (.bool (M.whoB x)) ∧ w' = w := by
  by_cases h0 : 0 ≤ x
  · have HS : Hid (M.whoB x = decide (x ≤ 1000000)) := hide (by unfold M.whoB; simp [h0])
    go_enter Tryz.func94, Tryz.ntmps94
    go_wp2
    go_ret
    exact ⟨by rw [HS.out]; rfl, rfl⟩
  · have HS : Hid (M.whoB x = false) := hide (by unfold M.whoB; simp [h0])
    go_enter Tryz.func94, Tryz.ntmps94
    go_wp2
    go_ret
    exact ⟨by rw [HS.out]; rfl, rfl⟩

theorem isDeed (x : Int) (w : World) : Calls Tryz.prog 95 #[.int .i64 x] w fun e w' => e = .returned (.bool (M.deedB x)) ∧ w' = w := by
  by_cases h0 : 0 ≤ x
  · have HS : Hid (M.deedB x = decide (x ≤ 2)) := hide (by unfold M.deedB; simp [h0])
    go_enter Tryz.func95, Tryz.ntmps95
    go_wp2
    go_ret
    exact ⟨by rw [HS.out]; rfl, rfl⟩
  · have HS : Hid (M.deedB x = false) := hide (by unfold M.deedB; simp [h0])
    go_enter Tryz.func95, Tryz.ntmps95
    go_wp2
    go_ret
    exact ⟨by rw [HS.out]; rfl, rfl⟩

/-- a rule as it is handed on -/
abbrev aggR (d x : Int) (a : Option Addr) (n c : Nat) (m : Bool) : Value := .agg #[.int .i64 d, .int .i64 x, .slice a n c, .bool m]

/-- what is wrong with one -/
theorem checkOne (d x : Int) (a : Option Addr) (n c : Nat) (m : Bool) (l : List M.Val) (w : World) (hv : IsVals w (.slice a n c) l) :
    Calls Tryz.prog 93 #[aggR d x a n c m] w fun e w' => e = .returned (errV (M.rulF ⟨d, x, l, m⟩)) ∧ Below w.heap.size w w' := by
  have HA : Hid (∀ o, Below w.heap.size w (w.alloc o)) := hide fun o => (Below.refl _ _).alloc (Nat.le_refl _) o
  have HL : Hid (∀ wx, Below w.heap.size w wx → Calls Tryz.prog 48 #[.slice a n c] wx fun e w' => e = .returned (errV (M.likeF l)) ∧ Below wx.heap.size wx w') := hide fun wx hb => like _ l wx (hv.stays hb (Nat.le_refl _))
  clear hv
  cases hd : M.deedB d
  · have hq := deedB_no hd
    have HE : Hid (M.rulF ⟨d, x, l, m⟩ = 1) := hide (M.rulF_range (r := ⟨d, x, l, m⟩) (by show d < 0 ∨ 2 < d ∨ _; omega))
    have HD : Hid (∀ wx, Calls Tryz.prog 95 #[.int .i64 d] wx fun e w' => e = .returned (.bool false) ∧ w' = wx) := hide fun wx => by have := isDeed d wx; rwa [hd] at this
    rw [HE.out]
    clear hq hd HE HL
    go_enter Tryz.func93, Tryz.ntmps93
    go_wp2_with fail
    refine (HD.out _).mono ?_
    rintro e w1 ⟨rfl, rfl⟩
    go_wp2_with fail
    go_ret
    exact ⟨rfl, HA.out _⟩
  · have hq := (deedB_iff d).1 hd
    have HD : Hid (∀ wx, Calls Tryz.prog 95 #[.int .i64 d] wx fun e w' => e = .returned (.bool true) ∧ w' = wx) := hide fun wx => by have := isDeed d wx; rwa [hd] at this
    clear hd
    by_cases hx : x = -1
    · have HE : Hid (M.rulF ⟨d, x, l, m⟩ = M.likeF l) := hide (M.rulF_like (r := ⟨d, x, l, m⟩) (by show ¬ (d < 0 ∨ 2 < d ∨ x < -1 ∨ 1000000 < x); omega))
      rw [HE.out]
      generalize errV (M.likeF l) = E at HL ⊢
      clear hq HE
      subst hx
      go_enter Tryz.func93, Tryz.ntmps93
      go_wp2_with fail
      refine (HD.out _).mono ?_
      rintro e w1 ⟨rfl, rfl⟩
      go_wp2_with fail
      refine (HL.out _ (HA.out _)).mono ?_
      rintro e w2 ⟨rfl, hb2⟩
      go_wp2_with fail
      go_ret
      exact ⟨rfl, (HA.out _).trans (hb2.mono (by simp))⟩
    · have hxb : (x != -1) = true := by simpa using hx
      cases hw : M.whoB x
      · have hr := whoB_no hw
        have HE : Hid (M.rulF ⟨d, x, l, m⟩ = 1) := hide (M.rulF_range (r := ⟨d, x, l, m⟩) (by show d < 0 ∨ 2 < d ∨ x < -1 ∨ 1000000 < x; omega))
        have HW : Hid (∀ wx, Calls Tryz.prog 94 #[.int .i64 x] wx fun e w' => e = .returned (.bool false) ∧ w' = wx) := hide fun wx => by have := isWho x wx; rwa [hw] at this
        rw [HE.out]
        clear hq hw hr hx HE HL
        go_enter Tryz.func93, Tryz.ntmps93
        go_wp2_with fail
        refine (HD.out _).mono ?_
        rintro e w1 ⟨rfl, rfl⟩
        go_wp2_with fail
        refine (HW.out _).mono ?_
        rintro e w1 ⟨rfl, rfl⟩
        go_wp2_with fail
        go_ret
        exact ⟨rfl, HA.out _⟩
      · have hr := (whoB_iff x).1 hw
        have HE : Hid (M.rulF ⟨d, x, l, m⟩ = M.likeF l) := hide (M.rulF_like (r := ⟨d, x, l, m⟩) (by show ¬ (d < 0 ∨ 2 < d ∨ x < -1 ∨ 1000000 < x); omega))
        have HW : Hid (∀ wx, Calls Tryz.prog 94 #[.int .i64 x] wx fun e w' => e = .returned (.bool true) ∧ w' = wx) := hide fun wx => by have := isWho x wx; rwa [hw] at this
        rw [HE.out]
        generalize errV (M.likeF l) = E at HL ⊢
        clear hq hw hr hx HE
        go_enter Tryz.func93, Tryz.ntmps93
        go_wp2_with fail
        refine (HD.out _).mono ?_
        rintro e w1 ⟨rfl, rfl⟩
        go_wp2_with fail
        refine (HW.out _).mono ?_
        rintro e w1 ⟨rfl, rfl⟩
        go_wp2_with fail
        refine (HL.out _ (HA.out _)).mono ?_
        rintro e w2 ⟨rfl, hb2⟩
        go_wp2_with fail
        go_ret
        exact ⟨rfl, (HA.out _).trans (hb2.mono (by simp))⟩

theorem IsVals.isSlice {w : World} {v : Value} {l : List M.Val} (h : IsVals w v l) : ∃ a n c, v = .slice a n c := by
  rcases h with ⟨h, _⟩ | ⟨a, c, h, _⟩ | ⟨b, off, c, _, h, _⟩
  · exact ⟨_, _, _, h⟩
  · exact ⟨_, _, _, h⟩
  · exact ⟨_, _, _, h⟩
/-- rules at their places, with their slices -/
theorem LieR.get {w : World} {b off : Nat} {l : List M.Rul} (h : LieR w b off l) {k : Nat} (hk : k < l.length) : ∃ a n c, w.cell? ⟨b, off + k * 4, none⟩ = some (.int .i64 l[k].deed) ∧ w.cell? ⟨b, off + k * 4 + 1, none⟩ = some (.int .i64 l[k].who) ∧ w.cell? ⟨b, off + k * 4 + 2, none⟩ = some (.slice a n c) ∧ w.cell? ⟨b, off + k * 4 + 3, none⟩ = some (.bool l[k].may) ∧ IsVals w (.slice a n c) l[k].like := by
  obtain ⟨h1, h2, ⟨v, h3, h4⟩, h5⟩ := h k hk
  obtain ⟨a, n, c, rfl⟩ := h4.isSlice
  exact ⟨a, n, c, h1, h2, h3, h5, h4⟩

theorem rCheck_many (a : Option Addr) (n cap : Nat) (w : World) (h : 8 < n) (hn : n ≤ maxLen) :
    Calls Tryz.prog 61 #[.slice a n cap] w fun e w' => e = .returned (errV 4) ∧ Below w.heap.size w w' := by
  unfold maxLen at hn
  have h8 : (8 : Int) < n := by omega
  go_enter Tryz.func61, Tryz.ntmps61
  go_wp2
  go_ret
  exact ⟨rfl, Below.refl _ _⟩

theorem rCheck_some (a : Option Addr) (n cap : Nat) (l : List M.Rul) (w : World) (hn : n = l.length) (h : n ≤ 8) (hl : AtR w a l) :
    Calls Tryz.prog 61 #[.slice a n cap] w fun e w' => e = .returned (errV (M.first (M.rulA l) n)) ∧ Below w.heap.size w w' := by
  have HL := hide hl
  have HN := hide hn
  have h8 : ¬ (8 : Int) < n := by omega
  clear hl hn
  go_enter Tryz.func61, Tryz.ntmps61
  go_wp2
  go_loopw [12] (fun i wr => ∃ k : Nat, k ≤ n ∧ i = .int .i64 k ∧ Hid (M.first (M.rulA l) k = 0) ∧ Hid (Below w.heap.size w wr)) (fun i _ => n - (intOf i).toNat)
  case atStart => exact ⟨0, Nat.zero_le _, rfl, hide rfl, hide (Below.refl _ _)⟩
  case round =>
    obtain ⟨k, hk, rfl, hno, hbel⟩ := hrel
    by_cases hlt : k < n
    · have hkl : k < l.length := HN.out ▸ hlt
      obtain ⟨b, off, rfl, hlie⟩ := HL.out (by omega)
      obtain ⟨a, m, c, c1, c2, c3, c4, hv⟩ := (hlie.stays hbel.out (Nat.le_refl _)).get hkl
      have hbl : b < wr.heap.size := World.block_lt_of_cell? wr _ c1
      have HF := hide (M.rulA_at hkl)
      generalize l[k] = r at *
      obtain ⟨d, x, lk, my⟩ := r
      have HC : Hid (∀ wx, Below wr.heap.size wr wx → Calls Tryz.prog 93 #[aggR d x a m c my] wx fun e w' => e = .returned (errV (M.rulF ⟨d, x, lk, my⟩)) ∧ Below wx.heap.size wx w') := hide fun wx hb => checkOne d x a m c my lk wx (hv.stays hb (Nat.le_refl _))
      have HA : Hid (∀ o, Below wr.heap.size wr (wr.alloc o)) := hide fun o => (Below.refl _ _).alloc (Nat.le_refl _) o
      clear hv hlie
      by_cases hb : M.rulF ⟨d, x, lk, my⟩ = 0
      · have HS : Hid (M.first (M.rulA l) (k + 1) = 0) := hide (by rw [M.first_next hno.out, HF.out, hb])
        rw [hb] at HC
        have HC2 : Hid (∀ wx, Below wr.heap.size wr wx → Calls Tryz.prog 93 #[aggR d x a m c my] wx fun e w' => e = .returned .nilIface ∧ Below wx.heap.size wx w') := HC
        clear hb HC HF
        go_wp2_with fail
        refine (HC2.out _ (HA.out _)).mono ?_
        rintro e w1 ⟨rfl, hb1⟩
        have HB1 := hide (hbel.out.trans (((HA.out _).trans (hb1.mono (by simp))).mono hbel.out.size))
        clear hb1
        go_wp2_with fail
        go_roundw
        case rel => exact ⟨k + 1, by omega, by go_num, HS, HB1⟩
        case measure => simp [intOf]; omega
      · rw [errV_bad hb] at HC
        have HS : Hid (M.first (M.rulA l) n = M.rulF ⟨d, x, lk, my⟩) := hide (by rw [M.first_bad hlt hno.out (by rw [HF.out]; exact hb), HF.out])
        have HB := hide hb
        clear hb HF
        generalize M.rulF ⟨d, x, lk, my⟩ = E at *
        go_wp2_with fail
        refine (HC.out _ (HA.out _)).mono ?_
        rintro e w1 ⟨rfl, hb1⟩
        have HB1 := hide (hbel.out.trans (((HA.out _).trans (hb1.mono (by simp))).mono hbel.out.size))
        clear hb1
        go_wp2_with fail
        go_ret
        exact ⟨by rw [HS.out, errV_bad HB.out]; rfl, HB1.out⟩
    · have HS : Hid (M.first (M.rulA l) n = 0) := hide (by have := hno.out; rwa [show k = n by omega] at this)
      go_wp2
      go_ret
      exact ⟨by rw [HS.out]; rfl, hbel.out⟩

/-- what is wrong with rules -/
theorem rCheck (a : Option Addr) (n cap : Nat) (l : List M.Rul) (w : World) (hn : n = l.length) (hm : n ≤ maxLen) (hl : AtR w a l) :
    Calls Tryz.prog 61 #[.slice a n cap] w fun e w' => e = .returned (errV (M.rulE l)) ∧ Below w.heap.size w w' := by
  by_cases h : 8 < n
  · rw [M.rulE_many (hn ▸ h)]; exact rCheck_many a n cap w h hm
  · rw [M.rulE_some (hn ▸ h), ← hn]; exact rCheck_some a n cap l w hn (by omega) hl

/-- what is wrong with asking -/
theorem checkAll (a : Option Addr) (n cap : Nat) (l : List M.Rul) (who deed : Int) (tv : Value) (t : List M.Val) (w : World) (hn : n = l.length) (hm : n ≤ maxLen) (hl : AtR w a l) (ht : IsVals w tv t) :
    Calls Tryz.prog 125 #[.slice a n cap, .int .i64 who, .int .i64 deed, tv] w fun e w' => e = .returned (errV (M.mayE l who deed t)) ∧ Below w.heap.size w w' := by
  have hC := rCheck a n cap l w hn hm hl
  clear hn hm
  by_cases h1 : M.rulE l = 0
  · rw [h1] at hC
    have HC : Hid (Calls Tryz.prog 61 #[.slice a n cap] w fun e w' => e = .returned .nilIface ∧ Below w.heap.size w w') := hide hC
    clear hC
    cases hw : M.whoB who
    · have HE : Hid (M.mayE l who deed t = 1) := hide (M.mayE_ask h1 (by rw [askB_split, hw]; rfl))
      have HW : Hid (∀ wx, Calls Tryz.prog 94 #[.int .i64 who] wx fun e w' => e = .returned (.bool false) ∧ w' = wx) := hide fun wx => by have := isWho who wx; rwa [hw] at this
      rw [HE.out]
      clear hl ht hw HE h1
      go_enter Tryz.func125, Tryz.ntmps125
      go_wp2_with fail
      refine (unhide HC).mono ?_
      rintro e w1 ⟨rfl, hb1⟩
      go_wp2_with fail
      refine (HW.out _).mono ?_
      rintro e w2 ⟨rfl, rfl⟩
      go_wp2_with fail
      go_ret
      exact ⟨rfl, hb1⟩
    · have HW : Hid (∀ wx, Calls Tryz.prog 94 #[.int .i64 who] wx fun e w' => e = .returned (.bool true) ∧ w' = wx) := hide fun wx => by have := isWho who wx; rwa [hw] at this
      cases hd : M.deedB deed
      · have HE : Hid (M.mayE l who deed t = 1) := hide (M.mayE_ask h1 (by rw [askB_split, hw, hd]; rfl))
        have HD : Hid (∀ wx, Calls Tryz.prog 95 #[.int .i64 deed] wx fun e w' => e = .returned (.bool false) ∧ w' = wx) := hide fun wx => by have := isDeed deed wx; rwa [hd] at this
        rw [HE.out]
        clear hl ht hw hd HE h1
        go_enter Tryz.func125, Tryz.ntmps125
        go_wp2_with fail
        refine (unhide HC).mono ?_
        rintro e w1 ⟨rfl, hb1⟩
        go_wp2_with fail
        refine (HW.out _).mono ?_
        rintro e w2 ⟨rfl, rfl⟩
        go_wp2_with fail
        refine (HD.out _).mono ?_
        rintro e w2 ⟨rfl, rfl⟩
        go_wp2_with fail
        go_ret
        exact ⟨rfl, hb1⟩
      · have HE : Hid (M.mayE l who deed t = M.tupF t) := hide (M.mayE_tup h1 (by rw [askB_split, hw, hd]; rfl))
        have HD : Hid (∀ wx, Calls Tryz.prog 95 #[.int .i64 deed] wx fun e w' => e = .returned (.bool true) ∧ w' = wx) := hide fun wx => by have := isDeed deed wx; rwa [hd] at this
        have HT : Hid (∀ wx, Below w.heap.size w wx → Calls Tryz.prog 44 #[tv] wx fun e w' => e = .returned (errV (M.tupF t)) ∧ Below wx.heap.size wx w') := hide fun wx hb => tcheck _ t wx (ht.stays hb (Nat.le_refl _))
        rw [HE.out]
        generalize errV (M.tupF t) = E at HT ⊢
        clear hl ht hw hd HE h1
        go_enter Tryz.func125, Tryz.ntmps125
        go_wp2_with fail
        refine (unhide HC).mono ?_
        rintro e w1 ⟨rfl, hb1⟩
        have HB1 := hide hb1
        clear hb1
        go_wp2_with fail
        refine (HW.out _).mono ?_
        rintro e w2 ⟨rfl, rfl⟩
        go_wp2_with fail
        refine (HD.out _).mono ?_
        rintro e w2 ⟨rfl, rfl⟩
        go_wp2_with fail
        refine (HT.out _ HB1.out).mono ?_
        rintro e w2 ⟨rfl, hb2⟩
        go_wp2_with fail
        go_ret
        exact ⟨rfl, HB1.out.trans (hb2.mono HB1.out.size)⟩
  · have HE : Hid (M.mayE l who deed t = M.rulE l) := hide (M.mayE_rul h1)
    rw [errV_bad h1] at hC
    rw [HE.out, errV_bad h1]
    have HC := hide hC
    clear hl ht HE h1 hC
    generalize M.rulE l = E at *
    go_enter Tryz.func125, Tryz.ntmps125
    go_wp2_with fail
    refine (unhide HC).mono ?_
    rintro e w1 ⟨rfl, hb1⟩
    go_wp2_with fail
    go_ret
    exact ⟨rfl, hb1⟩

end Go.Proofs.YtlefhfmckimlaajGreatDoor

set_option linter.unusedVariables false
namespace Go.Proofs.YtlefhfmckimlaajGreatDoor
open Go.RowKit

/-- the cells of some rules, in a row -/
def RowR (w : World) : List Value → List M.Rul → Prop
  | xs, [] => xs = []
  | xs, r :: l => ∃ v ys, xs = .int .i64 r.deed :: .int .i64 r.who :: v :: .bool r.may :: ys ∧ IsVals w v r.like ∧ RowR w ys l

theorem RowR.len {w : World} : ∀ {l : List M.Rul} {xs : List Value}, RowR w xs l → xs.length = l.length * 4
  | [], xs, h => by have h' : xs = [] := h; subst h'; rfl
  | r :: l, xs, h => by
    obtain ⟨v, ys, rfl, _, h2⟩ := h
    have := RowR.len h2
    simp only [List.length_cons]
    omega
theorem RowR.stays {w w' : World} {B : Nat} (hb : Below B w w') (hB : w.heap.size ≤ B) : ∀ {l : List M.Rul} {xs : List Value}, RowR w xs l → RowR w' xs l
  | [], xs, h => h
  | r :: l, xs, h => by
    obtain ⟨v, ys, e, h1, h2⟩ := h
    exact ⟨v, ys, e, h1.stays hb hB, RowR.stays hb hB h2⟩
theorem RowR.append {w : World} {m : List M.Rul} {zs : List Value} (hm : RowR w zs m) : ∀ {l : List M.Rul} {xs : List Value}, RowR w xs l → RowR w (xs ++ zs) (l ++ m)
  | [], xs, h => by have h' : xs = [] := h; subst h'; exact hm
  | r :: l, xs, h => by
    obtain ⟨v, ys, rfl, h1, h2⟩ := h
    exact ⟨v, ys ++ zs, rfl, h1, RowR.append hm h2⟩
theorem RowR.oneCell {w : World} : ∀ {l : List M.Rul} {xs : List Value}, RowR w xs l → ∀ u ∈ xs, u.oneCell' = true
  | [], xs, h, u, hu => by have h' : xs = [] := h; subst h'; cases hu
  | r :: l, xs, h, u, hu => by
    obtain ⟨v, ys, rfl, h1, h2⟩ := h
    obtain ⟨a, n, c, rfl⟩ := h1.isSlice
    simp only [List.mem_cons] at hu
    rcases hu with rfl | rfl | rfl | rfl | hu
    · rfl
    · rfl
    · rfl
    · rfl
    · exact RowR.oneCell h2 u hu
theorem RowR.get {w : World} : ∀ {l : List M.Rul} {xs : List Value}, RowR w xs l → ∀ i (hi : i < l.length), xs[i * 4]? = some (.int .i64 l[i].deed) ∧ xs[i * 4 + 1]? = some (.int .i64 l[i].who) ∧ (∃ v, xs[i * 4 + 2]? = some v ∧ IsVals w v l[i].like) ∧ xs[i * 4 + 3]? = some (.bool l[i].may)
  | [], _, _, i, hi => absurd hi (by simp)
  | r :: l, xs, h, 0, _ => by
    obtain ⟨v, ys, rfl, h1, _⟩ := h
    exact ⟨rfl, rfl, ⟨v, rfl, h1⟩, rfl⟩
  | r :: l, xs, h, i + 1, hi => by
    obtain ⟨v, ys, rfl, _, h2⟩ := h
    have := RowR.get h2 i (by simpa using hi)
    have e : (i + 1) * 4 = i * 4 + 4 := by omega
    rw [e]
    exact this

theorem LieR.tail {w : World} {b off : Nat} {r : M.Rul} {l : List M.Rul} (h : LieR w b off (r :: l)) : LieR w b (off + 4) l := fun i hi => by
  have := h (i + 1) (by simpa using hi)
  simp only [List.getElem_cons_succ] at this
  rw [show off + (i + 1) * 4 = off + 4 + i * 4 by omega] at this
  exact this
/-- the cells of rules that lie somewhere -/
theorem LieR.row {w : World} {b : Nat} : ∀ {l : List M.Rul} {off : Nat}, LieR w b off l → ∃ xs, RowR w xs l ∧ ∀ j u, xs[j]? = some u → w.cell? ((⟨b, off, none⟩ : Addr).add j) = some u
  | [], off, _ => ⟨[], rfl, fun j u hu => by simp at hu⟩
  | r :: l, off, h => by
    obtain ⟨ys, h1, h2⟩ := LieR.row h.tail
    obtain ⟨g1, g2, ⟨v, g3, gv⟩, g4⟩ := h 0 (by simp)
    refine ⟨.int .i64 r.deed :: .int .i64 r.who :: v :: .bool r.may :: ys, ⟨v, ys, rfl, gv, h1⟩, fun j u hu => ?_⟩
    rw [WideShapes.add_plain]
    simp only [List.getElem_cons_zero, Nat.zero_mul, Nat.add_zero] at g1 g2 g3 g4
    match j with
    | 0 => simp at hu; subst hu; exact g1
    | 1 => simp at hu; subst hu; exact g2
    | 2 => simp at hu; subst hu; exact g3
    | 3 => simp at hu; subst hu; exact g4
    | j + 4 =>
      have := h2 j u (by simpa using hu)
      rw [WideShapes.add_plain] at this
      rw [show off + (j + 4) = off + 4 + j by omega]
      exact this
theorem AtR.row {w : World} {a : Option Addr} {l : List M.Rul} (h : AtR w a l) : ∃ xs, RowR w xs l ∧ ∀ ad, a = some ad → ∀ j u, xs[j]? = some u → w.cell? (ad.add j) = some u := by
  rcases Nat.eq_zero_or_pos l.length with h0 | h0
  · have hl := List.length_eq_zero_iff.1 h0
    subst hl
    exact ⟨[], rfl, fun _ _ j u hu => by simp at hu⟩
  · obtain ⟨b, off, e, hl⟩ := h h0
    obtain ⟨xs, h1, h2⟩ := hl.row
    refine ⟨xs, h1, fun ad he => ?_⟩
    rw [e] at he
    cases he
    exact h2
/-- rules that a call has put together itself -/
theorem atR_own {w : World} {base : Nat} {e : TypeId} {v : Value} {m : Nat} {xs : List Value} {l : List M.Rul} (hm : m = l.length) (hr : RowR w xs l) (h : w.ownsRow base e 4 v m xs) : ∃ a cap, v = .slice a m cap ∧ AtR w a l := by
  have hc := h
  rcases h.2 with ⟨hv, hn⟩ | ⟨g, cap, cur, hv, _, _, hn, hcm, _⟩
  · exact ⟨none, 0, by rw [hv, hn], fun h0 => by omega⟩
  · refine ⟨some ⟨g, 0, none⟩, cap, hv, fun _ => ⟨g, 0, rfl, fun i hi => ?_⟩⟩
    obtain ⟨g1, g2, ⟨x, g3, gv⟩, g4⟩ := hr.get i hi
    have c1 := hc.cells (g := g) (by rw [hv]; rfl) _ _ g1
    have c2 := hc.cells (g := g) (by rw [hv]; rfl) _ _ g2
    have c3 := hc.cells (g := g) (by rw [hv]; rfl) _ _ g3
    have c4 := hc.cells (g := g) (by rw [hv]; rfl) _ _ g4
    rw [WideShapes.add_plain] at c1 c2 c3 c4
    exact ⟨c1, by rw [Nat.add_assoc]; exact c2, ⟨x, by rw [Nat.add_assoc]; exact c3, gv⟩, by rw [Nat.add_assoc]; exact c4⟩
theorem infoR : (Tryz.prog.info? 49).map (fun i => (i.zero, i.size, i.bytes)) = some (some (.agg #[.int .i64 0, .int .i64 0, .slice none 0 0, .bool false]), 4, 48) := by kernel_rfl
/-- one rule written down -/
theorem rowR_one {w : World} (r : M.Rul) {v : Value} (h : IsVals w v r.like) : RowR w [.int .i64 r.deed, .int .i64 r.who, v, .bool r.may] [r] := ⟨v, [], rfl, h, rfl⟩

end Go.Proofs.YtlefhfmckimlaajGreatDoor
