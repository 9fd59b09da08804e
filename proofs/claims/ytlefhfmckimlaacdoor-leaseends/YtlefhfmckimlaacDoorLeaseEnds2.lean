/-
  The walk of the Go function LeaseEnds, a theorem a case. Written by gen-leaseends.py.
-/
import Derived.Test.YtlefhfmckimlaacDoorLeaseEnds
namespace Go.Proofs.YtlefhfmckimlaacDoor.leaseEnds
open Go.RowKit

theorem lit_ok : M.tupF [⟨0, 5, ⟨#[]⟩⟩] = 0 := by decide

/-- the first part, as far as its test -/
theorem second {w0 w : World} {S : Nat} {x : Ent} (h : One w0 w S 0 1 [x]) (hx : x.u = 10) :
    Calls Tryd.prog 22 #[.pointer (some ⟨S, 0, none⟩), .int .i64 9] w fun e w' => e = .returned (.tuple #[.int .i64 0, .nilIface]) ∧ One w0 w' S 9 1 [x] :=
  h.now (by simp) (by decide) (by decide) (one_stays (by rw [hx]; decide)) (by simp)
theorem third {w0 w : World} {S : Nat} {x : Ent} (h : One w0 w S 9 1 [x]) (hx : x.u = 10) :
    Calls Tryd.prog 22 #[.pointer (some ⟨S, 0, none⟩), .int .i64 10] w fun e w' => e = .returned (.tuple #[.int .i64 1, .nilIface]) ∧ One w0 w' S 10 1 [] :=
  h.now (by simp) (by decide) (by decide) (one_goes (by rw [hx]; decide)) (by simp)

set_option maxRecDepth 100000 in
theorem walk_bad (t : Value) (l : List M.Val) (until_ more time : Int) (w : World) (ht : IsVals w t l) (hf : M.tupF l ≠ 0) :
    Calls Tryd.prog 4 #[t, .int .i64 until_, .int .i64 more, .int .i64 time] w fun e w' => e = .returned (.bool true) ∧ Below w.heap.size w w' := by
  have hv1 : Hid (∀ w1 : World, IsVals (w1.alloc (.cells #[.int .i64 0, .int .i64 5, .string ⟨#[]⟩] 50)) (.slice (some ⟨w1.heap.size, 0, none⟩) 1 1) [⟨0, 5, ⟨#[]⟩⟩]) := hide fun w1 => lit_vals w1 ⟨0, 5, ⟨#[]⟩⟩ (by decide)
  have HT := hide ht
  clear ht
  have HF := hide hf
  clear hf

  go_enter Tryd.func4, Tryd.ntmps4
  go_wp2_with fail
  refine (One.new (Below.refl _ _)).mono ?_
  rintro e w1 ⟨rfl, h1⟩
  have H1 := hide (h1.quiet ((Below.refl _ _).alloc (Nat.le_refl _) (.cells #[.int .i64 0, .int .i64 5, .string ⟨#[]⟩] 50)))
  clear h1
  go_wp2_with fail
  refine (H1.out.put rfl (hv1.out w1) lit_ok (by decide)).mono ?_
  rintro e w2 ⟨rfl, x2, h2, i2, u2, t2⟩
  have H2 := hide h2
  have HX2 := hide u2
  clear h2 i2 u2 t2 H1
  go_wp2_with fail
  refine (second H2.out HX2.out).mono ?_
  rintro e w3 ⟨rfl, h3⟩
  have H3 := hide h3
  clear h3 H2
  go_wp2_with fail
  refine (third H3.out HX2.out).mono ?_
  rintro e w4 ⟨rfl, h4⟩
  have H4 := hide h4
  clear h4 H3
  go_wp2_with fail
  refine (H4.out.count (n := 0) rfl).mono ?_
  rintro e w5 ⟨rfl, h5⟩
  have HB5 := hide h5.bel
  clear h5 H4
  go_wp2_with fail
  refine (One.new HB5.out).mono ?_
  rintro e w6 ⟨rfl, h6⟩
  have H6 := hide h6
  clear h6
  go_wp2_with fail

  refine (H6.out.bad (HT.out.stays H6.out.bel (Nat.le_refl _)) HF.out).mono ?_
  rintro e w7 ⟨rfl, h7⟩
  have H7 := hide h7
  clear h7 H6
  have HC := hide (tcheck t l w7 (HT.out.stays H7.out.bel (Nat.le_refl _)))
  rw [errV_bad HF.out] at HC
  go_wp2_with fail
  refine (unhide HC).mono ?_
  rintro e w8 ⟨rfl, hb8⟩
  go_wp2_with fail
  go_ret
  exact ⟨rfl, (H7.out.quiet hb8).bel⟩

set_option maxRecDepth 100000 in
theorem walk_late (t : Value) (l : List M.Val) (until_ more time : Int) (w : World) (ht : IsVals w t l) (hf : M.tupF l = 0) (hu : M.may 0 until_ = false) (hq : until_ < 1 ∨ ¬ until_ < 1 ∧ 10000 < until_) :
    Calls Tryd.prog 4 #[t, .int .i64 until_, .int .i64 more, .int .i64 time] w fun e w' => e = .returned (.bool true) ∧ Below w.heap.size w w' := by
  have hv1 : Hid (∀ w1 : World, IsVals (w1.alloc (.cells #[.int .i64 0, .int .i64 5, .string ⟨#[]⟩] 50)) (.slice (some ⟨w1.heap.size, 0, none⟩) 1 1) [⟨0, 5, ⟨#[]⟩⟩]) := hide fun w1 => lit_vals w1 ⟨0, 5, ⟨#[]⟩⟩ (by decide)
  have HT := hide ht
  clear ht
  have HF := hide hf
  have HU := hide hu
  clear hf hu
  rcases hq with hq | ⟨hq, hq2⟩
  all_goals
    go_enter Tryd.func4, Tryd.ntmps4
    go_wp2_with fail
    refine (One.new (Below.refl _ _)).mono ?_
    rintro e w1 ⟨rfl, h1⟩
    have H1 := hide (h1.quiet ((Below.refl _ _).alloc (Nat.le_refl _) (.cells #[.int .i64 0, .int .i64 5, .string ⟨#[]⟩] 50)))
    clear h1
    go_wp2_with fail
    refine (H1.out.put rfl (hv1.out w1) lit_ok (by decide)).mono ?_
    rintro e w2 ⟨rfl, x2, h2, i2, u2, t2⟩
    have H2 := hide h2
    have HX2 := hide u2
    clear h2 i2 u2 t2 H1
    go_wp2_with fail
    refine (second H2.out HX2.out).mono ?_
    rintro e w3 ⟨rfl, h3⟩
    have H3 := hide h3
    clear h3 H2
    go_wp2_with fail
    refine (third H3.out HX2.out).mono ?_
    rintro e w4 ⟨rfl, h4⟩
    have H4 := hide h4
    clear h4 H3
    go_wp2_with fail
    refine (H4.out.count (n := 0) rfl).mono ?_
    rintro e w5 ⟨rfl, h5⟩
    have HB5 := hide h5.bel
    clear h5 H4
    go_wp2_with fail
    refine (One.new HB5.out).mono ?_
    rintro e w6 ⟨rfl, h6⟩
    have H6 := hide h6
    clear h6
    go_wp2_with fail

    refine (H6.out.late (HT.out.stays H6.out.bel (Nat.le_refl _)) HF.out HU.out).mono ?_
    rintro e w7 ⟨rfl, h7⟩
    have H7 := hide h7
    clear h7 H6
    have HC := hide (tcheck t l w7 (HT.out.stays H7.out.bel (Nat.le_refl _)))
    rw [HF.out] at HC
    change Hid (Calls _ _ _ _ fun e w' => e = .returned .nilIface ∧ _) at HC
    go_wp2_with fail
    refine (unhide HC).mono ?_
    rintro e w8 ⟨rfl, hb8⟩
    go_wp2_with fail
    go_ret
    exact ⟨rfl, (H7.out.quiet hb8).bel⟩

set_option maxRecDepth 100000 in
theorem walk_yes_none (t : Value) (l : List M.Val) (until_ more time : Int) (w : World) (ht : IsVals w t l) (hf : M.tupF l = 0) (hu : M.may 0 until_ = true) (hm : M.may 0 more = true ∧ until_ ≤ more) (hq : time < 0 ∨ ¬ time < 0 ∧ 10000 < time) :
    Calls Tryd.prog 4 #[t, .int .i64 until_, .int .i64 more, .int .i64 time] w fun e w' => e = .returned (.bool true) ∧ Below w.heap.size w w' := by
  have hv1 : Hid (∀ w1 : World, IsVals (w1.alloc (.cells #[.int .i64 0, .int .i64 5, .string ⟨#[]⟩] 50)) (.slice (some ⟨w1.heap.size, 0, none⟩) 1 1) [⟨0, 5, ⟨#[]⟩⟩]) := hide fun w1 => lit_vals w1 ⟨0, 5, ⟨#[]⟩⟩ (by decide)
  have HT := hide ht
  clear ht
  have HF := hide hf
  have HU := hide hu
  have HM := hide hm
  have hm2 : ¬ more < until_ := by omega
  clear hf hu hm
  rcases hq with hq | ⟨hq, hq2⟩
  all_goals
    go_enter Tryd.func4, Tryd.ntmps4
    go_wp2_with fail
    refine (One.new (Below.refl _ _)).mono ?_
    rintro e w1 ⟨rfl, h1⟩
    have H1 := hide (h1.quiet ((Below.refl _ _).alloc (Nat.le_refl _) (.cells #[.int .i64 0, .int .i64 5, .string ⟨#[]⟩] 50)))
    clear h1
    go_wp2_with fail
    refine (H1.out.put rfl (hv1.out w1) lit_ok (by decide)).mono ?_
    rintro e w2 ⟨rfl, x2, h2, i2, u2, t2⟩
    have H2 := hide h2
    have HX2 := hide u2
    clear h2 i2 u2 t2 H1
    go_wp2_with fail
    refine (second H2.out HX2.out).mono ?_
    rintro e w3 ⟨rfl, h3⟩
    have H3 := hide h3
    clear h3 H2
    go_wp2_with fail
    refine (third H3.out HX2.out).mono ?_
    rintro e w4 ⟨rfl, h4⟩
    have H4 := hide h4
    clear h4 H3
    go_wp2_with fail
    refine (H4.out.count (n := 0) rfl).mono ?_
    rintro e w5 ⟨rfl, h5⟩
    have HB5 := hide h5.bel
    clear h5 H4
    go_wp2_with fail
    refine (One.new HB5.out).mono ?_
    rintro e w6 ⟨rfl, h6⟩
    have H6 := hide h6
    clear h6
    go_wp2_with fail

    refine (H6.out.put rfl (HT.out.stays H6.out.bel (Nat.le_refl _)) HF.out HU.out).mono ?_
    rintro e w7 ⟨rfl, x7, h7, i7, u7, t7⟩
    have H7 := hide h7
    have HX7 := hide (And.intro i7 (And.intro u7 t7))
    clear h7 i7 u7 t7 H6
    go_wp2_with fail

    refine (H7.out.renew HX7.out.1 HM.out.1 (by rw [HX7.out.2.1]; exact HM.out.2)).mono ?_
    rintro e w8 ⟨rfl, h8⟩
    have H8 := hide h8
    have HY : Hid ((x7.till more).u = more ∧ (x7.till more).t = l) := hide ⟨rfl, HX7.out.2.2⟩
    generalize x7.till more = y at *
    clear h8 H7
    go_wp2_with fail

    refine (H8.out.nowBad (by omega)).mono ?_
    rintro e w9 ⟨rfl, h9⟩
    go_wp2_with fail
    go_ret
    exact ⟨rfl, h9.bel⟩

set_option maxRecDepth 100000 in
theorem walk_yes_there (t : Value) (l : List M.Val) (until_ more time : Int) (w : World) (ht : IsVals w t l) (hf : M.tupF l = 0) (hu : M.may 0 until_ = true) (hm : M.may 0 more = true ∧ until_ ≤ more) (h0 : 0 ≤ time) (h1 : time ≤ 10000) (he : time < more) :
    Calls Tryd.prog 4 #[t, .int .i64 until_, .int .i64 more, .int .i64 time] w fun e w' => e = .returned (.bool true) ∧ Below w.heap.size w w' := by
  have hv1 : Hid (∀ w1 : World, IsVals (w1.alloc (.cells #[.int .i64 0, .int .i64 5, .string ⟨#[]⟩] 50)) (.slice (some ⟨w1.heap.size, 0, none⟩) 1 1) [⟨0, 5, ⟨#[]⟩⟩]) := hide fun w1 => lit_vals w1 ⟨0, 5, ⟨#[]⟩⟩ (by decide)
  have HT := hide ht
  clear ht
  have HF := hide hf
  have HU := hide hu
  have HM := hide hm
  have hm2 : ¬ more < until_ := by omega
  clear hf hu hm
  have HE := hide he

  go_enter Tryd.func4, Tryd.ntmps4
  go_wp2_with fail
  refine (One.new (Below.refl _ _)).mono ?_
  rintro e w1 ⟨rfl, h1⟩
  have H1 := hide (h1.quiet ((Below.refl _ _).alloc (Nat.le_refl _) (.cells #[.int .i64 0, .int .i64 5, .string ⟨#[]⟩] 50)))
  clear h1
  go_wp2_with fail
  refine (H1.out.put rfl (hv1.out w1) lit_ok (by decide)).mono ?_
  rintro e w2 ⟨rfl, x2, h2, i2, u2, t2⟩
  have H2 := hide h2
  have HX2 := hide u2
  clear h2 i2 u2 t2 H1
  go_wp2_with fail
  refine (second H2.out HX2.out).mono ?_
  rintro e w3 ⟨rfl, h3⟩
  have H3 := hide h3
  clear h3 H2
  go_wp2_with fail
  refine (third H3.out HX2.out).mono ?_
  rintro e w4 ⟨rfl, h4⟩
  have H4 := hide h4
  clear h4 H3
  go_wp2_with fail
  refine (H4.out.count (n := 0) rfl).mono ?_
  rintro e w5 ⟨rfl, h5⟩
  have HB5 := hide h5.bel
  clear h5 H4
  go_wp2_with fail
  refine (One.new HB5.out).mono ?_
  rintro e w6 ⟨rfl, h6⟩
  have H6 := hide h6
  clear h6
  go_wp2_with fail

  refine (H6.out.put rfl (HT.out.stays H6.out.bel (Nat.le_refl _)) HF.out HU.out).mono ?_
  rintro e w7 ⟨rfl, x7, h7, i7, u7, t7⟩
  have H7 := hide h7
  have HX7 := hide (And.intro i7 (And.intro u7 t7))
  clear h7 i7 u7 t7 H6
  go_wp2_with fail

  refine (H7.out.renew HX7.out.1 HM.out.1 (by rw [HX7.out.2.1]; exact HM.out.2)).mono ?_
  rintro e w8 ⟨rfl, h8⟩
  have H8 := hide h8
  have HY : Hid ((x7.till more).u = more ∧ (x7.till more).t = l) := hide ⟨rfl, HX7.out.2.2⟩
  generalize x7.till more = y at *
  clear h8 H7
  go_wp2_with fail

  refine (H8.out.now (x := time) (by simp) (by omega) (by omega) (one_stays (by rw [HY.out.1]; exact HE.out)) (g := 0) (by simp)).mono ?_
  rintro e w9 ⟨rfl, h9⟩
  have H9 := hide h9
  clear h9 H8
  go_wp2_with fail
  refine (H9.out.read HY.out.2 (HT.out.stays H9.out.bel (Nat.le_refl _)) HF.out).mono ?_
  rintro e w10 ⟨r, rfl, hr, h10⟩
  have HC := hide (tsame r t l l w10 hr (HT.out.stays h10.bel (Nat.le_refl _)))
  rw [sameAll_self] at HC
  have HB := hide h10.bel
  clear h10 hr H9
  go_wp2_with fail
  refine (unhide HC).mono ?_
  rintro e w11 ⟨rfl, hb⟩
  go_wp2_with fail
  go_ret
  exact ⟨rfl, HB.out.trans (hb.mono HB.out.size)⟩

set_option maxRecDepth 100000 in
theorem walk_yes_gone (t : Value) (l : List M.Val) (until_ more time : Int) (w : World) (ht : IsVals w t l) (hg : Hand w) (hf : M.tupF l = 0) (hu : M.may 0 until_ = true) (hm : M.may 0 more = true ∧ until_ ≤ more) (h0 : 0 ≤ time) (h1 : time ≤ 10000) (he : ¬ time < more) :
    Calls Tryd.prog 4 #[t, .int .i64 until_, .int .i64 more, .int .i64 time] w fun e w' => e = .returned (.bool true) ∧ Below w.heap.size w w' := by
  have hv1 : Hid (∀ w1 : World, IsVals (w1.alloc (.cells #[.int .i64 0, .int .i64 5, .string ⟨#[]⟩] 50)) (.slice (some ⟨w1.heap.size, 0, none⟩) 1 1) [⟨0, 5, ⟨#[]⟩⟩]) := hide fun w1 => lit_vals w1 ⟨0, 5, ⟨#[]⟩⟩ (by decide)
  have HT := hide ht
  clear ht
  have HH := hide hg
  have HF := hide hf
  have HU := hide hu
  have HM := hide hm
  have hm2 : ¬ more < until_ := by omega
  clear hf hu hm hg
  have HE := hide he

  go_enter Tryd.func4, Tryd.ntmps4
  go_wp2_with fail
  refine (One.new (Below.refl _ _)).mono ?_
  rintro e w1 ⟨rfl, h1⟩
  have H1 := hide (h1.quiet ((Below.refl _ _).alloc (Nat.le_refl _) (.cells #[.int .i64 0, .int .i64 5, .string ⟨#[]⟩] 50)))
  clear h1
  go_wp2_with fail
  refine (H1.out.put rfl (hv1.out w1) lit_ok (by decide)).mono ?_
  rintro e w2 ⟨rfl, x2, h2, i2, u2, t2⟩
  have H2 := hide h2
  have HX2 := hide u2
  clear h2 i2 u2 t2 H1
  go_wp2_with fail
  refine (second H2.out HX2.out).mono ?_
  rintro e w3 ⟨rfl, h3⟩
  have H3 := hide h3
  clear h3 H2
  go_wp2_with fail
  refine (third H3.out HX2.out).mono ?_
  rintro e w4 ⟨rfl, h4⟩
  have H4 := hide h4
  clear h4 H3
  go_wp2_with fail
  refine (H4.out.count (n := 0) rfl).mono ?_
  rintro e w5 ⟨rfl, h5⟩
  have HB5 := hide h5.bel
  clear h5 H4
  go_wp2_with fail
  refine (One.new HB5.out).mono ?_
  rintro e w6 ⟨rfl, h6⟩
  have H6 := hide h6
  clear h6
  go_wp2_with fail

  refine (H6.out.put rfl (HT.out.stays H6.out.bel (Nat.le_refl _)) HF.out HU.out).mono ?_
  rintro e w7 ⟨rfl, x7, h7, i7, u7, t7⟩
  have H7 := hide h7
  have HX7 := hide (And.intro i7 (And.intro u7 t7))
  clear h7 i7 u7 t7 H6
  go_wp2_with fail

  refine (H7.out.renew HX7.out.1 HM.out.1 (by rw [HX7.out.2.1]; exact HM.out.2)).mono ?_
  rintro e w8 ⟨rfl, h8⟩
  have H8 := hide h8
  have HY : Hid ((x7.till more).u = more ∧ (x7.till more).t = l) := hide ⟨rfl, HX7.out.2.2⟩
  generalize x7.till more = y at *
  clear h8 H7
  go_wp2_with fail

  refine (H8.out.now (x := time) (by simp) (by omega) (by omega) (one_goes (by rw [HY.out.1]; have := HE.out; omega)) (g := 1) (by simp)).mono ?_
  rintro e w9 ⟨rfl, h9⟩
  have H9 := hide h9
  clear h9 H8
  go_wp2_with fail
  refine (H9.out.readNone (HT.out.stays H9.out.bel (Nat.le_refl _)) HF.out).mono ?_
  rintro e w10 ⟨rfl, h10⟩
  have H10 := hide h10
  clear h10 H9
  go_wp2_with fail
  refine (err5 w10 (HH.out.stays H10.out.bel (Nat.le_refl _))).mono ?_
  rintro e w11 ⟨rfl, hb⟩
  have H11 := hide (H10.out.quiet hb)
  clear hb H10
  go_wp2_with fail
  refine (H11.out.renewNone 1 10000).mono ?_
  rintro e w12 ⟨rfl, h12⟩
  have H12 := hide h12
  clear h12 H11
  go_wp2_with fail
  refine (err5 w12 (HH.out.stays H12.out.bel (Nat.le_refl _))).mono ?_
  rintro e w13 ⟨rfl, hb⟩
  have HB := hide (H12.out.quiet hb).bel
  clear hb H12
  go_wp2_with fail
  go_ret
  exact ⟨rfl, HB.out⟩

set_option maxRecDepth 100000 in
theorem walk_no_none (t : Value) (l : List M.Val) (until_ more time : Int) (w : World) (ht : IsVals w t l) (hf : M.tupF l = 0) (hu : M.may 0 until_ = true) (hm : ¬ (M.may 0 more = true ∧ until_ ≤ more)) (hq : time < 0 ∨ ¬ time < 0 ∧ 10000 < time) :
    Calls Tryd.prog 4 #[t, .int .i64 until_, .int .i64 more, .int .i64 time] w fun e w' => e = .returned (.bool true) ∧ Below w.heap.size w w' := by
  have hv1 : Hid (∀ w1 : World, IsVals (w1.alloc (.cells #[.int .i64 0, .int .i64 5, .string ⟨#[]⟩] 50)) (.slice (some ⟨w1.heap.size, 0, none⟩) 1 1) [⟨0, 5, ⟨#[]⟩⟩]) := hide fun w1 => lit_vals w1 ⟨0, 5, ⟨#[]⟩⟩ (by decide)
  have HT := hide ht
  clear ht
  have HF := hide hf
  have HU := hide hu
  have HM := hide hm
  clear hf hu hm
  rcases hq with hq | ⟨hq, hq2⟩
  all_goals
    go_enter Tryd.func4, Tryd.ntmps4
    go_wp2_with fail
    refine (One.new (Below.refl _ _)).mono ?_
    rintro e w1 ⟨rfl, h1⟩
    have H1 := hide (h1.quiet ((Below.refl _ _).alloc (Nat.le_refl _) (.cells #[.int .i64 0, .int .i64 5, .string ⟨#[]⟩] 50)))
    clear h1
    go_wp2_with fail
    refine (H1.out.put rfl (hv1.out w1) lit_ok (by decide)).mono ?_
    rintro e w2 ⟨rfl, x2, h2, i2, u2, t2⟩
    have H2 := hide h2
    have HX2 := hide u2
    clear h2 i2 u2 t2 H1
    go_wp2_with fail
    refine (second H2.out HX2.out).mono ?_
    rintro e w3 ⟨rfl, h3⟩
    have H3 := hide h3
    clear h3 H2
    go_wp2_with fail
    refine (third H3.out HX2.out).mono ?_
    rintro e w4 ⟨rfl, h4⟩
    have H4 := hide h4
    clear h4 H3
    go_wp2_with fail
    refine (H4.out.count (n := 0) rfl).mono ?_
    rintro e w5 ⟨rfl, h5⟩
    have HB5 := hide h5.bel
    clear h5 H4
    go_wp2_with fail
    refine (One.new HB5.out).mono ?_
    rintro e w6 ⟨rfl, h6⟩
    have H6 := hide h6
    clear h6
    go_wp2_with fail

    refine (H6.out.put rfl (HT.out.stays H6.out.bel (Nat.le_refl _)) HF.out HU.out).mono ?_
    rintro e w7 ⟨rfl, x7, h7, i7, u7, t7⟩
    have H7 := hide h7
    have HX7 := hide (And.intro i7 (And.intro u7 t7))
    clear h7 i7 u7 t7 H6
    go_wp2_with fail

    refine (H7.out.renewBad HX7.out.1 (by rw [HX7.out.2.1]; exact HM.out)).mono ?_
    rintro e w8 ⟨rfl, h8⟩
    have H8 := hide h8
    have HY : Hid (x7.u = until_ ∧ x7.t = l) := hide HX7.out.2
    generalize x7 = y at *
    clear h8 H7
    go_wp2_with fail

    refine (H8.out.nowBad (by omega)).mono ?_
    rintro e w9 ⟨rfl, h9⟩
    go_wp2_with fail
    go_ret
    exact ⟨rfl, h9.bel⟩

set_option maxRecDepth 100000 in
theorem walk_no_there (t : Value) (l : List M.Val) (until_ more time : Int) (w : World) (ht : IsVals w t l) (hf : M.tupF l = 0) (hu : M.may 0 until_ = true) (hm : ¬ (M.may 0 more = true ∧ until_ ≤ more)) (h0 : 0 ≤ time) (h1 : time ≤ 10000) (he : time < until_) :
    Calls Tryd.prog 4 #[t, .int .i64 until_, .int .i64 more, .int .i64 time] w fun e w' => e = .returned (.bool true) ∧ Below w.heap.size w w' := by
  have hv1 : Hid (∀ w1 : World, IsVals (w1.alloc (.cells #[.int .i64 0, .int .i64 5, .string ⟨#[]⟩] 50)) (.slice (some ⟨w1.heap.size, 0, none⟩) 1 1) [⟨0, 5, ⟨#[]⟩⟩]) := hide fun w1 => lit_vals w1 ⟨0, 5, ⟨#[]⟩⟩ (by decide)
  have HT := hide ht
  clear ht
  have HF := hide hf
  have HU := hide hu
  have HM := hide hm
  clear hf hu hm
  have HE := hide he

  go_enter Tryd.func4, Tryd.ntmps4
  go_wp2_with fail
  refine (One.new (Below.refl _ _)).mono ?_
  rintro e w1 ⟨rfl, h1⟩
  have H1 := hide (h1.quiet ((Below.refl _ _).alloc (Nat.le_refl _) (.cells #[.int .i64 0, .int .i64 5, .string ⟨#[]⟩] 50)))
  clear h1
  go_wp2_with fail
  refine (H1.out.put rfl (hv1.out w1) lit_ok (by decide)).mono ?_
  rintro e w2 ⟨rfl, x2, h2, i2, u2, t2⟩
  have H2 := hide h2
  have HX2 := hide u2
  clear h2 i2 u2 t2 H1
  go_wp2_with fail
  refine (second H2.out HX2.out).mono ?_
  rintro e w3 ⟨rfl, h3⟩
  have H3 := hide h3
  clear h3 H2
  go_wp2_with fail
  refine (third H3.out HX2.out).mono ?_
  rintro e w4 ⟨rfl, h4⟩
  have H4 := hide h4
  clear h4 H3
  go_wp2_with fail
  refine (H4.out.count (n := 0) rfl).mono ?_
  rintro e w5 ⟨rfl, h5⟩
  have HB5 := hide h5.bel
  clear h5 H4
  go_wp2_with fail
  refine (One.new HB5.out).mono ?_
  rintro e w6 ⟨rfl, h6⟩
  have H6 := hide h6
  clear h6
  go_wp2_with fail

  refine (H6.out.put rfl (HT.out.stays H6.out.bel (Nat.le_refl _)) HF.out HU.out).mono ?_
  rintro e w7 ⟨rfl, x7, h7, i7, u7, t7⟩
  have H7 := hide h7
  have HX7 := hide (And.intro i7 (And.intro u7 t7))
  clear h7 i7 u7 t7 H6
  go_wp2_with fail

  refine (H7.out.renewBad HX7.out.1 (by rw [HX7.out.2.1]; exact HM.out)).mono ?_
  rintro e w8 ⟨rfl, h8⟩
  have H8 := hide h8
  have HY : Hid (x7.u = until_ ∧ x7.t = l) := hide HX7.out.2
  generalize x7 = y at *
  clear h8 H7
  go_wp2_with fail

  refine (H8.out.now (x := time) (by simp) (by omega) (by omega) (one_stays (by rw [HY.out.1]; exact HE.out)) (g := 0) (by simp)).mono ?_
  rintro e w9 ⟨rfl, h9⟩
  have H9 := hide h9
  clear h9 H8
  go_wp2_with fail
  refine (H9.out.read HY.out.2 (HT.out.stays H9.out.bel (Nat.le_refl _)) HF.out).mono ?_
  rintro e w10 ⟨r, rfl, hr, h10⟩
  have HC := hide (tsame r t l l w10 hr (HT.out.stays h10.bel (Nat.le_refl _)))
  rw [sameAll_self] at HC
  have HB := hide h10.bel
  clear h10 hr H9
  go_wp2_with fail
  refine (unhide HC).mono ?_
  rintro e w11 ⟨rfl, hb⟩
  go_wp2_with fail
  go_ret
  exact ⟨rfl, HB.out.trans (hb.mono HB.out.size)⟩

set_option maxRecDepth 100000 in
theorem walk_no_gone (t : Value) (l : List M.Val) (until_ more time : Int) (w : World) (ht : IsVals w t l) (hg : Hand w) (hf : M.tupF l = 0) (hu : M.may 0 until_ = true) (hm : ¬ (M.may 0 more = true ∧ until_ ≤ more)) (h0 : 0 ≤ time) (h1 : time ≤ 10000) (he : ¬ time < until_) :
    Calls Tryd.prog 4 #[t, .int .i64 until_, .int .i64 more, .int .i64 time] w fun e w' => e = .returned (.bool true) ∧ Below w.heap.size w w' := by
  have hv1 : Hid (∀ w1 : World, IsVals (w1.alloc (.cells #[.int .i64 0, .int .i64 5, .string ⟨#[]⟩] 50)) (.slice (some ⟨w1.heap.size, 0, none⟩) 1 1) [⟨0, 5, ⟨#[]⟩⟩]) := hide fun w1 => lit_vals w1 ⟨0, 5, ⟨#[]⟩⟩ (by decide)
  have HT := hide ht
  clear ht
  have HH := hide hg
  have HF := hide hf
  have HU := hide hu
  have HM := hide hm
  clear hf hu hm hg
  have HE := hide he

  go_enter Tryd.func4, Tryd.ntmps4
  go_wp2_with fail
  refine (One.new (Below.refl _ _)).mono ?_
  rintro e w1 ⟨rfl, h1⟩
  have H1 := hide (h1.quiet ((Below.refl _ _).alloc (Nat.le_refl _) (.cells #[.int .i64 0, .int .i64 5, .string ⟨#[]⟩] 50)))
  clear h1
  go_wp2_with fail
  refine (H1.out.put rfl (hv1.out w1) lit_ok (by decide)).mono ?_
  rintro e w2 ⟨rfl, x2, h2, i2, u2, t2⟩
  have H2 := hide h2
  have HX2 := hide u2
  clear h2 i2 u2 t2 H1
  go_wp2_with fail
  refine (second H2.out HX2.out).mono ?_
  rintro e w3 ⟨rfl, h3⟩
  have H3 := hide h3
  clear h3 H2
  go_wp2_with fail
  refine (third H3.out HX2.out).mono ?_
  rintro e w4 ⟨rfl, h4⟩
  have H4 := hide h4
  clear h4 H3
  go_wp2_with fail
  refine (H4.out.count (n := 0) rfl).mono ?_
  rintro e w5 ⟨rfl, h5⟩
  have HB5 := hide h5.bel
  clear h5 H4
  go_wp2_with fail
  refine (One.new HB5.out).mono ?_
  rintro e w6 ⟨rfl, h6⟩
  have H6 := hide h6
  clear h6
  go_wp2_with fail

  refine (H6.out.put rfl (HT.out.stays H6.out.bel (Nat.le_refl _)) HF.out HU.out).mono ?_
  rintro e w7 ⟨rfl, x7, h7, i7, u7, t7⟩
  have H7 := hide h7
  have HX7 := hide (And.intro i7 (And.intro u7 t7))
  clear h7 i7 u7 t7 H6
  go_wp2_with fail

  refine (H7.out.renewBad HX7.out.1 (by rw [HX7.out.2.1]; exact HM.out)).mono ?_
  rintro e w8 ⟨rfl, h8⟩
  have H8 := hide h8
  have HY : Hid (x7.u = until_ ∧ x7.t = l) := hide HX7.out.2
  generalize x7 = y at *
  clear h8 H7
  go_wp2_with fail

  refine (H8.out.now (x := time) (by simp) (by omega) (by omega) (one_goes (by rw [HY.out.1]; have := HE.out; omega)) (g := 1) (by simp)).mono ?_
  rintro e w9 ⟨rfl, h9⟩
  have H9 := hide h9
  clear h9 H8
  go_wp2_with fail
  refine (H9.out.readNone (HT.out.stays H9.out.bel (Nat.le_refl _)) HF.out).mono ?_
  rintro e w10 ⟨rfl, h10⟩
  have H10 := hide h10
  clear h10 H9
  go_wp2_with fail
  refine (err5 w10 (HH.out.stays H10.out.bel (Nat.le_refl _))).mono ?_
  rintro e w11 ⟨rfl, hb⟩
  have H11 := hide (H10.out.quiet hb)
  clear hb H10
  go_wp2_with fail
  refine (H11.out.renewNone 1 10000).mono ?_
  rintro e w12 ⟨rfl, h12⟩
  have H12 := hide h12
  clear h12 H11
  go_wp2_with fail
  refine (err5 w12 (HH.out.stays H12.out.bel (Nat.le_refl _))).mono ?_
  rintro e w13 ⟨rfl, hb⟩
  have HB := hide (H12.out.quiet hb).bel
  clear hb H12
  go_wp2_with fail
  go_ret
  exact ⟨rfl, HB.out⟩

theorem walk (t : Value) (l : List M.Val) (until_ more time : Int) (w : World) (ht : IsVals w t l) (hg : Hand w) :
    Calls Tryd.prog 4 #[t, .int .i64 until_, .int .i64 more, .int .i64 time] w fun e w' => e = .returned (.bool true) ∧ Below w.heap.size w w' := by
  by_cases hf : M.tupF l = 0
  · by_cases hu : M.may 0 until_ = true
    · by_cases hm : M.may 0 more = true ∧ until_ ≤ more
      · by_cases h0 : 0 ≤ time ∧ time ≤ 10000
        · by_cases he : time < more
          · exact walk_yes_there t l until_ more time w ht hf hu hm h0.1 h0.2 he
          · exact walk_yes_gone t l until_ more time w ht hg hf hu hm h0.1 h0.2 he
        · exact walk_yes_none t l until_ more time w ht hf hu hm (by omega)
      · by_cases h0 : 0 ≤ time ∧ time ≤ 10000
        · by_cases he : time < until_
          · exact walk_no_there t l until_ more time w ht hf hu hm h0.1 h0.2 he
          · exact walk_no_gone t l until_ more time w ht hg hf hu hm h0.1 h0.2 he
        · exact walk_no_none t l until_ more time w ht hf hu hm (by omega)
    · refine walk_late t l until_ more time w ht hf (by simpa using hu) ?_
      by_cases h1 : until_ < 1
      · exact Or.inl h1
      · refine Or.inr ⟨h1, ?_⟩
        rcases Int.lt_or_le 10000 until_ with h2 | h2
        · exact h2
        · exact absurd (may_yes (by omega) h2) hu
  · exact walk_bad t l until_ more time w ht hf

end Go.Proofs.YtlefhfmckimlaacDoor.leaseEnds
