/-
  The walk of the Go function ModField: it returns true, whatever the numbers.
-/
import Derived.Test.YtlefhfmckimlaadModWalks
namespace Go.Proofs.Ytlefhfmckimlaad.modField
open Go.RowKit

/-- the first call: the inverse of 2 -/
theorem two (w : World) : Calls Try.prog 5 #[.int .i64 2] w fun e w' => e = .returned (.tuple #[.int .i64 129, .nilIface]) ∧ w' = w := by
  have := Md.invOk 2 w (by decide) (by decide)
  rwa [M.invI_two] at this

set_option maxRecDepth 100000 in
theorem bad (a b c n m : Int) (w : World) (h : ¬ Md.Two a b) : Calls Try.prog 3 #[.int .i64 a, .int .i64 b, .int .i64 c, .int .i64 n, .int .i64 m] w fun e w' => e = .returned (.bool true) ∧ w' = w := by
  have h' : ¬ Md.Two b a := fun g => h ⟨g.2, g.1⟩
  have H := Md.hide h
  have H' := Md.hide h'
  clear h h'
  go_enter Try.func3, Try.ntmps3
  go_wp2_with fail
  refine (two _).mono ?_
  rintro e w' ⟨rfl, rfl⟩
  go_wp2_with fail
  refine (Md.timesBad a b _ H.out).mono ?_
  rintro e w' ⟨rfl, rfl⟩
  go_wp2_with fail
  refine (Md.timesBad b a _ H'.out).mono ?_
  rintro e w' ⟨rfl, rfl⟩
  go_wp2_with fail
  go_ret
  exact ⟨rfl, rfl⟩

/-- what the law asks of the program, where both numbers are such -/
structure Asks (a b c n m ab bc ac sp i px py pz : Int) (inv sum pows : Bool) : Prop where
  t1 : ∀ w, Calls Try.prog 6 #[.int .i64 a, .int .i64 b] w fun e w' => e = .returned (.tuple #[.int .i64 ab, .nilIface]) ∧ w' = w
  t2 : ∀ w, Calls Try.prog 6 #[.int .i64 b, .int .i64 a] w fun e w' => e = .returned (.tuple #[.int .i64 ab, .nilIface]) ∧ w' = w
  i1 : inv = true → ∀ w, Calls Try.prog 5 #[.int .i64 a] w fun e w' => e = .returned (.tuple #[.int .i64 i, .nilIface]) ∧ w' = w
  i0 : inv = false → ∀ w, Calls Try.prog 5 #[.int .i64 a] w fun e w' => e = .returned (.tuple #[.int .i64 0, .iface 31 (.int .i64 5)]) ∧ w' = w
  t3 : inv = true → ∀ w, Calls Try.prog 6 #[.int .i64 a, .int .i64 i] w fun e w' => e = .returned (.tuple #[.int .i64 1, .nilIface]) ∧ w' = w
  p1 : ∀ w, Calls Try.prog 7 #[.int .i64 a, .int .i64 257, .int .i64 257] w fun e w' => e = .returned (.tuple #[.int .i64 a, .nilIface]) ∧ w' = w
  s1 : sum = true → ∀ w, Calls Try.prog 8 #[.int .i64 b, .int .i64 c] w fun e w' => e = .returned (.tuple #[.int .i64 bc, .nilIface]) ∧ w' = w
  s0 : sum = false → ∀ w, Calls Try.prog 8 #[.int .i64 b, .int .i64 c] w fun e w' => e = .returned (.tuple #[.int .i64 0, .iface 31 (.int .i64 1)]) ∧ w' = w
  t4 : sum = true → ∀ w, Calls Try.prog 6 #[.int .i64 a, .int .i64 c] w fun e w' => e = .returned (.tuple #[.int .i64 ac, .nilIface]) ∧ w' = w
  t5 : sum = true → ∀ w, Calls Try.prog 6 #[.int .i64 a, .int .i64 bc] w fun e w' => e = .returned (.tuple #[.int .i64 sp, .nilIface]) ∧ w' = w
  s2 : sum = true → ∀ w, Calls Try.prog 8 #[.int .i64 ab, .int .i64 ac] w fun e w' => e = .returned (.tuple #[.int .i64 sp, .nilIface]) ∧ w' = w
  p2 : pows = true → ∀ w, Calls Try.prog 7 #[.int .i64 a, .int .i64 n, .int .i64 257] w fun e w' => e = .returned (.tuple #[.int .i64 px, .nilIface]) ∧ w' = w
  p3 : pows = true → ∀ w, Calls Try.prog 7 #[.int .i64 a, .int .i64 m, .int .i64 257] w fun e w' => e = .returned (.tuple #[.int .i64 py, .nilIface]) ∧ w' = w
  p4 : pows = true → ∀ w, Calls Try.prog 7 #[.int .i64 a, .int .i64 (n + m), .int .i64 257] w fun e w' => e = .returned (.tuple #[.int .i64 pz, .nilIface]) ∧ w' = w
  t6 : pows = true → ∀ w, Calls Try.prog 6 #[.int .i64 px, .int .i64 py] w fun e w' => e = .returned (.tuple #[.int .i64 pz, .nilIface]) ∧ w' = w

theorem md_range (x : Int) : 0 ≤ x % 257 ∧ x % 257 < 257 := by omega

theorem asks (a b c n m : Int) (h : Md.Two a b) (inv sum pows : Bool) (hi : inv = decide (0 < a)) (hs : sum = decide (0 ≤ c ∧ c < 257)) (hp : pows = decide (0 ≤ n ∧ n ≤ 500000 ∧ 0 ≤ m ∧ m ≤ 500000)) :
    Asks a b c n m (a * b % 257) ((b + c) % 257) (a * c % 257) (a * ((b + c) % 257) % 257) (M.invI a) (M.pwI a n 257) (M.pwI a m 257) (M.pwI a (n + m) 257) inv sum pows := by
  obtain ⟨⟨h0, h1⟩, h2, h3⟩ := h
  have cs : sum = true → 0 ≤ c ∧ c < 257 := fun e => by rw [e] at hs; simpa using hs.symm
  have ps : pows = true → 0 ≤ n ∧ n ≤ 500000 ∧ 0 ≤ m ∧ m ≤ 500000 := fun e => by rw [e] at hp; simpa using hp.symm
  have is : inv = true → 0 < a := fun e => by rw [e] at hi; simpa using hi.symm
  exact
  { t1 := fun w => Md.timesOk a b w ⟨⟨h0, h1⟩, h2, h3⟩
    t2 := fun w => by rw [Int.mul_comm a b]; exact Md.timesOk b a w ⟨⟨h2, h3⟩, h0, h1⟩
    i1 := fun e w => Md.invOk a w (is e) h1
    i0 := fun e w => by
      have : a = 0 := by rw [e] at hi; have := of_decide_eq_false hi.symm; omega
      subst this; exact Md.invNone w
    t3 := fun e w => by
      have := Md.timesOk a (M.invI a) w ⟨⟨h0, h1⟩, M.invI_range a⟩
      rwa [M.invI_is (is e) h1] at this
    p1 := fun w => by
      have := Md.powOk a 257 257 w ⟨by decide, by decide, h0, h1, by decide, by decide⟩
      rwa [M.pwI_fermat h0 h1] at this
    s1 := fun e w => Md.addOk b c w ⟨⟨h2, h3⟩, cs e⟩
    s0 := fun e w => Md.addBad b c w fun g => by rw [e] at hs; exact (of_decide_eq_false hs.symm) g.2
    t4 := fun e w => Md.timesOk a c w ⟨⟨h0, h1⟩, cs e⟩
    t5 := fun _ w => Md.timesOk a _ w ⟨⟨h0, h1⟩, md_range _⟩
    s2 := fun _ w => by rw [M.spreadI]; exact Md.addOk _ _ w ⟨md_range _, md_range _⟩
    p2 := fun e w => Md.powOk a n 257 w ⟨by decide, by decide, h0, h1, (ps e).1, by have := ps e; omega⟩
    p3 := fun e w => Md.powOk a m 257 w ⟨by decide, by decide, h0, h1, (ps e).2.2.1, by have := ps e; omega⟩
    p4 := fun e w => Md.powOk a (n + m) 257 w ⟨by decide, by decide, h0, h1, by have := ps e; omega, by have := ps e; omega⟩
    t6 := fun e w => by
      rw [← M.pwI_add a (ps e).1 (ps e).2.2.1]
      exact Md.timesOk _ _ w ⟨M.pwI_range _ _ (by decide), M.pwI_range _ _ (by decide)⟩ }

theorem no_pows {n m : Int} (h : ¬ (0 ≤ n ∧ n ≤ 500000 ∧ 0 ≤ m ∧ m ≤ 500000)) : n < 0 ∨ (¬ n < 0 ∧ m < 0) ∨ (¬ n < 0 ∧ ¬ m < 0 ∧ 500000 < n) ∨ (¬ n < 0 ∧ ¬ m < 0 ∧ ¬ 500000 < n ∧ 500000 < m) := by omega
set_option maxRecDepth 100000 in
set_option maxHeartbeats 1000000 in
theorem wayttt (a b c n m ab bc ac sp i px py pz : Int) (w : World) (h : Asks a b c n m ab bc ac sp i px py pz true true true) (hn : 0 ≤ n) (hn1 : n ≤ 500000) (hm : 0 ≤ m) (hm1 : m ≤ 500000) : Calls Try.prog 3 #[.int .i64 a, .int .i64 b, .int .i64 c, .int .i64 n, .int .i64 m] w fun e w' => e = .returned (.bool true) ∧ w' = w := by
  have H := Md.hide h
  clear h
  go_enter Try.func3, Try.ntmps3
  go_wp2_with fail
  refine (two _).mono ?_
  rintro e w' ⟨rfl, rfl⟩
  go_wp2_with fail
  refine (H.out.t1 _).mono ?_
  rintro e w' ⟨rfl, rfl⟩
  go_wp2_with fail
  refine (H.out.t2 _).mono ?_
  rintro e w' ⟨rfl, rfl⟩
  go_wp2_with fail
  refine (H.out.i1 rfl _).mono ?_
  rintro e w' ⟨rfl, rfl⟩
  go_wp2_with fail
  refine (H.out.t3 rfl _).mono ?_
  rintro e w' ⟨rfl, rfl⟩
  go_wp2_with fail
  refine (H.out.p1 _).mono ?_
  rintro e w' ⟨rfl, rfl⟩
  go_wp2_with fail
  refine (H.out.s1 rfl _).mono ?_
  rintro e w' ⟨rfl, rfl⟩
  go_wp2_with fail
  refine (H.out.t4 rfl _).mono ?_
  rintro e w' ⟨rfl, rfl⟩
  go_wp2_with fail
  refine (H.out.t5 rfl _).mono ?_
  rintro e w' ⟨rfl, rfl⟩
  go_wp2_with fail
  refine (H.out.s2 rfl _).mono ?_
  rintro e w' ⟨rfl, rfl⟩
  go_wp2_with fail
  refine (H.out.p2 rfl _).mono ?_
  rintro e w' ⟨rfl, rfl⟩
  go_wp2_with fail
  refine (H.out.p3 rfl _).mono ?_
  rintro e w' ⟨rfl, rfl⟩
  go_wp2_with fail
  refine (H.out.p4 rfl _).mono ?_
  rintro e w' ⟨rfl, rfl⟩
  go_wp2_with fail
  refine (H.out.t6 rfl _).mono ?_
  rintro e w' ⟨rfl, rfl⟩
  go_wp2_with fail
  go_ret
  exact ⟨by simp, rfl⟩

set_option maxRecDepth 100000 in
set_option maxHeartbeats 1000000 in
theorem wayttf (a b c n m ab bc ac sp i px py pz : Int) (w : World) (h : Asks a b c n m ab bc ac sp i px py pz true true false) (hno : n < 0 ∨ (¬ n < 0 ∧ m < 0) ∨ (¬ n < 0 ∧ ¬ m < 0 ∧ 500000 < n) ∨ (¬ n < 0 ∧ ¬ m < 0 ∧ ¬ 500000 < n ∧ 500000 < m)) : Calls Try.prog 3 #[.int .i64 a, .int .i64 b, .int .i64 c, .int .i64 n, .int .i64 m] w fun e w' => e = .returned (.bool true) ∧ w' = w := by
  have H := Md.hide h
  clear h
  rcases hno with g | ⟨g, g1⟩ | ⟨g, g1, g2⟩ | ⟨g, g1, g2, g3⟩
  all_goals
    go_enter Try.func3, Try.ntmps3
    go_wp2_with fail
    refine (two _).mono ?_
    rintro e w' ⟨rfl, rfl⟩
    go_wp2_with fail
    refine (H.out.t1 _).mono ?_
    rintro e w' ⟨rfl, rfl⟩
    go_wp2_with fail
    refine (H.out.t2 _).mono ?_
    rintro e w' ⟨rfl, rfl⟩
    go_wp2_with fail
    refine (H.out.i1 rfl _).mono ?_
    rintro e w' ⟨rfl, rfl⟩
    go_wp2_with fail
    refine (H.out.t3 rfl _).mono ?_
    rintro e w' ⟨rfl, rfl⟩
    go_wp2_with fail
    refine (H.out.p1 _).mono ?_
    rintro e w' ⟨rfl, rfl⟩
    go_wp2_with fail
    refine (H.out.s1 rfl _).mono ?_
    rintro e w' ⟨rfl, rfl⟩
    go_wp2_with fail
    refine (H.out.t4 rfl _).mono ?_
    rintro e w' ⟨rfl, rfl⟩
    go_wp2_with fail
    refine (H.out.t5 rfl _).mono ?_
    rintro e w' ⟨rfl, rfl⟩
    go_wp2_with fail
    refine (H.out.s2 rfl _).mono ?_
    rintro e w' ⟨rfl, rfl⟩
    go_wp2_with fail
    go_ret
    exact ⟨by simp, rfl⟩

set_option maxRecDepth 100000 in
set_option maxHeartbeats 1000000 in
theorem waytft (a b c n m ab bc ac sp i px py pz : Int) (w : World) (h : Asks a b c n m ab bc ac sp i px py pz true false true) (hn : 0 ≤ n) (hn1 : n ≤ 500000) (hm : 0 ≤ m) (hm1 : m ≤ 500000) : Calls Try.prog 3 #[.int .i64 a, .int .i64 b, .int .i64 c, .int .i64 n, .int .i64 m] w fun e w' => e = .returned (.bool true) ∧ w' = w := by
  have H := Md.hide h
  clear h
  go_enter Try.func3, Try.ntmps3
  go_wp2_with fail
  refine (two _).mono ?_
  rintro e w' ⟨rfl, rfl⟩
  go_wp2_with fail
  refine (H.out.t1 _).mono ?_
  rintro e w' ⟨rfl, rfl⟩
  go_wp2_with fail
  refine (H.out.t2 _).mono ?_
  rintro e w' ⟨rfl, rfl⟩
  go_wp2_with fail
  refine (H.out.i1 rfl _).mono ?_
  rintro e w' ⟨rfl, rfl⟩
  go_wp2_with fail
  refine (H.out.t3 rfl _).mono ?_
  rintro e w' ⟨rfl, rfl⟩
  go_wp2_with fail
  refine (H.out.p1 _).mono ?_
  rintro e w' ⟨rfl, rfl⟩
  go_wp2_with fail
  refine (H.out.s0 rfl _).mono ?_
  rintro e w' ⟨rfl, rfl⟩
  go_wp2_with fail
  refine (H.out.p2 rfl _).mono ?_
  rintro e w' ⟨rfl, rfl⟩
  go_wp2_with fail
  refine (H.out.p3 rfl _).mono ?_
  rintro e w' ⟨rfl, rfl⟩
  go_wp2_with fail
  refine (H.out.p4 rfl _).mono ?_
  rintro e w' ⟨rfl, rfl⟩
  go_wp2_with fail
  refine (H.out.t6 rfl _).mono ?_
  rintro e w' ⟨rfl, rfl⟩
  go_wp2_with fail
  go_ret
  exact ⟨by simp, rfl⟩

set_option maxRecDepth 100000 in
set_option maxHeartbeats 1000000 in
theorem waytff (a b c n m ab bc ac sp i px py pz : Int) (w : World) (h : Asks a b c n m ab bc ac sp i px py pz true false false) (hno : n < 0 ∨ (¬ n < 0 ∧ m < 0) ∨ (¬ n < 0 ∧ ¬ m < 0 ∧ 500000 < n) ∨ (¬ n < 0 ∧ ¬ m < 0 ∧ ¬ 500000 < n ∧ 500000 < m)) : Calls Try.prog 3 #[.int .i64 a, .int .i64 b, .int .i64 c, .int .i64 n, .int .i64 m] w fun e w' => e = .returned (.bool true) ∧ w' = w := by
  have H := Md.hide h
  clear h
  rcases hno with g | ⟨g, g1⟩ | ⟨g, g1, g2⟩ | ⟨g, g1, g2, g3⟩
  all_goals
    go_enter Try.func3, Try.ntmps3
    go_wp2_with fail
    refine (two _).mono ?_
    rintro e w' ⟨rfl, rfl⟩
    go_wp2_with fail
    refine (H.out.t1 _).mono ?_
    rintro e w' ⟨rfl, rfl⟩
    go_wp2_with fail
    refine (H.out.t2 _).mono ?_
    rintro e w' ⟨rfl, rfl⟩
    go_wp2_with fail
    refine (H.out.i1 rfl _).mono ?_
    rintro e w' ⟨rfl, rfl⟩
    go_wp2_with fail
    refine (H.out.t3 rfl _).mono ?_
    rintro e w' ⟨rfl, rfl⟩
    go_wp2_with fail
    refine (H.out.p1 _).mono ?_
    rintro e w' ⟨rfl, rfl⟩
    go_wp2_with fail
    refine (H.out.s0 rfl _).mono ?_
    rintro e w' ⟨rfl, rfl⟩
    go_wp2_with fail
    go_ret
    exact ⟨by simp, rfl⟩

set_option maxRecDepth 100000 in
set_option maxHeartbeats 1000000 in
theorem wayftt (a b c n m ab bc ac sp i px py pz : Int) (w : World) (h : Asks a b c n m ab bc ac sp i px py pz false true true) (hn : 0 ≤ n) (hn1 : n ≤ 500000) (hm : 0 ≤ m) (hm1 : m ≤ 500000) : Calls Try.prog 3 #[.int .i64 a, .int .i64 b, .int .i64 c, .int .i64 n, .int .i64 m] w fun e w' => e = .returned (.bool true) ∧ w' = w := by
  have H := Md.hide h
  clear h
  go_enter Try.func3, Try.ntmps3
  go_wp2_with fail
  refine (two _).mono ?_
  rintro e w' ⟨rfl, rfl⟩
  go_wp2_with fail
  refine (H.out.t1 _).mono ?_
  rintro e w' ⟨rfl, rfl⟩
  go_wp2_with fail
  refine (H.out.t2 _).mono ?_
  rintro e w' ⟨rfl, rfl⟩
  go_wp2_with fail
  refine (H.out.i0 rfl _).mono ?_
  rintro e w' ⟨rfl, rfl⟩
  go_wp2_with fail
  refine (H.out.p1 _).mono ?_
  rintro e w' ⟨rfl, rfl⟩
  go_wp2_with fail
  refine (H.out.s1 rfl _).mono ?_
  rintro e w' ⟨rfl, rfl⟩
  go_wp2_with fail
  refine (H.out.t4 rfl _).mono ?_
  rintro e w' ⟨rfl, rfl⟩
  go_wp2_with fail
  refine (H.out.t5 rfl _).mono ?_
  rintro e w' ⟨rfl, rfl⟩
  go_wp2_with fail
  refine (H.out.s2 rfl _).mono ?_
  rintro e w' ⟨rfl, rfl⟩
  go_wp2_with fail
  refine (H.out.p2 rfl _).mono ?_
  rintro e w' ⟨rfl, rfl⟩
  go_wp2_with fail
  refine (H.out.p3 rfl _).mono ?_
  rintro e w' ⟨rfl, rfl⟩
  go_wp2_with fail
  refine (H.out.p4 rfl _).mono ?_
  rintro e w' ⟨rfl, rfl⟩
  go_wp2_with fail
  refine (H.out.t6 rfl _).mono ?_
  rintro e w' ⟨rfl, rfl⟩
  go_wp2_with fail
  go_ret
  exact ⟨by simp, rfl⟩

set_option maxRecDepth 100000 in
set_option maxHeartbeats 1000000 in
theorem wayftf (a b c n m ab bc ac sp i px py pz : Int) (w : World) (h : Asks a b c n m ab bc ac sp i px py pz false true false) (hno : n < 0 ∨ (¬ n < 0 ∧ m < 0) ∨ (¬ n < 0 ∧ ¬ m < 0 ∧ 500000 < n) ∨ (¬ n < 0 ∧ ¬ m < 0 ∧ ¬ 500000 < n ∧ 500000 < m)) : Calls Try.prog 3 #[.int .i64 a, .int .i64 b, .int .i64 c, .int .i64 n, .int .i64 m] w fun e w' => e = .returned (.bool true) ∧ w' = w := by
  have H := Md.hide h
  clear h
  rcases hno with g | ⟨g, g1⟩ | ⟨g, g1, g2⟩ | ⟨g, g1, g2, g3⟩
  all_goals
    go_enter Try.func3, Try.ntmps3
    go_wp2_with fail
    refine (two _).mono ?_
    rintro e w' ⟨rfl, rfl⟩
    go_wp2_with fail
    refine (H.out.t1 _).mono ?_
    rintro e w' ⟨rfl, rfl⟩
    go_wp2_with fail
    refine (H.out.t2 _).mono ?_
    rintro e w' ⟨rfl, rfl⟩
    go_wp2_with fail
    refine (H.out.i0 rfl _).mono ?_
    rintro e w' ⟨rfl, rfl⟩
    go_wp2_with fail
    refine (H.out.p1 _).mono ?_
    rintro e w' ⟨rfl, rfl⟩
    go_wp2_with fail
    refine (H.out.s1 rfl _).mono ?_
    rintro e w' ⟨rfl, rfl⟩
    go_wp2_with fail
    refine (H.out.t4 rfl _).mono ?_
    rintro e w' ⟨rfl, rfl⟩
    go_wp2_with fail
    refine (H.out.t5 rfl _).mono ?_
    rintro e w' ⟨rfl, rfl⟩
    go_wp2_with fail
    refine (H.out.s2 rfl _).mono ?_
    rintro e w' ⟨rfl, rfl⟩
    go_wp2_with fail
    go_ret
    exact ⟨by simp, rfl⟩

set_option maxRecDepth 100000 in
set_option maxHeartbeats 1000000 in
theorem wayfft (a b c n m ab bc ac sp i px py pz : Int) (w : World) (h : Asks a b c n m ab bc ac sp i px py pz false false true) (hn : 0 ≤ n) (hn1 : n ≤ 500000) (hm : 0 ≤ m) (hm1 : m ≤ 500000) : Calls Try.prog 3 #[.int .i64 a, .int .i64 b, .int .i64 c, .int .i64 n, .int .i64 m] w fun e w' => e = .returned (.bool true) ∧ w' = w := by
  have H := Md.hide h
  clear h
  go_enter Try.func3, Try.ntmps3
  go_wp2_with fail
  refine (two _).mono ?_
  rintro e w' ⟨rfl, rfl⟩
  go_wp2_with fail
  refine (H.out.t1 _).mono ?_
  rintro e w' ⟨rfl, rfl⟩
  go_wp2_with fail
  refine (H.out.t2 _).mono ?_
  rintro e w' ⟨rfl, rfl⟩
  go_wp2_with fail
  refine (H.out.i0 rfl _).mono ?_
  rintro e w' ⟨rfl, rfl⟩
  go_wp2_with fail
  refine (H.out.p1 _).mono ?_
  rintro e w' ⟨rfl, rfl⟩
  go_wp2_with fail
  refine (H.out.s0 rfl _).mono ?_
  rintro e w' ⟨rfl, rfl⟩
  go_wp2_with fail
  refine (H.out.p2 rfl _).mono ?_
  rintro e w' ⟨rfl, rfl⟩
  go_wp2_with fail
  refine (H.out.p3 rfl _).mono ?_
  rintro e w' ⟨rfl, rfl⟩
  go_wp2_with fail
  refine (H.out.p4 rfl _).mono ?_
  rintro e w' ⟨rfl, rfl⟩
  go_wp2_with fail
  refine (H.out.t6 rfl _).mono ?_
  rintro e w' ⟨rfl, rfl⟩
  go_wp2_with fail
  go_ret
  exact ⟨by simp, rfl⟩

set_option maxRecDepth 100000 in
set_option maxHeartbeats 1000000 in
theorem wayfff (a b c n m ab bc ac sp i px py pz : Int) (w : World) (h : Asks a b c n m ab bc ac sp i px py pz false false false) (hno : n < 0 ∨ (¬ n < 0 ∧ m < 0) ∨ (¬ n < 0 ∧ ¬ m < 0 ∧ 500000 < n) ∨ (¬ n < 0 ∧ ¬ m < 0 ∧ ¬ 500000 < n ∧ 500000 < m)) : Calls Try.prog 3 #[.int .i64 a, .int .i64 b, .int .i64 c, .int .i64 n, .int .i64 m] w fun e w' => e = .returned (.bool true) ∧ w' = w := by
  have H := Md.hide h
  clear h
  rcases hno with g | ⟨g, g1⟩ | ⟨g, g1, g2⟩ | ⟨g, g1, g2, g3⟩
  all_goals
    go_enter Try.func3, Try.ntmps3
    go_wp2_with fail
    refine (two _).mono ?_
    rintro e w' ⟨rfl, rfl⟩
    go_wp2_with fail
    refine (H.out.t1 _).mono ?_
    rintro e w' ⟨rfl, rfl⟩
    go_wp2_with fail
    refine (H.out.t2 _).mono ?_
    rintro e w' ⟨rfl, rfl⟩
    go_wp2_with fail
    refine (H.out.i0 rfl _).mono ?_
    rintro e w' ⟨rfl, rfl⟩
    go_wp2_with fail
    refine (H.out.p1 _).mono ?_
    rintro e w' ⟨rfl, rfl⟩
    go_wp2_with fail
    refine (H.out.s0 rfl _).mono ?_
    rintro e w' ⟨rfl, rfl⟩
    go_wp2_with fail
    go_ret
    exact ⟨by simp, rfl⟩

theorem walk (a b c n m : Int) (w : World) : Calls Try.prog 3 #[.int .i64 a, .int .i64 b, .int .i64 c, .int .i64 n, .int .i64 m] w fun e w' => e = .returned (.bool true) ∧ w' = w := by
  by_cases h : Md.Two a b
  · have hA := asks a b c n m h _ _ _ rfl rfl rfl
    by_cases hp : 0 ≤ n ∧ n ≤ 500000 ∧ 0 ≤ m ∧ m ≤ 500000
    · rw [decide_eq_true hp] at hA
      obtain ⟨g0, g1, g2, g3⟩ := hp
      by_cases hi : 0 < a <;> by_cases hs : 0 ≤ c ∧ c < 257
      · rw [decide_eq_true hi, decide_eq_true hs] at hA; exact wayttt _ _ _ _ _ _ _ _ _ _ _ _ _ w hA g0 g1 g2 g3
      · rw [decide_eq_true hi, decide_eq_false hs] at hA; exact waytft _ _ _ _ _ _ _ _ _ _ _ _ _ w hA g0 g1 g2 g3
      · rw [decide_eq_false hi, decide_eq_true hs] at hA; exact wayftt _ _ _ _ _ _ _ _ _ _ _ _ _ w hA g0 g1 g2 g3
      · rw [decide_eq_false hi, decide_eq_false hs] at hA; exact wayfft _ _ _ _ _ _ _ _ _ _ _ _ _ w hA g0 g1 g2 g3
    · rw [decide_eq_false hp] at hA
      have g := no_pows hp
      by_cases hi : 0 < a <;> by_cases hs : 0 ≤ c ∧ c < 257
      · rw [decide_eq_true hi, decide_eq_true hs] at hA; exact wayttf _ _ _ _ _ _ _ _ _ _ _ _ _ w hA g
      · rw [decide_eq_true hi, decide_eq_false hs] at hA; exact waytff _ _ _ _ _ _ _ _ _ _ _ _ _ w hA g
      · rw [decide_eq_false hi, decide_eq_true hs] at hA; exact wayftf _ _ _ _ _ _ _ _ _ _ _ _ _ w hA g
      · rw [decide_eq_false hi, decide_eq_false hs] at hA; exact wayfff _ _ _ _ _ _ _ _ _ _ _ _ _ w hA g
  · exact bad a b c n m w h

end Go.Proofs.Ytlefhfmckimlaad.modField
