/-
  What Check of package proof does, and what it asks: each as one law of its call.
-/
import Derived.Test.YtlefhfmckimlaajGreatDoorJ53A
import Derived.Test.YtlefhfmckimlaajGreatDoorJ52A
import Derived.Test.YtlefhfmckimlaajGreatDoorProofMath
set_option linter.unusedVariables false
namespace Go.Proofs.YtlefhfmckimlaajGreatDoor
open Go.RowKit Go.Shelf

theorem pow64 {n : Int} (h0 : 0 ≤ n) (h1 : n < 257) : Md.Pow 64 n 1543 := ⟨by decide, by decide, by decide, by decide, h0, by omega⟩
theorem powG {c n : Int} (c0 : 1 ≤ c) (c1 : c < 1543) (h0 : 0 ≤ n) (h1 : n < 257) : Md.Pow c n 1543 := ⟨by decide, by decide, by omega, c1, h0, by omega⟩
theorem prodG {a b : Int} (h0 : 0 ≤ a) (h1 : a < 1543) (h2 : 0 ≤ b) (h3 : b < 1543) : 0 ≤ a * b ∧ a * b ≤ 2380849 :=
  ⟨Int.mul_nonneg h0 h2, by have := Int.mul_le_mul (show a ≤ 1543 by omega) (show b ≤ 1543 by omega) h2 (by decide); omega⟩

theorem commitTo (n : Int) (w : World) (h0 : 0 ≤ n) (h1 : n < 257) : Calls Tryz.prog 84 #[.int .i64 n] w fun e w' => e = .returned (.tuple #[.int .i64 (M.gI n), .nilIface]) ∧ w' = w := by
  have HP : Hid (∀ wx, Calls Tryz.prog 118 #[.int .i64 64, .int .i64 n, .int .i64 1543] wx fun e w' => e = .returned (.tuple #[.int .i64 (M.gI n), .nilIface]) ∧ w' = wx) := hide fun wx => Md.powOk 64 n 1543 wx (pow64 h0 h1)
  go_enter Tryz.func84, Tryz.ntmps84
  go_wp2_with fail
  refine (HP.out _).mono ?_
  rintro e w' ⟨rfl, rfl⟩
  go_wp2_with fail
  go_ret2
  exact ⟨rfl, rfl⟩

theorem isCmt (a : Int) (w : World) : Calls Tryz.prog 121 #[.int .i64 a] w fun e w' => e = .returned (.bool (!M.inG a)) ∧ w' = w := by
  cases h : M.inG a
  · rcases M.inG_no h with h1 | h1
    · clear h
      go_enter Tryz.func121, Tryz.ntmps121
      go_wp2
      go_ret
      exact ⟨rfl, rfl⟩
    · clear h
      have h0 : ¬ a < 1 := by omega
      have h2 : 1543 ≤ a := by omega
      clear h1
      go_enter Tryz.func121, Tryz.ntmps121
      go_wp2
      go_ret
      exact ⟨by simp, rfl⟩
  · obtain ⟨h0, h1⟩ := M.inG_yes h
    clear h
    have h2 : ¬ a < 1 := by omega
    clear h0
    go_enter Tryz.func121, Tryz.ntmps121
    go_wp2
    go_ret
    exact ⟨by simp; omega, rfl⟩

/-- one of the numbers is no commit -/
def badC (c : List Int) : Bool := decide (M.first (M.cmtF c) c.length ≠ 0)

theorem findCmt (a : Option Addr) (n cap : Nat) (p : List Int) (w : World) (hn : n = p.length) (h7 : n ≤ 7) (hl : AtI w a p) :
    Calls Tryz.prog 136 #[.slice a n cap, .func (.func 121) #[] #[]] w fun e w' => (∃ r, e = .returned (.int .i64 r) ∧ decide (0 ≤ r) = badC p) ∧ w' = w := by
  have HL := hide hl
  have HN := hide hn
  clear hl hn
  go_enter Tryz.func136, Tryz.ntmps136
  go_wp2
  go_loop [8] (fun i => ∃ k : Nat, k ≤ n ∧ i = .int .i64 k ∧ Hid (M.first (M.cmtF p) k = 0)) (fun i => n - (intOf i).toNat)
  case atStart => exact ⟨0, Nat.zero_le _, rfl, hide rfl⟩
  case round =>
    obtain ⟨k, hk, rfl, hno⟩ := hrel
    by_cases hlt : k < n
    · have hkl : k < p.length := HN.out ▸ hlt
      obtain ⟨b, off, rfl, hlie⟩ := HL.out (by omega)
      have c1 := hlie k hkl
      have HF := hide (M.cmtF_at hkl)
      clear hlie
      generalize hz : p[k] = z at c1 HF
      clear hz
      cases hb : M.inG z
      · have HC : Hid (∀ w, Calls Tryz.prog 121 #[.int .i64 z] w fun e w' => e = .returned (.bool true) ∧ w' = w) := hide fun w => by have := isCmt z w; rwa [hb] at this
        have hfin : Hid (badC p = true) := hide (by
          have h1 := HF.out
          rw [hb] at h1
          unfold badC
          rw [M.first_bad hkl hno.out (by rw [h1]; decide), h1]; rfl)
        clear hb
        go_wp2_with fail
        refine (unhide HC _).mono ?_
        rintro e w1 ⟨rfl, rfl⟩
        go_wp2_with fail
        go_ret
        exact ⟨⟨_, rfl, by rw [hfin.out]; simp⟩, rfl⟩
      · have HC : Hid (∀ w, Calls Tryz.prog 121 #[.int .i64 z] w fun e w' => e = .returned (.bool false) ∧ w' = w) := hide fun w => by have := isCmt z w; rwa [hb] at this
        have HS : Hid (M.first (M.cmtF p) (k + 1) = 0) := hide (by rw [M.first_next hno.out, HF.out, if_pos hb])
        clear hb
        go_wp2_with fail
        refine (unhide HC _).mono ?_
        rintro e w1 ⟨rfl, rfl⟩
        go_wp2_with fail
        go_round
        case rel => exact ⟨k + 1, by omega, by go_num, HS⟩
        case measure => simp [intOf]; omega
    · have hfin : Hid (badC p = false) := hide (by
        have h1 := hno.out
        have h2 := HN.out
        unfold badC
        rw [← h2, show n = k by omega, h1]; rfl)
      go_wp2
      go_ret
      exact ⟨⟨_, rfl, by rw [hfin.out]; decide⟩, rfl⟩

theorem hasCmt (a : Option Addr) (n cap : Nat) (p : List Int) (w : World) (hn : n = p.length) (h7 : n ≤ 7) (hl : AtI w a p) :
    Calls Tryz.prog 114 #[.slice a n cap, .func (.func 121) #[] #[]] w fun e w' => e = .returned (.bool (badC p)) ∧ w' = w := by
  have HI := hide (findCmt a n cap p w hn h7 hl)
  clear hn hl
  go_enter Tryz.func114, Tryz.ntmps114
  go_wp2_with fail
  refine (unhide HI).mono ?_
  rintro e w1 ⟨⟨r, rfl, hr⟩, rfl⟩
  have HR := hide hr
  clear hr
  go_wp2_with fail
  go_ret
  exact ⟨by rw [← HR.out]; rfl, rfl⟩

theorem checkCmt (a : Option Addr) (n cap : Nat) (c : List Int) (w : World) (hn : n = c.length) (hm : n ≤ maxLen) (hl : AtI w a c) :
    Calls Tryz.prog 86 #[.slice a n cap] w fun e w' => e = .returned (errV (M.cmtE c)) ∧ w' = w := by
  unfold maxLen at hm
  by_cases h0 : n = 0
  · rw [M.cmtE_none (by omega)]
    subst h0
    clear hn hl
    go_enter Tryz.func86, Tryz.ntmps86
    go_wp2
    go_ret
    exact ⟨rfl, rfl⟩
  have hz : ¬ (n : Int) = 0 := by omega
  by_cases h7 : 7 < n
  · have h7' : (7 : Int) < n := by omega
    rw [M.cmtE_many (hn ▸ h7)]
    clear hn hl
    go_enter Tryz.func86, Tryz.ntmps86
    go_wp2
    go_ret
    exact ⟨rfl, rfl⟩
  · have h7' : ¬ (7 : Int) < n := by omega
    have hC := hasCmt a n cap c w hn (by omega) hl
    have hc := M.cmt_first c c.length
    rw [M.cmtE_some (by omega) (by omega)]
    generalize hq : M.first (M.cmtF c) c.length = q at hc ⊢
    have hb : badC c = decide (q ≠ 0) := by unfold badC; rw [hq]
    rw [hb] at hC
    clear hb hq hn hl
    by_cases h0 : q = 0
    · subst h0
      have HC : Hid (Calls Tryz.prog 114 #[.slice a n cap, .func (.func 121) #[] #[]] w fun e w' => e = .returned (.bool false) ∧ w' = w) := hide hC
      clear hC hc
      go_enter Tryz.func86, Tryz.ntmps86
      go_wp2_with fail
      refine (unhide HC).mono ?_
      rintro e w1 ⟨rfl, rfl⟩
      go_wp2_with fail
      go_ret
      exact ⟨rfl, rfl⟩
    · rw [decide_eq_true h0] at hC
      have HC := hide hC
      have H1 : Hid (q = 1) := hide (by omega)
      clear hC hc h0
      go_enter Tryz.func86, Tryz.ntmps86
      go_wp2_with fail
      refine (unhide HC).mono ?_
      rintro e w1 ⟨rfl, rfl⟩
      go_wp2_with fail
      go_ret
      exact ⟨by rw [H1.out]; rfl, rfl⟩

set_option maxHeartbeats 1000000 in
theorem product (a : Option Addr) (n cap : Nat) (c : List Int) (x : Int) (w : World) (hn : n = c.length) (hl : AtI w a c) (hc : M.cmtE c = 0) (x0 : 0 ≤ x) (x1 : x < 257) :
    Calls Tryz.prog 87 #[.slice a n cap, .int .i64 x] w fun e w' => e = .returned (.tuple #[.int .i64 (M.mul c x c.length), .nilIface]) ∧ w' = w := by
  obtain ⟨_, h7, hr⟩ := M.cmtE_ok hc
  have hn7 : n ≤ 7 := by omega
  have HL := hide hl
  have HN := hide hn
  have HR := hide hr
  clear hl hn hr hc h7
  go_enter Tryz.func87, Tryz.ntmps87
  go_wp2
  go_loop [6, 7, 14] (fun ss st si => ∃ (k : Nat) (s t : Int), ss = .int .i64 s ∧ st = .int .i64 t ∧ si = .int .i64 k ∧ k ≤ n ∧ (0 ≤ s ∧ s < 1543) ∧ (0 ≤ t ∧ t < 257) ∧ Hid (s = M.mul c x k) ∧ Hid (t = M.upI x k)) (fun _ _ si => n - (intOf si).toNat)
  case atStart => exact ⟨0, 1, 1, rfl, rfl, rfl, Nat.zero_le _, by decide, by decide, hide rfl, hide rfl⟩
  case round =>
    obtain ⟨k, s, t, rfl, rfl, rfl, hk, ⟨s0, s1⟩, ⟨t0, t1⟩, hs, ht⟩ := hrel
    by_cases hlt : k < n
    · have hkl : k < c.length := by have := HN.out; omega
      obtain ⟨b, off, rfl, hlie⟩ := HL.out (by omega)
      have c1 := hlie k hkl
      obtain ⟨z0, z1⟩ := HR.out k hkl
      have HS := hide (M.mul_step x hkl)
      have HT := hide (M.upI_succ x k)
      clear hlie
      generalize c[k] = z at c1 z0 z1 HS
      have HP : Hid (∀ wx, Calls Tryz.prog 118 #[.int .i64 z, .int .i64 t, .int .i64 1543] wx fun e w' => e = .returned (.tuple #[.int .i64 (M.pwI z t 1543), .nilIface]) ∧ w' = wx) := hide fun wx => Md.powOk z t 1543 wx (powG z0 z1 t0 t1)
      obtain ⟨r0, r1⟩ := M.pwI_range z t (b := 1543) (by decide)
      have HZ : Hid (M.mul c x (k + 1) = s * M.pwI z t 1543 % 1543) := hide (by rw [HS.out, hs.out, ht.out])
      generalize M.pwI z t 1543 = r at HP r0 r1 HZ
      obtain ⟨p0, p1⟩ := prodG s0 s1 r0 r1
      obtain ⟨q0, q1⟩ := prod_range t0 t1 x0 x1
      clear z0 z1 HS
      go_wp2_with fail
      refine (HP.out _).mono ?_
      rintro e w1 ⟨rfl, rfl⟩
      go_wp2_with fail
      go_round
      case rel => exact ⟨k + 1, s * r % 1543, t * x % 257, rfl, rfl, by go_num, by omega, by omega, by omega, hide HZ.out.symm, hide (by rw [HT.out, ht.out])⟩
      case measure => simp [intOf]; omega
    · have hfin : Hid (s = M.mul c x c.length) := hide (by rw [hs.out, ← HN.out, show n = k by omega])
      clear hs
      go_wp2
      go_ret2
      exact ⟨by rw [hfin.out]; rfl, rfl⟩

theorem chkCmt (a : Option Addr) (n cap : Nat) (c : List Int) (x y : Int) (w : World) (hn : n = c.length) (hm : n ≤ maxLen) (hl : AtI w a c) (hc : M.cmtE c ≠ 0) :
    Calls Tryz.prog 58 #[.slice a n cap, .agg #[.int .i64 x, .int .i64 y]] w fun e w' => e = .returned (.tuple #[.bool false, .iface 66 (.int .i64 (M.cmtE c))]) ∧ Below w.heap.size w w' := by
  have HC : Hid (∀ w1, Below w.heap.size w w1 → Calls Tryz.prog 86 #[.slice a n cap] w1 fun e w' => e = .returned (.iface 66 (.int .i64 (M.cmtE c))) ∧ w' = w1) := hide fun w1 hb => by
    have := checkCmt a n cap c w1 hn hm (hl.stays hb (Nat.le_refl _))
    rwa [errV_bad hc] at this
  clear hn hm hl hc
  go_enter Tryz.func58, Tryz.ntmps58
  go_wp2_with fail
  refine (unhide HC _ ((Below.refl _ w).alloc (Nat.le_refl _) _)).mono ?_
  rintro e w1 ⟨rfl, rfl⟩
  go_wp2_with fail
  go_ret2
  exact ⟨rfl, (Below.refl _ _).alloc (Nat.le_refl _) _⟩

theorem chkXY (a : Option Addr) (n cap : Nat) (c : List Int) (x y : Int) (w : World) (hn : n = c.length) (hm : n ≤ maxLen) (hl : AtI w a c) (hc : M.cmtE c = 0) (hxy : M.inR x = false ∨ M.inR y = false) :
    Calls Tryz.prog 58 #[.slice a n cap, .agg #[.int .i64 x, .int .i64 y]] w fun e w' => e = .returned (.tuple #[.bool false, .iface 66 (.int .i64 1)]) ∧ Below w.heap.size w w' := by
  have HC : Hid (∀ w1, Below w.heap.size w w1 → Calls Tryz.prog 86 #[.slice a n cap] w1 fun e w' => e = .returned .nilIface ∧ w' = w1) := hide fun w1 hb => by
    have := checkCmt a n cap c w1 hn hm (hl.stays hb (Nat.le_refl _))
    rwa [hc] at this
  have HY : Hid (∀ wx, M.inR y = false → Calls Tryz.prog 30 #[.int .i64 y] wx fun e w' => e = .returned (.bool false) ∧ w' = wx) := hide fun wx h => Md.isNo y wx (M.inR_no h)
  cases hx : M.inR x
  · have HX : Hid (∀ wx, Calls Tryz.prog 30 #[.int .i64 x] wx fun e w' => e = .returned (.bool false) ∧ w' = wx) := hide fun wx => Md.isNo x wx (M.inR_no hx)
    clear hn hm hl hc hxy hx HY
    go_enter Tryz.func58, Tryz.ntmps58
    go_wp2_with fail
    refine (unhide HC _ ((Below.refl _ w).alloc (Nat.le_refl _) _)).mono ?_
    rintro e w1 ⟨rfl, hw⟩
    obtain rfl := hw.symm
    go_wp2_with fail
    refine (HX.out _).mono ?_
    rintro e w1 ⟨rfl, hw⟩
    obtain rfl := hw.symm
    go_wp2_with fail
    go_ret2
    exact ⟨rfl, (Below.refl _ _).alloc (Nat.le_refl _) _⟩
  · have hy : M.inR y = false := by rcases hxy with h | h; (· rw [hx] at h; cases h); exact h
    have HX : Hid (∀ wx, Calls Tryz.prog 30 #[.int .i64 x] wx fun e w' => e = .returned (.bool true) ∧ w' = wx) := hide fun wx => Md.isYes x wx (M.inR_yes hx).1 (M.inR_yes hx).2
    have HY' : Hid (∀ wx, Calls Tryz.prog 30 #[.int .i64 y] wx fun e w' => e = .returned (.bool false) ∧ w' = wx) := hide fun wx => HY.out wx hy
    clear hn hm hl hc hxy hx HY hy
    go_enter Tryz.func58, Tryz.ntmps58
    go_wp2_with fail
    refine (unhide HC _ ((Below.refl _ w).alloc (Nat.le_refl _) _)).mono ?_
    rintro e w1 ⟨rfl, hw⟩
    obtain rfl := hw.symm
    go_wp2_with fail
    refine (HX.out _).mono ?_
    rintro e w1 ⟨rfl, hw⟩
    obtain rfl := hw.symm
    go_wp2_with fail
    refine (HY'.out _).mono ?_
    rintro e w1 ⟨rfl, hw⟩
    obtain rfl := hw.symm
    go_wp2_with fail
    go_ret2
    exact ⟨rfl, (Below.refl _ _).alloc (Nat.le_refl _) _⟩

theorem chkOk (a : Option Addr) (n cap : Nat) (c : List Int) (x y : Int) (w : World) (hn : n = c.length) (hm : n ≤ maxLen) (hl : AtI w a c) (hc : M.cmtE c = 0) (hx : M.inR x = true) (hy : M.inR y = true) :
    Calls Tryz.prog 58 #[.slice a n cap, .agg #[.int .i64 x, .int .i64 y]] w fun e w' => e = .returned (.tuple #[.bool (M.trueB c x y), .nilIface]) ∧ Below w.heap.size w w' := by
  obtain ⟨x0, x1⟩ := M.inR_yes hx
  obtain ⟨y0, y1⟩ := M.inR_yes hy
  have HC : Hid (∀ w1, Below w.heap.size w w1 → Calls Tryz.prog 86 #[.slice a n cap] w1 fun e w' => e = .returned .nilIface ∧ w' = w1) := hide fun w1 hb => by
    have := checkCmt a n cap c w1 hn hm (hl.stays hb (Nat.le_refl _))
    rwa [hc] at this
  have HX : Hid (∀ wx, Calls Tryz.prog 30 #[.int .i64 x] wx fun e w' => e = .returned (.bool true) ∧ w' = wx) := hide fun wx => Md.isYes x wx x0 x1
  have HY : Hid (∀ wx, Calls Tryz.prog 30 #[.int .i64 y] wx fun e w' => e = .returned (.bool true) ∧ w' = wx) := hide fun wx => Md.isYes y wx y0 y1
  have HG : Hid (∀ wx, Calls Tryz.prog 84 #[.int .i64 y] wx fun e w' => e = .returned (.tuple #[.int .i64 (M.gI y), .nilIface]) ∧ w' = wx) := hide fun wx => commitTo y wx y0 y1
  have HM : Hid (∀ w1, Below w.heap.size w w1 → Calls Tryz.prog 87 #[.slice a n cap, .int .i64 x] w1 fun e w' => e = .returned (.tuple #[.int .i64 (M.mul c x c.length), .nilIface]) ∧ w' = w1) := hide fun w1 hb => product a n cap c x w1 hn (hl.stays hb (Nat.le_refl _)) hc x0 x1
  have HT : Hid (M.trueB c x y = (M.gI y == M.mul c x c.length)) := hide (by unfold M.trueB; exact Bool.beq_comm)
  clear hn hm hl hc hx hy x0 x1 y0 y1
  generalize M.trueB c x y = T at HT ⊢
  generalize M.gI y = g at HG HT
  generalize M.mul c x c.length = m at HM HT
  go_enter Tryz.func58, Tryz.ntmps58
  go_wp2_with fail
  refine (unhide HC _ ((Below.refl _ w).alloc (Nat.le_refl _) _)).mono ?_
  rintro e w1 ⟨rfl, hw⟩
  obtain rfl := hw.symm
  go_wp2_with fail
  refine (HX.out _).mono ?_
  rintro e w1 ⟨rfl, hw⟩
  obtain rfl := hw.symm
  go_wp2_with fail
  refine (HY.out _).mono ?_
  rintro e w1 ⟨rfl, hw⟩
  obtain rfl := hw.symm
  go_wp2_with fail
  refine (HG.out _).mono ?_
  rintro e w1 ⟨rfl, hw⟩
  obtain rfl := hw.symm
  go_wp2_with fail
  refine (HM.out _ ((Below.refl _ w).alloc (Nat.le_refl _) _)).mono ?_
  rintro e w1 ⟨rfl, hw⟩
  obtain rfl := hw.symm
  go_wp2_with fail
  go_ret2
  exact ⟨by rw [HT.out]; rfl, (Below.refl _ _).alloc (Nat.le_refl _) _⟩

/-- Check, whatever comes in -/
theorem pCheck (a : Option Addr) (n cap : Nat) (c : List Int) (x y : Int) (w : World) (hn : n = c.length) (hm : n ≤ maxLen) (hl : AtI w a c) :
    Calls Tryz.prog 58 #[.slice a n cap, .agg #[.int .i64 x, .int .i64 y]] w fun e w' => e = .returned (.tuple #[.bool (M.chkR c x y), errV (M.chkE c x y)]) ∧ Below w.heap.size w w' := by
  by_cases hc : M.cmtE c = 0
  · by_cases hxy : M.inR x = true ∧ M.inR y = true
    · have h := M.chkE_0 hc hxy.1 hxy.2
      rw [M.chkR_ok h, h]
      exact chkOk a n cap c x y w hn hm hl hc hxy.1 hxy.2
    · have hb : M.inR x = false ∨ M.inR y = false := by
        cases h1 : M.inR x
        · exact Or.inl rfl
        · cases h2 : M.inR y
          · exact Or.inr rfl
          · exact absurd ⟨h1, h2⟩ hxy
      have h := M.chkE_xy hc hb
      rw [M.chkR_bad (by rw [h]; decide), h]
      exact chkXY a n cap c x y w hn hm hl hc hb
  · have h := M.chkE_cmt (x := x) (y := y) hc
    rw [M.chkR_bad (by rw [h]; exact hc), h, errV_bad hc]
    exact chkCmt a n cap c x y w hn hm hl hc

end Go.Proofs.YtlefhfmckimlaajGreatDoor
