/-
  The walk of the Go function ValueBack: it returns true, whatever the three values and the text, if the library's table of powers of ten reads as its text lays it.
-/
import Derived.Test.YtlefhfmckimlaaaDoorBackMath
import Derived.Test.YtlefhfmckimlaaaDoorSame
import Derived.Deep.DeepCutAuto
import Derived.Outline
set_option linter.unusedSimpArgs false
namespace Go.Proofs.YtlefhfmckimlaaaDoor
open Go.RowKit

theorem parseOk (s : ByteArray) (w : World) (hs : s.size ≤ maxLen) (h : M.pErr s = 0) :
    Calls Tryd.prog 15 #[.string s] w fun e w' => e = .returned (.tuple #[.agg #[.int .i64 (M.pK s), .int .i64 (M.pN s), .string (M.pS s)], .nilIface]) ∧ Below w.heap.size w w' := by
  have := parse s w hs; rwa [h] at this
theorem parseBad (s : ByteArray) (w : World) (hs : s.size ≤ maxLen) (h : M.pErr s ≠ 0) :
    Calls Tryd.prog 15 #[.string s] w fun e w' => e = .returned (.tuple #[.agg #[.int .i64 (M.pK s), .int .i64 (M.pN s), .string (M.pS s)], .iface 50 (.int .i64 (M.pErr s))]) ∧ Below w.heap.size w w' := by
  have := parse s w hs; rwa [errV_bad h] at this

theorem err12 : M.pErr ⟨#[45, 49, 50]⟩ = 0 := by unfold M.pErr; rw [ByteArray.toList_eq]; decide
theorem fact12 (w : World) : Calls Tryd.prog 15 #[.string ⟨#[45, 49, 50]⟩] w fun e w' => e = .returned (.tuple #[.agg #[.int .i64 0, .int .i64 (-12), .string ⟨#[]⟩], .nilIface]) ∧ Below w.heap.size w w' := by
  have ek : M.pK ⟨#[45, 49, 50]⟩ = 0 := by unfold M.pK; rw [err12, ByteArray.toList_eq]; decide
  have en : M.pN ⟨#[45, 49, 50]⟩ = -12 := by unfold M.pN; rw [err12, ByteArray.toList_eq]; decide
  have es : M.pS ⟨#[45, 49, 50]⟩ = ⟨#[]⟩ := by unfold M.pS; rw [err12, ByteArray.toList_eq]; rfl
  have := parseOk ⟨#[45, 49, 50]⟩ w (by decide) err12
  rwa [ek, en, es] at this

theorem errEq (e : Int) (w : World) : (binOp .eql 27 (errV e) .nilIface).run Tryd.prog w = .ok (.bool (e == 0)) w := by
  unfold errV
  by_cases h : e = 0
  · subst h; rw [if_pos rfl]; exact run_eql_nil_nil _ _ (by kernel_rfl)
  · rw [if_neg h, run_eql_held_nil _ _ _ _ (by kernel_rfl)]; simp [h]
theorem errNe (e : Int) (w : World) : (binOp .neq 27 (errV e) .nilIface).run Tryd.prog w = .ok (.bool (e != 0)) w := by
  unfold errV
  by_cases h : e = 0
  · subst h; rw [if_pos rfl]; exact run_neq_nil_nil _ _ (by kernel_rfl)
  · rw [if_neg h, run_neq_held_nil _ _ _ _ (by kernel_rfl)]; simp [h]

theorem errGuard (op : BinOp) (x : Operand) (c : Value) (e : Int) (w : World) : (eqGuard op 27 x (.const c) (errV e) .nilIface).run Tryd.prog w = .ok () w := by
  unfold errV
  by_cases h : e = 0
  · rw [if_pos h]; cases op <;> simp [eqGuard]
  · rw [if_neg h]; cases op <;> simp [eqGuard]
attribute [local go_sem] errEq errNe errGuard same_self
attribute [local go_sem ↓] sameEq sameNe

/-- the world behind the three boxes -/
abbrev W3 (k1 n1 k2 n2 k3 n3 : Int) (s1 s2 s3 : ByteArray) (w : World) : World := ((w.alloc (.cells #[.int .i64 k1, .int .i64 n1, .string s1] 23)).alloc (.cells #[.int .i64 k2, .int .i64 n2, .string s2] 23)).alloc (.cells #[.int .i64 k3, .int .i64 n3, .string s3] 23)

theorem W3_below (k1 n1 k2 n2 k3 n3 : Int) (s1 s2 s3 : ByteArray) (w : World) : Below w.heap.size w (W3 k1 n1 k2 n2 k3 n3 s1 s2 s3 w) := (((Below.refl _ _).alloc (Nat.le_refl _) _).alloc (by simp) _).alloc (by simp; omega) _
theorem W3_size (k1 n1 k2 n2 k3 n3 : Int) (s1 s2 s3 : ByteArray) (w : World) : (W3 k1 n1 k2 n2 k3 n3 s1 s2 s3 w).heap.size = w.heap.size + 1 + 1 + 1 := by simp

theorem fault_size {k n : Int} {x : ByteArray} (h : M.fault k n x = 0) : x.size ≤ maxLen := by
  unfold maxLen
  rcases fault_kind h with rfl | rfl | rfl
  · have := fault_num h; omega
  · have := fault_text h; omega
  · have := fault_star h; omega

/-- a value as text, or nothing -/
def M.wordE (k n : Int) (s : ByteArray) : ByteArray := if M.fault k n s = 0 then M.word k n s else ⟨#[]⟩
theorem print (k n : Int) (s : ByteArray) (w : World) (hs : s.size ≤ maxLen) (ht : Tab w) :
    Calls Tryd.prog 10 #[.agg #[.int .i64 k, .int .i64 n, .string s]] w fun e w' => e = .returned (.tuple #[.string (M.wordE k n s), errV (M.fault k n s)]) ∧ Below w.heap.size w w' := by
  unfold M.wordE
  by_cases h : M.fault k n s = 0
  · rw [if_pos h, h]; exact printOk k n s w hs h ht
  · rw [if_neg h, errV_bad h]; exact printBad k n s w hs h
theorem word_size {k n : Int} {s : ByteArray} (h : M.fault k n s = 0) : (M.word k n s).size ≤ maxLen := by
  unfold maxLen
  rcases fault_kind h with rfl | rfl | rfl
  · obtain ⟨h1, h2, _⟩ := fault_num h
    obtain ⟨i1, i2⟩ := M.num_itoa n h1 h2
    obtain ⟨j1, j2, _⟩ := M.isNum_parts i1
    have e : (M.word 0 n s).size = (Lib.itoa n).length := by show (Lib.itoa n).toArray.size = _; simp
    have : (Lib.itoa n).length ≤ 8 := by
      unfold M.digs at j2
      split at j2
      · simp at j2; omega
      · omega
    omega
  · obtain ⟨_, h2, _⟩ := fault_text h
    have e : (M.word 1 n s).size = 1 + s.size := by show ((⟨#[58]⟩ : ByteArray) ++ s).size = _; rw [ByteArray.size_append]; rfl
    omega
  · have e : (M.word 2 n s).size = 1 := rfl
    omega

theorem orderAt (k1 n1 : Int) (s1 : ByteArray) (k2 n2 : Int) (s2 : ByteArray) (w : World) (hs1 : s1.size ≤ maxLen) (hs2 : s2.size ≤ maxLen) (h1 : M.fault k1 n1 s1 = 0) (h2 : M.fault k2 n2 s2 = 0) :
    Calls Tryd.prog 12 #[.agg #[.int .i64 k1, .int .i64 n1, .string s1], .agg #[.int .i64 k2, .int .i64 n2, .string s2]] w fun e w' => e = .returned (.tuple #[.int .i64 (M.ord k1 n1 s1 k2 n2 s2), .nilIface]) ∧ Below w.heap.size w w' :=
  orderOk k1 n1 s1 k2 n2 s2 w hs1 hs2 (by unfold M.both; rw [if_pos h1]; exact h2)

theorem same_ord (k1 n1 : Int) (s1 : ByteArray) (k2 n2 : Int) (s2 : ByteArray) : M.same k1 n1 s1 k2 n2 s2 = (M.ord k1 n1 s1 k2 n2 s2 == 0) := by
  by_cases h : M.ord k1 n1 s1 k2 n2 s2 = 0
  · obtain ⟨rfl, rfl, e⟩ := M.ord_zero _ _ _ _ _ _ h
    rw [h]; simp [M.same, e]
  · have : (M.ord k1 n1 s1 k2 n2 s2 == 0) = false := by simpa using h
    rw [this, Bool.eq_false_iff]
    intro hs
    simp only [M.same, Bool.and_eq_true, beq_iff_eq] at hs
    obtain ⟨⟨rfl, rfl⟩, e⟩ := hs
    exact h (M.ord_same _ _ _ _ e)

set_option maxHeartbeats 1000000 in
set_option maxRecDepth 100000 in
theorem walk0 (k1 n1 k2 n2 k3 n3 : Int) (s1 s2 s3 s : ByteArray) (w : World) (hs1 : s1.size ≤ maxLen) (hs2 : s2.size ≤ maxLen) (hs3 : s3.size ≤ maxLen) (hs : s.size ≤ maxLen) (ht : Tab w) :
    Calls Tryd.prog 4 #[.agg #[.int .i64 k1, .int .i64 n1, .string s1], .agg #[.int .i64 k2, .int .i64 n2, .string s2], .agg #[.int .i64 k3, .int .i64 n3, .string s3], .string s] w fun e w' => e = .returned (.bool true) ∧ Below w.heap.size w w' := by
  have HT : Hid (∀ W, Below (W3 k1 n1 k2 n2 k3 n3 s1 s2 s3 w).heap.size (W3 k1 n1 k2 n2 k3 n3 s1 s2 s3 w) W → Tab W ∧ Below w.heap.size w W) := fun W h => by
    have hb := (W3_below k1 n1 k2 n2 k3 n3 s1 s2 s3 w).trans (h.mono (W3_below k1 n1 k2 n2 k3 n3 s1 s2 s3 w).size)
    exact ⟨ht.stays hb (Nat.le_refl _), hb⟩
  clear ht
  go_enter Tryd.func4, Tryd.ntmps4
  go_wp2_with fail
  refine (fact12 _).mono ?_
  rintro e w1 ⟨rfl, hb⟩
  obtain ⟨hc, hf⟩ := bcell hb
  go_wp2_with fail
  refine (parse s _ hs).mono ?_
  rintro e w2 ⟨rfl, hb2⟩
  have B2 : Below (W3 k1 n1 k2 n2 k3 n3 s1 s2 s3 w).heap.size (W3 k1 n1 k2 n2 k3 n3 s1 s2 s3 w) w2 := (hb.alloc hb.size _).trans (hb2.mono (by have := hb.size; simp at this ⊢; omega))
  replace B2 := hide B2
  clear hc hf hb hb2
  go_upto_if 45 with fail
  go_cut [13, 14] (fun _ _ wx => Below (W3 k1 n1 k2 n2 k3 n3 s1 s2 s3 w).heap.size (W3 k1 n1 k2 n2 k3 n3 s1 s2 s3 w) wx)
  case first =>
    by_cases h : M.pErr s = 0
    · obtain ⟨g1, g2⟩ := M.back_text h
      have HP : Hid (∀ w, Tab w → Calls Tryd.prog 10 #[.agg #[.int .i64 (M.pK s), .int .i64 (M.pN s), .string (M.pS s)]] w fun e w' => e = .returned (.tuple #[.string s, .nilIface]) ∧ Below w.heap.size w w') := fun w ht => by
        have := printOk _ _ _ w (fault_size g1) g1 ht; rwa [g2] at this
      have h' : (M.pErr s == 0) = true := by simp [h]
      clear g1 g2 h
      go_wp2_with fail
      refine (unhide HP _ (unhide HT _ (B2.out.alloc B2.out.size _)).1).mono ?_
      rintro e w3 ⟨rfl, hb3⟩
      go_wp2_with fail
      go_meet
      exact (B2.out.alloc B2.out.size _).trans (hb3.mono (by have := B2.out.size; simp at this ⊢; omega))
    · have h' : (M.pErr s == 0) = false := by simp [h]
      clear h
      go_wp2_with fail
      go_meet
      exact B2.out.alloc B2.out.size _
  case rest =>
    obtain ⟨hc, hf⟩ := bcell hcut
    go_wp2_with fail
    refine (print k1 n1 s1 _ hs1 (unhide HT _ hcut).1).mono ?_
    rintro e w3 ⟨rfl, hb3⟩
    have B3 := hide (hcut.trans (hb3.mono hcut.size))
    clear hc hf hb3 hcut
    go_upto_if 64 with fail
    go_cut [16, 17] (fun _ _ wx => Below (W3 k1 n1 k2 n2 k3 n3 s1 s2 s3 w).heap.size (W3 k1 n1 k2 n2 k3 n3 s1 s2 s3 w) wx)
    case first =>
      by_cases h : M.fault k1 n1 s1 = 0
      · obtain ⟨g1, g2, g3, g4⟩ := M.back_value h
        have hw : M.wordE k1 n1 s1 = M.word k1 n1 s1 := by unfold M.wordE; rw [if_pos h]
        have HP : Hid (∀ w, Calls Tryd.prog 15 #[.string (M.wordE k1 n1 s1)] w fun e w' => e = .returned (.tuple #[.agg #[.int .i64 k1, .int .i64 n1, .string s1], .nilIface]) ∧ Below w.heap.size w w') := fun w => by
          rw [hw]
          have := parseOk (M.word k1 n1 s1) w (word_size h) g1; rwa [g2, g3, g4] at this
        have h' : (M.fault k1 n1 s1 == 0) = true := by simp [h]
        clear g1 g2 g3 g4 h hw
        go_wp2_with fail
        refine (unhide HP _).mono ?_
        rintro e w4 ⟨rfl, hb4⟩
        have B4 := B3.out.trans (hb4.mono B3.out.size)
        obtain ⟨hc, hf⟩ := bcell B4
        have hz : w.heap.size < w4.heap.size := by have := B4.size; simp at this; omega
        go_wp2_with fail
        go_meet
        exact B4.alloc B4.size _
      · have h' : (M.fault k1 n1 s1 == 0) = false := by simp [h]
        clear h
        go_wp2_with fail
        go_meet
        exact B3.out
    case rest =>
      obtain ⟨hc, hf⟩ := bcell hcut
      by_cases hbo : M.both (M.fault k1 n1 s1) (M.fault k2 n2 s2) = 0
      · have f1 : M.fault k1 n1 s1 = 0 := by
          unfold M.both at hbo; split at hbo
          · assumption
          · contradiction
        have f2 : M.fault k2 n2 s2 = 0 := by unfold M.both at hbo; rw [if_pos f1] at hbo; exact hbo
        have F1 := hide f1
        have F2 := hide f2
        clear hbo f1 f2
        go_wp2_with fail
        refine (orderAt k1 n1 s1 k2 n2 s2 _ hs1 hs2 F1.out F2.out).mono ?_
        rintro e w4 ⟨rfl, hb4⟩
        have B4 := hcut.trans (hb4.mono hcut.size)
        clear hc hf hb4 hcut
        obtain ⟨hc, hf⟩ := bcell B4
        go_wp2_with fail
        refine (orderAt k2 n2 s2 k1 n1 s1 _ hs2 hs1 F2.out F1.out).mono ?_
        rintro e w5 ⟨rfl, hb5⟩
        have B5 := B4.trans (hb5.mono B4.size)
        clear hc hf hb5 B4
        obtain ⟨hc, hf⟩ := bcell B5
        go_upto_region 18 with fail
        go_cut [18, 19, 106] (fun p _ t wx => p = .int .i64 (M.ord k1 n1 s1 k2 n2 s2) ∧ t = .bool false ∧ wx = w5)
        case first =>
          have hq := M.ord_swap k1 n1 s1 k2 n2 s2
          have hsm := same_ord k1 n1 s1 k2 n2 s2
          rcases M.ord_range k1 n1 s1 k2 n2 s2 with hp | hp | hp
          · rw [hp] at hq hsm
            go_wp2_with fail
            go_meet
            exact ⟨by rw [hp], rfl, rfl⟩
          · rw [hp] at hq hsm
            go_wp2_with fail
            go_meet
            exact ⟨by rw [hp], rfl, rfl⟩
          · rw [hp] at hq hsm
            go_wp2_with fail
            go_meet
            exact ⟨by rw [hp], rfl, rfl⟩
        case rest =>
          obtain ⟨rfl, rfl, rfl⟩ := hcut
          by_cases hbo : M.both (M.fault k2 n2 s2) (M.fault k3 n3 s3) = 0
          · have f3 : M.fault k3 n3 s3 = 0 := by unfold M.both at hbo; rw [if_pos F2.out] at hbo; exact hbo
            have F3 := hide f3
            clear hbo f3
            go_wp2_with fail
            refine (orderAt k2 n2 s2 k3 n3 s3 _ hs2 hs3 F2.out F3.out).mono ?_
            rintro e w6 ⟨rfl, hb6⟩
            have B6 := B5.trans (hb6.mono B5.size)
            clear hc hf hb6 B5
            obtain ⟨hc, hf⟩ := bcell B6
            go_wp2_with fail
            refine (orderAt k1 n1 s1 k3 n3 s3 _ hs1 hs3 F1.out F3.out).mono ?_
            rintro e w7 ⟨rfl, hb7⟩
            have B7 := B6.trans (hb7.mono B6.size)
            clear hc hf hb7 B6
            have hu := M.ord_trans k1 n1 s1 k2 n2 s2 k3 n3 s3
            by_cases hp : 0 < M.ord k1 n1 s1 k2 n2 s2
            · clear hu
              go_wp2_with fail
              go_ret
              exact ⟨rfl, (unhide HT _ B7).2⟩
            · by_cases hr : 0 < M.ord k2 n2 s2 k3 n3 s3
              · clear hu
                go_wp2_with fail
                go_ret
                exact ⟨rfl, (unhide HT _ B7).2⟩
              · have hu' := hu (by omega) (by omega)
                clear hu
                go_wp2_with fail
                go_ret
                exact ⟨rfl, (unhide HT _ B7).2⟩
          · have H := hide hbo
            clear hbo
            go_wp2_with fail
            refine (orderBad k2 n2 s2 k3 n3 s3 _ hs2 hs3 H.out).mono ?_
            rintro e w6 ⟨rfl, hb6⟩
            go_wp2_with fail
            go_ret
            exact ⟨rfl, (unhide HT _ (B5.trans (hb6.mono B5.size))).2⟩
      · have H := hide hbo
        clear hbo
        go_wp2_with fail
        refine (orderBad k1 n1 s1 k2 n2 s2 _ hs1 hs2 H.out).mono ?_
        rintro e w4 ⟨rfl, hb4⟩
        go_wp2_with fail
        go_ret
        exact ⟨rfl, (unhide HT _ (hcut.trans (hb4.mono hcut.size))).2⟩

end Go.Proofs.YtlefhfmckimlaaaDoor
