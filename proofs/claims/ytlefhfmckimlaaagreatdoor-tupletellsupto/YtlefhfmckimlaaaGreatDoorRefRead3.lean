/-
  What the document's own Read answers for a text of digits, behind a minus or not: its loop over them.
-/
import Derived.Test.YtlefhfmckimlaaaGreatDoorRefRead2
set_option linter.unusedSimpArgs false
set_option linter.unusedVariables false
namespace Go.Proofs.YtlefhfmckimlaaaGreatDoor
open Go.RowKit

theorem step_num (l : List UInt8) (c : UInt8) (x : Nat) (h : M.numN l = x) (hc : 48 ≤ c.toNat) : (10 * (x : Int) + c.toNat - 48) = (M.numN (l ++ [c]) : Nat) := by
  rw [M.numN_snoc, h]; omega

theorem zero_lead {s : ByteArray} (h : 0 < s.size) (hz : s[0] = 48) (hk : 1 < s.size) (hm : M.isMinus s.data.toList = false) : M.isNum s.data.toList = false := by
  have e : M.digs s.data.toList = s.data.toList := by unfold M.digs; rw [hm]; rfl
  rw [Bool.eq_false_iff]
  intro hn
  obtain ⟨_, _, _, h4⟩ := M.isNum_parts hn
  rw [e] at h4
  have := (h4 (by rw [head_of s h, hz])).1
  rw [list_len] at this; omega

theorem plain_loop (s : ByteArray) (w : World) (h : (s.toList == [42]) = false) (h0 : 0 < s.size) (hc : ¬ s[0] = 58) (hm : ¬ s[0] = 45) (hl : s.size ≤ 7) (hz : ¬ s[0] = 48) : Calls Tryz.prog 27 #[.string s] w fun e w' => e = .returned (.tuple #[.agg #[.int .i64 (M.pK s), .int .i64 (M.pN s), .string (M.pS s)], .int .i64 (M.pErr s)]) ∧ Below w.heap.size w w' := by
  have hcol : M.colon s = false := by unfold M.colon; rw [head_of s h0]; simpa using hc
  have hmin : M.isMinus s.data.toList = false := by unfold M.isMinus; rw [head_of s h0]; simpa using hm
  have hD : M.digs s.data.toList = s.data.toList.drop 0 := by unfold M.digs; rw [hmin]; rfl
  have hnum : M.num s.data.toList = (M.numN (s.data.toList.drop 0) : Int) := by unfold M.num; rw [hmin, hD]; rfl
  have hgood : (s.data.toList.drop 0).all M.digC = true → M.isNum s.data.toList = true := fun ha => M.isNum_mk (by rw [hD, List.length_drop, list_len]; omega) (by rw [hD, List.length_drop, list_len]; omega) (by rw [hD]; exact ha) (fun hh => by
    exfalso
    rw [hD, List.drop_zero, head_of s h0] at hh
    exact hz (by simpa using hh))
  have HB : Hid (∀ p, 0 ≤ p → ∀ hp : p < s.size, M.digC s[p] = false → M.pErr s = 2 ∧ M.pK s = 0 ∧ M.pN s = 0 ∧ M.pS s = ⟨#[]⟩) := fun p h1 hp hd => p_none h hcol (no_digit (by
    rw [hD, Bool.eq_false_iff]
    intro ha
    have hmem : s[p] ∈ s.data.toList.drop 0 := by
      rw [List.mem_drop_iff_getElem]
      exact ⟨p - 0, by rw [list_len]; omega, by
        show s.data.toList[0 + (p - 0)]'_ = s.data.toList[p]'(by rw [list_len]; exact hp)
        simp only [show 0 + (p - 0) = p by omega]⟩
    have := List.all_eq_true.1 ha _ hmem
    rw [hd] at this; exact absurd this (by decide)))
  have HG : Hid ((s.data.toList.drop 0).all M.digC = true → M.isNum s.data.toList = true) := hgood
  have HQ := hide hnum
  have HC := hide hcol
  have HH := hide h
  have h0' : (0 : Int) < (s.size : Int) := by omega
  have hc' := byte58 hc
  have hm' := byte45 hm
  have hl' : (s.size : Int) ≤ 7 := by omega
  have hz' := byte48 hz
  clear hgood hnum hcol hmin hD hc hm hz
  have HW : Hid (∀ W, Below w.heap.size w W → True) := fun _ _ => trivial
  clear HW
  go_enter Tryz.func27, Tryz.ntmps27
  go_wp2_with fail
  go_loop [8, 9] (fun n i => ∃ p : Nat, 0 ≤ p ∧ p ≤ s.size ∧ i = .int .i64 p ∧ n = .int .i64 (M.numN ((s.data.toList.drop 0).take (p - 0)) : Nat) ∧ Hid (((s.data.toList.drop 0).take (p - 0)).all M.digC = true)) (fun _ i => s.size - (intOf i).toNat)
  case atStart => exact ⟨0, by omega, by omega, rfl, rfl, rfl⟩
  case round =>
    obtain ⟨p, hp0, hp1, rfl, rfl, HA⟩ := hrel
    have hb := M.numN_lt 7 _ (by rw [List.length_take]; omega) HA.out
    obtain ⟨x, HX⟩ : ∃ x : Nat, Hid (M.numN ((s.data.toList.drop 0).take (p - 0)) = x) := ⟨_, rfl⟩
    rw [HX.out] at hb
    rw [HX.out]
    by_cases hlt : p < s.size
    · have hlt' : (p : Int) < (s.size : Int) := by omega
      have HS := hide (drop_snoc s 0 p hp0 hlt)
      by_cases h1 : (s[p].toNat : Int) < 48
      · obtain ⟨e1, e2, e3, e4⟩ := HB.out p hp0 hlt (by unfold M.digC; simp; omega)
        have E1 := hide e1; have E2 := hide e2; have E3 := hide e3; have E4 := hide e4
        clear e1 e2 e3 e4
        go_wp2
        refine bodyPost_ret (v := .tuple #[.agg #[.int .i64 0, .int .i64 0, .string ⟨#[]⟩], .int .i64 2]) (by simp [results, Tryz.results27, go_sem]) rfl ⟨by rw [E1.out, E2.out, E3.out, E4.out], ((Below.refl _ _).alloc (Nat.le_refl _) _).alloc (by simp) _⟩
      · by_cases h2 : 57 < (s[p].toNat : Int)
        · obtain ⟨e1, e2, e3, e4⟩ := HB.out p hp0 hlt (by unfold M.digC; simp; omega)
          have E1 := hide e1; have E2 := hide e2; have E3 := hide e3; have E4 := hide e4
          clear e1 e2 e3 e4
          go_wp2
          refine bodyPost_ret (v := .tuple #[.agg #[.int .i64 0, .int .i64 0, .string ⟨#[]⟩], .int .i64 2]) (by simp [results, Tryz.results27, go_sem]) rfl ⟨by rw [E1.out, E2.out, E3.out, E4.out], ((Below.refl _ _).alloc (Nat.le_refl _) _).alloc (by simp) _⟩
        · have HD : Hid (M.digC s[p] = true) := hide (by unfold M.digC; simp; omega)
          go_wp2
          have hstep := step_num _ _ _ HX.out (show 48 ≤ s[p].toNat by omega)
          have hall : ((s.data.toList.drop 0).take (p - 0 + 1)).all M.digC = true := by rw [HS.out, List.all_append, HA.out]; simpa using HD.out
          rw [← HS.out] at hstep
          refine ⟨⟨p + 1, by omega, by omega, by go_num, ?_, ?_⟩, by simp [intOf]; omega⟩
          · rw [show p + 1 - 0 = p - 0 + 1 by omega, hstep]
          · rw [show p + 1 - 0 = p - 0 + 1 by omega]; exact hall
    · have hend : (s.data.toList.drop 0).take (p - 0) = s.data.toList.drop 0 := List.take_of_length_le (by rw [List.length_drop, list_len]; omega)
      have hA := HA.out
      rw [hend] at hA
      have hN := HG.out hA
      have hX : M.num s.data.toList = (x : Int) := by rw [HQ.out, ← hend, HX.out]
      have HV : Hid (∀ w, Calls Tryz.prog 16 #[.agg #[.int .i64 0, .int .i64 ((x : Int)), .string ⟨#[]⟩]] w fun e w' => e = .returned (.int .i64 (M.fault 0 ((x : Int)) ⟨#[]⟩)) ∧ Below w.heap.size w w') := fun w => refValue 0 _ _ w (by decide)
      by_cases hf : M.fault 0 (M.num s.data.toList) ⟨#[]⟩ = 0
      · obtain ⟨e1, e2, e3, e4⟩ := p_num HH.out HC.out hN hf
        rw [hX] at hf e3
        have E1 := hide e1; have E2 := hide e2; have E3 := hide e3; have E4 := hide e4
        have hfb : (M.fault 0 ((x : Int)) ⟨#[]⟩ != 0) = false := by simpa using hf
        clear e1 e2 e3 e4 hend hA hN hX hf
        go_wp2_with fail
        refine (unhide HV _).mono ?_
        rintro e w1 ⟨rfl, hb1⟩
        obtain ⟨hcl, hfz⟩ := bcell hb1
        go_wp2_with fail
        have hz : w.heap.size < w.heap.size + 1 + 1 := by omega
        refine bodyPost_ret (v := .tuple #[.agg #[.int .i64 0, .int .i64 ((x : Int)), .string ⟨#[]⟩], .int .i64 0]) (by simp [results, Tryz.results27, go_sem, hcl, hz]) rfl ⟨by rw [E1.out, E2.out, E3.out, E4.out], ?_⟩
        have B1 : Below w.heap.size w w1 := (((Below.refl _ _).alloc (Nat.le_refl _) _).alloc (by simp) _).trans (hb1.mono (by simp; omega))
        exact ((B1.setCell (by simp) _).setCell (by simp) _).setCell (by simp) _
      · obtain ⟨e1, e2, e3, e4⟩ := p_bad HH.out HC.out hN hf
        rw [hX] at hf e1
        have E1 := hide e1; have E2 := hide e2; have E3 := hide e3; have E4 := hide e4
        have hfb : (M.fault 0 ((x : Int)) ⟨#[]⟩ != 0) = true := by simpa using hf
        clear e1 e2 e3 e4 hend hA hN hX hf
        go_wp2_with fail
        refine (unhide HV _).mono ?_
        rintro e w1 ⟨rfl, hb1⟩
        obtain ⟨hcl, hfz⟩ := bcell hb1
        go_wp2_with fail
        have hz : w.heap.size < w.heap.size + 1 + 1 := by omega
        refine bodyPost_ret (v := .tuple #[.agg #[.int .i64 0, .int .i64 0, .string ⟨#[]⟩], .int .i64 (M.fault 0 ((x : Int)) ⟨#[]⟩)]) (by simp [results, Tryz.results27, go_sem, hcl, hz]) rfl ⟨by rw [E1.out, E2.out, E3.out, E4.out], ?_⟩
        have B1 : Below w.heap.size w w1 := (((Below.refl _ _).alloc (Nat.le_refl _) _).alloc (by simp) _).trans (hb1.mono (by simp; omega))
        exact ((B1.setCell (by simp) _).setCell (by simp) _).setCell (by simp) _

theorem minus_loop (s : ByteArray) (w : World) (h : (s.toList == [42]) = false) (h0 : 0 < s.size) (hm : s[0] = 45) (hk : 1 < s.size) (hl : s.size ≤ 8) (hz : ¬ s[1] = 48) : Calls Tryz.prog 27 #[.string s] w fun e w' => e = .returned (.tuple #[.agg #[.int .i64 (M.pK s), .int .i64 (M.pN s), .string (M.pS s)], .int .i64 (M.pErr s)]) ∧ Below w.heap.size w w' := by
  have hcol : M.colon s = false := by unfold M.colon; rw [head_of s h0, hm]; rfl
  have hmin : M.isMinus s.data.toList = true := by unfold M.isMinus; rw [head_of s h0, hm]; rfl
  have hD : M.digs s.data.toList = s.data.toList.drop 1 := by unfold M.digs; rw [hmin]; simp
  have hnum : M.num s.data.toList = -(M.numN (s.data.toList.drop 1) : Int) := by unfold M.num; rw [hmin, hD]; rfl
  have hgood : (s.data.toList.drop 1).all M.digC = true → M.isNum s.data.toList = true := fun ha => M.isNum_mk (by rw [hD, List.length_drop, list_len]; omega) (by rw [hD, List.length_drop, list_len]; omega) (by rw [hD]; exact ha) (fun hh => by
    exfalso
    rw [hD, List.head?_eq_getElem?, List.getElem?_drop, List.getElem?_eq_getElem (by rw [list_len]; exact hk)] at hh
    exact hz (Option.some.inj hh))
  have HB : Hid (∀ p, 1 ≤ p → ∀ hp : p < s.size, M.digC s[p] = false → M.pErr s = 2 ∧ M.pK s = 0 ∧ M.pN s = 0 ∧ M.pS s = ⟨#[]⟩) := fun p h1 hp hd => p_none h hcol (no_digit (by
    rw [hD, Bool.eq_false_iff]
    intro ha
    have hmem : s[p] ∈ s.data.toList.drop 1 := by
      rw [List.mem_drop_iff_getElem]
      exact ⟨p - 1, by rw [list_len]; omega, by
        show s.data.toList[1 + (p - 1)]'_ = s.data.toList[p]'(by rw [list_len]; exact hp)
        simp only [show 1 + (p - 1) = p by omega]⟩
    have := List.all_eq_true.1 ha _ hmem
    rw [hd] at this; exact absurd this (by decide)))
  have HG : Hid ((s.data.toList.drop 1).all M.digC = true → M.isNum s.data.toList = true) := hgood
  have HQ := hide hnum
  have HC := hide hcol
  have HH := hide h
  have h0' : (0 : Int) < (s.size : Int) := by omega
  have hl' : (s.size : Int) ≤ 8 := by omega
  have hk' : (1 : Int) < (s.size : Int) := by omega
  have hz' := byte48 hz
  clear hgood hnum hcol hmin hD  hz
  have HW : Hid (∀ W, Below w.heap.size w W → True) := fun _ _ => trivial
  clear HW
  go_enter Tryz.func27, Tryz.ntmps27
  go_wp2_with fail
  go_loop [8, 9] (fun n i => ∃ p : Nat, 1 ≤ p ∧ p ≤ s.size ∧ i = .int .i64 p ∧ n = .int .i64 (M.numN ((s.data.toList.drop 1).take (p - 1)) : Nat) ∧ Hid (((s.data.toList.drop 1).take (p - 1)).all M.digC = true)) (fun _ i => s.size - (intOf i).toNat)
  case atStart => exact ⟨1, by omega, by omega, rfl, rfl, rfl⟩
  case round =>
    obtain ⟨p, hp0, hp1, rfl, rfl, HA⟩ := hrel
    have hb := M.numN_lt 7 _ (by rw [List.length_take]; omega) HA.out
    obtain ⟨x, HX⟩ : ∃ x : Nat, Hid (M.numN ((s.data.toList.drop 1).take (p - 1)) = x) := ⟨_, rfl⟩
    rw [HX.out] at hb
    rw [HX.out]
    by_cases hlt : p < s.size
    · have hlt' : (p : Int) < (s.size : Int) := by omega
      have HS := hide (drop_snoc s 1 p hp0 hlt)
      by_cases h1 : (s[p].toNat : Int) < 48
      · obtain ⟨e1, e2, e3, e4⟩ := HB.out p hp0 hlt (by unfold M.digC; simp; omega)
        have E1 := hide e1; have E2 := hide e2; have E3 := hide e3; have E4 := hide e4
        clear e1 e2 e3 e4
        go_wp2
        refine bodyPost_ret (v := .tuple #[.agg #[.int .i64 0, .int .i64 0, .string ⟨#[]⟩], .int .i64 2]) (by simp [results, Tryz.results27, go_sem]) rfl ⟨by rw [E1.out, E2.out, E3.out, E4.out], ((Below.refl _ _).alloc (Nat.le_refl _) _).alloc (by simp) _⟩
      · by_cases h2 : 57 < (s[p].toNat : Int)
        · obtain ⟨e1, e2, e3, e4⟩ := HB.out p hp0 hlt (by unfold M.digC; simp; omega)
          have E1 := hide e1; have E2 := hide e2; have E3 := hide e3; have E4 := hide e4
          clear e1 e2 e3 e4
          go_wp2
          refine bodyPost_ret (v := .tuple #[.agg #[.int .i64 0, .int .i64 0, .string ⟨#[]⟩], .int .i64 2]) (by simp [results, Tryz.results27, go_sem]) rfl ⟨by rw [E1.out, E2.out, E3.out, E4.out], ((Below.refl _ _).alloc (Nat.le_refl _) _).alloc (by simp) _⟩
        · have HD : Hid (M.digC s[p] = true) := hide (by unfold M.digC; simp; omega)
          go_wp2
          have hstep := step_num _ _ _ HX.out (show 48 ≤ s[p].toNat by omega)
          have hall : ((s.data.toList.drop 1).take (p - 1 + 1)).all M.digC = true := by rw [HS.out, List.all_append, HA.out]; simpa using HD.out
          rw [← HS.out] at hstep
          refine ⟨⟨p + 1, by omega, by omega, by go_num, ?_, ?_⟩, by simp [intOf]; omega⟩
          · rw [show p + 1 - 1 = p - 1 + 1 by omega, hstep]
          · rw [show p + 1 - 1 = p - 1 + 1 by omega]; exact hall
    · have hend : (s.data.toList.drop 1).take (p - 1) = s.data.toList.drop 1 := List.take_of_length_le (by rw [List.length_drop, list_len]; omega)
      have hA := HA.out
      rw [hend] at hA
      have hN := HG.out hA
      have hX : M.num s.data.toList = -(x : Int) := by rw [HQ.out, ← hend, HX.out]
      have HV : Hid (∀ w, Calls Tryz.prog 16 #[.agg #[.int .i64 0, .int .i64 (-(x : Int)), .string ⟨#[]⟩]] w fun e w' => e = .returned (.int .i64 (M.fault 0 (-(x : Int)) ⟨#[]⟩)) ∧ Below w.heap.size w w') := fun w => refValue 0 _ _ w (by decide)
      by_cases hf : M.fault 0 (M.num s.data.toList) ⟨#[]⟩ = 0
      · obtain ⟨e1, e2, e3, e4⟩ := p_num HH.out HC.out hN hf
        rw [hX] at hf e3
        have E1 := hide e1; have E2 := hide e2; have E3 := hide e3; have E4 := hide e4
        have hfb : (M.fault 0 (-(x : Int)) ⟨#[]⟩ != 0) = false := by simpa using hf
        clear e1 e2 e3 e4 hend hA hN hX hf
        go_wp2_with fail
        refine (unhide HV _).mono ?_
        rintro e w1 ⟨rfl, hb1⟩
        obtain ⟨hcl, hfz⟩ := bcell hb1
        go_wp2_with fail
        have hz : w.heap.size < w.heap.size + 1 + 1 := by omega
        refine bodyPost_ret (v := .tuple #[.agg #[.int .i64 0, .int .i64 (-(x : Int)), .string ⟨#[]⟩], .int .i64 0]) (by simp [results, Tryz.results27, go_sem, hcl, hz]) rfl ⟨by rw [E1.out, E2.out, E3.out, E4.out], ?_⟩
        have B1 : Below w.heap.size w w1 := (((Below.refl _ _).alloc (Nat.le_refl _) _).alloc (by simp) _).trans (hb1.mono (by simp; omega))
        exact ((B1.setCell (by simp) _).setCell (by simp) _).setCell (by simp) _
      · obtain ⟨e1, e2, e3, e4⟩ := p_bad HH.out HC.out hN hf
        rw [hX] at hf e1
        have E1 := hide e1; have E2 := hide e2; have E3 := hide e3; have E4 := hide e4
        have hfb : (M.fault 0 (-(x : Int)) ⟨#[]⟩ != 0) = true := by simpa using hf
        clear e1 e2 e3 e4 hend hA hN hX hf
        go_wp2_with fail
        refine (unhide HV _).mono ?_
        rintro e w1 ⟨rfl, hb1⟩
        obtain ⟨hcl, hfz⟩ := bcell hb1
        go_wp2_with fail
        have hz : w.heap.size < w.heap.size + 1 + 1 := by omega
        refine bodyPost_ret (v := .tuple #[.agg #[.int .i64 0, .int .i64 0, .string ⟨#[]⟩], .int .i64 (M.fault 0 (-(x : Int)) ⟨#[]⟩)]) (by simp [results, Tryz.results27, go_sem, hcl, hz]) rfl ⟨by rw [E1.out, E2.out, E3.out, E4.out], ?_⟩
        have B1 : Below w.heap.size w w1 := (((Below.refl _ _).alloc (Nat.le_refl _) _).alloc (by simp) _).trans (hb1.mono (by simp; omega))
        exact ((B1.setCell (by simp) _).setCell (by simp) _).setCell (by simp) _

theorem plain_0 (w : World) : Calls Tryz.prog 27 #[.string ⟨#[48]⟩] w fun e w' => e = .returned (.tuple #[.agg #[.int .i64 0, .int .i64 0, .string ⟨#[]⟩], .int .i64 0]) ∧ Below w.heap.size w w' := by
  have HV : Hid (∀ w, Calls Tryz.prog 16 #[.agg #[.int .i64 0, .int .i64 0, .string ⟨#[]⟩]] w fun e w' => e = .returned (.int .i64 0) ∧ Below w.heap.size w w') := fun w => refValue 0 0 ⟨#[]⟩ w (by decide)
  go_enter Tryz.func27, Tryz.ntmps27
  go_wp2_with fail
  refine wp_loop_rounds 2 ?_
  rw [rounds_succ]
  go_wp2_with fail
  rw [rounds_succ]
  go_wp2_with fail
  refine (unhide HV _).mono ?_
  rintro e w1 ⟨rfl, hb1⟩
  obtain ⟨hcl, hfz⟩ := bcell hb1
  go_wp2_with fail
  have hz : w.heap.size < w.heap.size + 1 + 1 := by omega
  refine bodyPost_ret (v := .tuple #[.agg #[.int .i64 0, .int .i64 0, .string ⟨#[]⟩], .int .i64 0]) (by simp [results, Tryz.results27, go_sem, hcl, hz]) rfl ⟨rfl, ?_⟩
  have B1 : Below w.heap.size w w1 := (((Below.refl _ _).alloc (Nat.le_refl _) _).alloc (by simp) _).trans (hb1.mono (by simp; omega))
  exact ((B1.setCell (by simp) _).setCell (by simp) _).setCell (by simp) _

theorem refRead (s : ByteArray) (w : World) (hs : s.size ≤ maxLen) : Calls Tryz.prog 27 #[.string s] w fun e w' => e = .returned (.tuple #[.agg #[.int .i64 (M.pK s), .int .i64 (M.pN s), .string (M.pS s)], .int .i64 (M.pErr s)]) ∧ Below w.heap.size w w' := by
  cases h : (s.toList == [42])
  · by_cases hz : s.size = 0
    · have e := size0 hz
      have p := p_none h (by rw [e]; rfl) (by rw [e]; rfl)
      rw [p.1, p.2.1, p.2.2.1, p.2.2.2]
      exact rd_empty s w hz
    have h0 : 0 < s.size := by omega
    have hh := head_of s h0
    by_cases hc : s[0] = 58
    · have hcol : M.colon s = true := by unfold M.colon; rw [hh, hc]; rfl
      have e : M.pErr s = M.fault 1 0 (M.rest s) := by unfold M.pErr; rw [h, hcol]; rfl
      by_cases hf : M.fault 1 0 (M.rest s) = 0
      · have e0 : M.pErr s = 0 := e.trans hf
        have ek : M.pK s = 1 := by unfold M.pK; rw [e0, h, hcol]; rfl
        have en : M.pN s = 0 := by unfold M.pN; rw [e0, h, hcol]; rfl
        have es : M.pS s = M.rest s := by unfold M.pS; rw [e0, h, hcol]; rfl
        rw [ek, en, es, e0]
        exact rd_text s w hs h h0 hc hf
      · have e0 : M.pErr s ≠ 0 := by rw [e]; exact hf
        have ek : M.pK s = 0 := by unfold M.pK; rw [if_pos e0]
        have en : M.pN s = 0 := by unfold M.pN; rw [if_pos e0]
        have es : M.pS s = ⟨#[]⟩ := by unfold M.pS; rw [if_pos e0]
        rw [ek, en, es, e]
        exact rd_textBad s w hs h h0 hc hf
    have hcol : M.colon s = false := by unfold M.colon; rw [hh]; simpa using hc
    by_cases hm : s[0] = 45
    · have hmin : M.isMinus s.data.toList = true := by unfold M.isMinus; rw [hh, hm]; rfl
      have hD : M.digs s.data.toList = s.data.toList.drop 1 := by unfold M.digs; rw [hmin]; simp
      have hlen : (M.digs s.data.toList).length = s.size - 1 := by rw [hD, List.length_drop, list_len]
      by_cases h1 : s.size = 1
      · have p := p_none h hcol (by
          rw [Bool.eq_false_iff]; intro hn
          have := (M.isNum_parts hn).1; omega)
        rw [p.1, p.2.1, p.2.2.1, p.2.2.2]
        exact minus_short s w h h0 hm h1
      by_cases h8 : 8 < s.size
      · have p := p_none h hcol (by
          rw [Bool.eq_false_iff]; intro hn
          have := (M.isNum_parts hn).2.1; omega)
        rw [p.1, p.2.1, p.2.2.1, p.2.2.2]
        exact minus_long s w hs h h0 hm h8
      have hk : 1 < s.size := by omega
      by_cases hz1 : s[1] = 48
      · have p := p_none h hcol (by
          rw [Bool.eq_false_iff]; intro hn
          have h4 := (M.isNum_parts hn).2.2.2 (by
            rw [hD, List.head?_eq_getElem?, List.getElem?_drop, List.getElem?_eq_getElem (by rw [list_len]; exact hk)]
            exact congrArg some hz1)
          rw [hmin] at h4; exact absurd h4.2 (by decide))
        rw [p.1, p.2.1, p.2.2.1, p.2.2.2]
        exact minus_zero s w h h0 hm (by omega) hk hz1
      · exact minus_loop s w h h0 hm hk (by omega) hz1
    · have hmin : M.isMinus s.data.toList = false := by unfold M.isMinus; rw [hh]; simpa using hm
      have hD : M.digs s.data.toList = s.data.toList := by unfold M.digs; rw [hmin]; rfl
      by_cases h7 : 7 < s.size
      · have p := p_none h hcol (by
          rw [Bool.eq_false_iff]; intro hn
          have := (M.isNum_parts hn).2.1; rw [hD, list_len] at this; omega)
        rw [p.1, p.2.1, p.2.2.1, p.2.2.2]
        exact plain_long s w hs h h0 hc hm h7
      by_cases hz1 : s[0] = 48
      · by_cases hk : 1 < s.size
        · have p := p_none h hcol (zero_lead h0 hz1 hk hmin)
          rw [p.1, p.2.1, p.2.2.1, p.2.2.2]
          exact plain_zero s w h h0 hc hm (by omega) hk hz1
        · have e : s = ⟨#[48]⟩ := by
            apply WideShapes.bytes_inj
            have hl := list_len s
            match hd : s.data.toList, hl, hh with
            | [a], _, hh => have : a = s[0] := by simpa using hh
                            rw [this, hz1]
            | [], hl, _ => simp at hl; omega
            | _ :: _ :: _, hl, _ => simp at hl; omega
          have p := p_num (s := s) h hcol (by rw [e]; rfl) (by rw [e]; rfl)
          rw [p.1, p.2.1, p.2.2.1, p.2.2.2]
          have hn : M.num s.data.toList = 0 := by rw [e]; rfl
          rw [hn, e]
          exact plain_0 w
      · exact plain_loop s w h h0 hc hm (by omega) hz1
  · have e : M.pErr s = 0 := by unfold M.pErr; rw [h]; rfl
    have ek : M.pK s = 2 := by unfold M.pK; rw [e, h]; rfl
    have en : M.pN s = 0 := by unfold M.pN; rw [e, h]; rfl
    have es : M.pS s = ⟨#[]⟩ := by unfold M.pS; rw [e, h]; rfl
    rw [ek, en, es, e]
    exact rd_star s w h

end Go.Proofs.YtlefhfmckimlaaaGreatDoor
