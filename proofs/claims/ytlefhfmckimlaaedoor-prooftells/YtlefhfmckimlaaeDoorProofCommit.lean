/-
  What Commit of package proof does, as one law of its call.
-/
import Derived.Test.YtlefhfmckimlaaeDoorProofCheck
set_option linter.unusedVariables false
namespace Go.Proofs.YtlefhfmckimlaaeDoor
open Go.RowKit

theorem made_ints : ∀ m : Nat, m ≤ 7 → (madeCells #[.int .i64 0] m).toList = cellsI (List.replicate m 0)
  | 0, _ => by kernel_rfl
  | 1, _ => by kernel_rfl
  | 2, _ => by kernel_rfl
  | 3, _ => by kernel_rfl
  | 4, _ => by kernel_rfl
  | 5, _ => by kernel_rfl
  | 6, _ => by kernel_rfl
  | 7, _ => by kernel_rfl
  | m + 8, h => absurd h (by omega)
/-- what is committed to so far, and nothing behind it -/
def halfC (p : List Int) (k : Nat) : List Int := M.commits (p.take k) ++ List.replicate (p.length - k) 0
theorem halfC_len (p : List Int) {k : Nat} (h : k ≤ p.length) : (halfC p k).length = p.length := by
  unfold halfC; rw [List.length_append, M.commits_len, List.length_replicate, List.length_take]; omega
theorem halfC_zero (p : List Int) : halfC p 0 = List.replicate p.length 0 := rfl
theorem halfC_all (p : List Int) : halfC p p.length = M.commits p := by
  unfold halfC; rw [Nat.sub_self, List.replicate_zero, List.append_nil, List.take_of_length_le (Nat.le_refl _)]
theorem halfC_next (p : List Int) {k : Nat} (h : k < p.length) : (halfC p k).set k (M.gI p[k]) = halfC p (k + 1) := by
  unfold halfC
  have e : p.length - k = (p.length - (k + 1)) + 1 := by omega
  have hl : (M.commits (p.take k)).length = k := by rw [M.commits_len, List.length_take]; omega
  rw [e, List.replicate_succ, List.set_append_right _ _ (by rw [hl]; exact Nat.le_refl _), hl, Nat.sub_self, List.set_cons_zero, List.take_succ_eq_append_getElem h, M.commits_snoc, List.append_assoc, List.singleton_append]
theorem cellsI_set (l : List Int) (i : Nat) (z : Int) : (cellsI l).set i (.int .i64 z) = cellsI (l.set i z) := by
  unfold cellsI; rw [List.map_set]

theorem comNone (a : Option Addr) (cap : Nat) (w : World) :
    Calls Tryd.prog 14 #[.slice a 0 cap] w fun e w' => e = .returned (.tuple #[.slice none 0 0, .iface 51 (.int .i64 5)]) ∧ Below w.heap.size w w' := by
  go_enter Tryd.func14, Tryd.ntmps14
  go_wp2
  go_ret2
  exact ⟨rfl, Below.refl _ _⟩

theorem comFac (a : Option Addr) (n cap : Nat) (p : List Int) (w : World) (hn : n = p.length) (hm : n ≤ maxLen) (hl : AtI w a p) (h0 : n ≠ 0) (hf : M.facE p ≠ 0) :
    Calls Tryd.prog 14 #[.slice a n cap] w fun e w' => e = .returned (.tuple #[.slice none 0 0, .iface 51 (.int .i64 (M.facE p))]) ∧ Below w.heap.size w w' := by
  have HA : Hid (Calls Tryd.prog 28 #[.slice a n cap, .int .i64 0] w fun e w' => e = .returned (.tuple #[.int .i64 (M.atR p 0), .iface 51 (.int .i64 (M.facE p))]) ∧ Below w.heap.size w w') := hide (by
    have := pAt a n cap p 0 w hn hm hl
    rwa [M.atE_fac hf, errV_bad hf] at this)
  have hz : ¬ (n : Int) = 0 := by omega
  unfold maxLen at hm
  clear hn hl hf h0
  go_enter Tryd.func14, Tryd.ntmps14
  go_wp2_with fail
  refine (unhide HA).mono ?_
  rintro e w1 ⟨rfl, hb1⟩
  go_wp2_with fail
  go_ret2
  exact ⟨rfl, hb1⟩

set_option maxRecDepth 100000 in
set_option maxHeartbeats 2000000 in
theorem comOkO (a : Option Addr) (n cap : Nat) (p : List Int) (w : World) (hn : n = p.length) (hl : AtI w a p) (h0 : n ≠ 0) (hf : M.facE p = 0) :
    Calls Tryd.prog 14 #[.slice a n cap] w fun e w' => (∃ g, e = .returned (.tuple #[.slice (some ⟨g, 0, none⟩) n n, .nilIface]) ∧ w'.ownsRow w.heap.size 3 1 (.slice (some ⟨g, 0, none⟩) n n) n (cellsI (M.commits p))) ∧ Below w.heap.size w w' := by
  obtain ⟨i0, hi, hz0, hz1, hz2⟩ := info_parts infoInt
  have HI := hide (And.intro hi (And.intro hz0 (And.intro hz1 hz2)))
  obtain ⟨h7, hr⟩ := M.facE_ok hf
  have hn7 : n ≤ 7 := by omega
  have HA : Hid (Calls Tryd.prog 28 #[.slice a n cap, .int .i64 0] w fun e w' => e = .returned (.tuple #[.int .i64 (M.atR p 0), .nilIface]) ∧ Below w.heap.size w w') := hide (by
    have := pAt a n cap p 0 w hn (by unfold maxLen; omega) hl
    rwa [M.atE_0 hf (by decide)] at this)
  have hz : ¬ (n : Int) = 0 := by omega
  obtain ⟨b, off, rfl, hlie⟩ := hl (by omega)
  have HL := hide hlie
  have HN := hide hn
  have HR := hide hr
  clear hi hz0 hz1 hz2 hlie hn hr hl hf h7
  go_enter Tryd.func14, Tryd.ntmps14
  go_wp2_with fail
  refine (unhide HA).mono ?_
  rintro e w0 ⟨rfl, hb0⟩
  have HB0 := hide hb0
  clear hb0 HA
  go_wp2_with (at_make; refine wpList_make_full _ rfl (.tmp 24) (.tmp 24) 22 rfl w0.heap.size 3 i0 (.int .i64 0) 1 Tryd.underlying22 HI.out.1 HI.out.2.1 HI.out.2.2.1 .i64 .i64 _ _ n rfl rfl rfl rfl (by rw [HI.out.2.2.2]; omega) (by unfold maxLen; omega) (Nat.le_refl _) ?_)
  intro w1 hown hgrow
  rw [made_ints n hn7, show cellsI (List.replicate n 0) = cellsI (halfC p 0) by rw [halfC_zero, HN.out]] at hown
  have HO := hide hown
  have HB := hide ((Below.refl w0.heap.size w0).grown hgrow (Nat.le_refl _) (fun k hk => by cases hk))
  clear hown hgrow
  go_wp2
  go_loopw [28] (fun si wr => ∃ k : Nat, si = .int .i64 k ∧ k ≤ n ∧ Hid (wr.ownsRow w0.heap.size 3 1 (.slice (some ⟨w0.heap.size, 0, none⟩) n n) n (cellsI (halfC p k))) ∧ Hid (Below w0.heap.size w0 wr)) (fun si _ => n - (intOf si).toNat)
  case atStart => exact ⟨0, rfl, Nat.zero_le _, HO, HB⟩
  case round =>
    obtain ⟨k, rfl, hk, hrow, hbel⟩ := hrel
    by_cases hlt : k < n
    · have hkl : k < p.length := by have := HN.out; omega
      have d1 := ((HL.out.stays HB0.out (Nat.le_refl _)).stays hbel.out (Nat.le_refl _)) k hkl
      obtain ⟨z0, z1⟩ := HR.out k hkl
      have HX := hide (halfC_next p hkl)
      generalize p[k] = z at d1 z0 z1 HX
      have HC : Hid (Calls Tryd.prog 29 #[.int .i64 z] wr fun e w' => e = .returned (.tuple #[.int .i64 (M.gI z), .nilIface]) ∧ w' = wr) := hide (commitTo z wr z0 z1)
      generalize M.gI z = y at HC HX
      have hkh : k < (halfC p k).length := by rw [halfC_len p (by omega)]; exact hkl
      have c1 : wr.cell? ⟨w0.heap.size, k, none⟩ = some (.int .i64 (halfC p k)[k]) := by rw [hrow.out.cellAt k (by omega), cellsI_at hkh]
      have f1 : wr.frozen? ⟨w0.heap.size, k, none⟩ = false := hrow.out.frozenAt _
      generalize (halfC p k)[k] = o1 at c1
      have hg : w0.heap.size < wr.heap.size := World.block_lt_of_cell? wr _ c1
      clear z0 z1 hkh
      go_wp2_with fail
      refine (unhide HC).mono ?_
      rintro e w2 ⟨rfl, hw⟩
      obtain rfl := hw.symm
      go_wp2_with fail
      go_roundw
      case rel => exact ⟨k + 1, by go_num, by omega, hide (by rw [← HX.out, ← cellsI_set]; exact (hrow.out.stored k (.int .i64 y)).1), hide (hbel.out.setCell (p := ⟨w0.heap.size, k, none⟩) (Nat.le_refl _) _)⟩
      case measure => simp [intOf]; omega
    · have hkm : k = p.length := by have := HN.out; omega
      rw [hkm, halfC_all] at hrow
      clear hkm
      go_wp2_with fail
      go_ret2
      refine ⟨⟨_, rfl, hrow.out.1, ?_⟩, HB0.out.trans (hbel.out.mono HB0.out.size)⟩
      rcases hrow.out.2 with q | ⟨g, cap, cur, hv, hg, hh, r⟩
      · exact Or.inl q
      · exact Or.inr ⟨g, cap, cur, hv, Nat.le_trans HB0.out.size hg, hh, r⟩
theorem comOk (a : Option Addr) (n cap : Nat) (p : List Int) (w : World) (hn : n = p.length) (hl : AtI w a p) (h0 : n ≠ 0) (hf : M.facE p = 0) :
    Calls Tryd.prog 14 #[.slice a n cap] w fun e w' => (∃ g, e = .returned (.tuple #[.slice (some ⟨g, 0, none⟩) n n, .nilIface]) ∧ AtI w' (some ⟨g, 0, none⟩) (M.commits p)) ∧ Below w.heap.size w w' := by
  refine (comOkO a n cap p w hn hl h0 hf).mono ?_
  rintro e w' ⟨⟨g, rfl, hrow⟩, hb⟩
  refine ⟨⟨g, rfl, ?_⟩, hb⟩
  obtain ⟨av, cv, hv, _, _, hat⟩ := atI_own (by rw [M.commits_len]; exact hn) hrow
  cases hv
  exact hat

/-- Commit, whatever comes in -/
theorem pCommit (a : Option Addr) (n cap : Nat) (p : List Int) (w : World) (hn : n = p.length) (hm : n ≤ maxLen) (hl : AtI w a p) :
    Calls Tryd.prog 14 #[.slice a n cap] w fun e w' => (∃ v k c, e = .returned (.tuple #[.slice v k c, errV (M.comE p)]) ∧ k = (M.comR p).length ∧ k ≤ c ∧ c ≤ maxLen ∧ AtI w' v (M.comR p)) ∧ Below w.heap.size w w' := by
  have bad : ∀ {E : Int} {w' : World}, E ≠ 0 → M.comE p = E → ∃ v k c, Ending.returned (.tuple #[.slice none 0 0, .iface 51 (.int .i64 E)]) = .returned (.tuple #[.slice v k c, errV (M.comE p)]) ∧ k = (M.comR p).length ∧ k ≤ c ∧ c ≤ maxLen ∧ AtI w' v (M.comR p) := fun {E w'} hE h => by
    rw [M.comR_bad (by rw [h]; exact hE), h, errV_bad hE]
    exact ⟨none, 0, 0, rfl, rfl, Nat.le_refl _, Nat.zero_le _, fun h0 => absurd h0 (by decide)⟩
  by_cases h0 : n = 0
  · subst h0
    refine (comNone a cap w).mono ?_
    rintro e w' ⟨rfl, hb⟩
    exact ⟨bad (by decide) (M.comE_none hn.symm), hb⟩
  · have hE := M.comE_some (p := p) (by omega)
    by_cases hf : M.facE p = 0
    · have e0 : M.comE p = 0 := by rw [hE]; exact hf
      rw [e0, M.comR_ok e0]
      have h7 := (M.facE_ok hf).1
      refine (comOk a n cap p w hn hl h0 hf).mono ?_
      rintro e w' ⟨⟨g, rfl, hat⟩, hb⟩
      exact ⟨⟨some ⟨g, 0, none⟩, n, n, rfl, by rw [M.commits_len]; exact hn, Nat.le_refl _, by unfold maxLen; omega, hat⟩, hb⟩
    · refine (comFac a n cap p w hn hm hl h0 hf).mono ?_
      rintro e w' ⟨rfl, hb⟩
      exact ⟨bad hf hE, hb⟩

end Go.Proofs.YtlefhfmckimlaaeDoor
