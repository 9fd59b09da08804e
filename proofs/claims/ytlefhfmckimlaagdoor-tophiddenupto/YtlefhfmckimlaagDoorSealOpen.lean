/-
  What Open of package seal does, and what it asks: each as one law of its call.
-/
import Derived.Test.YtlefhfmckimlaagDoorSealMem
import Derived.Test.YtlefhfmckimlaagDoorShareDeal2
set_option linter.unusedVariables false
namespace Go.Proofs.YtlefhfmckimlaagDoor
open Go.RowKit

/- what is joined, one by one -/
/-- what is joined so far, and nothing behind it -/
def halfJ (L : List (List (Int × Int))) (n : Int) (k : Nat) : List Int := M.opnL (L.take k) n ++ List.replicate (L.length - k) 0
theorem halfJ_len (L : List (List (Int × Int))) (n : Int) {k : Nat} (h : k ≤ L.length) : (halfJ L n k).length = L.length := by
  unfold halfJ; rw [List.length_append, M.opnL_len, List.length_replicate, List.length_take]; omega
theorem halfJ_zero (L : List (List (Int × Int))) (n : Int) : halfJ L n 0 = List.replicate L.length 0 := rfl
theorem halfJ_all (L : List (List (Int × Int))) (n : Int) : halfJ L n L.length = M.opnL L n := by
  unfold halfJ; rw [Nat.sub_self, List.replicate_zero, List.append_nil, List.take_of_length_le (Nat.le_refl _)]
theorem halfJ_next (L : List (List (Int × Int))) (n : Int) {k : Nat} (h : k < L.length) : (halfJ L n k).set k (M.joinR L[k] n) = halfJ L n (k + 1) := by
  unfold halfJ
  have e : L.length - k = (L.length - (k + 1)) + 1 := by omega
  have hl : (M.opnL (L.take k) n).length = k := by rw [M.opnL_len, List.length_take]; omega
  rw [e, List.replicate_succ, List.set_append_right _ _ (by rw [hl]; exact Nat.le_refl _), hl, Nat.sub_self, List.set_cons_zero, M.opnL_take h, List.append_assoc, List.singleton_append]
theorem cellsI_put (l : List Int) (i : Nat) (z : Int) : (cellsI l).set i (.int .i64 z) = cellsI (l.set i z) := by
  unfold cellsI; rw [List.map_set]

set_option maxRecDepth 100000 in
set_option maxHeartbeats 2000000 in
theorem joinEach (a : Option Addr) (n cap : Nat) (L : List (List (Int × Int))) (q : Int) (w : World) (hn : n = L.length) (h12 : n ≤ 12) (hl : AtQ IsP w a L) :
    Calls Tryd.prog 37 #[.slice a n cap, .int .i64 q] w fun e w' => ((M.eachE L q ≠ 0 ∧ e = .returned (.tuple #[.slice none 0 0, .iface 64 (.int .i64 (M.eachE L q))])) ∨ (M.eachE L q = 0 ∧ ∃ g, e = .returned (.tuple #[.slice (some ⟨g, 0, none⟩) n n, .nilIface]) ∧ AtI w' (some ⟨g, 0, none⟩) (M.opnL L q))) ∧ Below w.heap.size w w' := by
  obtain ⟨i0, hi, hz0, hz1, hz2⟩ := info_parts infoInt
  have HI := hide (And.intro hi (And.intro hz0 (And.intro hz1 hz2)))
  have HE : Hid (M.eachE L q = M.first (M.opnF L q) n) := hide (by rw [hn]; rfl)
  have HL := hide hl
  have HN := hide hn
  clear hi hz0 hz1 hz2 hl hn
  go_enter Tryd.func37, Tryd.ntmps37
  go_wp2_with (at_make; refine wpList_make_full _ rfl (.tmp 11) (.tmp 11) 23 rfl w.heap.size 3 i0 (.int .i64 0) 1 Tryd.underlying23 HI.out.1 HI.out.2.1 HI.out.2.2.1 .i64 .i64 _ _ n rfl rfl rfl rfl (by rw [HI.out.2.2.2]; omega) (by unfold maxLen; omega) (Nat.le_refl _) ?_)
  intro w1 hown hgrow
  have HO : Hid (w1.ownsRow w.heap.size 3 1 (.slice (some ⟨w.heap.size, 0, none⟩) n n) n (cellsI (halfJ L q 0))) := hide (by
    rw [toList_madeCells_one] at hown
    rw [halfJ_zero, ← HN.out]
    unfold cellsI
    rw [List.map_replicate]
    exact hown)
  have HB := hide ((Below.refl w.heap.size w).grown hgrow (Nat.le_refl _) (fun k hk => by cases hk))
  clear hown hgrow
  go_wp2
  go_loopw [15] (fun si wr => ∃ k : Nat, si = .int .i64 k ∧ k ≤ n ∧ Hid (M.first (M.opnF L q) k = 0) ∧ Hid (wr.ownsRow w.heap.size 3 1 (.slice (some ⟨w.heap.size, 0, none⟩) n n) n (cellsI (halfJ L q k))) ∧ Hid (Below w.heap.size w wr)) (fun si _ => n - (intOf si).toNat)
  case atStart => exact ⟨0, rfl, Nat.zero_le _, hide rfl, HO, HB⟩
  case round =>
    obtain ⟨k, rfl, hk, hno, hrow, hbel⟩ := hrel
    by_cases hlt : k < n
    · have hkl : k < L.length := by have := HN.out; omega
      obtain ⟨b, off, rfl, hlie⟩ := HL.out (by omega)
      obtain ⟨v, c0, a', n', cap', rfl, hn', hm', hcm', hat'⟩ := hlie k hkl
      have c1 : wr.cell? ⟨b, off + k, none⟩ = some (.slice a' n' cap') := (hbel.out.cell (p := ⟨b, off + k, none⟩) (World.block_lt_of_cell? w _ c0)).trans c0
      have hF : M.opnF L q k = M.joinE L[k] q := M.opnF_at hkl
      have HX := hide (halfJ_next L q hkl)
      have HJ : Hid (Calls Tryd.prog 60 #[.slice a' n' cap', .int .i64 q] wr fun e w' => e = .returned (.tuple #[.int .i64 (M.joinR L[k] q), errV (M.opnF L q k)]) ∧ Below wr.heap.size wr w') := hide (by
        rw [hF]
        exact sJoin a' n' cap' L[k] q wr hn' hm' hcm' (hat'.stays hbel.out (Nat.le_refl _)))
      generalize M.joinR L[k] q = z at HJ HX
      by_cases hz : M.opnF L q k = 0
      · rw [hz] at HJ
        have HJ2 : Hid (Calls Tryd.prog 60 #[.slice a' n' cap', .int .i64 q] wr fun e w' => e = .returned (.tuple #[.int .i64 z, .nilIface]) ∧ Below wr.heap.size wr w') := HJ
        have HS := hide ((M.first_next hno.out).trans hz)
        clear HJ hF hz c0 hlie hat' hn' hm' hcm'
        go_wp2_with fail
        refine (unhide HJ2).mono ?_
        rintro e w2 ⟨rfl, hb2⟩
        have HR2 := hide (row_stays hrow.out hb2)
        have HB2 := hide (hbel.out.trans (hb2.mono hbel.out.size))
        have hkh : k < (halfJ L q k).length := by rw [halfJ_len L q (by omega)]; exact hkl
        have c2 : w2.cell? ⟨w.heap.size, k, none⟩ = some (.int .i64 (halfJ L q k)[k]) := by rw [HR2.out.cellAt k (by omega), cellsI_at hkh]
        have f2 : w2.frozen? ⟨w.heap.size, k, none⟩ = false := HR2.out.frozenAt _
        generalize (halfJ L q k)[k] = o1 at c2
        have hg : w.heap.size < w2.heap.size := World.block_lt_of_cell? w2 _ c2
        clear hb2 hkh
        go_wp2_with fail
        go_roundw
        case rel => exact ⟨k + 1, by go_num, by omega, HS, hide (by rw [← HX.out, ← cellsI_put]; exact (HR2.out.stored k (.int .i64 z)).1), hide (HB2.out.setCell (p := ⟨w.heap.size, k, none⟩) (Nat.le_refl _) _)⟩
        case measure => simp [intOf]; omega
      · rw [errV_bad hz] at HJ
        have HS : Hid (M.eachE L q = M.opnF L q k) := hide (HE.out.trans (M.first_bad hlt hno.out hz))
        have HZ : Hid (M.opnF L q k ≠ 0) := hide hz
        generalize M.opnF L q k = E at HJ HS HZ
        clear hF hz c0 hlie hat' hn' hm' hcm'
        go_wp2_with fail
        refine (unhide HJ).mono ?_
        rintro e w2 ⟨rfl, hb2⟩
        have HB2 := hide (hbel.out.trans (hb2.mono hbel.out.size))
        clear hb2
        go_wp2_with fail
        go_ret2
        exact ⟨Or.inl ⟨by rw [HS.out]; exact HZ.out, by rw [HS.out]; rfl⟩, HB2.out⟩
    · have hkm : k = n := by omega
      have HS : Hid (M.eachE L q = 0) := hide (by rw [HE.out, ← hkm]; exact hno.out)
      rw [hkm, HN.out, halfJ_all, ← HN.out] at hrow
      clear hkm
      go_wp2_with fail
      go_ret2
      refine ⟨Or.inr ⟨HS.out, _, rfl, ?_⟩, hbel.out⟩
      obtain ⟨av, cv, hv, _, _, hat⟩ := atI_own (by rw [M.opnL_len]; exact HN.out) hrow.out
      cases hv
      exact hat

/- is one of them no byte -/
theorem isBig (z : Int) (w : World) : Calls Tryd.prog 39 #[.int .i64 z] w fun e w' => e = .returned (.bool (decide (255 < z))) ∧ w' = w := by
  by_cases h : 255 < z
  · rw [decide_eq_true h]
    go_enter Tryd.func39, Tryd.ntmps39
    go_wp2
    go_ret
    exact ⟨rfl, rfl⟩
  · rw [decide_eq_false h]
    go_enter Tryd.func39, Tryd.ntmps39
    go_wp2
    go_ret
    exact ⟨rfl, rfl⟩

theorem findBig (a : Option Addr) (n cap : Nat) (p : List Int) (w : World) (hn : n = p.length) (h12 : n ≤ 12) (hl : AtI w a p) :
    Calls Tryd.prog 61 #[.slice a n cap, .func (.func 39) #[] #[]] w fun e w' => (∃ r, e = .returned (.int .i64 r) ∧ decide (0 ≤ r) = M.bigB p) ∧ w' = w := by
  have HL := hide hl
  have HN := hide hn
  clear hl hn
  go_enter Tryd.func61, Tryd.ntmps61
  go_wp2
  go_loop [8] (fun i => ∃ k : Nat, k ≤ n ∧ i = .int .i64 k ∧ Hid (M.first (M.bigF p) k = 0)) (fun i => n - (intOf i).toNat)
  case atStart => exact ⟨0, Nat.zero_le _, rfl, hide rfl⟩
  case round =>
    obtain ⟨k, hk, rfl, hno⟩ := hrel
    by_cases hlt : k < n
    · have hkl : k < p.length := HN.out ▸ hlt
      obtain ⟨b, off, rfl, hlie⟩ := HL.out (by omega)
      have c1 := hlie k hkl
      have HF := hide (M.bigF_at hkl)
      clear hlie
      generalize hz : p[k] = z at c1 HF
      clear hz
      by_cases hb : 255 < z
      · have HC : Hid (∀ w, Calls Tryd.prog 39 #[.int .i64 z] w fun e w' => e = .returned (.bool true) ∧ w' = w) := hide fun w => by have := isBig z w; rwa [decide_eq_true hb] at this
        have hfin : Hid (M.bigB p = true) := hide (by
          have h1 := HF.out
          rw [if_pos hb] at h1
          unfold M.bigB
          rw [M.first_bad hkl hno.out (by rw [h1]; decide), h1]; rfl)
        clear hb
        go_wp2_with fail
        refine (unhide HC _).mono ?_
        rintro e w1 ⟨rfl, rfl⟩
        go_wp2_with fail
        go_ret
        exact ⟨⟨_, rfl, by rw [hfin.out]; simp⟩, rfl⟩
      · have HC : Hid (∀ w, Calls Tryd.prog 39 #[.int .i64 z] w fun e w' => e = .returned (.bool false) ∧ w' = w) := hide fun w => by have := isBig z w; rwa [decide_eq_false hb] at this
        have HS : Hid (M.first (M.bigF p) (k + 1) = 0) := hide (by rw [M.first_next hno.out, HF.out, if_neg hb])
        clear hb
        go_wp2_with fail
        refine (unhide HC _).mono ?_
        rintro e w1 ⟨rfl, rfl⟩
        go_wp2_with fail
        go_round
        case rel => exact ⟨k + 1, by omega, by go_num, HS⟩
        case measure => simp [intOf]; omega
    · have hfin : Hid (M.bigB p = false) := hide (by
        have h1 := hno.out
        have h2 := HN.out
        unfold M.bigB
        rw [← h2, show n = k by omega, h1]; rfl)
      go_wp2
      go_ret
      exact ⟨⟨_, rfl, by rw [hfin.out]; decide⟩, rfl⟩

theorem hasBig (a : Option Addr) (n cap : Nat) (p : List Int) (w : World) (hn : n = p.length) (h12 : n ≤ 12) (hl : AtI w a p) :
    Calls Tryd.prog 38 #[.slice a n cap, .func (.func 39) #[] #[]] w fun e w' => e = .returned (.bool (M.bigB p)) ∧ w' = w := by
  have HI := hide (findBig a n cap p w hn h12 hl)
  clear hn hl
  go_enter Tryd.func38, Tryd.ntmps38
  go_wp2_with fail
  refine (unhide HI).mono ?_
  rintro e w1 ⟨⟨r, rfl, hr⟩, rfl⟩
  have HR := hide hr
  clear hr
  go_wp2_with fail
  go_ret
  exact ⟨by rw [← HR.out]; rfl, rfl⟩

/- as a text -/
def cellsB (l : List Int) : List Value := l.map fun z => .int .u8 z
theorem cellsB_len (l : List Int) : (cellsB l).length = l.length := by simp [cellsB]
theorem cellsB_at {l : List Int} {j : Nat} (h : j < l.length) : (cellsB l)[j]? = some (.int .u8 l[j]) := by simp [cellsB, h]
theorem cellsB_set (l : List Int) (i : Nat) (z : Int) : (cellsB l).set i (.int .u8 z) = cellsB (l.set i z) := by
  unfold cellsB; rw [List.map_set]
/-- the first ones, and nothing behind them -/
def halfB (l : List Int) (k : Nat) : List Int := l.take k ++ List.replicate (l.length - k) 0
theorem halfB_len (l : List Int) {k : Nat} (h : k ≤ l.length) : (halfB l k).length = l.length := by
  unfold halfB; rw [List.length_append, List.length_replicate, List.length_take]; omega
theorem halfB_zero (l : List Int) : halfB l 0 = List.replicate l.length 0 := rfl
theorem halfB_all (l : List Int) : halfB l l.length = l := by
  unfold halfB; rw [Nat.sub_self, List.replicate_zero, List.append_nil, List.take_of_length_le (Nat.le_refl _)]
theorem halfB_next (l : List Int) {k : Nat} (h : k < l.length) : (halfB l k).set k l[k] = halfB l (k + 1) := by
  unfold halfB
  have e : l.length - k = (l.length - (k + 1)) + 1 := by omega
  have hl : (l.take k).length = k := by rw [List.length_take]; omega
  rw [e, List.replicate_succ, List.set_append_right _ _ (by rw [hl]; exact Nat.le_refl _), hl, Nat.sub_self, List.set_cons_zero, List.take_succ_eq_append_getElem h, List.append_assoc, List.singleton_append]
theorem infoB : (Tryd.prog.info? 5).map (fun i => (i.zero, i.size, i.bytes)) = some (some (.int .u8 0), 1, 1) := by kernel_rfl

set_option maxRecDepth 100000 in
set_option maxHeartbeats 2000000 in
theorem textOf (a : Option Addr) (n cap : Nat) (l : List Int) (w : World) (hn : n = l.length) (h12 : n ≤ 12) (hl : AtI w a l) (hr : ∀ i (h : i < l.length), 0 ≤ l[i] ∧ l[i] ≤ 255) :
    Calls Tryd.prog 40 #[.slice a n cap] w fun e w' => e = .returned (.string (strOfNums l)) ∧ Below w.heap.size w w' := by
  obtain ⟨i0, hi, hz0, hz1, hz2⟩ := info_parts infoB
  have HI := hide (And.intro hi (And.intro hz0 (And.intro hz1 hz2)))
  have HL := hide hl
  have HN := hide hn
  have HR := hide hr
  clear hi hz0 hz1 hz2 hl hn hr
  go_enter Tryd.func40, Tryd.ntmps40
  go_wp2_with (at_make; refine wpList_make_full _ rfl (.tmp 6) (.tmp 6) 96 rfl w.heap.size 5 i0 (.int .u8 0) 1 Tryd.underlying96 HI.out.1 HI.out.2.1 HI.out.2.2.1 .i64 .i64 _ _ n rfl rfl rfl rfl (by rw [HI.out.2.2.2]; omega) (by unfold maxLen; omega) (Nat.le_refl _) ?_)
  intro w1 hown hgrow
  have HO : Hid (w1.ownsRow w.heap.size 5 1 (.slice (some ⟨w.heap.size, 0, none⟩) n n) n (cellsB (halfB l 0))) := hide (by
    rw [toList_madeCells_one] at hown
    rw [halfB_zero, ← HN.out]
    unfold cellsB
    rw [List.map_replicate]
    exact hown)
  have HB := hide ((Below.refl w.heap.size w).grown hgrow (Nat.le_refl _) (fun k hk => by cases hk))
  clear hown hgrow
  go_wp2
  go_loopw [10] (fun si wr => ∃ k : Nat, si = .int .i64 k ∧ k ≤ n ∧ Hid (wr.ownsRow w.heap.size 5 1 (.slice (some ⟨w.heap.size, 0, none⟩) n n) n (cellsB (halfB l k))) ∧ Hid (Below w.heap.size w wr)) (fun si _ => n - (intOf si).toNat)
  case atStart => exact ⟨0, rfl, Nat.zero_le _, HO, HB⟩
  case round =>
    obtain ⟨k, rfl, hk, hrow, hbel⟩ := hrel
    by_cases hlt : k < n
    · have hkl : k < l.length := by have := HN.out; omega
      obtain ⟨b, off, rfl, hlie⟩ := HL.out (by omega)
      have c1 := (hlie.stays hbel.out (Nat.le_refl _)) k hkl
      obtain ⟨z0, z1⟩ := HR.out k hkl
      have HX := hide (halfB_next l hkl)
      generalize l[k] = z at c1 z0 z1 HX
      have hkh : k < (halfB l k).length := by rw [halfB_len l (by omega)]; exact hkl
      have c2 : wr.cell? ⟨w.heap.size, k, none⟩ = some (.int .u8 (halfB l k)[k]) := by rw [hrow.out.cellAt k (by omega), cellsB_at hkh]
      have f2 : wr.frozen? ⟨w.heap.size, k, none⟩ = false := hrow.out.frozenAt _
      generalize (halfB l k)[k] = o1 at c2
      have hg : w.heap.size < wr.heap.size := World.block_lt_of_cell? wr _ c2
      have hbz : b < wr.heap.size := World.block_lt_of_cell? wr _ c1
      clear hkh hlie
      go_wp2_with fail
      go_roundw
      case rel => exact ⟨k + 1, by go_num, by omega, hide (by rw [← HX.out, ← cellsB_set]; exact (hrow.out.stored k (.int .u8 z)).1), hide (hbel.out.setCell (p := ⟨w.heap.size, k, none⟩) (Nat.le_refl _) _)⟩
      case measure => simp [intOf]; omega
    · have hkm : k = n := by omega
      rw [hkm, HN.out, halfB_all, ← HN.out] at hrow
      have hconv : (convert 96 9 (.slice (some ⟨w.heap.size, 0, none⟩) n n)).run Tryd.prog wr = .ok (.string (strOfNums l)) wr :=
        run_convert_bytes_arg wr 96 5 Tryd.underlying96 Tryd.underlying5 w.heap.size 0 n n l HN.out.symm (fun i hi => by
          have hil : i < l.length := by have := HN.out; omega
          rw [Nat.zero_add, hrow.out.cellAt i (by omega), cellsB_at hil, List.getD_eq_getElem?_getD, List.getElem?_eq_getElem hil]; rfl) 9 Tryd.underlying9
      clear hkm
      go_wp2_with fail
      go_ret
      exact ⟨rfl, hbel.out⟩

/- Open -/
theorem openMany (a : Option Addr) (n cap : Nat) (q : Int) (w : World) (hm : n ≤ maxLen) (h : 12 < n) :
    Calls Tryd.prog 19 #[.slice a n cap, .int .i64 q] w fun e w' => e = .returned (.tuple #[.string ByteArray.empty, .iface 64 (.int .i64 4)]) ∧ Below w.heap.size w w' := by
  unfold maxLen at hm
  have h' : (12 : Int) < (n : Int) := by omega
  clear h
  go_enter Tryd.func19, Tryd.ntmps19
  go_wp2
  go_ret2
  exact ⟨rfl, Below.refl _ _⟩

theorem openFew (a : Option Addr) (n cap : Nat) (L : List (List (Int × Int))) (q : Int) (w : World) (hn : n = L.length) (h12 : ¬ 12 < n) (hl : AtQ IsP w a L) :
    Calls Tryd.prog 19 #[.slice a n cap, .int .i64 q] w fun e w' => e = .returned (.tuple #[.string (strOfNums (M.opnR L q)), errV (M.opnE L q)]) ∧ Below w.heap.size w w' := by
  have h12' : ¬ (12 : Int) < (n : Int) := by omega
  have hL12 : ¬ 12 < L.length := by omega
  have HJ := hide (joinEach a n cap L q w hn (by omega) hl)
  have hnl : n = (M.opnL L q).length := by rw [M.opnL_len]; exact hn
  have HG : Hid (∀ g wx, AtI wx (some ⟨g, 0, none⟩) (M.opnL L q) → Calls Tryd.prog 38 #[.slice (some ⟨g, 0, none⟩) n n, .func (.func 39) #[] #[]] wx fun e w' => e = .returned (.bool (M.bigB (M.opnL L q))) ∧ w' = wx) := hide fun g wx h => hasBig _ n n _ wx hnl (by omega) h
  have HT : Hid (M.bigB (M.opnL L q) = false → ∀ g wx, AtI wx (some ⟨g, 0, none⟩) (M.opnL L q) → Calls Tryd.prog 40 #[.slice (some ⟨g, 0, none⟩) n n] wx fun e w' => e = .returned (.string (strOfNums (M.opnL L q))) ∧ Below wx.heap.size wx w') := hide fun hb g wx h => textOf _ n n _ wx hnl (by omega) h (fun i hi => ⟨by
    have hi' : i < L.length := by rw [M.opnL_len] at hi; exact hi
    rw [M.opnL_at q hi']; exact (M.joinR_range _ _).1, M.bigB_no hb i hi⟩)
  have HA : Hid (M.eachE L q ≠ 0 → M.opnE L q = M.eachE L q ∧ M.opnR L q = []) := hide fun h => by
    have e := M.opnE_each hL12 h
    exact ⟨e, M.opnR_bad (by rw [e]; exact h)⟩
  have HBB : Hid (M.eachE L q = 0 → M.bigB (M.opnL L q) = true → M.opnE L q = 3 ∧ M.opnR L q = []) := hide fun h hb => by
    have e := M.opnE_big hL12 h hb
    exact ⟨e, M.opnR_bad (by rw [e]; decide)⟩
  have HC : Hid (M.eachE L q = 0 → M.bigB (M.opnL L q) = false → M.opnE L q = 0 ∧ M.opnR L q = M.opnL L q) := hide fun h hb => by
    have e := M.opnE_0 hL12 h hb
    exact ⟨e, M.opnR_ok e⟩
  clear hn hl hnl hL12
  generalize M.opnL L q = l at HJ HG HT HBB HC
  generalize M.eachE L q = E at HJ HA HBB HC
  generalize M.opnE L q = F at HA HBB HC ⊢
  generalize M.opnR L q = r at HA HBB HC ⊢
  go_enter Tryd.func19, Tryd.ntmps19
  go_wp2_with fail
  refine (unhide HJ).mono ?_
  rintro e w1 ⟨⟨hE, rfl⟩ | ⟨hE, g, rfl, hat⟩, hb1⟩
  · obtain ⟨rfl, rfl⟩ := HA.out hE
    have HE := hide hE
    have HB1 := hide hb1
    clear hE hb1
    go_wp2_with fail
    go_ret2
    exact ⟨by rw [errV_bad HE.out]; rfl, HB1.out⟩
  · have HB1 := hide hb1
    have HGG := hide (HG.out g w1 hat)
    cases hb : M.bigB l
    · have HTT := hide (HT.out hb g w1 hat)
      obtain ⟨rfl, rfl⟩ := HC.out hE hb
      rw [hb] at HGG
      clear hE hb1 hat hb
      go_wp2_with fail
      refine (unhide HGG).mono ?_
      rintro e w2 ⟨rfl, hw⟩
      obtain rfl := hw.symm
      go_wp2_with fail
      refine (unhide HTT).mono ?_
      rintro e w2 ⟨rfl, hb2⟩
      have HB2 := hide (HB1.out.trans (hb2.mono HB1.out.size))
      clear hb2
      go_wp2_with fail
      go_ret2
      exact ⟨rfl, HB2.out⟩
    · obtain ⟨rfl, rfl⟩ := HBB.out hE hb
      rw [hb] at HGG
      clear hE hb1 hat hb
      go_wp2_with fail
      refine (unhide HGG).mono ?_
      rintro e w2 ⟨rfl, hw⟩
      obtain rfl := hw.symm
      go_wp2_with fail
      go_ret2
      exact ⟨rfl, HB1.out⟩

/-- Open, whatever comes in -/
theorem sOpen (a : Option Addr) (n cap : Nat) (L : List (List (Int × Int))) (q : Int) (w : World) (hn : n = L.length) (hm : n ≤ maxLen) (hl : AtQ IsP w a L) :
    Calls Tryd.prog 19 #[.slice a n cap, .int .i64 q] w fun e w' => e = .returned (.tuple #[.string (strOfNums (M.opnR L q)), errV (M.opnE L q)]) ∧ Below w.heap.size w w' := by
  by_cases h12 : 12 < n
  · have e : M.opnE L q = 4 := M.opnE_many (by omega)
    rw [M.opnR_bad (by rw [e]; decide), e]
    exact openMany a n cap q w hm h12
  · exact openFew a n cap L q w hn h12 hl

end Go.Proofs.YtlefhfmckimlaagDoor
