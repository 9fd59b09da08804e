/-
  What Crash of package log does, as one law of its call.
-/
import Derived.Test.YtlefhfmckimlaakGreatDoorLogIter
import Derived.Test.YtlefhfmckimlaakGreatDoorLogDo
import Derived.BigRegion
set_option linter.unusedVariables false
namespace Go.Proofs.YtlefhfmckimlaakGreatDoor
open Go.RowKit Go.Shelf
attribute [local go_sem] Oper.semAt_some

/-- the asks of records -/
def asOf (pre : List Rk) : List M.Ask := pre.map fun x => x.1
theorem asOf_snoc (pre : List Rk) (x : Rk) : asOf (pre ++ [x]) = asOf pre ++ [x.1] := by simp [asOf]
theorem asOf_ok (pre : List Rk) : ∀ a ∈ asOf pre, M.RecOk a := fun a ha => by
  obtain ⟨x, _, rfl⟩ := List.mem_map.1 ha
  exact x.2
theorem asOf_len (pre : List Rk) : (asOf pre).length = pre.length := by simp [asOf]

/-- where the loop stands: so many records were done again -/
structure CrI (base : Nat) (w0 W : World) (J L0 C S B : Nat) (rv uv : Value) (sf lf : Int) (st : Bool) (R : List M.Rul) (pre : List Rk) : Prop where
  cp : ∃ v, Cp base W C S B v rv (M.runs R (asOf pre)).l (M.runs R (asOf pre)).g (M.runs R (asOf pre)).n (M.runs R (asOf pre)).n R ∧ ∀ k, cpF C S B v rv k → w0.heap.size ≤ k
  lg : LgC base W J C uv (bytesB (M.keptL (asOf pre))) sf lf st R
  box : W.heap[L0]? = some (.cells #[.pointer (some ⟨J, 0, none⟩)] 25 (0, 0))
  tch : Tch (fun k => k = J) w0 W

/-- the box of the receiver beside a log -/
theorem LgC.lbox {base : Nat} {w w' : World} {J C L0 : Nat} {uv : Value} {K : ByteArray} {sf lf : Int} {st : Bool} {R : List M.Rul} (h : LgC base w J C uv K sf lf st R) (ht : Tch (fun k => k = J) w w') (hb : w.heap[L0]? = some (.cells #[.pointer (some ⟨J, 0, none⟩)] 25 (0, 0))) : w'.heap[L0]? = some (.cells #[.pointer (some ⟨J, 0, none⟩)] 25 (0, 0)) :=
  (ht.block L0 (heap_lt hb) (fun e => by rw [e, h.heap] at hb; exact absurd (tag_eq hb) (by decide))).trans hb

theorem Cp.keep {base : Nat} {w w' : World} {C S B : Nat} {v rv : Value} {l : List (List M.Val)} {g : Int → Int × ByteArray} {m : Int} {k : Nat} {R : List M.Rul} {G : Nat → Prop} (h : Cp base w C S B v rv l g m k R) (ht : Tch G w w') (hd : ∀ i, cpF C S B v rv i → ¬ G i) : Cp base w' C S B v rv l g m k R :=
  h.kept (fun i hi => ht.block i (h.highs i hi) (hd i hi)) ht.vals
/-- of a copy's blocks one alone is no row of cells: its map -/
theorem Cp.cellsAt {base : Nat} {w : World} {C S B : Nat} {v rv : Value} {l : List (List M.Val)} {g : Int → Int × ByteArray} {m : Int} {k : Nat} {R : List M.Rul} (h : Cp base w C S B v rv l g m k R) {i : Nat} (hi : cpF C S B v rv i) (hB : i ≠ B) : ∃ cs T fr, w.heap[i]? = some (.cells cs T fr) := by
  rcases hi with rfl | rfl | rfl | hi | hi
  · exact ⟨_, _, _, h.heap⟩
  · exact ⟨_, _, _, h.sp.heap⟩
  · exact absurd rfl hB
  · obtain ⟨_, c, fr, hh⟩ := h.rowV hi
    exact ⟨_, _, _, hh⟩
  · obtain ⟨_, c, fr, hh⟩ := h.rowR hi
    exact ⟨_, _, _, hh⟩
/-- what the loop's own book-keeping leaves as it was -/
theorem grown_cells {W W' : World} {row : Option Nat} {Bd : Nat} (hg : W.grownBy W' row) (hr : ∀ r, row = some r → Bd ≤ r ∧ ∃ o : Obj, W.heap[r]? = some o ∧ o.isCells = false) {k : Nat} (hk : k < W.heap.size) (h : k < Bd ∨ ∃ cs T fr, W.heap[k]? = some (.cells cs T fr)) : W'.heap[k]? = W.heap[k]? := by
  refine hg.block k hk (fun e => ?_)
  obtain ⟨h1, o, h2, h3⟩ := hr k e.symm
  rcases h with h | ⟨cs, T, fr, h⟩
  · omega
  · rw [h] at h2
    cases h2
    cases h3
theorem grown_tch {W W' : World} {row : Option Nat} {Bd J : Nat} {w0 : World} (hg : W.grownBy W' row) (hr : ∀ r, row = some r → Bd ≤ r ∧ ∃ o : Obj, W.heap[r]? = some o ∧ o.isCells = false) (hB : w0.heap.size ≤ Bd) (ht : Tch (fun k => k = J) w0 W) : Tch (fun k => k = J) w0 W' :=
  ⟨hg.os.trans ht.os, hg.tape.trans ht.tape, hg.output.trans ht.output, Nat.le_trans ht.size hg.size, fun k hk hn => (grown_cells hg hr (Nat.lt_of_lt_of_le hk ht.size) (Or.inl (by omega))).trans (ht.block k hk hn), ht.vals.trans (fun b cur fr hb => (grown_cells hg hr (heap_lt hb) (Or.inr ⟨_, _, _, hb⟩)).trans hb)⟩
section
variable {base : Nat} {w0 W W' : World} {J L0 C S B Bd : Nat} {rv uv : Value} {sf lf : Int} {st : Bool} {R : List M.Rul} {pre : List Rk}
theorem CrI.grown {row : Option Nat} (h : CrI base w0 W J L0 C S B rv uv sf lf st R pre) (hB : B < Bd) (h0 : w0.heap.size ≤ Bd) (hg : W.grownBy W' row) (hr : ∀ r, row = some r → Bd ≤ r ∧ ∃ o : Obj, W.heap[r]? = some o ∧ o.isCells = false) : CrI base w0 W' J L0 C S B rv uv sf lf st R pre := by
  obtain ⟨v, hc, hn⟩ := h.cp
  have hsol : Solid W W' := fun b cur fr hb => (grown_cells hg hr (heap_lt hb) (Or.inr ⟨_, _, _, hb⟩)).trans hb
  refine ⟨⟨v, hc.kept (fun i hi => grown_cells hg hr (hc.highs i hi) ?_) hsol, hn⟩, h.lg.kept (grown_cells hg hr (heap_lt h.lg.heap) (Or.inr ⟨_, _, _, h.lg.heap⟩)) (fun k hk => ?_) hsol, (grown_cells hg hr (heap_lt h.box) (Or.inr ⟨_, _, _, h.box⟩)).trans h.box, grown_tch hg hr h0 h.tch⟩
  · by_cases e : i = B
    · exact Or.inl (by omega)
    · exact Or.inr (hc.cellsAt hi e)
  · obtain ⟨_, c, fr, hh⟩ := h.lg.row hk
    exact grown_cells hg hr (heap_lt hh) (Or.inr ⟨_, _, _, hh⟩)
theorem crI_own (hB : B < Bd) (h0 : w0.heap.size ≤ Bd) : OwnFrom Bd (fun pre W => CrI base w0 W J L0 C S B rv uv sf lf st R pre) := fun _ _ _ _ h hg hr => h.grown hB h0 hg hr
theorem CrI.tab (h : CrI base w0 W J L0 C S B rv uv sf lf st R pre) (hT : TabFrom base w0) (hb : base ≤ w0.heap.size) : TabFrom base W := hT.next (h.tch.below (fun k hk => by rw [hk]; exact h.lg.lo) hb)
/-- one round -/
theorem CrI.step {v v' : Value} {w1 w2 : World} {x : Rk} (h : CrI base w0 W J L0 C S B rv uv sf lf st R pre) (hu : ∀ k, uv.ownBlock = some k → k < w0.heap.size) (hBd : B < Bd) (h0 : w0.heap.size ≤ Bd) (hJ : J < w0.heap.size) (hL0 : L0 < Bd)
    (hc : Cp base W C S B v rv (M.runs R (asOf pre)).l (M.runs R (asOf pre)).g (M.runs R (asOf pre)).n (M.runs R (asOf pre)).n R) (hn : ∀ k, cpF C S B v rv k → w0.heap.size ≤ k) (hb1 : Below W.heap.size W w1)
    (hc2 : Cp base w2 C S B v' rv (M.doR R (M.runs R (asOf pre)) x.1).2.2.l (M.doR R (M.runs R (asOf pre)) x.1).2.2.g (M.doR R (M.runs R (asOf pre)) x.1).2.2.n (M.doR R (M.runs R (asOf pre)) x.1).2.2.n R) (ht2 : Tch (cpF C S B v rv) w1 w2) (hg2 : Grows w1 (cpF C S B v rv) (cpF C S B v' rv)) :
    LgC base w2 J C uv (bytesB (M.keptL (asOf pre))) sf lf st R ∧ w2.heap[L0]? = some (.cells #[.pointer (some ⟨J, 0, none⟩)] 25 (0, 0)) ∧ KeepsFrom Bd W (w2.setCell ⟨J, 2, none⟩ (.string (bytesB (M.keptL (asOf (pre ++ [x])))))) ∧ CrI base w0 (w2.setCell ⟨J, 2, none⟩ (.string (bytesB (M.keptL (asOf (pre ++ [x])))))) J L0 C S B rv uv sf lf st R (pre ++ [x]) := by
  have hc1 := hc.quiet hb1
  have hl1 := h.lg.quiet hb1
  have hoff : ∀ k, k < w0.heap.size → ¬ cpF C S B v rv k := fun k hk e => by have := hn k e; omega
  have hx1 : w1.heap[L0]? = some (.cells #[.pointer (some ⟨J, 0, none⟩)] 25 (0, 0)) := (hb1.block L0 (heap_lt h.box)).trans h.box
  have hl2 : LgC base w2 J C uv (bytesB (M.keptL (asOf pre))) sf lf st R := hl1.kept (ht2.block J (heap_lt hl1.heap) (hoff J hJ)) (fun k hk => by
    obtain ⟨_, c, fr, hh⟩ := hl1.row hk
    exact ht2.block k (heap_lt hh) (hoff k (hu k hk))) ht2.vals
  have hx2 : w2.heap[L0]? = some (.cells #[.pointer (some ⟨J, 0, none⟩)] 25 (0, 0)) := (ht2.block L0 (heap_lt hx1) (hc1.other hx1 (by decide) (by decide) (by decide) (by decide))).trans hx1
  obtain ⟨s1, s2⟩ := hl2.store 2 (.string (bytesB (M.keptL (asOf (pre ++ [x]))))) (C' := C) (K' := bytesB (M.keptL (asOf (pre ++ [x])))) (sf' := sf) (lf' := lf) (st' := st) rfl
  have hnew2 : ∀ k, cpF C S B v' rv k → w0.heap.size ≤ k := fun k hk => by
    rcases hg2 k hk with q | q
    · exact hn k q
    · have := h.tch.size
      have := hb1.size
      omega
  refine ⟨hl2, hx2, ⟨Nat.le_trans hb1.size (Nat.le_trans ht2.size s2.size), fun k o hB hk ho => ?_⟩, ⟨⟨v', ?_, hnew2⟩, s1, hl2.lbox s2 hx2, ((h.tch.then hb1).trans (fun k hk => Or.inr (hn k hk)) ht2).trans (Grows.refl _ _) s2⟩⟩
  · have k1 : w1.heap[k]? = some o := (hb1.block k (heap_lt hk)).trans hk
    have hnc : ∀ cs T fr, w1.heap[k]? ≠ some (.cells cs T fr) := fun cs T fr e => by
      rw [k1] at e
      cases e
      cases ho
    have k2 : w2.heap[k]? = some o := (ht2.block k (heap_lt k1) (fun e => by
      by_cases eB : k = B
      · omega
      · obtain ⟨cs, T, fr, q⟩ := hc1.cellsAt e eB
        exact hnc _ _ _ q)).trans k1
    exact (s2.block k (heap_lt k2) (fun e => by rw [e] at k1; exact hnc _ _ _ (by rw [e]; exact hl1.heap))).trans k2
  · have q := hc2.keep s2 (fun i hi e => by have := hnew2 i hi; omega)
    have e : M.runs R (asOf (pre ++ [x])) = (M.doR R (M.runs R (asOf pre)) x.1).2.2 := by rw [asOf_snoc, M.runs_snoc]
    rw [e]
    exact q
end

set_option maxRecDepth 100000 in
set_option maxHeartbeats 4000000 in
theorem lCrashC {base : Nat} {w : World} {J C : Nat} {uv : Value} {kl : List UInt8} {sf : Nat} {lf : Int} {st : Bool} {R : List M.Rul} (h : LgC base w J C uv (bytesB kl) sf lf st R) (hE : M.rulE R = 0) (keep : Int) (hs : sf ≤ kl.length) (hk : kl.length ≤ 100000000) (hi : Nat) (hhi : hi = sf + min keep.toNat (kl.length - sf)) (xs : List Rk) (hx : M.lns (kl.take hi) = texts xs) (hxl : xs.length ≤ 30) (hT : TabFrom base w) :
    Calls Tryz.prog 11 #[.pointer (some ⟨J, 0, none⟩), .int .i64 keep] w fun e w' => e = .returned (.tuple #[]) ∧ ∃ C' F', LgC base w' J C' uv (bytesB (M.keptL (asOf xs))) (M.keptL (asOf xs)).length (-1) false R ∧ CpIs base w' F' C' (M.runs R (asOf xs)) R ∧ (∀ k, F' k → w.heap.size ≤ k) ∧ Tch (fun k => k = J) w w' := by
  obtain ⟨ra, rc, hrv, hR⟩ := h.rules.at
  obtain ⟨rn, hrn⟩ : ∃ rn, rn = R.length := ⟨_, rfl⟩
  rw [← hrn] at hrv
  subst hrv
  have HRN := hide hrn
  clear hrn
  have hbl := h.base_le
  have HE := hide hE
  have HTT := hide hT
  have HL := hide h
  have hz := bytesB_size kl
  have HEX : Hid ((bytesB kl).extract 0 hi = bytesB (kl.take hi)) := hide (by
    apply WideShapes.bytes_inj
    simp [ByteArray.data_extract])
  obtain ⟨W0, hW0⟩ : ∃ W0, W0 = w.alloc (.cells #[.pointer (some ⟨J, 0, none⟩)] 25) := ⟨_, rfl⟩
  have HB0 : Hid (Below w.heap.size w W0) := hide (by subst hW0; exact (Below.refl _ _).alloc (Nat.le_refl _) _)
  have HX0 : Hid (W0.heap[w.heap.size]? = some (.cells #[.pointer (some ⟨J, 0, none⟩)] 25 (0, 0))) := hide (by subst hW0; exact heap_alloc_new w _)
  obtain ⟨c0, c1, c2, c3, c4, c5, cn, cf⟩ := (HL.out.quiet HB0.out).cells
  have l0 : W0.cell? ⟨w.heap.size, 0, none⟩ = some (.pointer (some ⟨J, 0, none⟩)) := by rw [cell_of_row W0 w.heap.size 0 _ _ (0, 0) HX0.out]; rfl
  have ln := heap_lt HX0.out
  obtain ⟨KB, hKB⟩ : ∃ KB, KB = bytesB kl := ⟨_, rfl⟩
  obtain ⟨LB, hLB⟩ : ∃ LB, LB = bytesB (kl.take hi) := ⟨_, rfl⟩
  rw [← hKB] at c2 hz HEX
  rw [← hLB] at HEX
  have HLB := hide hLB
  obtain ⟨d, hd⟩ : ∃ d : Nat, d = kl.length - sf := ⟨_, rfl⟩
  have z1 : (KB.size : Int) - sf = d := by omega
  have z2 : IntKind.i64.wrap ((KB.size : Int) - sf) = d := by rw [z1]; exact IntWalk.i64_in _ ⟨by omega, by omega⟩
  have z3 : (0 : Int) ≤ (hi : Int) := by omega
  have z4 : (hi : Int) ≤ (KB.size : Int) := by omega
  have z5 : IntKind.i64.wrap (d : Int) = d := IntWalk.i64_in _ ⟨by omega, by omega⟩
  obtain ⟨m0, hm0⟩ : ∃ m0 : Int, max keep 0 = m0 := ⟨_, rfl⟩
  obtain ⟨r, hr⟩ : ∃ r : Int, min m0 (d : Int) = r := ⟨_, rfl⟩
  have q3 : (sf : Int) + r = hi := by
    rw [hhi, ← hr, ← hm0]
    omega
  have q4 : IntKind.i64.wrap (hi : Int) = hi := IntWalk.i64_in _ ⟨by omega, by omega⟩
  have hkk : (KB.size : Int) ≤ 100000000 := by omega
  have HLEN : Hid ((kl.take hi).length ≤ maxLen) := hide (by rw [List.length_take]; unfold maxLen; omega)
  have hss : (sf : Int) ≤ (KB.size : Int) := by omega
  have hs0 : (0 : Int) ≤ (sf : Int) := by omega
  clear h hE hT hhi cf hKB hLB hz hs hk hd
  refine (callsIn_wide (n := 3)).1 ?_
  refine callsIn_of_wp_marks Tryz.func11 rfl trivial ?_ rfl
  simp only [Tryz.ntmps11, List.size_toArray, List.length_cons, List.length_nil, Nat.reduceAdd, Nat.reduceSub, Array.replicate_succ, Array.replicate_zero, List.push_toArray, List.append_toArray, List.nil_append, List.cons_append]
  refine wpIn_wide.2 ?_
  go_upto_region 1 with fail
  rw [← hW0]
  clear hW0
  go_cut [4] from 6 to 28 (fun s wx => s = .string LB ∧ ∃ W : World, W = wx ∧ Hid (Below W0.heap.size W0 W))
  case first =>
    go_region_held3 (fun w' => w'.cell? ⟨w.heap.size, 0, none⟩ = some (.pointer (some ⟨J, 0, none⟩)) ∧ w'.cell? ⟨J, 2, none⟩ = some (.string KB) ∧ w'.cell? ⟨J, 3, none⟩ = some (.int .i64 sf)) (first | go_keep | assumption) (fail)
    go_wp2_with fail
    go_meet
    case rel => exact ⟨by rw [← HEX.out], _, rfl, hide ((Below.refl _ _).drew)⟩
  case rest =>
    obtain ⟨rfl, W1, rfl, HB1⟩ := hcut
    clear hm0 hr q3 q4 z1 z2 z3 z4 z5 hkk hss hs0 HEX c0 c1 c2 c3 c4 c5 cn l0 ln
    have HB1w := hide (HB0.out.trans (HB1.out.mono HB0.out.size))
    have HX1 : Hid (W1.heap[w.heap.size]? = some (.cells #[.pointer (some ⟨J, 0, none⟩)] 25 (0, 0))) := hide ((HB1.out.block _ (heap_lt HX0.out)).trans HX0.out)
    have HNW : Hid (∀ wx, Below w.heap.size w wx → Calls Tryz.prog 24 #[.slice ra rn rc] wx fun e w' => ∃ C' F', e = .returned (.tuple #[.pointer (some ⟨C', 0, none⟩), .nilIface]) ∧ CpIs base w' F' C' M.Cop.new R ∧ (∀ i, F' i → wx.heap.size ≤ i) ∧ Below wx.heap.size wx w') := hide fun wx hb => mNew_ok base ra rn rc R wx (Nat.le_trans hbl hb.size) HRN.out (by have := (M.rulE_ok HE.out).1; have := HRN.out; unfold maxLen; omega) (hR.stays hb (Nat.le_refl _)) HE.out
    obtain ⟨c0, c1, c2, c3, c4, c5, cn, cf⟩ := (HL.out.quiet HB1w.out).cells
    have f1 := cf 1
    have l0 : W1.cell? ⟨w.heap.size, 0, none⟩ = some (.pointer (some ⟨J, 0, none⟩)) := by rw [cell_of_row W1 w.heap.size 0 _ _ (0, 0) HX1.out]; rfl
    have ln := heap_lt HX1.out
    clear cf hR
    go_wp2_with fail
    go_region_held3 (fun w' => w'.cell? ⟨w.heap.size, 0, none⟩ = some (.pointer (some ⟨J, 0, none⟩)) ∧ w'.cell? ⟨J, 0, none⟩ = some (.slice ra rn rc)) (first | go_keep | assumption)
      (first
        | (go_at_call 24; refine (HNW.out _ HB1w.out.drew).mono ?_; rintro e w2 ⟨C2, F2, rfl, hc2, hn2, hb2⟩; have HC2 := hide hc2; have HN2 := hide hn2; have HB2 := hide (HB1w.out.drew.trans (hb2.mono HB1w.out.drew.size)); have HL2 := hide (HL.out.quiet HB2.out); have HX2 : Hid (w2.heap[w.heap.size]? = some (.cells #[.pointer (some ⟨J, 0, none⟩)] 25 (0, 0))) := hide ((hb2.block _ (heap_lt HX1.out)).trans HX1.out); obtain ⟨r0, r1, r2, r3, r4, r5, rn5, rf⟩ := HL2.out.cells; have rf1 := rf 1; have y0 : w2.cell? ⟨w.heap.size, 0, none⟩ = some (.pointer (some ⟨J, 0, none⟩)) := (cell_of_row w2 w.heap.size 0 _ _ (0, 0) HX2.out).trans rfl; have HS3 := hide (HL2.out.store 1 (.pointer (some ⟨C2, 0, none⟩)) (C' := C2) (K' := bytesB kl) (sf' := sf) (lf' := lf) (st' := st) rfl); have HX3 := hide (HL2.out.lbox HS3.out.2 HX2.out); have u0 := HS3.out.1.cells.1; have u1 : (w2.setCell ⟨J, 1, none⟩ (.pointer (some ⟨C2, 0, none⟩))).cell? ⟨w.heap.size, 0, none⟩ = some (.pointer (some ⟨J, 0, none⟩)) := (cell_of_row _ w.heap.size 0 _ _ (0, 0) HX3.out).trans rfl; clear hc2 hn2 hb2 rf))
    obtain ⟨w3, hw3⟩ : ∃ w3, w3 = w2.setCell ⟨J, 1, none⟩ (.pointer (some ⟨C2, 0, none⟩)) := ⟨_, rfl⟩
    rw [← hw3]
    rw [← hw3] at HS3 HX3 u0 u1
    obtain ⟨S, B, v0, rv, hF2, hcp2⟩ := HC2.out.is
    have hcp3 := hcp2.keep HS3.out.2 (fun i hi e => by rw [← hF2, e] at hi; exact HL2.out.off HC2.out hi)
    have HS4 := hide (HS3.out.1.store 2 (.string ⟨#[]⟩) (C' := C2) (K' := ⟨#[]⟩) (sf' := sf) (lf' := lf) (st' := st) rfl)
    have HX4 := hide (HS3.out.1.lbox HS4.out.2 HX3.out)
    have hcp4 := hcp3.keep HS4.out.2 (fun i hi e => by rw [← hF2, e] at hi; exact HL2.out.off HC2.out hi)
    have hnew : ∀ k, cpF C2 S B v0 rv k → w.heap.size ≤ k := fun k hk => Nat.le_trans HB1w.out.drew.size (HN2.out k (by rw [hF2]; exact hk))
    have HT4 : Hid (Tch (fun k => k = J) w (w3.setCell ⟨J, 2, none⟩ (.string ⟨#[]⟩))) := hide (((Tch.of_below HB2.out).trans (Grows.refl _ _) HS3.out.2).trans (Grows.refl _ _) HS4.out.2)
    have HI4 : Hid (CrI base w (w3.setCell ⟨J, 2, none⟩ (.string ⟨#[]⟩)) J w.heap.size C2 S B rv (.slice ra rn rc) sf lf st R []) := hide ⟨⟨v0, hcp4, hnew⟩, HS4.out.1, HX4.out, HT4.out⟩
    obtain ⟨r0, r1, r2, r3, r4, r5, rn5, rf⟩ := HS3.out.1.cells
    have rf2 := rf 2
    have hBB : B < w3.heap.size := hcp3.highs B (Or.inr (Or.inr (Or.inl rfl)))
    have hJw : J < w.heap.size := heap_lt HL.out.heap
    have hUU : ∀ k, (Value.slice ra rn rc).ownBlock = some k → k < w.heap.size := fun k hk => by
      obtain ⟨_, c, fr, hh⟩ := HL.out.row hk
      exact heap_lt hh
    have hws : w.heap.size < w3.heap.size := by have := heap_lt HX3.out; omega
    clear hw3 rf c0 c1 c2 c3 c4 c5 cn l0 ln hcp2 hcp3 hcp4 hnew hF2 HC2 HN2 HS4 HX4 HT4 f1 HL2 HX2 y0 rf1
    go_wp2_with fail
    obtain ⟨W3, hW3⟩ : ∃ W3, W3 = w3.setCell ⟨J, 2, none⟩ (.string ⟨#[]⟩) := ⟨_, rfl⟩
    rw [← hW3]
    rw [← hW3] at HI4
    have hsz : w3.heap.size = W3.heap.size := by rw [hW3]; simp
    refine (lRecords LB _).mono ?_
    rintro e w5 ⟨rfl, hw5⟩
    have HI5 : Hid (CrI base w w5 J w.heap.size C2 S B rv (.slice ra rn rc) sf lf st R []) := hide (by
      subst hw5
      exact HI4.out.grown (Bd := W3.heap.size + 1) (by omega) (by omega) (World.grownBy_alloc W3 _ none) (fun r e => by cases e))
    have HC5 : Hid (w5.cell? ⟨W3.heap.size, 0, none⟩ = some (.string (bytesB (kl.take hi))) ∧ W3.heap.size < w5.heap.size) := hide (by
      subst hw5
      rw [cell_of_row _ W3.heap.size 0 _ _ (0, 0) (heap_alloc_new W3 _), ← HLB.out]
      exact ⟨rfl, by simp⟩)
    have hBd : B < w5.heap.size := by have := HC5.out.2; omega
    have hwd : w.heap.size ≤ w5.heap.size := by have := HC5.out.2; omega
    have hwd2 : w.heap.size < w5.heap.size := by have := HC5.out.2; omega
    have HX := hide hx
    clear hw5 hW3 hx HI4 HS3 HX3 u0 u1 r0 r1 r2 r3 r4 r5 rn5 rf2
    go_wp2_with fail
    refine (wpIn_wide (n := 3)).1 ?_
    refine wpIn_rangeFunc_ownG rfl (by omega) (gf := 83) (lb := #[.pointer (some ⟨W3.heap.size, 0, none⟩)]) rfl trivial (enters_of Tryz.func83 (by kernel_rfl) rfl)
      (recs_stops _ (by omega) W3.heap.size (kl.take hi) HLEN.out xs HX.out w5 HC5.out.2 HC5.out.1) (fun _ _ => trivial) (fun _ _ _ _ _ _ _ _ => trivial) (Below.refl _ _) (fun _ => rfl)
      (fun pre W => CrI base w W J w.heap.size C2 S B rv (.slice ra rn rc) sf lf st R pre) (fun _ _ _ => False)
      (crI_own hBd hwd) (fun _ _ _ _ _ hs _ _ => hs) HI5.out
      (fun x => { tmps := #[.pointer (some ⟨J, 0, none⟩), .int .i64 keep, .pointer (some ⟨w.heap.size, 0, none⟩), undef, .string LB, .string (txt x), u6, u7, u8, u9, u10, u11, u12, u13, u14, u15, u16, u17, u18, u19, u20, u21, u22, u23, u24, u25, u26, u27, u28, .tuple #[.pointer (some ⟨C2, 0, none⟩), .nilIface], .pointer (some ⟨J, 0, none⟩), .pointer (some ⟨J, 0, none⟩), .pointer (some ⟨J, 0, none⟩), .pointer (some ⟨J, 0, none⟩), .slice ra rn rc, .tuple #[.pointer (some ⟨C2, 0, none⟩), .nilIface], .pointer (some ⟨C2, 0, none⟩), .nilIface, .pointer (some ⟨J, 0, none⟩), .pointer (some ⟨J, 1, none⟩), .pointer (some ⟨J, 0, none⟩), .pointer (some ⟨J, 0, none⟩), .pointer (some ⟨J, 2, none⟩), .string LB, .func (.func 83) #[] #[.pointer (some ⟨W3.heap.size, 0, none⟩)], .string (txt x), undef, undef, undef, undef, undef, undef, undef, undef, undef, undef, undef, undef, undef, undef, undef, undef, undef, undef, undef, undef, undef, undef, undef, undef, undef, undef, undef, undef, undef, undef], defers := [] }) ?assign ?body ?done ?stop
    case assign =>
      intro l x W K hK
      gi_wp2
      exact hK
    case body =>
      rintro l pre x W hI hlen
      obtain ⟨v, hcp, hnw⟩ := hI.cp
      have HI := hide hI
      have HCP := hide hcp
      have HNW2 := hide hnw
      have hmix : Tryz.prog.follows .mixedOrders = true := by kernel_rfl
      have HPA : Hid (∀ wx, Calls Tryz.prog 42 #[.string (txt x)] wx fun e w' => ∃ a n cp, e = .returned (aggA x.1.who x.1.seq x.1.deed a n cp) ∧ IsVals w' (.slice a n cp) x.1.t ∧ Below wx.heap.size wx w') := hide fun wx => lParse x.1 x.2 wx
      have HDO : Hid (∀ wx a n cp, Below W.heap.size W wx → IsVals wx (.slice a n cp) x.1.t → Calls Tryz.prog 28 #[.pointer (some ⟨C2, 0, none⟩), aggA x.1.who x.1.seq x.1.deed a n cp] wx fun e w' => ∃ s E, e = .returned (.tuple #[.string s, E]) ∧ ∃ v', Cp base w' C2 S B v' rv (M.doR R (M.runs R (asOf pre)) x.1).2.2.l (M.doR R (M.runs R (asOf pre)) x.1).2.2.g (M.doR R (M.runs R (asOf pre)) x.1).2.2.n (M.doR R (M.runs R (asOf pre)) x.1).2.2.n R ∧ Tch (cpF C2 S B v rv) wx w' ∧ Grows wx (cpF C2 S B v rv) (cpF C2 S B v' rv)) := hide fun wx a n cp hb hv => by
        obtain ⟨o1, o2⟩ := M.runs_ok R (asOf pre)
        rw [asOf_len] at o2
        refine (mDoX x.1 o1 HE.out (HCP.out.quiet hb) hv (by omega) ((HI.out.tab HTT.out hbl).next (hb.mono HCP.out.base_le))).mono ?_
        rintro e w' ⟨rfl, v', q⟩
        exact ⟨_, _, rfl, v', q⟩
      obtain ⟨c0, c1, c2, c3, c4, c5, cn, cf⟩ := hI.lg.cells
      have l0 : W.cell? ⟨w.heap.size, 0, none⟩ = some (.pointer (some ⟨J, 0, none⟩)) := (cell_of_row W w.heap.size 0 _ _ (0, 0) hI.box).trans rfl
      have ln := heap_lt hI.box
      have k1 : ∀ wx, (Op.stringOp .add (txt x) ⟨#[10]⟩).run Tryz.prog wx = .ok (.string (bytesB (M.recE x.1))) wx := fun wx => by
        have hz : (txt x).size + (⟨#[10]⟩ : ByteArray).size ≤ 9223372036854775807 := by
          have h1 : (txt x).size = (M.recL x.1).length := bytesB_size _
          have h2 := x.2.len.2
          have h3 : (M.recE x.1).length = (M.recL x.1).length + 1 := by simp [M.recE]
          have h4 : (⟨#[10]⟩ : ByteArray).size = 1 := rfl
          omega
        rw [run_string_add_sum wx _ _ hz]
        show Result.ok (Value.string (bytesB (M.recL x.1) ++ bytesB [10])) wx = _
        rw [bytesB_append]
        rfl
      have k2 : ∀ wx, (Op.stringOp .add (bytesB (M.keptL (asOf pre))) (bytesB (M.recE x.1))).run Tryz.prog wx = .ok (.string (bytesB (M.keptL (asOf (pre ++ [x]))))) wx := fun wx => by
        have hz : (bytesB (M.keptL (asOf pre))).size + (bytesB (M.recE x.1)).size ≤ 9223372036854775807 := by
          rw [bytesB_size, bytesB_size]
          have h1 := M.keptL_len (asOf_ok pre)
          rw [asOf_len] at h1
          have h2 := x.2.len.2
          omega
        rw [run_string_add_sum wx _ _ hz, bytesB_append, asOf_snoc, M.keptL_snoc]
      generalize hKP : bytesB (M.keptL (asOf pre)) = KP at c2 k2
      generalize hKX : bytesB (M.recE x.1) = KX at k1 k2
      generalize hKN : bytesB (M.keptL (asOf (pre ++ [x]))) = KN at k2
      have HKP := hide hKP
      have HKN := hide hKN
      clear hI hcp hnw cf hKP hKX hKN
      generalize txt x = tx at *
      gi_wp2
      gi_region_with_o (first
        | (refine ⟨trivial, ?_⟩; gi_at_call 42; refine (CallsIn.inRound l (callsIn_wide.2 (HPA.out _))).mono ?_; rintro e w1 ⟨a, n, cp, rfl, hv1, hb1⟩; have HV1 := hide hv1; have HB1 := hide (((Below.refl W.heap.size W).drew).trans (show Below W.heap.size W.drew w1 from hb1)); obtain ⟨g0, g1, _, _, _, _, gn, _⟩ := (HI.out.lg.quiet HB1.out).cells; have gl : w1.cell? ⟨w.heap.size, 0, none⟩ = some (.pointer (some ⟨J, 0, none⟩)) := (cell_of_row w1 w.heap.size 0 _ _ (0, 0) ((HB1.out.block _ (heap_lt HI.out.box)).trans HI.out.box)).trans rfl; have gln : w.heap.size < w1.heap.size := Nat.lt_of_lt_of_le (heap_lt HI.out.box) HB1.out.size; clear hv1 hb1)
        | (refine ⟨trivial, ?_⟩; gi_at_call 28; refine (CallsIn.inRound l (callsIn_wide.2 (HDO.out _ _ _ _ HB1.out HV1.out))).mono ?_; rintro e w2 ⟨s, E, rfl, v', hc2, ht2, hg2⟩; have HST := hide (HI.out.step (x := x) hUU hBd hwd hJw hwd2 HCP.out HNW2.out HB1.out hc2 ht2 hg2); obtain ⟨j0, j1, j2, j3, j4, j5, jn, jf⟩ := HST.out.1.cells; have jf2 := jf 2; have jl : w2.cell? ⟨w.heap.size, 0, none⟩ = some (.pointer (some ⟨J, 0, none⟩)) := (cell_of_row w2 w.heap.size 0 _ _ (0, 0) HST.out.2.1).trans rfl; have jln := heap_lt HST.out.2.1; rw [HKP.out] at j2; clear hc2 ht2 hg2 jf))
      all_goals
        gi_wp2
        rw [← HKN.out]
        exact ⟨HST.out.2.2.1, trivial, HST.out.2.2.2⟩
    case done =>
      rintro D ys W hD hys hI hK
      subst hys
      have HI := hide hI
      have HK := hide hK
      have HD := hide hD
      obtain ⟨c0, c1, c2, c3, c4, c5, cn, cf⟩ := hI.lg.cells
      have f3 := cf 3
      have l0 : W.cell? ⟨w.heap.size, 0, none⟩ = some (.pointer (some ⟨J, 0, none⟩)) := (cell_of_row W w.heap.size 0 _ _ (0, 0) hI.box).trans rfl
      have ln := heap_lt hI.box
      have HSZ : Hid ((bytesB (M.keptL (asOf ys))).size = (M.keptL (asOf ys)).length) := hide (bytesB_size _)
      have HLq := hide hI.lg
      generalize hKY : bytesB (M.keptL (asOf ys)) = KY at c2 HLq HSZ
      have HS6 := hide (HLq.out.store 3 (.int .i64 KY.size) (C' := C2) (K' := KY) (sf' := KY.size) (lf' := lf) (st' := st) rfl)
      have HX6 := hide (HLq.out.lbox HS6.out.2 hI.box)
      have u2 : (W.setCell ⟨J, 3, none⟩ (.int .i64 KY.size)).drew.cell? ⟨J, 2, none⟩ = some (.string KY) := HS6.out.1.cells.2.2.1
      have u0 : (W.setCell ⟨J, 3, none⟩ (.int .i64 KY.size)).drew.cell? ⟨w.heap.size, 0, none⟩ = some (.pointer (some ⟨J, 0, none⟩)) := (cell_of_row _ w.heap.size 0 _ _ (0, 0) HX6.out).trans rfl
      have HKY := hide hKY
      clear hI hK hD cf hKY
      go_wp2_with fail
      go_region_held3 (fun w' => w'.cell? ⟨w.heap.size, 0, none⟩ = some (.pointer (some ⟨J, 0, none⟩)) ∧ w'.cell? ⟨J, 2, none⟩ = some (.string KY)) (first | go_keep | assumption) (fail)
      obtain ⟨W6, hW6⟩ : ∃ W6, W6 = (W.setCell ⟨J, 3, none⟩ (.int .i64 KY.size)).drew := ⟨_, rfl⟩
      have HS7 : Hid (LgC base W6 J C2 (.slice ra rn rc) KY KY.size lf st R ∧ Tch (fun k => k = J) W W6) := hide (by rw [hW6]; exact ⟨HS6.out.1.quiet ((Below.refl _ _).drew), HS6.out.2.then ((Below.refl _ _).drew)⟩)
      have HX7 : Hid (W6.heap[w.heap.size]? = some (.cells #[.pointer (some ⟨J, 0, none⟩)] 25 (0, 0))) := hide (by rw [hW6]; exact HX6.out)
      first | rw [← hW6] | skip
      clear hW6 u2 u0 HS6 HX6 c0 c1 c2 c3 c4 c5 cn f3 l0 ln HLq
      obtain ⟨c0, c1, c2, c3, c4, c5, cn, cf⟩ := HS7.out.1.cells
      have f4 := cf 4
      have f5 := cf 5
      have l0 : W6.cell? ⟨w.heap.size, 0, none⟩ = some (.pointer (some ⟨J, 0, none⟩)) := (cell_of_row W6 w.heap.size 0 _ _ (0, 0) HX7.out).trans rfl
      have ln := heap_lt HX7.out
      have HS8 := hide (HS7.out.1.store 4 (.int .i64 (-1)) (C' := C2) (K' := KY) (sf' := KY.size) (lf' := -1) (st' := st) rfl)
      have HX8 := hide (HS7.out.1.lbox HS8.out.2 HX7.out)
      have HS9 := hide (HS8.out.1.store 5 (.bool false) (C' := C2) (K' := KY) (sf' := KY.size) (lf' := -1) (st' := false) rfl)
      have HX9 := hide (HS8.out.1.lbox HS9.out.2 HX8.out)
      have u0 : (W6.setCell ⟨J, 4, none⟩ (.int .i64 (-1))).drew.cell? ⟨w.heap.size, 0, none⟩ = some (.pointer (some ⟨J, 0, none⟩)) := (cell_of_row _ w.heap.size 0 _ _ (0, 0) HX8.out).trans rfl
      have u1 : ((W6.setCell ⟨J, 4, none⟩ (.int .i64 (-1))).setCell ⟨J, 5, none⟩ (.bool false)).drew.cell? ⟨w.heap.size, 0, none⟩ = some (.pointer (some ⟨J, 0, none⟩)) := (cell_of_row _ w.heap.size 0 _ _ (0, 0) HX9.out).trans rfl
      have HK9 : Hid (((W6.setCell ⟨J, 4, none⟩ (.int .i64 (-1))).setCell ⟨J, 5, none⟩ (.bool false)).drew.heap[D]? = some (.deferred (some []))) := hide (by
        have hne : D ≠ J := fun e => by have := HI.out.lg.heap; rw [← e, HK.out] at this; cases this
        have q6 : W6.heap[D]? = some (.deferred (some [])) := (HS7.out.2.block D (heap_lt HK.out) hne).trans HK.out
        have q8 := (HS8.out.2.block D (heap_lt q6) hne).trans q6
        exact (HS9.out.2.block D (heap_lt q8) hne).trans q8)
      have HI9 : Hid (CrI base w (((W6.setCell ⟨J, 4, none⟩ (.int .i64 (-1))).setCell ⟨J, 5, none⟩ (.bool false)).drew.putObj D (.deferred none)) J w.heap.size C2 S B rv (.slice ra rn rc) KY.size (-1) false R ys) := hide (by
        obtain ⟨v, hcp, hnw⟩ := HI.out.cp
        have hJn : ∀ i, cpF C2 S B v rv i → ¬ i = J := fun i hi e => by have := hnw i hi; omega
        have T9 : Tch (fun k => k = J) W ((W6.setCell ⟨J, 4, none⟩ (.int .i64 (-1))).setCell ⟨J, 5, none⟩ (.bool false)).drew := ((HS7.out.2.trans (Grows.refl _ _) HS8.out.2).trans (Grows.refl _ _) HS9.out.2).then ((Below.refl _ _).drew)
        have q : CrI base w ((W6.setCell ⟨J, 4, none⟩ (.int .i64 (-1))).setCell ⟨J, 5, none⟩ (.bool false)).drew J w.heap.size C2 S B rv (.slice ra rn rc) KY.size (-1) false R ys := ⟨⟨v, hcp.keep T9 hJn, hnw⟩, by rw [HKY.out]; exact HS9.out.1.quiet ((Below.refl _ _).drew), HX9.out, HI.out.tch.trans (Grows.refl _ _) T9⟩
        exact q.grown hBd hwd (grownBy_putObj' _ D _) (fun r e => by cases e; exact ⟨HD.out, _, HK9.out, rfl⟩))
      clear cf
      go_wp2_with fail
      go_region_held3 (fun w' => w'.cell? ⟨w.heap.size, 0, none⟩ = some (.pointer (some ⟨J, 0, none⟩))) (first | go_keep | assumption) (fail)
      all_goals
        go_wp2_with fail
        refine ⟨by simp, .inl ⟨_, _, rfl, run_takeDeferred HK9.out, ?_⟩⟩
        obtain ⟨v, hcp, hnw⟩ := HI9.out.cp
        refine ⟨.tuple #[], results_none rfl _ _ _, rfl, C2, cpF C2 S B v rv, ?_, ⟨(M.runs_ok R (asOf ys)).1, HE.out, S, B, v, rv, rfl, hcp⟩, hnw, HI9.out.tch⟩
        have q := HI9.out.lg
        rw [HSZ.out] at q
        exact q
    case stop =>
      rintro D c pre W hD hpre hf hK
      exact hf.elim

end Go.Proofs.YtlefhfmckimlaakGreatDoor
