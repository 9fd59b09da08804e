/-
  What Run of package run answers to a text, as one law of its call.
-/
import Derived.Test.YtlefhfmckimlaakGreatDoorRunAns
import Derived.Test.YtlefhfmckimlaakGreatDoorRunLines
import Derived.Test.YtlefhfmckimlaakGreatDoorRunBuild
import Derived.RangeFuncWrites
import Derived.RangeFuncBox
import Derived.BigRegion
set_option linter.unusedVariables false
namespace Go.Proofs.YtlefhfmckimlaakGreatDoor
open Go.RowKit Go.Shelf
attribute [local go_sem] Oper.semAt_some

theorem plain_other {o : Obj} (h : o.isCells = false) : Plain o := fun c T fr e => by subst e; cases h
/-- what the loop's own book-keeping leaves as it was -/
theorem grown_cells {W W' : World} {row : Option Nat} {Bd : Nat} (hg : W.grownBy W' row) (hr : ∀ r, row = some r → Bd ≤ r ∧ ∃ o : Obj, W.heap[r]? = some o ∧ o.isCells = false) {k : Nat} (hk : k < W.heap.size) (h : k < Bd ∨ ∃ cs T fr, W.heap[k]? = some (.cells cs T fr)) : W'.heap[k]? = W.heap[k]? := by
  refine hg.block k hk (fun e => ?_)
  obtain ⟨h1, o, h2, h3⟩ := hr k e.symm
  rcases h with h | ⟨cs, T, fr, h⟩
  · omega
  · rw [h] at h2
    cases h2
    cases h3
section
variable {base D S H : Nat} {v : Value} {L : List (List M.Val)} {w w' : World}
/-- a space stays where its own kinds of blocks do -/
theorem Space.kept (h : Space base w S v L) (hk : ∀ (i : Nat) (c : Array Value) (T : TypeId) (fr : Nat × Nat), T ≠ 133 → T ≠ 5 → w.heap[i]? = some (.cells c T fr) → w'.heap[i]? = some (.cells c T fr)) : Space base w' S v L := by
  have hs : Solid w w' := fun i c fr hh => hk i c _ fr (by decide) (by decide) hh
  refine ⟨h.lo, hk _ _ _ _ (by decide) (by decide) h.heap, ?_⟩
  obtain ⟨xs, h1, h2⟩ := h.row
  refine ⟨xs, ⟨h1.1, ?_⟩, fun i a b => (h2 i a b).solid hs⟩
  rcases h1.2 with h3 | ⟨g, cap, cur, hv, hg, hh, r⟩
  · exact Or.inl h3
  · exact Or.inr ⟨g, cap, cur, hv, hg, hk _ _ _ _ (by decide) (by decide) hh, r⟩
theorem Dk.clear (h : Dk w D S H) (hc : Clear w w') : Dk w' D S H := by
  obtain ⟨es, c, hh⟩ := h.map.heap
  exact ⟨hc _ _ (plain_cells (by decide) (by decide)) h.heap, h.map.kept ((hc _ _ (plain_other rfl) hh).trans hh.symm)⟩
end

/-- where the loop stands: so many lines were answered -/
structure RI (w0 W : World) (Bx D S H Bb : Nat) (pre : List Ln) : Prop where
  box : W.heap[Bx]? = some (.cells #[.pointer (some ⟨D, 0, none⟩)] 137 (0, 0))
  desk : Dk W D S H
  sp : ∃ v, Space w0.heap.size W S v (M.runS [] (raw pre))
  bld : Blt w0.heap.size Bb (Lib.byteCells (M.runL [] (raw pre))) W
  below : Below w0.heap.size w0 W
section
variable {w0 W W' : World} {Bx D S H Bb Bd : Nat} {pre : List Ln}
theorem RI.grown {row : Option Nat} (h : RI w0 W Bx D S H Bb pre) (hH : H < Bd) (h0 : w0.heap.size ≤ Bd) (hg : W.grownBy W' row) (hr : ∀ r, row = some r → Bd ≤ r ∧ ∃ o : Obj, W.heap[r]? = some o ∧ o.isCells = false) : RI w0 W' Bx D S H Bb pre := by
  have hk : ∀ (i : Nat) (c : Array Value) (T : TypeId) (fr : Nat × Nat), W.heap[i]? = some (.cells c T fr) → W'.heap[i]? = some (.cells c T fr) := fun i c T fr hh => (grown_cells hg hr (heap_lt hh) (Or.inr ⟨_, _, _, hh⟩)).trans hh
  obtain ⟨v, hs⟩ := h.sp
  obtain ⟨es, c, hh⟩ := h.desk.map.heap
  refine ⟨hk _ _ _ _ h.box, ⟨hk _ _ _ _ h.desk.heap, h.desk.map.kept (grown_cells hg hr (heap_lt hh) (Or.inl hH))⟩, ⟨v, hs.kept fun i c T fr _ _ hh => hk i c T fr hh⟩, h.bld.kept fun i c T fr _ hh => hk i c T fr hh, ?_⟩
  exact ⟨hg.os.trans h.below.os, hg.tape.trans h.below.tape, hg.output.trans h.below.output, Nat.le_trans h.below.size hg.size, fun k hk => (grown_cells hg hr (Nat.lt_of_lt_of_le hk h.below.size) (Or.inl (by omega))).trans (h.below.block k hk)⟩
theorem rI_own (hH : H < Bd) (h0 : w0.heap.size ≤ Bd) : OwnFrom Bd (fun pre W => RI w0 W Bx D S H Bb pre) := fun _ _ _ _ h hg hr => h.grown hH h0 hg hr
/-- behind an answer, the builder is as it was -/
theorem RI.said {v : Value} {w1 : World} {L : List (List M.Val)} (h : RI w0 W Bx D S H Bb pre) (hs : Space w0.heap.size W S v (M.runS [] (raw pre))) (hn : Then w0.heap.size W w1 S v L) : Blt w0.heap.size Bb (Lib.byteCells (M.runL [] (raw pre))) w1 ∧ w0.heap.size ≤ w1.heap.size := by
  obtain ⟨v', h1, h2, h3⟩ := hn
  refine ⟨h.bld.kept fun i c T fr hT hh => hs.off hh (by rcases hT with rfl | rfl <;> decide) (by rcases hT with rfl | rfl <;> decide) h2, Nat.le_trans h.below.size h2.size⟩
/-- one line more -/
theorem RI.step {v : Value} {w1 w2 : World} {x : Ln} (h : RI w0 W Bx D S H Bb pre) (hs : Space w0.heap.size W S v (M.runS [] (raw pre))) (hn : Then w0.heap.size W w1 S v (M.lineR (M.runS [] (raw pre)) x.1).2)
    (hb : Blt w0.heap.size Bb (Lib.byteCells (M.runL [] (raw pre)) ++ Lib.strCells ⟨((M.lineR (M.runS [] (raw pre)) x.1).1 ++ [10]).toArray⟩) w2) (hb2 : Below w0.heap.size w1 w2) (hc : Clear w1 w2) : KeepsFrom Bd W w2 ∧ RI w0 w2 Bx D S H Bb (pre ++ [x]) := by
  obtain ⟨v', h1, h2, h3⟩ := hn
  have e1 : M.runS [] (raw (pre ++ [x])) = (M.lineR (M.runS [] (raw pre)) x.1).2 := by rw [raw_snoc, M.runS_append]; rfl
  have e2 : Lib.byteCells (M.runL [] (raw (pre ++ [x]))) = Lib.byteCells (M.runL [] (raw pre)) ++ Lib.strCells ⟨((M.lineR (M.runS [] (raw pre)) x.1).1 ++ [10]).toArray⟩ := by
    rw [raw_snoc, M.runL_append]
    show Lib.byteCells (M.runL [] (raw pre) ++ ((M.lineR (M.runS [] (raw pre)) x.1).1 ++ [10])) = _
    simp [Lib.byteCells, Lib.strCells]
  have hbox := hs.off h.box (by decide) (by decide) h2
  refine ⟨⟨Nat.le_trans h2.size hb2.size, fun k o _ hk ho => ?_⟩, ⟨hc _ _ (plain_cells (by decide) (by decide)) hbox, (h.desk.touch hs h2).clear hc, ⟨v', ?_⟩, ?_, ?_⟩⟩
  · have hnc : ∀ cs T fr, W.heap[k]? ≠ some (.cells cs T fr) := fun cs T fr e => by
      rw [hk] at e
      cases e
      cases ho
    refine hc k o (plain_other ho) ((h2.block k (heap_lt hk) (fun e => ?_) (fun e => ?_)).trans hk)
    · rw [e] at hnc; exact hnc _ _ _ hs.heap
    · obtain ⟨xs, g1, _⟩ := hs.row
      rcases g1.2 with ⟨hv, _⟩ | ⟨g, cap, cur, hv, _, hg, _⟩
      · rw [hv] at e; cases e
      · rw [hv] at e
        have : g = k := by simpa [Value.ownBlock] using e
        subst this
        exact hnc _ _ _ hg
  · rw [e1]
    exact h1.kept fun i c T fr t1 t2 hh => hc i _ (plain_cells t1 t2) hh
  · rw [e2]; exact hb
  · exact (h.below.trans (Sp.below hs h2 (Nat.le_refl _))).trans hb2
end

set_option maxRecDepth 100000 in
set_option maxHeartbeats 4000000 in
theorem run_text (s : ByteArray) (w : World) (hs : s.size ≤ 3000) (hv : Env w) :
    Calls Tryz.prog 32 #[.string s] w fun e w' => e = .returned (.string ⟨(M.runL [] (M.linesL s.data.toList)).toArray⟩) ∧ Below w.heap.size w w' := by
  have h1 : ¬ (3000 : Int) < (s.size : Int) := by omega
  have HEF : Hid (EnvFrom w.heap.size w) := hide fun wx hb => hv.stays hb (Nat.le_refl _)
  have HLEN : Hid (s.data.toList.length ≤ 3000) := hide (by rw [← Lib.size_eq]; exact hs)
  clear hs hv
  refine (callsIn_wide (n := 3)).1 ?_
  refine callsIn_of_wp_marks Tryz.func32 rfl trivial ?_ rfl
  simp only [Tryz.ntmps32, List.size_toArray, List.length_cons, List.length_nil, Nat.reduceAdd, Nat.reduceSub, Array.replicate_succ, Array.replicate_zero, List.push_toArray, List.append_toArray, List.nil_append, List.cons_append]
  refine wpIn_wide.2 ?_
  go_wp2_with fail
  refine (new _).mono ?_
  rintro e w1 ⟨rfl, hw1⟩
  have HS1 : Hid (Space w.heap.size w1 w.heap.size (.slice none 0 0) []) := hide (by
    subst hw1
    exact ⟨Nat.le_refl _, heap_alloc_new w _, RowOf.nil _ _ _⟩)
  have HB1 : Hid (Below w.heap.size w w1) := hide (by subst hw1; exact (Below.refl _ _).alloc (Nat.le_refl _) _)
  have HZ1 : Hid (w1.heap.size = w.heap.size + 1) := hide (by subst hw1; simp)
  clear hw1
  dsimp only
  go_wp2_with fail
  refine (rDeeds _).mono ?_
  rintro e w2 ⟨rfl, hd2, hb2⟩
  have HD2 := hide hd2
  have HB2 := hide hb2
  have hz2 := hb2.size
  obtain ⟨es, ck, hmh⟩ := hd2.heap
  have hH2 := heap_lt hmh
  clear hd2 hb2 hmh
  dsimp only
  go_wp2_with fail
  obtain ⟨W3, hW3⟩ : ∃ W3, W3 = ((w2.alloc (.cells #[.pointer (some ⟨w.heap.size, 0, none⟩), .map (some w1.heap.size)] 141)).alloc (.cells #[.pointer (some ⟨w2.heap.size, 0, none⟩)] 137)).alloc (.cells #[.pointer none, .slice none 0 0] 133) := ⟨_, rfl⟩
  rw [← hW3]
  have HI3 : Hid (RI w W3 (w2.heap.size + 1) w2.heap.size w.heap.size w1.heap.size (w2.heap.size + 1 + 1) [] ∧ W3.heap.size = w2.heap.size + 1 + 1 + 1) := hide (by
    have b23 : Below w2.heap.size w2 W3 := by
      rw [hW3]
      exact (((Below.refl _ _).alloc (Nat.le_refl _) _).alloc (by simp) _).alloc (by simp; omega) _
    have bW : Below w.heap.size w W3 := (HB1.out.trans (HB2.out.mono HB1.out.size)).trans (b23.mono (Nat.le_trans HB1.out.size HB2.out.size))
    have bA : Below (w2.heap.size + 1) (w2.alloc (.cells #[.pointer (some ⟨w.heap.size, 0, none⟩), .map (some w1.heap.size)] 141)) W3 := by
      rw [hW3]
      exact ((Below.refl _ _).alloc (by simp) _).alloc (by simp) _
    have bB : Below (w2.heap.size + 1 + 1) ((w2.alloc (.cells #[.pointer (some ⟨w.heap.size, 0, none⟩), .map (some w1.heap.size)] 141)).alloc (.cells #[.pointer (some ⟨w2.heap.size, 0, none⟩)] 137)) W3 := by
      rw [hW3]
      exact (Below.refl _ _).alloc (by simp) _
    have a0 : W3.heap[w2.heap.size]? = some (.cells #[.pointer (some ⟨w.heap.size, 0, none⟩), .map (some w1.heap.size)] 141 (0, 0)) := (bA.block _ (by omega)).trans (heap_alloc_new w2 _)
    have a1 : W3.heap[w2.heap.size + 1]? = some (.cells #[.pointer (some ⟨w2.heap.size, 0, none⟩)] 137 (0, 0)) := by
      rw [bB.block _ (by omega)]
      have := heap_alloc_new (w2.alloc (.cells #[.pointer (some ⟨w.heap.size, 0, none⟩), .map (some w1.heap.size)] 141)) (.cells #[.pointer (some ⟨w2.heap.size, 0, none⟩)] 137)
      rwa [World.size_alloc] at this
    have a2 : W3.heap[w2.heap.size + 1 + 1]? = some (.cells #[.pointer none, .slice none 0 0] 133 (0, 0)) := by
      rw [hW3]
      have := heap_alloc_new ((w2.alloc (.cells #[.pointer (some ⟨w.heap.size, 0, none⟩), .map (some w1.heap.size)] 141)).alloc (.cells #[.pointer (some ⟨w2.heap.size, 0, none⟩)] 137)) (.cells #[.pointer none, .slice none 0 0] 133)
      rwa [World.size_alloc, World.size_alloc] at this
    refine ⟨⟨a1, ⟨a0, HD2.out.kept (b23.block _ hH2)⟩, ⟨_, ((HS1.out.stays HB2.out).stays b23)⟩, ?_, bW⟩, by rw [hW3]; simp⟩
    exact Or.inl ⟨by have := HB1.out.size; omega, _, a2, World.ownsRow_nil _ _ _ _, by simp [Value.ownBlock]⟩)
  clear hW3
  refine (rLines s _).mono ?_
  rintro e w5 ⟨rfl, hw5⟩
  have HI5 : Hid (RI w w5 (w2.heap.size + 1) w2.heap.size w.heap.size w1.heap.size (w2.heap.size + 1 + 1) []) := hide (by
    subst hw5
    exact HI3.out.1.grown (Bd := W3.heap.size + 1) (by have := HI3.out.2; omega) (by have := HI3.out.1.below.size; omega) (World.grownBy_alloc W3 _ none) (fun r e => by cases e))
  have HC5 : Hid (w5.cell? ⟨W3.heap.size, 0, none⟩ = some (.string (bytesB s.data.toList)) ∧ W3.heap.size < w5.heap.size) := hide (by
    subst hw5
    rw [cell_of_row _ W3.heap.size 0 _ _ (0, 0) (heap_alloc_new W3 _)]
    exact ⟨by cases s; simp, by simp⟩)
  have hBd : w1.heap.size < w5.heap.size := by have := HC5.out.2; have := HI3.out.2; omega
  have hwd : w.heap.size ≤ w5.heap.size := HI5.out.below.size
  clear hw5
  dsimp only
  go_wp2_with fail
  refine (wpIn_wide (n := 3)).1 ?_
  refine wpIn_rangeFunc_ownG rfl (by omega) (gf := 112) (lb := #[.pointer (some ⟨W3.heap.size, 0, none⟩)]) rfl trivial (enters_of Tryz.func112 (by kernel_rfl) rfl)
    (lines_stops _ (by omega) W3.heap.size s.data.toList HLEN.out w5 HC5.out.2 HC5.out.1) (fun _ _ => trivial) (fun _ _ _ _ _ _ _ _ => trivial) (Below.refl _ _) (fun _ => rfl)
    (fun pre W => RI w W (w2.heap.size + 1) w2.heap.size w.heap.size w1.heap.size (w2.heap.size + 1 + 1) pre) (fun _ _ _ => False)
    (rI_own hBd hwd) (fun _ _ _ _ _ hs _ _ => hs) HI5.out
    (fun x => { tmps := #[.string s, undef, .string ⟨#[]⟩, .pointer (some ⟨w2.heap.size + 1, 0, none⟩), .pointer (some ⟨w2.heap.size + 1 + 1, 0, none⟩), .string (txtL x), .string s, .int .i64 s.size, .bool false, .pointer (some ⟨w.heap.size, 0, none⟩), .map (some w1.heap.size), .agg #[.pointer (some ⟨w.heap.size, 0, none⟩), .map (some w1.heap.size)], .pointer (some ⟨w2.heap.size, 0, none⟩), .string s, .func (.func 112) #[] #[.pointer (some ⟨W3.heap.size, 0, none⟩)], .string (txtL x), undef, undef, undef, undef, undef, undef], defers := [] }) ?assign ?body ?done ?stop
  case assign =>
    intro l x W K hK
    gi_wp2
    exact hK
  case body =>
    rintro l pre x W hI hlen
    obtain ⟨v, hs⟩ := hI.sp
    have HI := hide hI
    have HS := hide hs
    have hF : M.Fine (M.runS [] (raw pre)) := M.runS_fine _ Fine.nil
    have hx3 : (txtL x).size ≤ 3000 := by
      show (bytesB x.1).size ≤ 3000
      rw [bytesB_size]; exact x.2
    have hxl : (txtL x).data.toList = x.1 := bytesB_list x.1
    have HAN : Hid (Calls Tryz.prog 70 #[.pointer (some ⟨w2.heap.size, 0, none⟩), .string (txtL x)] W fun e w' => e = .returned (.string (bytesB (M.lineR (M.runS [] (raw pre)) x.1).1)) ∧ Then w.heap.size W w' w.heap.size v (M.lineR (M.runS [] (raw pre)) x.1).2) := hide (by
      have := rAnswer (txtL x) hI.desk hs hF (HEF.out.next hI.below) hx3
      rwa [hxl] at this)
    have hal : (M.lineR (M.runS [] (raw pre)) x.1).1.length ≤ 100 := (M.lineR_fine hF x.1).1
    have HLE : Hid ((Lib.byteCells (M.runL [] (raw pre))).length + ((M.lineR (M.runS [] (raw pre)) x.1).1 ++ [10]).length ≤ 1000000) := hide (by
      rw [Lib.byteCells_length, List.length_append]
      have h1 := M.runL_len (L := []) (raw pre) Fine.nil
      have h2 : (raw pre).length = pre.length := by simp [raw]
      have h3 := M.linesL_len s.data.toList
      have h4 := HLEN.out
      simp only [List.length_cons, List.length_nil]
      omega)
    have HST : Hid (∀ w1' w2', Then w.heap.size W w1' w.heap.size v (M.lineR (M.runS [] (raw pre)) x.1).2 → Blt w.heap.size (w2.heap.size + 1 + 1) (Lib.byteCells (M.runL [] (raw pre)) ++ Lib.strCells (bytesB ((M.lineR (M.runS [] (raw pre)) x.1).1 ++ [10]))) w2' → Below w.heap.size w1' w2' → Clear w1' w2' → KeepsFrom w5.heap.size W w2' ∧ RI w w2' (w2.heap.size + 1) w2.heap.size w.heap.size w1.heap.size (w2.heap.size + 1 + 1) (pre ++ [x])) := hide fun w1' w2' h1 h2 h3 h4 => HI.out.step HS.out h1 h2 h3 h4
    have k1 : ∀ wx, (Op.stringOp .add (bytesB (M.lineR (M.runS [] (raw pre)) x.1).1) ⟨#[10]⟩).run Tryz.prog wx = .ok (.string (bytesB ((M.lineR (M.runS [] (raw pre)) x.1).1 ++ [10]))) wx := fun wx => by
      have hz : (bytesB (M.lineR (M.runS [] (raw pre)) x.1).1).size + (⟨#[10]⟩ : ByteArray).size ≤ 9223372036854775807 := by
        rw [bytesB_size]
        have h4 : (⟨#[10]⟩ : ByteArray).size = 1 := rfl
        omega
      rw [run_string_add_sum wx _ _ hz]
      congr 2
    have hsz2 : (bytesB ((M.lineR (M.runS [] (raw pre)) x.1).1 ++ [10])).size = ((M.lineR (M.runS [] (raw pre)) x.1).1 ++ [10]).length := bytesB_size _
    generalize (M.lineR (M.runS [] (raw pre)) x.1).2 = L2 at *
    generalize hA1 : bytesB (M.lineR (M.runS [] (raw pre)) x.1).1 = A1 at *
    generalize hA2 : bytesB ((M.lineR (M.runS [] (raw pre)) x.1).1 ++ [10]) = A2 at *
    have HA2 := hide hA2
    have HSZ2 := hide hsz2
    have bx : W.cell? ⟨w2.heap.size + 1, 0, none⟩ = some (.pointer (some ⟨w2.heap.size, 0, none⟩)) := (cell_of_row W _ 0 _ _ (0, 0) hI.box).trans rfl
    have bn := heap_lt hI.box
    clear hI hs hF hx3 hxl hal hA1 hA2 hsz2
    generalize txtL x = tx at *
    gi_wp2_with (first
      | (refine ⟨trivial, ?_⟩; gi_at_call 70; refine (CallsIn.inRound l (callsIn_wide.2 HAN.out)).mono ?_; rintro e w6 ⟨rfl, hn6⟩; have HN6 := hide hn6; have HSD := hide (HI.out.said HS.out hn6); clear hn6)
      | (refine ⟨trivial, ?_⟩; gi_at_call 64; refine (CallsIn.inRound l (callsIn_wide.2 (writeC w.heap.size (w2.heap.size + 1 + 1) _ _ _ HSD.out.1 (by rw [HSZ2.out]; exact HLE.out) HSD.out.2))).mono ?_; rintro e w7 ⟨rfl, hb7, hb8, hc7⟩; have HE := hide (HST.out w6 w7 HN6.out hb7 hb8 hc7); clear hb7 hb8 hc7))
    exact ⟨HE.out.1, trivial, HE.out.2⟩
  case done =>
    rintro D ys W hD hys hI hK
    have HI := hide hI
    have HK := hide hK
    have HD := hide hD
    have HE : Hid (M.runL [] (M.linesL s.data.toList) = M.runL [] (raw ys)) := hide (by rw [hys])
    have hws := hI.below.size
    clear hI hK hD hys
    go_wp2_with fail
    refine (stringC w.heap.size (w2.heap.size + 1 + 1) (M.runL [] (raw ys)) W HI.out.bld hws).mono ?_
    rintro e w8 ⟨rfl, hb8, hc8⟩
    have HK8 : Hid (w8.heap[D]? = some (.deferred (some []))) := hide (hc8 _ _ (plain_other rfl) HK.out)
    have HB8 := hide (HI.out.below.trans hb8)
    clear hb8 hc8
    dsimp only
    go_wp2_with fail
    have hD2 : w.heap.size ≤ D := Nat.le_trans hwd HD.out
    refine ⟨by simp, .inl ⟨_, _, rfl, run_takeDeferred HK8.out, ?_⟩⟩
    refine ⟨.string ⟨(M.runL [] (raw ys)).toArray⟩, by simp [results, Tryz.f32, go_sem], by rw [HE.out], HB8.out.trans (belowK_b (w := w) (Nat.le_refl _) w8 D _ _ hD2 HK8.out rfl rfl)⟩
  case stop =>
    rintro D c pre W hD hpre hf hK
    exact hf.elim

set_option maxRecDepth 100000 in
theorem run_toolong (s : ByteArray) (w : World) (hs : 3000 < s.size) :
    Calls Tryz.prog 32 #[.string s] w fun e w' => e = .returned (.string ⟨M.wLong.toArray⟩) ∧ Below w.heap.size w w' := by
  have h1 : (3000 : Int) < (s.size : Int) := by omega
  clear hs
  go_enter Tryz.func32, Tryz.ntmps32
  go_wp2_with fail
  go_ret
  exact ⟨rfl, Below.refl _ _⟩

/-- what Run answers, whatever comes in -/
theorem runT (s : ByteArray) (w : World) (hv : Env w) : Calls Tryz.prog 32 #[.string s] w fun e w' => e = .returned (.string ⟨(M.runR s.data.toList).toArray⟩) ∧ Below w.heap.size w w' := by
  have hl : s.data.toList.length = s.size := (Lib.size_eq s).symm
  unfold M.runR
  by_cases h : 3000 < s.size
  · rw [if_pos (by rw [hl]; exact h)]
    exact run_toolong s w h
  · rw [if_neg (by rw [hl]; exact h)]
    exact run_text s w (by omega) hv

end Go.Proofs.YtlefhfmckimlaakGreatDoor
