/-
  What the document's own copy does: Twin of package tupleref2, as one law of its call.
-/
import Derived.Test.YtlefhfmckimlaakGreatDoorJRc
import Derived.Laws.OwnMore
import Derived.Deep.AppendLies
import Derived.Deep.CutRange
set_option linter.unusedVariables false
namespace Go.Proofs.YtlefhfmckimlaakGreatDoor
open Go.RowKit

/-- a slice, be it nil or not, is appended to a row of the call's own, at a step of a region that draws its order -/
theorem step_append_tidy {P : Program} (w : World) {ops : Array Oper} {o : Oper} {a : Act} {K : Act → World → Prop} {Q : Exit → Act → World → Prop} {E : Prop} (hgd : o.guard = none) (s x : Operand) (t : TypeId)
    (ho : o.op = .call { callee := .builtin .append, args := #[s, x], argTypes := #[t, t] })
    (base : Nat) (e : TypeId) (i : TypeInfo) (z : Value) (size bytes : Nat) (ht : P.underlying t = some (.slice e)) (hi : P.info? e = some i) (hz : i.zero = some z)
    (hsize : i.size = size) (hby : i.bytes = bytes) (hzs : z.cells.size = size) (hsz : 0 < size)
    (v : Value) (n : Nat) (xs : List Value) (hs : a.eval s = v) (hown : w.ownsRow base e size v n xs)
    (ad : Option Addr) (m c : Nat) (news : List Value) (hx : a.eval x = .slice ad m c) (htidy : ad = none → m = 0 ∧ c = 0) (hl : news.length = m * size) (hnews : ∀ ad', ad = some ad' → ∀ j u, news[j]? = some u → w.cell? (ad'.add j) = some u) (h1 : ∀ u ∈ news, u.oneCell' = true)
    (h63 : n + m ≤ maxLen) (hbytes : (n + m) * bytes ≤ 140737488355328) (hbase : base ≤ w.heap.size)
    (h : ∀ v' w', w'.ownsRow base e size v' (n + m) (xs ++ news) → w.grownBy w' v.ownBlock → K (a.put o.dst v') w') : if Region.wanted o (yielded ops a.tmps) = true then Oper.wp P o a w K Q else E := by
  have hw : Region.wanted o (yielded ops a.tmps) = true := by simp [Region.wanted, hgd]
  rw [if_pos hw]
  cases ad with
  | none =>
    obtain ⟨rfl, rfl⟩ := htidy rfl
    have hnil : news = [] := List.length_eq_zero_iff.1 (by rw [hl, Nat.zero_mul])
    subst hnil
    have hrun := run_append_owned_none (P := P) (w := w) base t o.type e i size ht hi v n xs hown
    unfold Oper.wp
    simp [execOp, ho, resolve, invoke, builtin, hs, hx, hrun, Result.andThen]
    exact h v w (by rw [List.append_nil]; exact hown) ⟨rfl, rfl, rfl, Nat.le_refl _, fun _ _ _ => rfl⟩
  | some ad' => exact wp_append_own w s x t ho base e i z size bytes ht hi hz hsize hby hzs hsz v n xs hs hown ad' m c news hx hl (hnews ad' rfl) h1 h63 hbytes hbase fun v' w' g1 g2 _ => h v' w' g1 g2

section
variable {w0 w : World} {C S : Nat} {u dv : Value} {ra : Option Addr} {rn rc : Nat} {K : List (List M.Val)} {D : List M.Dn} {n : Int}
theorem infoDn : (Tryz.prog.info? 106).map (fun i => (i.zero, i.size, i.bytes)) = some (some (.agg #[.int .i64 0, .int .i64 0, .string ⟨#[]⟩]), 3, 32) := by kernel_rfl
theorem infoSl : (Tryz.prog.info? 32).map (fun i => (i.zero, i.size, i.bytes)) = some (some (.slice none 0 0), 1, 24) := by kernel_rfl
/-- a row of the call's own, as a slice that is appended -/
theorem row_src {w : World} {base n size : Nat} {e : TypeId} {v : Value} {xs : List Value} (h : w.ownsRow base e size v n xs) : ∃ ad cap, v = .slice ad n cap ∧ (ad = none → n = 0 ∧ cap = 0) ∧ (∀ ad', ad = some ad' → ad'.block < w.heap.size ∧ ∀ j u, xs[j]? = some u → w.cell? (ad'.add j) = some u) := by
  rcases h.2 with ⟨hv, hn⟩ | ⟨g, cap, cur, hv, _, hh, _⟩
  · exact ⟨none, 0, by rw [hv, hn], fun _ => ⟨hn, rfl⟩, fun ad' e => by cases e⟩
  · refine ⟨some ⟨g, 0, none⟩, cap, hv, fun e => (by cases e), fun ad' e => ?_⟩
    cases e
    exact ⟨heap_lt hh, h.cells (g := g) (by rw [hv]; rfl)⟩
theorem rowMono {w : World} {b b' n size : Nat} {e : TypeId} {v : Value} {xs : List Value} (h : w.ownsRow b e size v n xs) (hb : b' ≤ b) : w.ownsRow b' e size v n xs := by
  refine ⟨h.1, ?_⟩
  rcases h.2 with q | ⟨g, cap, cur, q1, q2, q3⟩
  · exact Or.inl q
  · exact Or.inr ⟨g, cap, cur, q1, Nat.le_trans hb q2, q3⟩
theorem set_box {w : World} {b : Nat} {x y : Value} {T : TypeId} (h : w.heap[b]? = some (.cells #[x] T (0, 0))) : (w.setCell ⟨b, 0, none⟩ y).heap[b]? = some (.cells #[y] T (0, 0)) := by
  simp [World.setCell, Array.getElem?_modify, h]
theorem set_cell {w : World} {b : Nat} {x0 x1 x2 x3 y : Value} {T : TypeId} (h : w.heap[b]? = some (.cells #[x0, x1, x2, x3] T (0, 0))) : (w.setCell ⟨b, 2, none⟩ y).heap[b]? = some (.cells #[x0, x1, y, x3] T (0, 0)) := by
  simp [World.setCell, Array.getElem?_modify, h]
theorem set_cell3 {w : World} {b : Nat} {x0 x1 x2 x3 y : Value} {T : TypeId} (h : w.heap[b]? = some (.cells #[x0, x1, x2, x3] T (0, 0))) : (w.setCell ⟨b, 3, none⟩ y).heap[b]? = some (.cells #[x0, x1, x2, y] T (0, 0)) := by
  simp [World.setCell, Array.getElem?_modify, h]
set_option maxRecDepth 100000 in
set_option maxHeartbeats 2000000 in
theorem rTwin (h : Rc w0 w C S u dv (.slice ra rn rc) K D n) (hK : K.length ≤ 1000) (hD : D.length ≤ 1000) :
    Calls Tryz.prog 19 #[.pointer (some ⟨C, 0, none⟩)] w fun e w' => ∃ C' S' u' dv', e = .returned (.pointer (some ⟨C', 0, none⟩)) ∧ Rc w0 w' C' S' u' dv' (.slice ra rn rc) K D n ∧ (∀ k, rcF C' S' u' dv' k → w.heap.size ≤ k) ∧ Below w.heap.size w w' := by
  obtain ⟨iS, hi, hz0, hz1, hz2⟩ := info_parts infoSl
  have HI := hide (And.intro hi (And.intro hz0 (And.intro hz1 hz2)))
  obtain ⟨iD, gi, gz0, gz1, gz2⟩ := info_parts infoDn
  have GI := hide (And.intro gi (And.intro gz0 (And.intro gz1 gz2)))
  have HH := hide h
  obtain ⟨xs, hxs, hq⟩ := h.sp.row
  obtain ⟨ua, uc, rfl, hut, hun⟩ := row_src hxs
  obtain ⟨da, dc, rfl, hdt, hdn⟩ := row_src h.row
  obtain ⟨W1, hW1⟩ : ∃ W1, W1 = (w.alloc (.cells #[.slice none 0 0] 78)).alloc (.cells #[.slice ra rn rc, .pointer (some ⟨w.heap.size, 0, none⟩), .slice none 0 0, .int .i64 0] 55) := ⟨_, rfl⟩
  have hb1 : Below w.heap.size w W1 := by rw [hW1]; exact ((Below.refl _ _).alloc (Nat.le_refl _) _).alloc (by simp) _
  have HB1 := hide hb1
  have HN1 : Hid (W1.heap.size = w.heap.size + 2 ∧ W1.heap[w.heap.size]? = some (.cells #[.slice none 0 0] 78 (0, 0)) ∧ W1.heap[w.heap.size + 1]? = some (.cells #[.slice ra rn rc, .pointer (some ⟨w.heap.size, 0, none⟩), .slice none 0 0, .int .i64 0] 55 (0, 0))) := hide (by
    rw [hW1]
    refine ⟨by simp, (Below.heap_alloc _ _ _ (by simp)).trans (heap_alloc_new w _), ?_⟩
    have := heap_alloc_new (w.alloc (.cells #[.slice none 0 0] 78)) (.cells #[.slice ra rn rc, .pointer (some ⟨w.heap.size, 0, none⟩), .slice none 0 0, .int .i64 0] 55)
    simpa using this)
  obtain ⟨c0, c1, c2, c3, cn, _⟩ := h.cells
  have HNEW := hide (rNewCopy ra rn rc w)
  rw [← hW1] at HNEW
  go_enter Tryz.func19, Tryz.ntmps19
  go_wp2_with fail
  refine (unhide HNEW).mono ?_
  rintro e w1 ⟨rfl, hw1⟩
  obtain rfl := hw1.symm
  have hR1 := h.quiet hb1
  obtain ⟨_, b1, b2, b3, bn, _⟩ := hR1.cells
  have s0 : W1.cell? ⟨S, 0, none⟩ = some (.slice ua K.length uc) := by rw [cell_of_row W1 S 0 _ _ (0, 0) hR1.sp.heap]; rfl
  have sn := World.block_lt_of_cell? W1 _ s0
  have d1 : W1.cell? ⟨w.heap.size + 1, 1, none⟩ = some (.pointer (some ⟨w.heap.size, 0, none⟩)) := by rw [cell_of_row W1 _ _ _ _ (0, 0) HN1.out.2.2]; rfl
  have d2 : W1.cell? ⟨w.heap.size + 1, 2, none⟩ = some (.slice none 0 0) := by rw [cell_of_row W1 _ _ _ _ (0, 0) HN1.out.2.2]; rfl
  have t0 : W1.cell? ⟨w.heap.size, 0, none⟩ = some (.slice none 0 0) := by rw [cell_of_row W1 _ _ _ _ (0, 0) HN1.out.2.1]; rfl
  have dn := World.block_lt_of_cell? W1 _ d1
  have tn := World.block_lt_of_cell? W1 _ t0
  have HS1 : Hid (∀ ad', ua = some ad' → ∀ j u, xs[j]? = some u → W1.cell? (ad'.add j) = some u) := hide fun ad' e j u hu => by
    obtain ⟨q1, q2⟩ := hun ad' e
    have q3 := q2 j u hu
    exact (hb1.cell (p := ad'.add j) (World.block_lt_of_cell? w _ q3)).trans q3
  have HXL : Hid (xs.length = K.length * 1) := hide hxs.1
  have HX1 : Hid (∀ u ∈ xs, u.oneCell' = true) := hide fun v hv => by
    obtain ⟨i, hi', rfl⟩ := List.getElem_of_mem hv
    obtain ⟨a', c', e', _⟩ := (hq i hi' (by have := hxs.1; omega)).shape
    rw [e']; rfl
  have HUT := hide hut
  have HQ := hide hq
  clear h hb1 hxs hq hut hun hdt hdn hW1 HNEW hi hz0 hz1 hz2 gi gz0 gz1 gz2 c0 c1 c2 c3 cn hR1 hw1
  go_upto_region 2 with fail
  go_cut [28] from 9 to 29 (fun s28 wx => ∃ ua2 uc2 w2, s28 = .pointer (some ⟨w.heap.size, 0, none⟩) ∧ wx = w2.setCell ⟨w.heap.size, 0, none⟩ (.slice ua2 K.length uc2) ∧ Hid (w2.ownsRow W1.heap.size 32 1 (.slice ua2 K.length uc2) K.length xs) ∧ Hid (Below W1.heap.size W1 w2))
  case first =>
    go_region_law
      (refine step_append_tidy _ (by rfl) (.tmp 19) (.tmp 26) 76 (by rfl) W1.heap.size 32 iS (.slice none 0 0) 1 24 Tryz.underlying76 HI.out.1 HI.out.2.1 HI.out.2.2.1 HI.out.2.2.2 rfl (by decide) (.slice none 0 0) 0 [] (by simp [Act.eval]) (World.ownsRow_nil _ _ _ _) ua K.length uc xs (by simp [Act.eval]) HUT.out HXL.out HS1.out HX1.out (by unfold maxLen; omega) (by omega) (Nat.le_refl _) ?_
       intro v2 w2 hown2 hgrow2
       obtain ⟨ua2, uc2, hv2, _⟩ := row_src hown2
       subst hv2
       have HO2 := hide hown2
       have HG2 := hide hgrow2
       have e1 : w2.cell? ⟨w.heap.size + 1, 1, none⟩ = some (.pointer (some ⟨w.heap.size, 0, none⟩)) := hgrow2.cell d1 (by simp [Value.ownBlock])
       have en := World.block_lt_of_cell? w2 _ e1
       have t2 : w2.cell? ⟨w.heap.size, 0, none⟩ = some (.slice none 0 0) := hgrow2.cell t0 (by simp [Value.ownBlock])
       have f2 : w2.frozen? ⟨w.heap.size, 0, none⟩ = false := by
         have e := hgrow2.block w.heap.size tn (by simp [Value.ownBlock])
         exact frozen_of_row w2 w.heap.size 0 _ _ (e.trans HN1.out.2.1)
       clear hown2 hgrow2)
    all_goals
      go_wp2_with fail
      go_meet
      case rel => exact ⟨ua2, uc2, w2, rfl, rfl, hide (by simpa using HO2.out), hide ⟨HG2.out.os, HG2.out.tape, HG2.out.output, HG2.out.size, fun k hk => HG2.out.block k hk (by simp [Value.ownBlock])⟩⟩
  case rest =>
    obtain ⟨ua2, uc2, w2, rfl, rfl, HO2, HB2⟩ := hcut
    obtain ⟨W3, hW3⟩ : ∃ W3, W3 = w2.setCell ⟨w.heap.size, 0, none⟩ (.slice ua2 K.length uc2) := ⟨_, rfl⟩
    rw [← hW3]
    have hk3 : ∀ k, k ≠ w.heap.size → W3.heap[k]? = w2.heap[k]? := fun k hk => by rw [hW3]; exact Below.heap_setCell _ _ _ _ hk
    have hsz3 : W3.heap.size = w2.heap.size := by rw [hW3]; simp
    have HB3 : Hid (Below w.heap.size w W3) := hide (by rw [hW3]; exact (HB1.out.trans (HB2.out.mono HB1.out.size)).setCell (p := ⟨w.heap.size, 0, none⟩) (Nat.le_refl _) _)
    have HC3 : Hid (W3.heap[w.heap.size + 1]? = some (.cells #[.slice ra rn rc, .pointer (some ⟨w.heap.size, 0, none⟩), .slice none 0 0, .int .i64 0] 55 (0, 0))) := hide (((hk3 _ (by omega)).trans (HB2.out.block _ (by have := HN1.out.1; omega))).trans HN1.out.2.2)
    have HT3 : Hid (W3.heap[w.heap.size]? = some (.cells #[.slice ua2 K.length uc2] 78 (0, 0))) := hide (by
      have e := (HB2.out.block w.heap.size (by have := HN1.out.1; omega)).trans HN1.out.2.1
      rw [hW3]
      exact set_box e)
    have HO3 : Hid (W3.ownsRow (w.heap.size + 2) 32 1 (.slice ua2 K.length uc2) K.length xs) := hide (by
      have h1 := HO2.out
      rw [HN1.out.1] at h1
      exact ownsRow_at h1 (fun g hg => hk3 g (by have := (ownsRow_tag h1 hg).1; omega)))
    have HR3 := hide (HH.out.quiet HB3.out)
    have HN3 : Hid (w.heap.size + 2 ≤ W3.heap.size) := hide (by have := HB2.out.size; have := HN1.out.1; omega)
    clear hk3 hsz3 hW3 HO2 HB2 b1 b2 b3 bn s0 sn d1 d2 dn t0 tn
    obtain ⟨_, _, b2, b3, bn, _⟩ := HR3.out.cells
    have d2 : W3.cell? ⟨w.heap.size + 1, 2, none⟩ = some (.slice none 0 0) := by rw [cell_of_row W3 _ _ _ _ (0, 0) HC3.out]; rfl
    have dn := World.block_lt_of_cell? W3 _ d2
    obtain ⟨da', dc', hdv, hdt, hdn⟩ := row_src HR3.out.row
    cases hdv
    have HDT := hide hdt
    have HDS : Hid (∀ ad', da = some ad' → ∀ j u, (cellsD D)[j]? = some u → W3.cell? (ad'.add j) = some u) := hide fun ad' e => (hdn ad' e).2
    clear hdt hdn
    go_upto_region 3 with fail
    go_cut [40] from 30 to 41 (fun s40 wx => ∃ da2 dc2 w4, s40 = .pointer (some ⟨w.heap.size + 1, 0, none⟩) ∧ wx = w4.setCell ⟨w.heap.size + 1, 2, none⟩ (.slice da2 D.length dc2) ∧ Hid (w4.ownsRow W3.heap.size 106 3 (.slice da2 D.length dc2) D.length (cellsD D)) ∧ Hid (Below W3.heap.size W3 w4))
    case first =>
      go_region_law
        (refine step_append_tidy _ (by rfl) (.tmp 34) (.tmp 38) 53 (by rfl) W3.heap.size 106 iD (.agg #[.int .i64 0, .int .i64 0, .string ⟨#[]⟩]) 3 32 Tryz.underlying53 GI.out.1 GI.out.2.1 GI.out.2.2.1 GI.out.2.2.2 rfl (by decide) (.slice none 0 0) 0 [] (by simp [Act.eval]) (World.ownsRow_nil _ _ _ _) da D.length dc (cellsD D) (by simp [Act.eval]) HDT.out (cellsD_len D) HDS.out (cellsD_one D) (by unfold maxLen; omega) (by omega) (Nat.le_refl _) ?_
         intro v4 w4 hown4 hgrow4
         obtain ⟨da2, dc2, hv4, _⟩ := row_src hown4
         subst hv4
         have HO4 := hide hown4
         have HG4 := hide hgrow4
         have e2 : w4.cell? ⟨w.heap.size + 1, 2, none⟩ = some (.slice none 0 0) := hgrow4.cell d2 (by simp [Value.ownBlock])
         have f2 : w4.frozen? ⟨w.heap.size + 1, 2, none⟩ = false := by
           have e := hgrow4.block (w.heap.size + 1) dn (by simp [Value.ownBlock])
           exact frozen_of_row w4 (w.heap.size + 1) 2 _ _ (e.trans HC3.out)
         clear hown4 hgrow4)
      all_goals
        go_wp2_with fail
        go_meet
        case rel => exact ⟨da2, dc2, w4, rfl, rfl, hide (by simpa using HO4.out), hide ⟨HG4.out.os, HG4.out.tape, HG4.out.output, HG4.out.size, fun k hk => HG4.out.block k hk (by simp [Value.ownBlock])⟩⟩
    case rest =>
      obtain ⟨da2, dc2, w4, rfl, rfl, HO4, HB4⟩ := hcut
      obtain ⟨W5, hW5⟩ : ∃ W5, W5 = w4.setCell ⟨w.heap.size + 1, 2, none⟩ (.slice da2 D.length dc2) := ⟨_, rfl⟩
      rw [← hW5]
      have hk5 : ∀ k, k ≠ w.heap.size + 1 → W5.heap[k]? = w4.heap[k]? := fun k hk => by rw [hW5]; exact Below.heap_setCell _ _ _ _ hk
      have HC5 : Hid (W5.heap[w.heap.size + 1]? = some (.cells #[.slice ra rn rc, .pointer (some ⟨w.heap.size, 0, none⟩), .slice da2 D.length dc2, .int .i64 0] 55 (0, 0))) := hide (by
        have e := (HB4.out.block (w.heap.size + 1) (by have := HN3.out; omega)).trans HC3.out
        rw [hW5]
        exact set_cell e)
      have HB5 : Hid (Below w.heap.size w W5) := hide (by rw [hW5]; exact (HB3.out.trans (HB4.out.mono HB3.out.size)).setCell (p := ⟨w.heap.size + 1, 2, none⟩) (Nat.le_succ _) _)
      have HFIN : Hid (∀ W6, W6 = W5.setCell ⟨w.heap.size + 1, 3, none⟩ (.int .i64 n) → Rc w0 W6 (w.heap.size + 1) w.heap.size (.slice ua2 K.length uc2) (.slice da2 D.length dc2) (.slice ra rn rc) K D n ∧ (∀ k, rcF (w.heap.size + 1) w.heap.size (.slice ua2 K.length uc2) (.slice da2 D.length dc2) k → w.heap.size ≤ k) ∧ Below w.heap.size w W6) := hide fun W6 hW6 => by
        have hk6 : ∀ k, k ≠ w.heap.size + 1 → W6.heap[k]? = w4.heap[k]? := fun k hk => by rw [hW6, Below.heap_setCell _ _ _ _ hk]; exact hk5 k hk
        have hlo := HH.out.bel.size
        have h5 := HO4.out
        have h3 := HO3.out
        have hb6 : Below w.heap.size w W6 := by rw [hW6]; exact HB5.out.setCell (p := ⟨w.heap.size + 1, 3, none⟩) (Nat.le_succ _) _
        have r1 : W6.ownsRow (w.heap.size + 2) 32 1 (.slice ua2 K.length uc2) K.length xs := ownsRow_at h3 (fun g hg => by
          obtain ⟨q1, c9, fr9, q2⟩ := ownsRow_tag h3 hg
          exact (hk6 g (by omega)).trans (HB4.out.block g (heap_lt q2)))
        have r2 : W6.ownsRow (w.heap.size + 2) 106 3 (.slice da2 D.length dc2) D.length (cellsD D) := rowMono (ownsRow_at h5 (fun g hg => by
          have q1 := (ownsRow_tag h5 hg).1
          exact hk6 g (by have := HN3.out; omega))) HN3.out
        refine ⟨⟨by omega, ?_, ⟨hlo, ?_, ⟨xs, rowMono r1 (by omega), HQ.out⟩⟩, rowMono r2 (by omega), HH.out.bel.trans (hb6.mono hlo)⟩, fun k hk => ?_, hb6⟩
        · rw [hW6]; exact set_cell3 HC5.out
        · exact ((hk6 w.heap.size (by omega)).trans (HB4.out.block w.heap.size (by have := HN3.out; omega))).trans HT3.out
        · rcases hk with rfl | rfl | hk | hk
          · omega
          · exact Nat.le_refl _
          · have := (ownsRow_tag r1 hk).1; omega
          · have := (ownsRow_tag r2 hk).1; omega
      clear hk5 hW5 HO4 HB4 b2 b3 bn d2 dn
      obtain ⟨_, _, _, b3, bn, _⟩ := (HH.out.quiet HB5.out).cells
      have d3 : W5.cell? ⟨w.heap.size + 1, 3, none⟩ = some (.int .i64 0) := by rw [cell_of_row W5 _ _ _ _ (0, 0) HC5.out]; rfl
      have f3 : W5.frozen? ⟨w.heap.size + 1, 3, none⟩ = false := frozen_of_row W5 (w.heap.size + 1) 3 _ _ HC5.out
      have dn := World.block_lt_of_cell? W5 _ d3
      go_wp2_with fail
      go_ret
      obtain ⟨z1, z2, z3⟩ := HFIN.out _ rfl
      exact ⟨_, rfl, _, _, _, z1, z2, z3⟩
end

end Go.Proofs.YtlefhfmckimlaakGreatDoor
