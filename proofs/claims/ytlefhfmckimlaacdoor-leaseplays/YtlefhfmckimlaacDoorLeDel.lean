/-
  What the library's deleting of those whose time is over does to a list of leases, as one law of its call.
-/
import Derived.Test.YtlefhfmckimlaacDoorLeFind
namespace Go.Proofs.YtlefhfmckimlaacDoor
open Go.RowKit
attribute [local go_sem ↓] Go.wp_at_zero Go.wp_at_succ

theorem grownBy_below {w w' : World} {row : Option Nat} (h : Below w.heap.size w w') : w.grownBy w' row := ⟨h.os, h.tape, h.output, h.size, fun k hk _ => h.block k hk⟩
theorem grownBy_trans {a b c : World} {row : Option Nat} (h : a.grownBy b row) (k : b.grownBy c row) : a.grownBy c row :=
  ⟨k.os.trans h.os, k.tape.trans h.tape, k.output.trans h.output, Nat.le_trans h.size k.size, fun i hi hne => (k.block i (Nat.lt_of_lt_of_le hi h.size) hne).trans (h.block i hi hne)⟩
theorem zeroL (w : World) : (zeroValue 78).run Tryd.prog w = .ok (.agg #[.int .i64 0, .int .i64 0, .slice none 0 0]) w := Tryd.zeroValue78 w

theorem nowE_all {E : List Ent} {tm : Int} (h : ¬ E.findIdx (fun x => decide (x.u ≤ tm)) < E.length) : M.nowE E tm = E := by
  unfold M.nowE
  rw [List.filter_eq_self]
  intro x hx
  have h1 : E.findIdx (fun x => decide (x.u ≤ tm)) = E.length := Nat.le_antisymm List.findIdx_le_length (by omega)
  have := List.findIdx_eq_length.1 h1 x hx
  simp at this
  simpa using this

/-- an element written into a row of such -/
theorem row_write {w : World} {base g n cap i : Nat} {K : List Ent} (h : w.ownsRow base 78 3 (.slice (some ⟨g, 0, none⟩) n cap) n (cellsE K)) (hi : i < K.length) (x : Ent) :
    (((w.setCell ⟨g, i * 3, none⟩ (.int .i64 x.i)).setCell ⟨g, i * 3 + 1, none⟩ (.int .i64 x.u)).setCell ⟨g, i * 3 + 2, none⟩ (.slice x.a x.n x.c)).ownsRow base 78 3 (.slice (some ⟨g, 0, none⟩) n cap) n (cellsE (K.set i x)) ∧
    w.grownBy (((w.setCell ⟨g, i * 3, none⟩ (.int .i64 x.i)).setCell ⟨g, i * 3 + 1, none⟩ (.int .i64 x.u)).setCell ⟨g, i * 3 + 2, none⟩ (.slice x.a x.n x.c)) (some g) := by
  obtain ⟨h1, g1⟩ := h.stored (i * 3) (.int .i64 x.i)
  obtain ⟨h2, g2⟩ := h1.stored (i * 3 + 1) (.int .i64 x.u)
  obtain ⟨h3, g3⟩ := h2.stored (i * 3 + 2) (.slice x.a x.n x.c)
  rw [cellsE_set K i x hi]
  exact ⟨h3, grownBy_trans (grownBy_trans g1 g2) g3⟩

set_option maxRecDepth 100000 in
theorem ldelete_many (base g n cap B : Nat) (tm : Int) (E : List Ent) (w : World) (hn : n = E.length) (h20 : n ≤ 20) (hrow : w.ownsRow base 78 3 (.slice (some ⟨g, 0, none⟩) n cap) n (cellsE E)) (hB : w.cell? ⟨B, 0, none⟩ = some (.int .i64 tm)) (hne : B ≠ g) :
    Calls Tryd.prog 43 #[.slice (some ⟨g, 0, none⟩) n cap, .func (.func 44) #[] #[.pointer (some ⟨B, 0, none⟩)]] w fun e w' =>
      e = .returned (.slice (some ⟨g, 0, none⟩) (M.nowE E tm).length cap) ∧ w'.ownsRow base 78 3 (.slice (some ⟨g, 0, none⟩) (M.nowE E tm).length cap) (M.nowE E tm).length (cellsE (M.nowE E tm)) ∧ w.grownBy w' (some g) := by
  have hBl : B < w.heap.size := World.block_lt_of_cell? w _ hB
  have hA : Asks 44 B (fun x => decide (x.u ≤ tm)) E w := fun wr hb k hk => isOver B _ _ tm _ _ _ wr ((hb.cell (p := ⟨B, 0, none⟩) hBl).trans hB)
  have HI := hide (lindex_many 44 B base g n cap (fun x => decide (x.u ≤ tm)) E w (enters_of Tryd.func44 (by kernel_rfl) rfl) hn h20 hrow hA)
  clear hA
  by_cases hk : E.findIdx (fun x => decide (x.u ≤ tm)) < E.length
  · rw [where_hit hk] at HI
    have HH := hide (Half.start hk)
    have hle : E.findIdx (fun x => decide (x.u ≤ tm)) < n := by omega
    generalize E.findIdx (fun x => decide (x.u ≤ tm)) = k0 at *
    have hne1 : ((k0 : Int) == -1) = false := beq_eq_false_iff_ne.2 (by omega)
    have HR := hide hrow
    have HN := hide hn
    have HB := hide hB
    clear hrow hn hB hk
    go_enter Tryd.func43, Tryd.ntmps43
    go_wp2_with fail
    refine (unhide HI).mono ?_
    rintro e w1 ⟨rfl, hb1⟩
    have HR1 := hide (ownsRow_below HR.out hb1)
    have HG1 : Hid (w.grownBy w1 (some g)) := hide (grownBy_below hb1)
    clear hb1
    go_wp2_with fail
    go_loopw [5, 6, 7] (fun s5 s6 _ wr => ∃ (i j : Nat) (K : List Ent), j ≤ n ∧ i < j ∧ s5 = .int .i64 i ∧ s6 = .int .i64 j ∧ Hid (Half (fun x => decide (x.u ≤ tm)) E K i j) ∧ Hid (wr.ownsRow base 78 3 (.slice (some ⟨g, 0, none⟩) n cap) n (cellsE K)) ∧ Hid (w.grownBy wr (some g))) (fun _ s6 _ _ => n - (intOf s6).toNat)
    case atStart => exact ⟨k0, k0 + 1, E, by omega, by omega, rfl, by go_num, HH, HR1, HG1⟩
    case round =>
      obtain ⟨i, j, K, hjn, hij, rfl, rfl, hH, hO, hG⟩ := hrel
      by_cases hlt : j < n
      · have hjE : j < E.length := HN.out ▸ hlt
        have hKl : Hid (K.length = n) := hide (by rw [hH.out.len, HN.out])
        have hiK : Hid (i < K.length) := hide (by rw [hKl.out]; omega)
        obtain ⟨a1, a2, a3⟩ := cellsE_at K j (by rw [hKl.out]; exact hlt)
        rw [hH.out.at hjE] at a1 a2 a3
        have d1 : wr.cell? ⟨g, j * 3, none⟩ = some (.int .i64 E[j].i) := by rw [hO.out.cellAt _ (by omega)]; exact a1
        have d2 : wr.cell? ⟨g, j * 3 + 1, none⟩ = some (.int .i64 E[j].u) := by rw [hO.out.cellAt _ (by omega)]; exact a2
        have d3 : wr.cell? ⟨g, j * 3 + 2, none⟩ = some (.slice E[j].a E[j].n E[j].c) := by rw [hO.out.cellAt _ (by omega)]; exact a3
        obtain ⟨b1, b2, b3⟩ := cellsE_at K i hiK.out
        have o1 : wr.cell? ⟨g, i * 3, none⟩ = some (.int .i64 K[i].i) := by rw [hO.out.cellAt _ (by omega)]; exact b1
        have o2 : wr.cell? ⟨g, i * 3 + 1, none⟩ = some (.int .i64 K[i].u) := by rw [hO.out.cellAt _ (by omega)]; exact b2
        have o3 : wr.cell? ⟨g, i * 3 + 2, none⟩ = some (.slice K[i].a K[i].n K[i].c) := by rw [hO.out.cellAt _ (by omega)]; exact b3
        have f1 : wr.frozen? ⟨g, i * 3, none⟩ = false := hO.out.frozenAt _
        have f2 : wr.frozen? ⟨g, i * 3 + 1, none⟩ = false := hO.out.frozenAt _
        have f3 : wr.frozen? ⟨g, i * 3 + 2, none⟩ = false := hO.out.frozenAt _
        have hgl : g < wr.heap.size := World.block_lt_of_cell? wr _ d1
        have hwx : Hid (Below wr.heap.size wr (wr.alloc (.cells #[.int .i64 E[j].i, .int .i64 E[j].u, .slice E[j].a E[j].n E[j].c] 78))) := hide ((Below.refl _ _).alloc (Nat.le_refl _) _)
        have hcB : wr.cell? ⟨B, 0, none⟩ = some (.int .i64 tm) := hG.out.cell HB.out (fun e => hne (by simpa using e))
        have HC := hide (isOver B E[j].i E[j].u tm E[j].a E[j].n E[j].c (wr.alloc (.cells #[.int .i64 E[j].i, .int .i64 E[j].u, .slice E[j].a E[j].n E[j].c] 78)) ((hwx.out.cell (p := ⟨B, 0, none⟩) (World.block_lt_of_cell? wr _ hcB)).trans hcB))
        clear hcB
        clear a1 a2 a3 b1 b2 b3
        by_cases hov : E[j].u ≤ tm
        · rw [decide_eq_true hov] at HC
          have HV := hide hov
          clear hov o1 o2 o3 f1 f2 f3
          go_wp2_with fail
          refine (unhide HC).mono ?_
          rintro e w2 ⟨rfl, hb2⟩
          replace hb2 := hwx.out.trans (hb2.mono hwx.out.size)
          go_wp2_with fail
          go_roundw
          case rel => exact ⟨i, j + 1, K, by omega, by omega, rfl, by go_num, hide (hH.out.skip hjE (decide_eq_true HV.out)), hide (ownsRow_below hO.out hb2), hide (grownBy_trans hG.out (grownBy_below hb2))⟩
          case measure => simp [intOf]; omega
        · rw [decide_eq_false hov] at HC
          have HV := hide hov
          clear hov
          go_wp2_with fail
          refine (unhide HC).mono ?_
          rintro e w2 ⟨rfl, hb2⟩
          obtain ⟨hc, hff⟩ := bcell hb2
          have HB2 := hide (hwx.out.trans (hb2.mono hwx.out.size))
          clear hb2
          go_wp2_with fail
          go_roundw
          case rel =>
            obtain ⟨r1, r2⟩ := row_write (ownsRow_below hO.out HB2.out) hiK.out E[j]
            exact ⟨i + 1, j + 1, K.set i E[j], by omega, by omega, by go_num, by go_num, hide (hH.out.keep hjE (decide_eq_false (by have := HV.out; omega))), hide r1, hide (grownBy_trans (grownBy_trans hG.out (grownBy_below HB2.out)) r2)⟩
          case measure => simp [intOf]; omega
      · obtain rfl : j = n := by omega
        have hjj : ¬ (j : Int) < (j : Int) := by omega
        have hin : i < j := hij
        have hii : (i : Int) ≤ (j : Int) := by omega
        obtain ⟨us, hcl⟩ := clear_part (P := Tryd.prog) (k := 3) (t := 73) (z := .agg #[.int .i64 0, .int .i64 0, .slice none 0 0]) Tryd.underlying73 zeroL rfl (by decide) (fun k hk => by
          match k, hk with
          | 0, _ => rfl
          | 1, _ => rfl
          | 2, _ => rfl) hO.out hin (cap - i)
        have hcp : j ≤ cap := by
          rcases hO.out.2 with ⟨h', _⟩ | ⟨g', cap', cur, h', _, _, h1, _⟩
          · simp at h'
          · simp only [Value.slice.injEq, Option.some.injEq, Addr.mk.injEq, and_true, true_and] at h'
            obtain ⟨_, rfl⟩ := h'
            exact h1
        go_wp2
        go_ret
        obtain ⟨q1, q2⟩ := (HN.out ▸ hH.out : Half _ E K i E.length).done
        rw [filter_not] at q1 q2
        obtain ⟨z1, z2⟩ := ownsRow_behind us (i * 3) (ownsRow_cut hO.out (Nat.le_of_lt hin)) (Nat.le_refl _)
        rw [← cellsE_take, q1] at z1
        rw [← q2]
        exact ⟨rfl, z1, grownBy_trans hG.out z2⟩
  · rw [where_miss hk] at HI
    have he := nowE_all hk
    rw [he]
    have HR := hide hrow
    have HN := hide hn
    clear hrow hk hB he hn
    go_enter Tryd.func43, Tryd.ntmps43
    go_wp2_with fail
    refine (unhide HI).mono ?_
    rintro e w1 ⟨rfl, hb1⟩
    go_wp2_with fail
    go_ret
    rw [← HN.out]
    exact ⟨rfl, ownsRow_below HR.out hb1, grownBy_below hb1⟩

theorem ldelete_nil (f : Value) (w : World) : Calls Tryd.prog 43 #[.slice none 0 0, f] w fun e w' => e = .returned (.slice none 0 0) ∧ Below w.heap.size w w' := by
  have HI := hide (lindex_nil none 0 f w)
  go_enter Tryd.func43, Tryd.ntmps43
  go_wp2_with fail
  refine (unhide HI).mono ?_
  rintro e w1 ⟨rfl, hb1⟩
  go_wp2_with fail
  go_ret
  exact ⟨rfl, hb1⟩

theorem ldelete (base B : Nat) (tm : Int) (v : Value) (E : List Ent) (w : World) (h20 : E.length ≤ 20) (hrow : w.ownsRow base 78 3 v E.length (cellsE E)) (hB : w.cell? ⟨B, 0, none⟩ = some (.int .i64 tm)) (hne : v.ownBlock ≠ some B) :
    Calls Tryd.prog 43 #[v, .func (.func 44) #[] #[.pointer (some ⟨B, 0, none⟩)]] w fun e w' =>
      ∃ ao cap, e = .returned (.slice ao (M.nowE E tm).length cap) ∧ w'.ownsRow base 78 3 (.slice ao (M.nowE E tm).length cap) (M.nowE E tm).length (cellsE (M.nowE E tm)) ∧ w.grownBy w' v.ownBlock ∧ (Value.slice ao (M.nowE E tm).length cap).ownBlock = v.ownBlock := by
  rcases hrow.2 with ⟨rfl, h0⟩ | ⟨b, cap, cur, rfl, _⟩
  · have hl := List.length_eq_zero_iff.1 h0
    subst hl
    refine (ldelete_nil _ w).mono ?_
    rintro e w' ⟨rfl, hb⟩
    exact ⟨none, 0, rfl, World.ownsRow_nil _ _ _ _, grownBy_below hb, rfl⟩
  · refine (ldelete_many base b E.length cap B tm E w rfl h20 hrow hB (fun e => hne (by rw [e]; rfl))).mono ?_
    rintro e w' ⟨rfl, h1, h2⟩
    exact ⟨_, _, rfl, h1, h2, rfl⟩

end Go.Proofs.YtlefhfmckimlaacDoor
