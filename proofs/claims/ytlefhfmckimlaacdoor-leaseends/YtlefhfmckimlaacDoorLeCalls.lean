/-
  What Now, Renew and Read of package lease do, each as one law of its call.
-/
import Derived.Test.YtlefhfmckimlaacDoorLeDel
import Derived.Deep.QuietTactic
import Derived.BigQuiet
namespace Go.Proofs.YtlefhfmckimlaacDoor
open Go.RowKit
attribute [local go_sem ↓] Go.wp_at_zero Go.wp_at_succ

/-- those that are still there are some of those that were -/
theorem nowE_sub {E : List Ent} {x : Int} : ∀ e ∈ M.nowE E x, e ∈ E := fun _ he => (List.mem_filter.1 he).1
theorem nowE_len (E : List Ent) (x : Int) : (M.nowE E x).length ≤ E.length := List.length_filter_le _ _

theorem lnow_bad (S : Nat) (tm x : Int) (w : World) (hc : w.cell? ⟨S, 0, none⟩ = some (.int .i64 tm)) (hf : x < tm ∨ 10000 < x) :
    Calls Tryd.prog 22 #[.pointer (some ⟨S, 0, none⟩), .int .i64 x] w fun e w' => e = .returned (.tuple #[.int .i64 0, errV 1]) ∧ Below w.heap.size w w' := by
  have hS : S < w.heap.size := World.block_lt_of_cell? w _ hc
  have hb : Hid (Below w.heap.size w (w.alloc (.cells #[.int .i64 x] 3))) := hide ((Below.refl _ _).alloc (Nat.le_refl _) _)
  by_cases h1 : x < tm
  · go_enter Tryd.func22, Tryd.ntmps22
    go_wp2
    go_quiet (fail)
    go_wp2
    go_ret2
    exact ⟨rfl, below_drewN hb.out _⟩
  · have h2 : 10000 < x := by omega
    go_enter Tryd.func22, Tryd.ntmps22
    go_wp2
    go_quiet (fail)
    go_wp2
    go_ret2
    exact ⟨rfl, below_drewN hb.out _⟩

set_option maxRecDepth 100000 in
theorem lnow_ok (base S : Nat) (tm gv x : Int) (v : Value) (E : List Ent) (w : World) (h : Ls base w S tm gv v E) (h20 : E.length ≤ 20) (h1 : ¬ x < tm) (h2 : ¬ 10000 < x) :
    Calls Tryd.prog 22 #[.pointer (some ⟨S, 0, none⟩), .int .i64 x] w fun e w' =>
      e = .returned (.tuple #[.int .i64 ((E.length : Int) - ((M.nowE E x).length : Int)), .nilIface]) ∧ ∃ v', Ls base w' S x gv v' (M.nowE E x) ∧ Touch S v w w' ∧ Near w v v' := by
  obtain ⟨ao, cap, rfl⟩ := h.shape
  have hS := h.lt
  have k0 := h.c0
  have k2 := h.c2
  have f0 := h.fz 0
  have f2 := h.fz 2
  have HL := hide h
  have hlen := nowE_len E x
  obtain ⟨n, hn⟩ : ∃ n, n = E.length := ⟨_, rfl⟩
  obtain ⟨m, hm⟩ : ∃ m, m = (M.nowE E x).length := ⟨_, rfl⟩
  have HM := hide hm
  have HN := hide hn
  rw [← hn] at k2 h20
  rw [← hm, ← hn] at hlen
  clear h hn hm
  rw [← HN.out, ← HM.out]
  go_enter Tryd.func22, Tryd.ntmps22
  go_wp2_with fail
  go_quiet (fail)
  have hbA : Below w.heap.size w ((w.alloc (.cells #[.int .i64 x] 3)).drewN nq) := below_drewN ((Below.refl _ _).alloc (Nat.le_refl _) _) nq
  obtain ⟨hL2, hT2⟩ := (HL.out.below hbA).setTime x
  have HT2 := hide (hT2.after hbA)
  have HD := hide (ldelete base w.heap.size x (.slice ao E.length cap) E (((w.alloc (.cells #[.int .i64 x] 3)).drewN nq).setCell ⟨S, 0, none⟩ (.int .i64 x)) (HN.out ▸ h20) hL2.held.row (by
    rw [World.cell?_setCell_other _ _ _ _ (fun e => by cases e; omega)]
    exact (cell_of_row (w.alloc (.cells #[.int .i64 x] 3)) w.heap.size 0 #[.int .i64 x] 3 (0, 0) (heap_alloc_new w _)).trans rfl) (fun e => by have := (HL.out.row_lt _ e).2; omega))
  have HL2 := hide hL2
  rw [← HN.out, ← HM.out] at HD
  clear hL2 hT2 hbA
  go_wp2_with fail
  refine (unhide HD).mono ?_
  rintro e w2 ⟨ao2, cap2, rfl, ho2, hg2, hn2⟩
  have hne := HL2.out.row_ne
  rw [← HN.out] at hne
  have c3 : w2.cell? ⟨S, 2, none⟩ = some (.slice ao n cap) := hg2.cell (HN.out ▸ HL2.out.c2) (fun e => hne e.symm)
  have f3 : w2.frozen? ⟨S, 2, none⟩ = false := (World.frozen?_of_block (hg2.block S HL2.out.lt (fun e => hne e.symm))).trans (HL2.out.fz 2)
  have HO := hide ho2
  have HG := hide hg2
  have HE := hide hn2
  clear ho2 hg2 hn2 hne
  go_wp2_with fail
  go_ret2
  have hO := HO.out
  rw [HM.out] at hO
  obtain ⟨r1, r2⟩ := HL2.out.stored (E' := M.nowE E x) (HN.out ▸ HG.out) hO (fun y hy => HL2.out.held.own y (nowE_sub y hy)) (Or.inl (by rw [← HM.out, ← HN.out]; exact HE.out))
  rw [← HM.out] at r1 r2
  refine ⟨rfl, _, r1, ?_, Or.inl HE.out⟩
  rw [HN.out]
  exact touch_trans HT2.out (Near.refl _ _) r2

end Go.Proofs.YtlefhfmckimlaacDoor
