/-
  The walk of the Go function ProofNought: it returns true, whatever the two numbers.
-/
import Derived.Test.YtlefhfmckimlaafProofLit
set_option linter.unusedVariables false
namespace Go.Proofs.Ytlefhfmckimlaaf.proofNought
open Go.RowKit

theorem fine : M.cmtE [1] = 0 := by decide +kernel
theorem told {x y : Int} (hy : M.inR y = true) : M.trueB [1] x y = (y == 0) := by
  obtain ⟨y0, y1⟩ := M.inR_yes hy
  have h := M.true_iff (p := [0]) (fun i hi => by
    obtain rfl : i = 0 := by simpa using hi
    simp) (x := x) y0 y1
  have e : M.commits [0] = [1] := by decide +kernel
  have e2 : M.ev [0] x = 0 := by rw [M.ev_cons, M.ev_nil]; omega
  rw [e, e2] at h
  rw [h]
  exact Bool.beq_comm

theorem ways (x y : Int) : (x < 0 ∧ M.chkE [1] x y = 1) ∨ (¬ x < 0 ∧ 256 < x ∧ M.chkE [1] x y = 1) ∨ (¬ x < 0 ∧ ¬ 256 < x ∧ y < 0 ∧ M.chkE [1] x y = 1) ∨ (¬ x < 0 ∧ ¬ 256 < x ∧ ¬ y < 0 ∧ 256 < y ∧ M.chkE [1] x y = 1) ∨ (M.chkE [1] x y = 0 ∧ M.chkR [1] x y = (y == 0)) := by
  cases hx : M.inR x
  · have h := M.chkE_xy fine (Or.inl hx) (y := y)
    have := M.inR_no hx
    omega
  · cases hy : M.inR y
    · have h := M.chkE_xy fine (Or.inr hy) (x := x)
      have h1 := M.inR_no hy
      have h2 := M.inR_yes hx
      omega
    · have h := M.chkE_0 fine hx hy
      exact Or.inr (Or.inr (Or.inr (Or.inr ⟨h, by rw [M.chkR_ok h]; exact told hy⟩)))

theorem two_below {w w1 w2 : World} {c1 c2 : Obj} (h1 : Below (w.alloc c1).heap.size (w.alloc c1) w1) (h2 : Below (w1.alloc c2).heap.size (w1.alloc c2) w2) : Below w.heap.size w w1 ∧ Below w1.heap.size w1 w2 ∧ Below w.heap.size w w2 := by
  have g1 : Below w.heap.size w w1 := ((Below.refl w.heap.size w).alloc (Nat.le_refl _) _).trans (h1.mono (by simp))
  have g2 : Below w1.heap.size w1 w2 := ((Below.refl w1.heap.size w1).alloc (Nat.le_refl _) _).trans (h2.mono (by simp))
  exact ⟨g1, g2, g1.trans (g2.mono g1.size)⟩

set_option maxRecDepth 100000 in
set_option maxHeartbeats 2000000 in
theorem walk (x y : Int) (w : World) : Calls Try.prog 4 #[.int .i64 x, .int .i64 y] w fun e w' => e = .returned (.bool true) ∧ Below w.heap.size w w' := by
  have HA := hide (com_one (z := 0) (r := 1) (by decide +kernel) (by decide +kernel))
  have HB := hide (com_one (z := 1) (r := 64) (by decide +kernel) (by decide +kernel))
  have HC : Hid (∀ (wx : World) (b off c : Nat), wx.cell? ⟨b, off, none⟩ = some (.int .i64 1) → Calls Try.prog 9 #[.slice (some ⟨b, off, none⟩) 1 c, .agg #[.int .i64 x, .int .i64 y]] wx fun e w' => e = .returned (.tuple #[.bool (M.chkR [1] x y), errV (M.chkE [1] x y)]) ∧ Below wx.heap.size wx w') := hide fun wx b off c hc =>
    pCheck (some ⟨b, off, none⟩) 1 c [1] x y wx rfl (by decide) (fun _ => ⟨b, off, rfl, fun i hi => by
      obtain rfl : i = 0 := by simpa using hi
      simpa using hc⟩)
  have hq := ways x y
  generalize M.chkR [1] x y = R at HC hq
  generalize M.chkE [1] x y = E at HC hq
  rcases hq with ⟨h1, rfl⟩ | ⟨h1, h2, rfl⟩ | ⟨h1, h2, h3, rfl⟩ | ⟨h1, h2, h3, h4, rfl⟩ | ⟨rfl, rfl⟩
  all_goals
    first
      | rw [errV_bad (show (1 : Int) ≠ 0 by decide)] at HC
      | rw [errV_0] at HC
    go_enter Try.func4, Try.ntmps4
    go_wp2_with fail
    refine (HA.out _ _ (by simp [go_sem])).mono ?_
    rintro e w1 ⟨⟨b1, o1, k1, rfl, c1⟩, hb1⟩
    go_wp2_with fail
    refine (HB.out _ _ (by simp [go_sem])).mono ?_
    rintro e w2 ⟨⟨b2, o2, k2, rfl, c2⟩, hb2⟩
    obtain ⟨g1, g2, g3⟩ := two_below hb1 hb2
    have c3 := (g2.cell (p := ⟨b1, o1, none⟩) (World.block_lt_of_cell? w1 _ c1)).trans c1
    have HG := hide g3
    clear hb1 hb2 g1 g2 g3 c1
    go_wp2_with fail
    refine (HC.out _ _ _ _ c3).mono ?_
    rintro e w3 ⟨rfl, hb3⟩
    have HG3 := hide (HG.out.trans (hb3.mono HG.out.size))
    clear hb3
    go_wp2_with fail
    go_ret
    exact ⟨by simp, HG3.out⟩

end Go.Proofs.Ytlefhfmckimlaaf.proofNought
