/-
  What name of package run answers: of a line's error that the line is bad, of a number of package api its name.
-/
import Derived.Test.YtlefhfmckimlaakGreatDoorRunErr2
import Derived.Test.YtlefhfmckimlaakGreatDoorRunMath
set_option linter.unusedVariables false
namespace Go.Proofs.YtlefhfmckimlaakGreatDoor
open Go.RowKit

set_option maxRecDepth 100000 in
set_option maxHeartbeats 2000000 in
theorem errName (e : Int) (w : World) (h1 : 1 ≤ e) (h8 : e ≤ 8) : Calls Tryz.prog 151 #[.int .i64 e] w fun x w' => x = .returned (.string ⟨(M.errN e).toArray⟩) ∧ w' = w := by
  have h : e = 1 ∨ e = 2 ∨ e = 3 ∨ e = 4 ∨ e = 5 ∨ e = 6 ∨ e = 7 ∨ e = 8 := by omega
  rcases h with rfl | rfl | rfl | rfl | rfl | rfl | rfl | rfl
  all_goals
    go_enter Tryz.func151, Tryz.ntmps151
    go_wp2_with fail
    go_ret
    exact ⟨rfl, rfl⟩

theorem nameBad (n : Int) (w : World) (hg : Hand w) : Calls Tryz.prog 115 #[.iface 219 (.agg #[.iface 87 (.int .i64 n)])] w fun x w' => x = .returned (.string ⟨#[98, 97, 100]⟩) ∧ Below w.heap.size w w' := by
  have hA := hide (as_line n ⟨w.heap.size, 0, none⟩ .nilIface ((w.alloc (.cells #[.nilIface] 219)).alloc (.cells #[.int .i64 0] 87)) (hand_stays hg (((Below.refl _ _).alloc (Nat.le_refl _) _).alloc (by simp) _) (Nat.le_refl _))
    (by rw [World.cell?_alloc_lt _ _ ⟨w.heap.size, 0, none⟩ (by simp)]; simp) (by rw [World.frozen?_alloc_old _ _ ⟨w.heap.size, 0, none⟩ (by simp)]; simp))
  clear hg
  go_enter Tryz.func115, Tryz.ntmps115
  go_wp2_with fail
  refine (unhide hA).mono ?_
  rintro e w1 ⟨rfl, rfl⟩
  dsimp only
  go_wp2_with fail
  go_ret
  exact ⟨rfl, ((((((Below.refl _ _).alloc (Nat.le_refl _) _).alloc (by simp) _).alloc (by simp; omega) _).alloc (by simp; omega) _).alloc (by simp; omega) _).alloc (by simp; omega) _⟩

theorem nameErr (n : Int) (w : World) (hg : Hand w) (h1 : 1 ≤ n) (h8 : n ≤ 8) : Calls Tryz.prog 115 #[.iface 87 (.int .i64 n)] w fun x w' => x = .returned (.string ⟨(M.errN n).toArray⟩) ∧ Below w.heap.size w w' := by
  have HB0 : Hid (Below w.heap.size w ((w.alloc (.cells #[.nilIface] 219)).alloc (.cells #[.int .i64 0] 87))) := hide (((Below.refl _ _).alloc (Nat.le_refl _) _).alloc (by simp) _)
  have hA := hide (as_miss n ⟨w.heap.size, 0, none⟩ .nilIface ((w.alloc (.cells #[.nilIface] 219)).alloc (.cells #[.int .i64 0] 87)) (hand_stays hg HB0.out (Nat.le_refl _))
    (by rw [World.cell?_alloc_lt _ _ ⟨w.heap.size, 0, none⟩ (by simp)]; simp) (by rw [World.frozen?_alloc_old _ _ ⟨w.heap.size, 0, none⟩ (by simp)]; simp))
  have HG := hide hg
  have HE := hide fun wx => errName n wx h1 h8
  clear hg
  go_enter Tryz.func115, Tryz.ntmps115
  go_wp2_with fail
  refine (unhide hA).mono ?_
  rintro e w1 ⟨rfl, hb1⟩
  have HB1 := hide (HB0.out.trans (hb1.mono HB0.out.size))
  have hsz := hb1.size
  simp only [World.size_alloc] at hsz
  obtain ⟨hc, hf⟩ := bcell hb1
  have q1 : w1.cell? ⟨w.heap.size + 1, 0, none⟩ = some (.int .i64 0) := by rw [hc _ _ (by simp)]; simp
  have q2 : w1.frozen? ⟨w.heap.size + 1, 0, none⟩ = false := by rw [hf _ _ (by simp)]; simp
  have HA2 := hide (as_hit n ⟨w.heap.size + 1, 0, none⟩ (.int .i64 0) w1 (hand_stays HG.out HB1.out (Nat.le_refl _)) q1 q2)
  clear hc hf hb1
  dsimp only
  go_wp2_with fail
  refine (unhide HA2).mono ?_
  rintro e w2 ⟨rfl, rfl⟩
  have q3 : (((((w1.alloc (.cells #[.pointer (some ⟨w.heap.size + 1, 0, none⟩)] 158)).alloc (As.V2 ⟨w.heap.size + 1, 0, none⟩ w1)).alloc (As.V2 ⟨w.heap.size + 1, 0, none⟩ w1)).alloc (.cells #[.int .i64 n] 87)).setCell ⟨w.heap.size + 1, 0, none⟩ (.int .i64 n)).cell? ⟨w.heap.size + 1, 0, none⟩ = some (.int .i64 n) := by
    refine World.cell?_setCell_same _ _ _ (u := .int .i64 0) ?_
    rw [World.cell?_alloc_lt _ _ ⟨w.heap.size + 1, 0, none⟩ (by simp; omega), World.cell?_alloc_lt _ _ ⟨w.heap.size + 1, 0, none⟩ (by simp; omega), World.cell?_alloc_lt _ _ ⟨w.heap.size + 1, 0, none⟩ (by simp; omega), World.cell?_alloc_lt _ _ ⟨w.heap.size + 1, 0, none⟩ (by show w.heap.size + 1 < w1.heap.size; omega)]
    exact q1
  have HBE := hide ((((((HB1.out.alloc (by omega) (.cells #[.pointer (some ⟨w.heap.size + 1, 0, none⟩)] 158)).alloc (by simp; omega) (As.V2 ⟨w.heap.size + 1, 0, none⟩ w1)).alloc (by simp; omega) (As.V2 ⟨w.heap.size + 1, 0, none⟩ w1)).alloc (by simp; omega) (.cells #[.int .i64 n] 87)).setCell (p := ⟨w.heap.size + 1, 0, none⟩) (by simp) (.int .i64 n)))
  generalize (((((w1.alloc (.cells #[.pointer (some ⟨w.heap.size + 1, 0, none⟩)] 158)).alloc (As.V2 ⟨w.heap.size + 1, 0, none⟩ w1)).alloc (As.V2 ⟨w.heap.size + 1, 0, none⟩ w1)).alloc (.cells #[.int .i64 n] 87)).setCell ⟨w.heap.size + 1, 0, none⟩ (.int .i64 n)) = W3 at *
  dsimp only
  go_wp2_with fail
  refine (HE.out _).mono ?_
  rintro e w4 ⟨rfl, rfl⟩
  dsimp only
  go_wp2_with fail
  go_ret
  exact ⟨rfl, HBE.out⟩

end Go.Proofs.YtlefhfmckimlaakGreatDoor
