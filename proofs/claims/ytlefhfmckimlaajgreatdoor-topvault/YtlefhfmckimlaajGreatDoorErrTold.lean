/-
  What Told of package plain and Error of package tuplesame answer for an error that is nil or a number of package api.
-/
import Derived.Test.YtlefhfmckimlaajGreatDoorErrAs
namespace Go.Proofs.YtlefhfmckimlaajGreatDoor
open Go.RowKit

theorem Hand.stays {w w' : World} {B : Nat} (h : Hand w) (hb : Below B w w') (hB : w.heap.size ≤ B) : Hand w' := by
  unfold Hand at h ⊢
  have hlt : 0 < w.heap.size := by
    rcases Nat.lt_or_ge 0 w.heap.size with h' | h'
    · exact h'
    · simp [World.cell?, Array.getElem?_eq_none h'] at h
  rw [hb.cell (p := ⟨0, 0, none⟩) (Nat.lt_of_lt_of_le hlt hB)]; exact h

theorem told_nil (w : World) : Calls Tryz.prog 33 #[.nilIface] w fun e w' => e = .returned (.int .i64 0) ∧ Below w.heap.size w w' := by
  go_enter Tryz.func33, Tryz.ntmps33
  go_wp2
  go_ret
  exact ⟨rfl, Below.refl _ _⟩

theorem told_one (n : Int) (w : World) (hg : Hand w) : Calls Tryz.prog 33 #[.iface 66 (.int .i64 n)] w fun e w' => e = .returned (.int .i64 n) ∧ Below w.heap.size w w' := by
  have hA := hide (as_hit n ⟨w.heap.size, 0, none⟩ (.int .i64 0) (w.alloc (.cells #[.int .i64 0] 66)) (hg.stays ((Below.refl _ _).alloc (Nat.le_refl _) _) (Nat.le_refl _)) (by simp) (by simp))
  clear hg
  go_enter Tryz.func33, Tryz.ntmps33
  go_wp2_with fail
  refine (unhide hA).mono ?_
  rintro e w1 ⟨rfl, rfl⟩
  go_wp2_with fail
  go_ret
  exact ⟨rfl, (((((Below.refl _ _).alloc (Nat.le_refl _) _).alloc (by simp) _).alloc (by simp; omega) _).alloc (by simp; omega) _).alloc (by simp; omega) _⟩

theorem told (n : Int) (w : World) (hg : Hand w) : Calls Tryz.prog 33 #[errV n] w fun e w' => e = .returned (.int .i64 n) ∧ Below w.heap.size w w' := by
  by_cases h : n = 0
  · subst h; exact told_nil w
  · rw [errV_bad h]; exact told_one n w hg

theorem sameErr (n d : Int) (w : World) (hg : Hand w) : Calls Tryz.prog 11 #[errV n, .int .i64 d] w fun e w' => e = .returned (.bool (n == d)) ∧ Below w.heap.size w w' := by
  have HG := hide hg
  clear hg
  go_enter Tryz.func11, Tryz.ntmps11
  go_wp2_with fail
  refine (told n _ HG.out).mono ?_
  rintro e w1 ⟨rfl, hb⟩
  go_wp2_with fail
  go_ret
  exact ⟨rfl, hb⟩

end Go.Proofs.YtlefhfmckimlaajGreatDoor
