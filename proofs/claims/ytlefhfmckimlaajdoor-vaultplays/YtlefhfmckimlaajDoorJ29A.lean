/-
  What Told of package plain and Error of package tuplesame answer for an error that is nil or a number of package api.
  Plain facts and memory for the Go function VaultKeeps: its own first vault, and which places were seen.
-/
import Derived.Test.YtlefhfmckimlaajDoorErrAs
import Derived.Test.YtlefhfmckimlaajDoorJ27A
namespace Go.Proofs.YtlefhfmckimlaajDoor
open Go.RowKit

theorem Hand.stays {w w' : World} {B : Nat} (h : Hand w) (hb : Below B w w') (hB : w.heap.size ≤ B) : Hand w' := by
  unfold Hand at h ⊢
  have hlt : 0 < w.heap.size := by
    rcases Nat.lt_or_ge 0 w.heap.size with h' | h'
    · exact h'
    · simp [World.cell?, Array.getElem?_eq_none h'] at h
  rw [hb.cell (p := ⟨0, 0, none⟩) (Nat.lt_of_lt_of_le hlt hB)]; exact h

theorem told_nil (w : World) : Calls Tryd.prog 32 #[.nilIface] w fun e w' => e = .returned (.int .i64 0) ∧ Below w.heap.size w w' := by
  go_enter Tryd.func32, Tryd.ntmps32
  go_wp2
  go_ret
  exact ⟨rfl, Below.refl _ _⟩

theorem told_one (n : Int) (w : World) (hg : Hand w) : Calls Tryd.prog 32 #[.iface 66 (.int .i64 n)] w fun e w' => e = .returned (.int .i64 n) ∧ Below w.heap.size w w' := by
  have hA := hide (as_hit n ⟨w.heap.size, 0, none⟩ (.int .i64 0) (w.alloc (.cells #[.int .i64 0] 66)) (hg.stays ((Below.refl _ _).alloc (Nat.le_refl _) _) (Nat.le_refl _)) (by simp) (by simp))
  clear hg
  go_enter Tryd.func32, Tryd.ntmps32
  go_wp2_with fail
  refine (unhide hA).mono ?_
  rintro e w1 ⟨rfl, rfl⟩
  go_wp2_with fail
  go_ret
  exact ⟨rfl, (((((Below.refl _ _).alloc (Nat.le_refl _) _).alloc (by simp) _).alloc (by simp; omega) _).alloc (by simp; omega) _).alloc (by simp; omega) _⟩

theorem told (n : Int) (w : World) (hg : Hand w) : Calls Tryd.prog 32 #[errV n] w fun e w' => e = .returned (.int .i64 n) ∧ Below w.heap.size w w' := by
  by_cases h : n = 0
  · subst h; exact told_nil w
  · rw [errV_bad h]; exact told_one n w hg

theorem sameErr (n d : Int) (w : World) (hg : Hand w) : Calls Tryd.prog 12 #[errV n, .int .i64 d] w fun e w' => e = .returned (.bool (n == d)) ∧ Below w.heap.size w w' := by
  have HG := hide hg
  clear hg
  go_enter Tryd.func12, Tryd.ntmps12
  go_wp2_with fail
  refine (told n _ HG.out).mono ?_
  rintro e w1 ⟨rfl, hb⟩
  go_wp2_with fail
  go_ret
  exact ⟨rfl, hb⟩

end Go.Proofs.YtlefhfmckimlaajDoor

set_option linter.unusedVariables false
namespace Go.Proofs.YtlefhfmckimlaajDoor.vaultKeeps
open Go.RowKit

def kS : ByteArray := ⟨#[107]⟩
def xS : ByteArray := ⟨#[120]⟩
/-- the law's own first vault -/
def v0 : M.Vlt := M.vputV (M.Vlt.new 3 2) kS 9 [4]
theorem put0 : M.vputE (M.Vlt.new 3 2) kS 9 [4] = 0 := by decide +kernel
theorem has0 : v0.g kS = some [9, 4] := M.vputV_same put0
theorem ok0 : v0.Ok := (M.Vlt.new_ok (by decide) (by decide) (by decide)).put
theorem many0 : v0.many = 3 ∧ v0.need = 2 := M.vputV_many
theorem part0 : M.partE v0 kS 1 = 0 ∧ M.partR v0 kS 1 = (1, 13) ∧ M.partE v0 kS 3 = 0 ∧ M.partR v0 kS 3 = (3, 21) := by
  unfold M.partE M.partR
  rw [has0, many0.1]
  decide +kernel
theorem good0 : M.goodL [9, 4] [(1, 13), (2, 1), (3, 21)] = [(1, 13), (3, 21)] := by decide +kernel
theorem get0 : M.getE' v0 kS [(1, 13), (2, 1), (3, 21)] = 0 ∧ M.getR' v0 kS [(1, 13), (2, 1), (3, 21)] = 9 :=
  M.get_tells ok0 has0 (by decide) (by rw [many0.1]; decide +kernel) (by rw [good0, many0.2]; decide)

/-- which places were seen -/
def seenC (acc : List (Int × Int)) : List Value := (List.range 8).map fun (a : Nat) => .bool (M.hasB acc (a : Int))
theorem seenC_len (acc : List (Int × Int)) : (seenC acc).length = 8 := by simp [seenC]
theorem seenC_at (acc : List (Int × Int)) {x : Nat} (h : x < 8) : (seenC acc)[x]? = some (.bool (M.hasB acc x)) := by simp [seenC, h]
theorem seenC_nil : seenC [] = List.replicate 8 (.bool false) := rfl
theorem seenC_snoc (acc : List (Int × Int)) (x : Nat) (y : Int) (h : x < 8) : (seenC acc).set x (.bool true) = seenC (acc ++ [((x : Int), y)]) := by
  apply List.ext_getElem?
  intro i
  rw [List.getElem?_set, seenC_len]
  by_cases hi : i < 8
  · rw [seenC_at _ hi, seenC_at _ hi, M.hasB_snoc]
    by_cases e : x = i
    · subst e
      rw [if_pos rfl, if_pos h]
      simp
    · rw [if_neg e]
      have : ((x : Int) == (i : Int)) = false := by simp; omega
      rw [this, Bool.or_false]
  · have h1 : (seenC acc)[i]? = none := List.getElem?_eq_none (by rw [seenC_len]; omega)
    have h2 : (seenC (acc ++ [((x : Int), y)]))[i]? = none := List.getElem?_eq_none (by rw [seenC_len]; omega)
    rw [h1, h2, if_neg (by omega)]

end Go.Proofs.YtlefhfmckimlaajDoor.vaultKeeps
