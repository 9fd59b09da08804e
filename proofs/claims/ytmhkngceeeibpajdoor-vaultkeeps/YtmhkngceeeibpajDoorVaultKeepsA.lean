/-
  Plain facts and memory for the Go function VaultKeeps: its own first vault, and which places were seen.
-/
import Derived.Test.YtmhkngceeeibpajDoorVltCalls
import Derived.Test.YtmhkngceeeibpajDoorJErr
set_option linter.unusedVariables false
namespace Go.Proofs.YtmhkngceeeibpajDoor.vaultKeeps
open Go.RowKit

def kS : ByteArray := ⟨#[107]⟩
def xS : ByteArray := ⟨#[120]⟩
/-- the law's own first vault -/
def v0 : M.Vlt := M.vputV (M.Vlt.new 3 2) kS 9 [4]
theorem put0 : M.vputE (M.Vlt.new 3 2) kS 9 [4] = 0 := by decide +kernel
theorem has0 : v0.g kS = some [9, 4] := M.vputV_same put0
theorem ok0 : v0.Ok := (M.Vlt.new_ok (by decide) (by decide) (by decide)).put
theorem many0 : v0.many = 3 ∧ v0.need = 2 := M.vputV_many
theorem part0 : M.partE v0 kS 1 = 0 ∧ M.partR v0 kS 1 = (1, 13) ∧ M.partE v0 kS 3 = 0 ∧ M.partR v0 kS 3 = (3, 21) := by
  unfold M.partE M.partR
  rw [has0, many0.1]
  decide +kernel
theorem good0 : M.goodL [9, 4] [(1, 13), (2, 1), (3, 21)] = [(1, 13), (3, 21)] := by decide +kernel
theorem get0 : M.getE' v0 kS [(1, 13), (2, 1), (3, 21)] = 0 ∧ M.getR' v0 kS [(1, 13), (2, 1), (3, 21)] = 9 :=
  M.get_tells ok0 has0 (by decide) (by rw [many0.1]; decide +kernel) (by rw [good0, many0.2]; decide)

/-- which places were seen -/
def seenC (acc : List (Int × Int)) : List Value := (List.range 8).map fun (a : Nat) => .bool (M.hasB acc (a : Int))
theorem seenC_len (acc : List (Int × Int)) : (seenC acc).length = 8 := by simp [seenC]
theorem seenC_at (acc : List (Int × Int)) {x : Nat} (h : x < 8) : (seenC acc)[x]? = some (.bool (M.hasB acc x)) := by simp [seenC, h]
theorem seenC_nil : seenC [] = List.replicate 8 (.bool false) := rfl
theorem seenC_snoc (acc : List (Int × Int)) (x : Nat) (y : Int) (h : x < 8) : (seenC acc).set x (.bool true) = seenC (acc ++ [((x : Int), y)]) := by
  apply List.ext_getElem?
  intro i
  rw [List.getElem?_set, seenC_len]
  by_cases hi : i < 8
  · rw [seenC_at _ hi, seenC_at _ hi, M.hasB_snoc]
    by_cases e : x = i
    · subst e
      rw [if_pos rfl, if_pos h]
      simp
    · rw [if_neg e]
      have : ((x : Int) == (i : Int)) = false := by simp; omega
      rw [this, Bool.or_false]
  · have h1 : (seenC acc)[i]? = none := List.getElem?_eq_none (by rw [seenC_len]; omega)
    have h2 : (seenC (acc ++ [((x : Int), y)]))[i]? = none := List.getElem?_eq_none (by rw [seenC_len]; omega)
    rw [h1, h2, if_neg (by omega)]

end Go.Proofs.YtmhkngceeeibpajDoor.vaultKeeps
