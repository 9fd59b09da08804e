/-
  A row of numbers that a call puts together itself; a slice without memory.
-/
import Derived.Test.YtlefhfmckimlaagDoorPolyOwn
import Derived.Laws.OwnMore
import Derived.OwnWalk
set_option linter.unusedVariables false
namespace Go.Proofs.YtlefhfmckimlaagDoor
open Go.RowKit

/-- the cells of some numbers, in a row -/
def cellsI (l : List Int) : List Value := l.map fun z => .int .i64 z
theorem cellsI_len (l : List Int) : (cellsI l).length = l.length := by simp [cellsI]
theorem cellsI_at {l : List Int} {j : Nat} (h : j < l.length) : (cellsI l)[j]? = some (.int .i64 l[j]) := by simp [cellsI, h]
theorem cellsI_oneCell (l : List Int) : ∀ u ∈ cellsI l, u.oneCell' = true := fun u h => by
  simp only [cellsI, List.mem_map] at h
  obtain ⟨z, _, rfl⟩ := h
  rfl
theorem infoInt : (Tryd.prog.info? 3).map (fun i => (i.zero, i.size, i.bytes)) = some (some (.int .i64 0), 1, 8) := by kernel_rfl
/-- numbers that a call has put together itself -/
theorem atI_own {w : World} {base : Nat} {e : TypeId} {v : Value} {m : Nat} {l : List Int} (hm : m = l.length) (h : w.ownsRow base e 1 v m (cellsI l)) : ∃ a cap, v = .slice a m cap ∧ m ≤ cap ∧ cap ≤ maxLen ∧ AtI w a l := by
  have hc := h
  rcases h.2 with ⟨hv, hn⟩ | ⟨g, cap, cur, hv, _, _, hn, hcm, _⟩
  · exact ⟨none, 0, by rw [hv, hn], by omega, Nat.zero_le _, fun h0 => by omega⟩
  · refine ⟨some ⟨g, 0, none⟩, cap, hv, hn, hcm, fun _ => ⟨g, 0, rfl, fun i hi => ?_⟩⟩
    have g1 := hc.cells (g := g) (by rw [hv]; rfl) _ _ (cellsI_at hi)
    rw [WideShapes.add_plain] at g1
    exact g1
/-- the cells of numbers that lie somewhere -/
theorem AtI.news {w : World} {ad : Addr} {l : List Int} (h : AtI w (some ad) l) : ∀ j u, (cellsI l)[j]? = some u → w.cell? (ad.add j) = some u := fun j u hu => by
  have hj : j < l.length := by
    have := (List.getElem?_eq_some_iff.1 hu).1
    rwa [cellsI_len] at this
  obtain ⟨b, off, e, g⟩ := h (by omega)
  cases e
  rw [cellsI_at hj] at hu
  cases hu
  rw [WideShapes.add_plain]
  exact g j hj
/-- no memory: nothing in it -/
def Tidy (a : Option Addr) (n cap : Nat) : Prop := a = none → n = 0 ∧ cap = 0

end Go.Proofs.YtlefhfmckimlaagDoor
