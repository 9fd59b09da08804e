/-
  A row of points that a call puts together itself.
-/
import Derived.Test.YtlefhfmckimlaagDoorPolyMem
import Derived.Laws.AppendOwn
import Derived.Deep.AppendLies
set_option linter.unusedVariables false
namespace Go.Proofs.YtlefhfmckimlaagDoor
open Go.RowKit

/-- the cells of some points, in a row -/
def flatP : List (Int × Int) → List Value
  | [] => []
  | q :: l => .int .i64 q.1 :: .int .i64 q.2 :: flatP l
theorem flatP_append : ∀ a b : List (Int × Int), flatP (a ++ b) = flatP a ++ flatP b
  | [], b => rfl
  | q :: a, b => by simp only [List.cons_append, flatP, flatP_append a b]
theorem flatP_oneCell : ∀ (l : List (Int × Int)), ∀ u ∈ flatP l, u.oneCell' = true
  | [], u, h => by simp [flatP] at h
  | q :: l, u, h => by
    simp only [flatP, List.mem_cons] at h
    rcases h with rfl | rfl | h
    · rfl
    · rfl
    · exact flatP_oneCell l u h
theorem flatP_at : ∀ (l : List (Int × Int)) (i : Nat) (h : i < l.length), (flatP l)[i * 2]? = some (.int .i64 l[i].1) ∧ (flatP l)[i * 2 + 1]? = some (.int .i64 l[i].2)
  | [], i, h => by simp at h
  | q :: l, 0, _ => by simp [flatP]
  | q :: l, i + 1, h => by
    have ih := flatP_at l i (by simpa using h)
    have e : (i + 1) * 2 = i * 2 + 2 := by omega
    rw [e]
    simpa [flatP] using ih
theorem row_stays {w w' : World} {base k n : Nat} {e : TypeId} {v : Value} {xs : List Value} (h : w.ownsRow base e k v n xs) (hb : Below w.heap.size w w') : w'.ownsRow base e k v n xs := by
  refine ⟨h.1, ?_⟩
  rcases h.2 with h3 | ⟨g, cap, cur, hv, hg, hh, r⟩
  · exact Or.inl h3
  · exact Or.inr ⟨g, cap, cur, hv, hg, (hb.block g (Array.getElem?_eq_some_iff.1 hh).1).trans hh, r⟩
/-- what a call has put together itself -/
theorem atP_own {w : World} {base : Nat} {e : TypeId} {v : Value} {m : Nat} {l : List (Int × Int)} (hm : m = l.length) (h : w.ownsRow base e 2 v m (flatP l)) : ∃ a cap, v = .slice a m cap ∧ m ≤ cap ∧ cap ≤ maxLen ∧ AtP w a l := by
  have hc := h
  rcases h.2 with ⟨hv, hn⟩ | ⟨g, cap, cur, hv, _, _, hn, hcm, _⟩
  · exact ⟨none, 0, by rw [hv, hn], by omega, Nat.zero_le _, fun h0 => by omega⟩
  · refine ⟨some ⟨g, 0, none⟩, cap, hv, hn, hcm, fun _ => ⟨g, 0, rfl, fun i hi => ?_⟩⟩
    have hcells := hc.cells (g := g) (by rw [hv]; rfl)
    obtain ⟨h1, h2⟩ := flatP_at l i hi
    have g1 := hcells _ _ h1
    have g2 := hcells _ _ h2
    rw [WideShapes.add_plain] at g1 g2
    exact ⟨g1, by simpa [Nat.add_assoc] using g2⟩

theorem infoP : (Tryd.prog.info? 105).map (fun i => (i.zero, i.size, i.bytes)) = some (some (.agg #[.int .i64 0, .int .i64 0]), 2, 16) := by kernel_rfl

end Go.Proofs.YtlefhfmckimlaagDoor
