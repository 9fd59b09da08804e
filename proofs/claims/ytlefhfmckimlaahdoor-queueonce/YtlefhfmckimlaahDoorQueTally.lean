/-
  A map of a call's own that holds the last number of each: its datum, and what one more makes of it. For any program.
-/
import Derived.Test.YtlefhfmckimlaahDoorQueMath
import Derived.Maps.Views
import Derived.Maps.Own
import Derived.Maps.OwnOps
set_option linter.unusedVariables false
namespace Go.Proofs.YtlefhfmckimlaahDoor
open Go.RowKit Go.WideMaps Go.Maps

/-- a number as a key -/
def keyI (k : Int) : Lit := .int .i64 k
/-- the map says the last one of each -/
def Lasts (D : DataW Unit) (f : Int → Int) : Prop := IsMap D ∧ ∀ k, D.atKey (keyI k) (.lit (.int .i64 0)) = .lit (.int .i64 (f k))
theorem lasts_none : Lasts (.map []) (fun _ => 0) := ⟨isMap_empty, fun s => rfl⟩
theorem Lasts.said {D : DataW Unit} {f : Int → Int} (h : Lasts D f) {k c : Int} (hc : D.atKey (keyI k) (.lit (.int .i64 0)) = .lit (.int .i64 c)) : c = f k := by
  rw [h.2 k] at hc
  simpa using hc.symm
theorem Lasts.up {D : DataW Unit} {f : Int → Int} (h : Lasts D f) (a : M.Ask) : Lasts (D.put (keyI a.who) (.lit (.int .i64 a.seq))) (M.upF f a) := by
  refine ⟨h.1.put _ _, fun k => ?_⟩
  by_cases e : k = a.who
  · subst e
    rw [atKey_put_same h.1 (by simp [keyI, WideAt.IsKeyLit]), M.upF_same]
  · rw [atKey_put_other (fun g => e (by simpa [keyI] using g)), M.upF_other e, h.2 k]

end Go.Proofs.YtlefhfmckimlaahDoor
