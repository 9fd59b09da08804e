/-
  Words for a seat without package value: an error value, and old cells behind a call that only made memory.
-/
import Derived.Test.YtlefhfmckimlaafRows
import Derived.WalkKit
import Derived.WalkLawsBesides
import Derived.WalkSpells
import Derived.Below
namespace Go.Proofs.Ytlefhfmckimlaaf
open Go.RowKit

/-- an error value: nil for 0 -/
def errV (e : Int) : Value := if e = 0 then .nilIface else .iface 43 (.int .i64 e)
theorem errV_0 : errV 0 = .nilIface := rfl
theorem errV_bad {e : Int} (h : e ≠ 0) : errV e = .iface 43 (.int .i64 e) := by unfold errV; rw [if_neg h]

theorem bcell {W w1 : World} (hb : Below W.heap.size W w1) : (∀ b o, b < W.heap.size → w1.cell? ⟨b, o, none⟩ = W.cell? ⟨b, o, none⟩) ∧ (∀ b o, b < W.heap.size → w1.frozen? ⟨b, o, none⟩ = W.frozen? ⟨b, o, none⟩) :=
  ⟨fun b o h => hb.cell (p := ⟨b, o, none⟩) h, fun b o h => hb.frozen (p := ⟨b, o, none⟩) h⟩

theorem hide {p : Prop} (h : p) : Hid p := h
theorem unhide {p : Prop} (h : Hid p) : p := h

end Go.Proofs.Ytlefhfmckimlaaf
