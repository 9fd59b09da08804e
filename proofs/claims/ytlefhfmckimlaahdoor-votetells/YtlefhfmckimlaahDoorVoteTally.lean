/-
  A map of a call's own that holds how often each text was said: its datum, and what one more makes of it. For any program.
-/
import Derived.Test.YtlefhfmckimlaahDoorVoteMath
import Derived.Maps.Views
import Derived.Maps.Own
import Derived.Maps.OwnOps
set_option linter.unusedVariables false
namespace Go.Proofs.YtlefhfmckimlaahDoor
open Go.RowKit Go.WideMaps Go.Maps

/-- a text as a key -/
def keyS (s : ByteArray) : Lit := .string s.data.toList
theorem keyS_own {a b : ByteArray} (h : keyS a = keyS b) : a = b := by
  obtain ⟨a⟩ := a
  obtain ⟨b⟩ := b
  have h1 : a.toList = b.toList := by simpa [keyS] using h
  rw [Array.toList_inj.1 h1]
/-- the map says how often each was said -/
def Tally (D : DataW Unit) (l : List ByteArray) : Prop := IsMap D ∧ ∀ s, D.atKey (keyS s) (.lit (.int .i64 0)) = .lit (.int .i64 (M.cntV l s))
theorem tally_none : Tally (.map []) [] := ⟨isMap_empty, fun s => rfl⟩
theorem Tally.said {D : DataW Unit} {l : List ByteArray} (h : Tally D l) {s : ByteArray} {c : Int} (hc : D.atKey (keyS s) (.lit (.int .i64 0)) = .lit (.int .i64 c)) : c = M.cntV l s := by
  rw [h.2 s] at hc
  simpa using hc.symm
theorem Tally.snoc {D : DataW Unit} {l : List ByteArray} (h : Tally D l) (x : ByteArray) {c : Int} (hc : c = M.cntV l x + 1) : Tally (D.put (keyS x) (.lit (.int .i64 c))) (l ++ [x]) := by
  refine ⟨h.1.put _ _, fun s => ?_⟩
  rw [M.cntV_append, M.cntV_cons, M.cntV_nil, Nat.zero_add]
  by_cases e : s = x
  · subst e
    rw [atKey_put_same h.1 (by simp [keyS, WideAt.IsKeyLit]), if_pos rfl, hc]
    simp
  · rw [atKey_put_other (fun g => e (keyS_own g)), if_neg (fun g => e g.symm), h.2 s]
    simp
theorem Tally.next {D : DataW Unit} {l : List ByteArray} {k : Nat} (h : Tally D (l.take k)) (hk : k < l.length) {c : Int} (hc : c = M.cntV (l.take k) l[k] + 1) : Tally (D.put (keyS l[k]) (.lit (.int .i64 c))) (l.take (k + 1)) := by
  rw [List.take_succ_eq_append_getElem hk]
  exact h.snoc _ hc

end Go.Proofs.YtlefhfmckimlaahDoor
