/-
  What Put and Get of package vault do, whatever comes in, each as one law of its call.
-/
import Derived.Test.YtmhkngceeeibpajDoorVltPart
import Derived.Test.YtmhkngceeeibpajDoorVltPut
import Derived.Test.YtmhkngceeeibpajDoorVltGet
set_option linter.unusedVariables false
namespace Go.Proofs.YtmhkngceeeibpajDoor
open Go.RowKit

section
variable {base : Nat} {w : World} {F : Nat → Prop} {V : Nat} {v : M.Vlt} {a : ByteArray} {s : Int} {ra : Option Addr} {rn rc : Nat} {r : List Int} {la : Option Addr} {ln lc : Nat} {l : List (Int × Int)}
theorem vPut (h : VtIs base w F V v) (ha : a.size ≤ maxLen) (hn : rn = r.length) (hm : rn ≤ maxLen) (hl : AtI w ra r) (ht : Tidy ra rn rc) :
    Calls Tryd.prog 7 #[.pointer (some ⟨V, 0, none⟩), .string a, .int .i64 s, .slice ra rn rc] w fun e w' => e = .returned (errV (M.vputE v a s r)) ∧ ∃ F', VtIs base w' F' V (M.vputV v a s r) ∧ Tc F w w' ∧ Gr w F F' := by
  have still : ∀ {E : Int} {e : Ending} {w' : World}, M.vputE v a s r = E → E ≠ 0 → (e = .returned (errV E) ∧ Below w.heap.size w w') → e = .returned (errV (M.vputE v a s r)) ∧ ∃ F', VtIs base w' F' V (M.vputV v a s r) ∧ Tc F w w' ∧ Gr w F F' := fun he h0 hx => by
    rw [M.vputV_bad (by rw [he]; exact h0), he]
    exact ⟨hx.1, F, h.quiet hx.2, Tc.of_below hx.2, Gr.refl _ _⟩
  rcases M.vputE_ways v a s r with q | ⟨q1, q2⟩ | ⟨q1, q2, q3⟩ | ⟨q1, q2, q3, q4⟩ | ⟨q1, q2, q3, q4, q5⟩ | ⟨q1, q2, q3, q4, q5⟩
  · exact (vPut_long h ha q).mono fun _ _ he => still (M.vputE_long q) (by decide) he
  · exact (vPut_there h q1 q2).mono fun _ _ he => still (M.vputE_there q1 q2) (by decide) he
  · exact (vPut_shape h q1 q2 hn hm q3).mono fun _ _ he => still (M.vputE_shape q1 q2 q3) (by decide) he
  · exact (vPut_deal h q1 q2 hn hm hl ht q3 q4).mono fun _ _ he => still (M.vputE_deal q1 q2 q3 q4) q4 he
  · exact (vPut_full h q1 q2 hn hm hl ht q3 q4 q5).mono fun _ _ he => still (M.vputE_full q1 q2 q3 q4 q5) (by decide) he
  · rw [M.vputE_0 q1 q2 q3 q4 q5]
    exact vPut_did h q1 q2 hn hm hl ht q3 q4 q5
theorem vGet (h : VtIs base w F V v) (ha : a.size ≤ maxLen) (hn : ln = l.length) (hm : ln ≤ maxLen) (hl : AtP w la l) :
    Calls Tryd.prog 9 #[.pointer (some ⟨V, 0, none⟩), .string a, .slice la ln lc] w fun e w' => e = .returned (.tuple #[.int .i64 (M.getR' v a l), errV (M.getE' v a l)]) ∧ Below w.heap.size w w' := by
  cases hg : v.g a with
  | none =>
    have e := M.getE_no (l := l) hg
    rw [M.getR_bad (by rw [e]; decide), e]
    exact vGet_no h ha hg
  | some p =>
    by_cases h3 : 30 < ln
    · have e := M.getE_full (l := l) hg (by omega)
      rw [M.getR_bad (by rw [e]; decide), e]
      exact vGet_full h ha hg hm h3
    · refine vGet_some h ha hg hn h3 hl _ _ ?_
      have h3' : ¬ 30 < l.length := by omega
      cases hx : l.any (M.outB v.many)
      · by_cases hy : (M.goodL p l).length < v.need
        · have e := M.getE_few hg h3' hx hy
          exact Or.inr (Or.inl ⟨rfl, hy, e, M.getR_bad (by rw [e]; decide)⟩)
        · have e := M.getE_0 hg h3' hx hy
          exact Or.inr (Or.inr ⟨rfl, hy, e, M.getR_ok hg e⟩)
      · have e := M.getE_out hg h3' hx
        exact Or.inl ⟨rfl, e, M.getR_bad (by rw [e]; decide)⟩
end

end Go.Proofs.YtmhkngceeeibpajDoor
