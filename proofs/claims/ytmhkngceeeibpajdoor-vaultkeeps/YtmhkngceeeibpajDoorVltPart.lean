/-
  What Part of package vault does, as one law of its call.
-/
import Derived.Test.YtmhkngceeeibpajDoorVltWalks
set_option linter.unusedVariables false
namespace Go.Proofs.YtmhkngceeeibpajDoor
open Go.RowKit Go.WideMaps Go.Maps

section
variable {base : Nat} {w : World} {F : Nat → Prop} {V : Nat} {v : M.Vlt}
set_option maxRecDepth 100000 in
theorem vPart (a : ByteArray) (x : Int) (h : VtIs base w F V v) (ha : a.size ≤ maxLen) :
    Calls Tryd.prog 8 #[.pointer (some ⟨V, 0, none⟩), .string a, .int .i64 x] w fun e w' => e = .returned (.tuple #[.agg #[.int .i64 (M.partR v a x).1, .int .i64 (M.partR v a x).2], errV (M.partE v a x)]) ∧ Below w.heap.size w w' := by
  obtain ⟨B, K, rfl, hc⟩ := h.is
  have HB : Hid (∀ o, Below w.heap.size w (w.alloc o)) := hide fun o => (Below.refl _ _).alloc (Nat.le_refl _) o
  have HB2 : Hid (∀ o o2, Below w.heap.size w ((w.alloc o).alloc o2)) := hide fun o o2 => ((Below.refl _ _).alloc (Nat.le_refl _) _).alloc (by simp) _
  have HQ := hide (hc.quiet (HB.out (.cells #[.int .i64 0, .int .i64 0] 31)))
  obtain ⟨c0, c1, c2, cn⟩ := (hc.quiet (HB.out (.cells #[.int .i64 0, .int .i64 0] 31))).cells
  have hmany := h.ok.seven
  cases hg : v.g a with
  | none =>
    have e1 : M.partR v a x = (0, 0) := by unfold M.partR; rw [hg]
    have e2 : M.partE v a x = 5 := by unfold M.partE; rw [hg]
    rw [e1, e2, errV_bad (by decide)]
    have hlk := HQ.out.lookNo a ha hg
    clear hg e1 e2 h hc HQ
    go_enter Tryd.func8, Tryd.ntmps8
    go_wp2_with fail
    refine bodyPost_ret (v := .tuple #[.agg #[.int .i64 0, .int .i64 0], .iface 52 (.int .i64 5)]) (by simp [results, Tryd.results8, go_sem]) rfl ⟨rfl, ?_⟩
    exact HB2.out _ _
  | some p =>
    obtain ⟨sa, sc, ca, cc, hlk, hat, _⟩ := HQ.out.lookYes a ha hg
    have HCE := hide ((hc.quiet (HB2.out (.cells #[.int .i64 0, .int .i64 0] 31) (.cells #[.slice sa v.many sc, .slice ca p.length cc] 57))).cells.1)
    have HPL : Hid (Calls Tryd.prog 20 #[.pointer (some ⟨V, 0, none⟩), .int .i64 x] ((w.alloc (.cells #[.int .i64 0, .int .i64 0] 31)).alloc (.cells #[.slice sa v.many sc, .slice ca p.length cc] 57)) fun e w' => e = .returned (.bool (M.placeB v.many x)) ∧ w' = (w.alloc (.cells #[.int .i64 0, .int .i64 0] 31)).alloc (.cells #[.slice sa v.many sc, .slice ca p.length cc] 57)) := hide (vPlace V v.many x _ HCE.out)
    by_cases hx : 1 ≤ x ∧ x ≤ (v.many : Int)
    · have e1 : M.partR v a x = (x, M.ev p x) := by unfold M.partR; rw [hg]; exact if_pos hx
      have e2 : M.partE v a x = 0 := by unfold M.partE; rw [hg]; exact if_pos hx
      rw [e1, e2]
      rw [M.placeB_yes hx.1 hx.2] at HPL
      obtain ⟨i, rfl⟩ : ∃ i : Nat, x = (i : Int) + 1 := ⟨(x - 1).toNat, by omega⟩
      have hi : i < v.many := by omega
      obtain ⟨b, off, rfl, hlie⟩ := hat (by rw [M.deal_len]; omega)
      obtain ⟨d1, d2⟩ := (hlie.stays ((Below.refl _ _).alloc (Nat.le_refl _) (.cells #[.slice (some ⟨b, off, none⟩) v.many sc, .slice ca p.length cc] 57)) (Nat.le_refl _)) i (by rw [M.deal_len]; exact hi)
      rw [M.deal_at p hi] at d1 d2
      simp only at d1 d2
      have x3 : (i : Int) < (v.many : Int) := by omega
      have x4 : (0 : Int) ≤ (i : Int) := by omega
      have x5 : (i : Int) + 1 - 1 = (i : Int) := by omega
      generalize M.ev p ((i : Int) + 1) = z at *
      generalize v.many = mn at *
      clear hg e1 e2 h hc hat hlie hx HQ HCE
      go_enter Tryd.func8, Tryd.ntmps8
      go_wp2_with fail
      refine (unhide HPL).mono ?_
      rintro e w9 ⟨rfl, hw9⟩
      obtain rfl := hw9
      go_wp2_with fail
      refine bodyPost_ret (v := .tuple #[.agg #[.int .i64 ((i : Int) + 1), .int .i64 z], .nilIface]) (by simp [results, Tryd.results8, go_sem]) rfl ⟨rfl, ?_⟩
      exact HB2.out _ _
    · have e1 : M.partR v a x = (0, 0) := by unfold M.partR; rw [hg]; exact if_neg hx
      have e2 : M.partE v a x = 1 := by unfold M.partE; rw [hg]; exact if_neg hx
      rw [e1, e2, errV_bad (by decide)]
      rw [M.placeB_no hx] at HPL
      generalize v.many = mn at *
      clear hg e1 e2 h hc hat hx HQ HCE
      go_enter Tryd.func8, Tryd.ntmps8
      go_wp2_with fail
      refine (unhide HPL).mono ?_
      rintro e w9 ⟨rfl, hw9⟩
      obtain rfl := hw9
      go_wp2_with fail
      refine bodyPost_ret (v := .tuple #[.agg #[.int .i64 0, .int .i64 0], .iface 52 (.int .i64 1)]) (by simp [results, Tryd.results8, go_sem]) rfl ⟨rfl, ?_⟩
      exact HB2.out _ _
end

end Go.Proofs.YtmhkngceeeibpajDoor
