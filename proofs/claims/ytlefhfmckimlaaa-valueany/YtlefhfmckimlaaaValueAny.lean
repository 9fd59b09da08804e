/-
  Proved: the Go function ValueAny returns true for every value, and leaves it as it was: anything fits all that is right and not itself anything. No condition.
-/
import Derived.Test.YtlefhfmckimlaaaValWalks3
import Derived.ProofKit
import Derived.OpenShut
import Derived.Lib.SmallJoins
import Derived.Carry
namespace Go.Proofs.Ytlefhfmckimlaaa.valueAny
open Go.ChangeShapes Go.WideShapes Go.ChangeAt Go.RowKit Go.Joins

theorem fault_any : M.fault 2 0 ⟨#[]⟩ = 0 := by decide
theorem both_0 (x : Int) : M.both 0 x = x := rfl
theorem both_self (x : Int) (h : x = 0) : M.both x x = 0 := by subst h; rfl

theorem walk (k n : Int) (s : ByteArray) (w : World) (hs : s.size ≤ maxLen) :
    Calls Try.prog 4 #[.agg #[.int .i64 k, .int .i64 n, .string s]] w fun e w' => e = .returned (.bool true) ∧ Below w.heap.size w w' := by
  have h0 : (ByteArray.mk #[]).size ≤ maxLen := by decide
  by_cases hf : M.fault k n s = 0
  · by_cases hk : k = 2
    · subst hk
      have HA : Hid (M.both (M.fault 2 0 ⟨#[]⟩) (M.fault 2 n s) = 0) := hide (by rw [fault_any, both_0, hf])
      have H := hide hf
      clear hf
      go_enter Try.func4, Try.ntmps4
      go_wp2_with fail
      refine (fitsAny 2 0 ⟨#[]⟩ n s _ h0 hs HA.out).mono ?_
      rintro e w1 ⟨rfl, hb⟩
      obtain ⟨hc, hf⟩ := bcell hb
      go_wp2_with fail
      refine (checkOk 2 n s _ hs H.out).mono ?_
      rintro e w2 ⟨rfl, hb2⟩
      have hb3 := hb.trans (hb2.mono hb.size)
      obtain ⟨hc2, hf2⟩ := bcell hb3
      clear hc hf
      go_wp2_with fail
      go_ret
      exact ⟨rfl, ((Below.refl _ _).alloc (Nat.le_refl _) _).trans (hb3.mono (by simp))⟩
    · have HA : Hid (M.both (M.fault 2 0 ⟨#[]⟩) (M.fault k n s) = 0) := hide (by rw [fault_any, both_0, hf])
      have HO : Hid (M.both (M.fault k n s) (M.fault 2 0 ⟨#[]⟩) = 0) := hide (by rw [fault_any, hf]; rfl)
      have HS : Hid (M.both (M.fault k n s) (M.fault k n s) = 0) := hide (both_self _ hf)
      have hk2 : k = 0 ∨ k = 1 := by
        unfold M.fault at hf
        by_cases e0 : k = 0
        · exact Or.inl e0
        · rw [if_neg e0] at hf
          by_cases e1 : k = 1
          · exact Or.inr e1
          · rw [if_neg e1, if_neg hk] at hf; exact absurd hf (by decide)
      have HR : Hid (M.ord k n s 2 0 ⟨#[]⟩ = -1) := hide (by rcases hk2 with rfl | rfl <;> rfl)
      have HM : Hid (M.same k n s k n s = true) := hide (by simp [M.same])
      have HK := hide hk
      clear hf hk hk2
      go_enter Try.func4, Try.ntmps4
      go_wp2_with fail
      refine (fitsAll 0 ⟨#[]⟩ k n s _ h0 hs HA.out HK.out).mono ?_
      rintro e w1 ⟨rfl, hb⟩
      obtain ⟨hc, hf⟩ := bcell hb
      go_wp2_with fail
      refine (fitsSame k n s k n s _ hs hs HS.out HK.out HK.out).mono ?_
      rw [HM.out]
      rintro e w2 ⟨rfl, hb2⟩
      have hb3 := hb.trans (hb2.mono hb.size)
      obtain ⟨hc2, hf2⟩ := bcell hb3
      clear hc hf
      go_wp2_with fail
      refine (orderOk k n s 2 0 ⟨#[]⟩ _ hs h0 HO.out).mono ?_
      rw [HR.out]
      rintro e w3 ⟨rfl, hb4⟩
      go_wp2_with fail
      go_ret
      exact ⟨rfl, ((Below.refl _ _).alloc (Nat.le_refl _) _).trans ((hb3.trans (hb4.mono hb3.size)).mono (by simp))⟩
  · have HA : Hid (M.both (M.fault 2 0 ⟨#[]⟩) (M.fault k n s) ≠ 0) := hide (by rw [fault_any, both_0]; exact hf)
    have H := hide hf
    clear hf
    go_enter Try.func4, Try.ntmps4
    go_wp2_with fail
    refine (fitsBad 2 0 ⟨#[]⟩ k n s _ h0 hs HA.out).mono ?_
    rintro e w1 ⟨rfl, hb⟩
    obtain ⟨hc, hf⟩ := bcell hb
    go_wp2_with fail
    refine (checkBad k n s _ hs H.out).mono ?_
    rintro e w2 ⟨rfl, hb2⟩
    go_wp2_with fail
    go_ret
    exact ⟨rfl, ((Below.refl _ _).alloc (Nat.le_refl _) _).trans ((hb.trans (hb2.mono hb.size)).mono (by simp))⟩

theorem own : ownKnob Try.prog.godebug = none := by kernel_rfl
theorem laidOut : laidOutB Try.prog = true := by kernel_rfl
theorem cellsV : Try.prog.cellsOf 27 = 3 := by kernel_rfl

set_option maxRecDepth 100000 in
theorem lifted (os : Os) (started : os.Started) (H : Type) (enc : TypeId × Value → H) :
    ReturnsInHanded {} Try.checked os 4 .any (Rows.valueAnySpec.pre6 enc Try.prog Try.f4 Rows.valueAnyRow.domain false) (Rows.valueAnySpec.post enc Try.prog Try.f4 false true false false) := by
  refine returnsInHanded_of_change (C := Try.checked) own started (by kernel_rfl) Try.func4
    (ChangeSpec.witness6 (enc := enc) (C := Try.checked) false ⟨#[], #[.agg #[.int .i64 0, .int .i64 0, .string ⟨#[]⟩]], []⟩ 8 (by kernel_rfl) (by kernel_rfl) (by kernel_rfl) (by kernel_rfl)) ?_
  intro W base args ds gs before hval0 hW hcnd _
  have hval : ∀ (j : Nat) t v, Try.f4.params[j]? = some t → args[j]? = some v → Value.okWide Try.prog W .any base t v := hval0
  have hW' := hW
  obtain ⟨p, q, hA0, hV, rfl, hfz, hnd⟩ := hW
  have hA : DataW.TrodAll enc Try.prog W 0 (fun _ => true) true Try.f4.params.toList args.toList ds p := hA0
  rw [Try.params4] at hA hval
  obtain ⟨v0, d0, rfl, rfl, h0⟩ := trodAll_one hA
  obtain ⟨rfl, rfl⟩ := trodVars_none hV
  have k0 := h0
  have lt0 : ∀ x ∈ p, x.block < W.heap.size := by obtain ⟨m, hm⟩ := k0; exact DataW.trod_lt m _ _ _ hm
  obtain ⟨c0, c1, c2, y0, y1, y2, m, rfl, hd, hp, hy0, hy1, hy2⟩ := open_agg3 Try.underlying27 (by kernel_rfl) cellsV (hval 0 27 v0 rfl rfl) h0
  obtain ⟨a, e0, rfl, wa⟩ := DataW.trod_int Try.underlying3 hy0
  obtain ⟨b, e1, rfl, wb⟩ := DataW.trod_int Try.underlying3 hy1
  obtain ⟨s, e2, rfl, ws⟩ := DataW.trod_string Try.underlying9 hy2
  simp at e0 e1 e2
  subst e0 e1 e2
  clear hA0 hval0 hcnd
  simp only [List.append_nil] at hW'
  refine (walk a b s W ws).mono fun e W' ⟨he, bel⟩ => ?_
  subst he
  exact ⟨_, rfl, _, _, _, [], _, [], hW', trodAll_mk1 (shut_bool Try.underlying4 _), trodAll_mk1 (Below.trod laidOut (by kernel_rfl) (of_decide_eq_true (by kernel_rfl)) k0 bel lt0), rfl, bel.frame _, fun h => by cases h⟩

theorem over : Rows.valueAnyRow.holds Try.pinned (OpenSpec.ofChange Rows.valueAnySpec) :=
  OpenClaim.holds_of_wide 4 Try.f4 rfl rfl rfl rfl rfl rfl rfl ⟨rfl, rfl, rfl, rfl, rfl⟩ rfl rfl rfl rfl rfl (by kernel_rfl) Try.func4 (by kernel_rfl)
    (of_decide_eq_true (by kernel_rfl)) (by unfold Func.isWrapper; first | (rw [if_pos (by decide +kernel)]; kernel_rfl) | (rw [if_neg (by decide +kernel)]; exact ⟨rfl, rfl⟩))
    (fun os started H enc _ => lifted os started H enc)

end Go.Proofs.Ytlefhfmckimlaaa.valueAny

namespace Go.Proofs.Ytlefhfmckimlaaa
theorem valueAny_holds : Rows.ValueAnySaid := valueAny.over
#print axioms valueAny_holds
end Go.Proofs.Ytlefhfmckimlaaa
