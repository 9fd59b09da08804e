/-
  What the Go function PrintSame asks of package digest; its walk where the first value has a fault.
-/
import Derived.Test.YtlefhfmckimlaadDoorDigestT
import Derived.Test.YtlefhfmckimlaadDoorSame
import Derived.Deep.AppendLies
import Derived.BigQuiet
import Derived.Deep.QuietTactic
set_option linter.unusedVariables false
namespace Go.Proofs.YtlefhfmckimlaadDoor.printSame
open Go.RowKit
attribute [local go_sem ↓] sameEq sameNe

abbrev W2 (k1 n1 k2 n2 : Int) (s1 s2 : ByteArray) (w : World) : World := (w.alloc (.cells #[.int .i64 k1, .int .i64 n1, .string s1] 23)).alloc (.cells #[.int .i64 k2, .int .i64 n2, .string s2] 23)
theorem W2_below (k1 n1 k2 n2 : Int) (s1 s2 : ByteArray) (w : World) : Below w.heap.size w (W2 k1 n1 k2 n2 s1 s2 w) := ((Below.refl _ _).alloc (Nat.le_refl _) _).alloc (by simp) _

theorem five (w : World) (ht : Tab w) : Calls Tryd.prog 7 #[.agg #[.int .i64 0, .int .i64 5, .string ⟨#[]⟩]] w fun e w' => e = .returned (.tuple #[.int .i64 270, .nilIface]) ∧ Below w.heap.size w w' := by
  have h := dvalOk 0 5 ⟨#[]⟩ w (by decide) (by decide) ht
  have e : M.word 0 5 ⟨#[]⟩ = ⟨#[53]⟩ := by
    show (⟨(Lib.itoa 5).toArray⟩ : ByteArray) = _
    unfold Lib.itoa
    rw [if_neg (by decide), Lib.decDigits_one (by decide)]
    rfl
  rwa [e, M.hash_one] at h

/-- a tuple of one value that is written down -/
theorem lit_one (w : World) (v : M.Val) (hs : v.s.size ≤ maxLen) : IsVals (w.alloc (.cells #[.int .i64 v.k, .int .i64 v.n, .string v.s] 23)) (.slice (some ⟨w.heap.size, 0, none⟩) 1 1) [v] := by
  refine Or.inr (Or.inr ⟨w.heap.size, 0, 1, by simp, rfl, by simp, by unfold maxLen; decide, lie_of_cells (fun x hx => by simp at hx; subst hx; exact hs) fun j u hu => ?_⟩)
  exact World.news_of_block (heap_alloc_new w _) j u hu
theorem line_one (k n : Int) (s : ByteArray) : M.line [⟨k, n, s⟩] = M.word k n s := by
  apply WideShapes.bytes_inj
  rw [line_eq]
  show (M.joinL [(M.word k n s).data.toList]).toArray.toList = _
  simp [M.joinL]
theorem like_one {k n : Int} {s : ByteArray} (h : M.fault k n s = 0) : M.likeF [⟨k, n, s⟩] = 0 := by
  unfold M.likeF
  rw [if_neg (by simp), if_neg (by simp)]
  unfold M.firstF
  rw [if_neg (by simpa [M.Val.fault] using h)]
  rfl

/-- the digest of a tuple of that value alone -/
theorem alone (k n : Int) (s : ByteArray) (w : World) (hs : s.size ≤ maxLen) (h : M.fault k n s = 0) (ht : Tab w) :
    Calls Tryd.prog 9 #[.slice (some ⟨w.heap.size, 0, none⟩) 1 1] (w.alloc (.cells #[.int .i64 k, .int .i64 n, .string s] 23)) fun e w' => e = .returned (.tuple #[.int .i64 (M.hash (M.word k n s)), .nilIface]) ∧ Below w.heap.size w w' := by
  have b := (Below.refl w.heap.size w).alloc (Nat.le_refl _) (.cells #[.int .i64 k, .int .i64 n, .string s] 23)
  have h1 := dtupOk _ _ _ (lit_one w ⟨k, n, s⟩ hs) (like_one h) (ht.stays b (Nat.le_refl _))
  rw [line_one] at h1
  exact h1.mono fun e w' ⟨he, hb⟩ => ⟨he, b.trans (hb.mono b.size)⟩

set_option maxHeartbeats 1000000 in
theorem way_bad (k1 n1 k2 n2 : Int) (s1 s2 : ByteArray) (w : World) (hs1 : s1.size ≤ maxLen) (ht : Tab w) (f1 : M.fault k1 n1 s1 ≠ 0) :
    Calls Tryd.prog 3 #[.agg #[.int .i64 k1, .int .i64 n1, .string s1], .agg #[.int .i64 k2, .int .i64 n2, .string s2]] w fun e w' => e = .returned (.bool true) ∧ Below w.heap.size w w' := by
  have HT : Hid (Tab (W2 k1 n1 k2 n2 s1 s2 w)) := hide (ht.stays (W2_below k1 n1 k2 n2 s1 s2 w) (Nat.le_refl _))
  have HA : Hid (∀ W, Below (W2 k1 n1 k2 n2 s1 s2 w).heap.size (W2 k1 n1 k2 n2 s1 s2 w) W → Below w.heap.size w W) := fun W b => (W2_below k1 n1 k2 n2 s1 s2 w).trans (b.mono (W2_below k1 n1 k2 n2 s1 s2 w).size)
  have F1 := hide f1
  clear ht f1
  go_enter Tryd.func3, Tryd.ntmps3
  go_wp2_with fail
  refine (five _ HT.out).mono ?_
  rintro e w1 ⟨rfl, b1⟩
  obtain ⟨hc, hf⟩ := bcell b1
  go_wp2_with fail
  refine (dvalBad k1 n1 s1 _ hs1 F1.out).mono ?_
  rintro e w2 ⟨rfl, hb⟩
  have b2 := b1.trans (hb.mono b1.size)
  clear hc hf hb b1
  obtain ⟨hc, hf⟩ := bcell b2
  go_wp2_with fail
  refine (checkBad k1 n1 s1 _ hs1 F1.out).mono ?_
  rintro e w3 ⟨rfl, hb⟩
  have b3 := b2.trans (hb.mono b2.size)
  go_wp2_with fail
  go_ret
  exact ⟨rfl, HA.out _ b3⟩

end Go.Proofs.YtlefhfmckimlaadDoor.printSame
