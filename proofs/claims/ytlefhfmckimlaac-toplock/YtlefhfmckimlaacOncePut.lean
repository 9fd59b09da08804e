/-
  What Put and Change of package once do, each as one law of its call.
-/
import Derived.Test.YtlefhfmckimlaacOnceFirm
namespace Go.Proofs.Ytlefhfmckimlaac
open Go.RowKit

section
variable (base S : Nat) (v x t : Value) (a l : List M.Val) (L : List (List M.Val)) (w : World)
theorem oput_like (hs : Space base w S v L) (hL : M.Fine L) (hx : IsVals w x a) (ha : M.likeF a ≠ 0) :
    Calls Try.prog 7 #[.pointer (some ⟨S, 0, none⟩), x, t] w fun e w' => e = .returned (.tuple #[.bool false, errV (M.likeF a)]) ∧ Below w.heap.size w w' := by
  have hC := count base S v x a L w hs hL hx
  rw [errV_bad ha] at hC ⊢
  have HC := hide hC
  clear hC hs hL hx ha
  generalize M.likeF a = c at *
  generalize M.cnt a L = n at *
  go_enter Try.func7, Try.ntmps7
  go_wp2_with fail
  refine (unhide HC).mono ?_
  rintro e w1 ⟨rfl, hb1⟩
  go_wp2_with fail
  go_ret2
  exact ⟨rfl, hb1⟩

theorem count_ok (hs : Space base w S v L) (hL : M.Fine L) (hx : IsVals w x a) (ha : M.likeF a = 0) :
    Calls Try.prog 10 #[.pointer (some ⟨S, 0, none⟩), x] w fun e w' => e = .returned (.tuple #[.int .i64 (M.many a L), .nilIface]) ∧ Below w.heap.size w w' := by
  have := count base S v x a L w hs hL hx
  unfold M.cnt at this
  rwa [if_pos ha, ha] at this

theorem oput_tup (hs : Space base w S v L) (hL : M.Fine L) (hx : IsVals w x a) (ht : IsVals w t l) (ha : M.likeF a = 0) (hf : M.tupF l ≠ 0) :
    Calls Try.prog 7 #[.pointer (some ⟨S, 0, none⟩), x, t] w fun e w' => e = .returned (.tuple #[.bool false, errV (M.tupF l)]) ∧ Below w.heap.size w w' := by
  have HC := hide (count_ok base S v x a L w hs hL hx ha)
  have HK : Hid (∀ w1, Below w.heap.size w w1 → Calls Try.prog 8 #[t] w1 fun e w' => e = .returned (.iface 50 (.int .i64 (M.tupF l))) ∧ Below w1.heap.size w1 w') := hide fun w1 hb => by rw [← errV_bad hf]; exact tcheck t l w1 (ht.stays hb (Nat.le_refl _))
  rw [errV_bad hf]
  clear hs hL hx ha ht hf
  generalize M.tupF l = c at *
  generalize M.many a L = n at *
  go_enter Try.func7, Try.ntmps7
  go_wp2_with fail
  refine (unhide HC).mono ?_
  rintro e w1 ⟨rfl, hb1⟩
  have HB1 := hide hb1
  clear hb1
  go_wp2_with fail
  refine (unhide HK _ HB1.out).mono ?_
  rintro e w2 ⟨rfl, hb2⟩
  go_wp2_with fail
  go_ret2
  exact ⟨rfl, HB1.out.trans (hb2.mono HB1.out.size)⟩

theorem oput_fit (hs : Space base w S v L) (hL : M.Fine L) (hx : IsVals w x a) (ht : IsVals w t l) (ha : M.likeF a = 0) (hf : M.tupF l = 0) (hm : M.many a L ≠ 0) :
    Calls Try.prog 7 #[.pointer (some ⟨S, 0, none⟩), x, t] w fun e w' => e = .returned (.tuple #[.bool false, .nilIface]) ∧ Below w.heap.size w w' := by
  have HC := hide (count_ok base S v x a L w hs hL hx ha)
  have HK : Hid (∀ w1, Below w.heap.size w w1 → Calls Try.prog 8 #[t] w1 fun e w' => e = .returned .nilIface ∧ Below w1.heap.size w1 w') := hide fun w1 hb => by have := tcheck t l w1 (ht.stays hb (Nat.le_refl _)); rwa [hf] at this
  clear hs hL hx ha ht hf
  generalize M.many a L = n at *
  have h0 : (0 : Int) < (n : Int) := by omega
  go_enter Try.func7, Try.ntmps7
  go_wp2_with fail
  refine (unhide HC).mono ?_
  rintro e w1 ⟨rfl, hb1⟩
  have HB1 := hide hb1
  clear hb1
  go_wp2_with fail
  refine (unhide HK _ HB1.out).mono ?_
  rintro e w2 ⟨rfl, hb2⟩
  go_wp2_with fail
  go_ret2
  exact ⟨rfl, HB1.out.trans (hb2.mono HB1.out.size)⟩

theorem oput_full (hs : Space base w S v L) (hL : M.Fine L) (hx : IsVals w x a) (ht : IsVals w t l) (ha : M.likeF a = 0) (hf : M.tupF l = 0) (hm : M.many a L = 0) (hp : M.putF L l ≠ 0) :
    Calls Try.prog 7 #[.pointer (some ⟨S, 0, none⟩), x, t] w fun e w' => e = .returned (.tuple #[.bool false, errV (M.putF L l)]) ∧ ∃ v', Space base w' S v' L ∧ Touch S v w w' ∧ Near w v v' := by
  have hC := count_ok base S v x a L w hs hL hx ha
  rw [hm] at hC
  have HC := hide hC
  have HK : Hid (∀ w1, Below w.heap.size w w1 → Calls Try.prog 8 #[t] w1 fun e w' => e = .returned .nilIface ∧ Below w1.heap.size w1 w') := hide fun w1 hb => by have := tcheck t l w1 (ht.stays hb (Nat.le_refl _)); rwa [hf] at this
  have HP : Hid (∀ w1, Below w.heap.size w w1 → Calls Try.prog 15 #[.pointer (some ⟨S, 0, none⟩), t] w1 fun e w' => e = .returned (.iface 50 (.int .i64 (M.putF L l))) ∧ ∃ v', Space base w' S v' L ∧ Touch S v w1 w' ∧ Near w1 v v') := hide fun w1 hb => by
    have := put base S v t l L w1 (Space.stays hs hb) (ht.stays hb (Nat.le_refl _))
    rwa [errV_bad hp, putL_no hp] at this
  rw [errV_bad hp]
  clear hs hL hx ha ht hf hC hm hp
  generalize M.putF L l = c at *
  go_enter Try.func7, Try.ntmps7
  go_wp2_with fail
  refine (unhide HC).mono ?_
  rintro e w1 ⟨rfl, hb1⟩
  have HB1 := hide hb1
  clear hb1
  go_wp2_with fail
  refine (unhide HK _ HB1.out).mono ?_
  rintro e w2 ⟨rfl, hb2⟩
  have HB2 := hide (HB1.out.trans (hb2.mono HB1.out.size))
  clear hb2
  go_wp2_with fail
  refine (unhide HP _ HB2.out).mono ?_
  rintro e w3 ⟨rfl, v', h1, h2, h3⟩
  have H1 := hide h1
  have H2 := hide (h2.after HB2.out)
  have H3 := hide (h3.mono HB2.out.size)
  clear h1 h2 h3
  go_wp2_with fail
  go_ret2
  exact ⟨rfl, v', H1.out, H2.out, H3.out⟩

theorem oput_put (hs : Space base w S v L) (hL : M.Fine L) (hx : IsVals w x a) (ht : IsVals w t l) (ha : M.likeF a = 0) (hf : M.tupF l = 0) (hm : M.many a L = 0) (hp : M.putF L l = 0) :
    Calls Try.prog 7 #[.pointer (some ⟨S, 0, none⟩), x, t] w fun e w' => e = .returned (.tuple #[.bool true, .nilIface]) ∧ ∃ v', Space base w' S v' (L ++ [l]) ∧ Touch S v w w' ∧ Near w v v' := by
  have hC := count_ok base S v x a L w hs hL hx ha
  rw [hm] at hC
  have HC := hide hC
  have HK : Hid (∀ w1, Below w.heap.size w w1 → Calls Try.prog 8 #[t] w1 fun e w' => e = .returned .nilIface ∧ Below w1.heap.size w1 w') := hide fun w1 hb => by have := tcheck t l w1 (ht.stays hb (Nat.le_refl _)); rwa [hf] at this
  have HP : Hid (∀ w1, Below w.heap.size w w1 → Calls Try.prog 15 #[.pointer (some ⟨S, 0, none⟩), t] w1 fun e w' => e = .returned .nilIface ∧ ∃ v', Space base w' S v' (L ++ [l]) ∧ Touch S v w1 w' ∧ Near w1 v v') := hide fun w1 hb => by
    have := put base S v t l L w1 (Space.stays hs hb) (ht.stays hb (Nat.le_refl _))
    rwa [putL_yes hp, hp] at this
  clear hs hL hx ha ht hf hC hm hp
  go_enter Try.func7, Try.ntmps7
  go_wp2_with fail
  refine (unhide HC).mono ?_
  rintro e w1 ⟨rfl, hb1⟩
  have HB1 := hide hb1
  clear hb1
  go_wp2_with fail
  refine (unhide HK _ HB1.out).mono ?_
  rintro e w2 ⟨rfl, hb2⟩
  have HB2 := hide (HB1.out.trans (hb2.mono HB1.out.size))
  clear hb2
  go_wp2_with fail
  refine (unhide HP _ HB2.out).mono ?_
  rintro e w3 ⟨rfl, v', h1, h2, h3⟩
  have H1 := hide h1
  have H2 := hide (h2.after HB2.out)
  have H3 := hide (h3.mono HB2.out.size)
  clear h1 h2 h3
  go_wp2_with fail
  go_ret2
  exact ⟨rfl, v', H1.out, H2.out, H3.out⟩

theorem oput (hs : Space base w S v L) (hL : M.Fine L) (hx : IsVals w x a) (ht : IsVals w t l) :
    Calls Try.prog 7 #[.pointer (some ⟨S, 0, none⟩), x, t] w fun e w' => e = .returned (.tuple #[.bool (M.onceB a L l), errV (M.onceF a L l)]) ∧ ∃ v', Space base w' S v' (M.onceL a L l) ∧ Touch S v w w' ∧ Near w v v' := by
  have still : ∀ {w' : World}, Below w.heap.size w w' → ∃ v', Space base w' S v' L ∧ Touch S v w w' ∧ Near w v v' := fun h => ⟨v, hs.stays h, Touch.of_below h, Near.refl _ _⟩
  by_cases ha : M.likeF a = 0
  · by_cases hf : M.tupF l = 0
    · by_cases hm : M.many a L = 0
      · by_cases hp : M.putF L l = 0
        · obtain ⟨e1, e2, e3⟩ := once_put ha hf hm hp
          rw [e1, e2, e3]
          exact oput_put base S v x t a l L w hs hL hx ht ha hf hm hp
        · obtain ⟨e1, e2, e3⟩ := once_full ha hf hm hp
          rw [e1, e2, e3]
          exact oput_full base S v x t a l L w hs hL hx ht ha hf hm hp
      · obtain ⟨e1, e2, e3⟩ := once_fit ha hf hm
        rw [e1, e2, e3]
        exact (oput_fit base S v x t a l L w hs hL hx ht ha hf hm).mono fun _ _ h => ⟨h.1, still h.2⟩
    · obtain ⟨e1, e2, e3⟩ := once_tup (L := L) ha hf
      rw [e1, e2, e3]
      exact (oput_tup base S v x t a l L w hs hL hx ht ha hf).mono fun _ _ h => ⟨h.1, still h.2⟩
  · obtain ⟨e1, e2, e3⟩ := once_like (L := L) (t := l) ha
    rw [e1, e2, e3]
    exact (oput_like base S v x t a L w hs hL hx ha).mono fun _ _ h => ⟨h.1, still h.2⟩

end

end Go.Proofs.Ytlefhfmckimlaac
