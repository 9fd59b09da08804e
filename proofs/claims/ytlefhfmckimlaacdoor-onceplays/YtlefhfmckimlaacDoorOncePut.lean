/-
  What Put and Change of package once do, each as one law of its call.
-/
import Derived.Test.YtlefhfmckimlaacDoorOnceFirm
namespace Go.Proofs.YtlefhfmckimlaacDoor
open Go.RowKit

section
variable (base S : Nat) (v x t : Value) (a l : List M.Val) (L : List (List M.Val)) (w : World)
theorem oput_like (hs : Space base w S v L) (hL : M.Fine L) (hx : IsVals w x a) (ha : M.likeF a ≠ 0) :
    Calls Tryd.prog 17 #[.pointer (some ⟨S, 0, none⟩), x, t] w fun e w' => e = .returned (.tuple #[.bool false, errV (M.likeF a)]) ∧ Below w.heap.size w w' := by
  have hC := count base S v x a L w hs hL hx
  rw [errV_bad ha] at hC ⊢
  have HC := hide hC
  clear hC hs hL hx ha
  generalize M.likeF a = c at *
  generalize M.cnt a L = n at *
  go_enter Tryd.func17, Tryd.ntmps17
  go_wp2_with fail
  refine (unhide HC).mono ?_
  rintro e w1 ⟨rfl, hb1⟩
  go_wp2_with fail
  go_ret2
  exact ⟨rfl, hb1⟩

theorem count_ok (hs : Space base w S v L) (hL : M.Fine L) (hx : IsVals w x a) (ha : M.likeF a = 0) :
    Calls Tryd.prog 39 #[.pointer (some ⟨S, 0, none⟩), x] w fun e w' => e = .returned (.tuple #[.int .i64 (M.many a L), .nilIface]) ∧ Below w.heap.size w w' := by
  have := count base S v x a L w hs hL hx
  unfold M.cnt at this
  rwa [if_pos ha, ha] at this

theorem oput_tup (hs : Space base w S v L) (hL : M.Fine L) (hx : IsVals w x a) (ht : IsVals w t l) (ha : M.likeF a = 0) (hf : M.tupF l ≠ 0) :
    Calls Tryd.prog 17 #[.pointer (some ⟨S, 0, none⟩), x, t] w fun e w' => e = .returned (.tuple #[.bool false, errV (M.tupF l)]) ∧ Below w.heap.size w w' := by
  have HC := hide (count_ok base S v x a L w hs hL hx ha)
  have HK : Hid (∀ w1, Below w.heap.size w w1 → Calls Tryd.prog 24 #[t] w1 fun e w' => e = .returned (.iface 69 (.int .i64 (M.tupF l))) ∧ Below w1.heap.size w1 w') := hide fun w1 hb => by rw [← errV_bad hf]; exact tcheck t l w1 (ht.stays hb (Nat.le_refl _))
  rw [errV_bad hf]
  clear hs hL hx ha ht hf
  generalize M.tupF l = c at *
  generalize M.many a L = n at *
  go_enter Tryd.func17, Tryd.ntmps17
  go_wp2_with fail
  refine (unhide HC).mono ?_
  rintro e w1 ⟨rfl, hb1⟩
  have HB1 := hide hb1
  clear hb1
  go_wp2_with fail
  refine (unhide HK _ HB1.out).mono ?_
  rintro e w2 ⟨rfl, hb2⟩
  go_wp2_with fail
  go_ret2
  exact ⟨rfl, HB1.out.trans (hb2.mono HB1.out.size)⟩

theorem oput_fit (hs : Space base w S v L) (hL : M.Fine L) (hx : IsVals w x a) (ht : IsVals w t l) (ha : M.likeF a = 0) (hf : M.tupF l = 0) (hm : M.many a L ≠ 0) :
    Calls Tryd.prog 17 #[.pointer (some ⟨S, 0, none⟩), x, t] w fun e w' => e = .returned (.tuple #[.bool false, .nilIface]) ∧ Below w.heap.size w w' := by
  have HC := hide (count_ok base S v x a L w hs hL hx ha)
  have HK : Hid (∀ w1, Below w.heap.size w w1 → Calls Tryd.prog 24 #[t] w1 fun e w' => e = .returned .nilIface ∧ Below w1.heap.size w1 w') := hide fun w1 hb => by have := tcheck t l w1 (ht.stays hb (Nat.le_refl _)); rwa [hf] at this
  clear hs hL hx ha ht hf
  generalize M.many a L = n at *
  have h0 : (0 : Int) < (n : Int) := by omega
  go_enter Tryd.func17, Tryd.ntmps17
  go_wp2_with fail
  refine (unhide HC).mono ?_
  rintro e w1 ⟨rfl, hb1⟩
  have HB1 := hide hb1
  clear hb1
  go_wp2_with fail
  refine (unhide HK _ HB1.out).mono ?_
  rintro e w2 ⟨rfl, hb2⟩
  go_wp2_with fail
  go_ret2
  exact ⟨rfl, HB1.out.trans (hb2.mono HB1.out.size)⟩

theorem oput_full (hs : Space base w S v L) (hL : M.Fine L) (hx : IsVals w x a) (ht : IsVals w t l) (ha : M.likeF a = 0) (hf : M.tupF l = 0) (hm : M.many a L = 0) (hp : M.putF L l ≠ 0) :
    Calls Tryd.prog 17 #[.pointer (some ⟨S, 0, none⟩), x, t] w fun e w' => e = .returned (.tuple #[.bool false, errV (M.putF L l)]) ∧ ∃ v', Space base w' S v' L ∧ Touch S v w w' ∧ Near w v v' := by
  have hC := count_ok base S v x a L w hs hL hx ha
  rw [hm] at hC
  have HC := hide hC
  have HK : Hid (∀ w1, Below w.heap.size w w1 → Calls Tryd.prog 24 #[t] w1 fun e w' => e = .returned .nilIface ∧ Below w1.heap.size w1 w') := hide fun w1 hb => by have := tcheck t l w1 (ht.stays hb (Nat.le_refl _)); rwa [hf] at this
  have HP : Hid (∀ w1, Below w.heap.size w w1 → Calls Tryd.prog 37 #[.pointer (some ⟨S, 0, none⟩), t] w1 fun e w' => e = .returned (.iface 69 (.int .i64 (M.putF L l))) ∧ ∃ v', Space base w' S v' L ∧ Touch S v w1 w' ∧ Near w1 v v') := hide fun w1 hb => by
    have := put base S v t l L w1 (Space.stays hs hb) (ht.stays hb (Nat.le_refl _))
    rwa [errV_bad hp, putL_no hp] at this
  rw [errV_bad hp]
  clear hs hL hx ha ht hf hC hm hp
  generalize M.putF L l = c at *
  go_enter Tryd.func17, Tryd.ntmps17
  go_wp2_with fail
  refine (unhide HC).mono ?_
  rintro e w1 ⟨rfl, hb1⟩
  have HB1 := hide hb1
  clear hb1
  go_wp2_with fail
  refine (unhide HK _ HB1.out).mono ?_
  rintro e w2 ⟨rfl, hb2⟩
  have HB2 := hide (HB1.out.trans (hb2.mono HB1.out.size))
  clear hb2
  go_wp2_with fail
  refine (unhide HP _ HB2.out).mono ?_
  rintro e w3 ⟨rfl, v', h1, h2, h3⟩
  have H1 := hide h1
  have H2 := hide (h2.after HB2.out)
  have H3 := hide (h3.mono HB2.out.size)
  clear h1 h2 h3
  go_wp2_with fail
  go_ret2
  exact ⟨rfl, v', H1.out, H2.out, H3.out⟩

theorem oput_put (hs : Space base w S v L) (hL : M.Fine L) (hx : IsVals w x a) (ht : IsVals w t l) (ha : M.likeF a = 0) (hf : M.tupF l = 0) (hm : M.many a L = 0) (hp : M.putF L l = 0) :
    Calls Tryd.prog 17 #[.pointer (some ⟨S, 0, none⟩), x, t] w fun e w' => e = .returned (.tuple #[.bool true, .nilIface]) ∧ ∃ v', Space base w' S v' (L ++ [l]) ∧ Touch S v w w' ∧ Near w v v' := by
  have hC := count_ok base S v x a L w hs hL hx ha
  rw [hm] at hC
  have HC := hide hC
  have HK : Hid (∀ w1, Below w.heap.size w w1 → Calls Tryd.prog 24 #[t] w1 fun e w' => e = .returned .nilIface ∧ Below w1.heap.size w1 w') := hide fun w1 hb => by have := tcheck t l w1 (ht.stays hb (Nat.le_refl _)); rwa [hf] at this
  have HP : Hid (∀ w1, Below w.heap.size w w1 → Calls Tryd.prog 37 #[.pointer (some ⟨S, 0, none⟩), t] w1 fun e w' => e = .returned .nilIface ∧ ∃ v', Space base w' S v' (L ++ [l]) ∧ Touch S v w1 w' ∧ Near w1 v v') := hide fun w1 hb => by
    have := put base S v t l L w1 (Space.stays hs hb) (ht.stays hb (Nat.le_refl _))
    rwa [putL_yes hp, hp] at this
  clear hs hL hx ha ht hf hC hm hp
  go_enter Tryd.func17, Tryd.ntmps17
  go_wp2_with fail
  refine (unhide HC).mono ?_
  rintro e w1 ⟨rfl, hb1⟩
  have HB1 := hide hb1
  clear hb1
  go_wp2_with fail
  refine (unhide HK _ HB1.out).mono ?_
  rintro e w2 ⟨rfl, hb2⟩
  have HB2 := hide (HB1.out.trans (hb2.mono HB1.out.size))
  clear hb2
  go_wp2_with fail
  refine (unhide HP _ HB2.out).mono ?_
  rintro e w3 ⟨rfl, v', h1, h2, h3⟩
  have H1 := hide h1
  have H2 := hide (h2.after HB2.out)
  have H3 := hide (h3.mono HB2.out.size)
  clear h1 h2 h3
  go_wp2_with fail
  go_ret2
  exact ⟨rfl, v', H1.out, H2.out, H3.out⟩

theorem oput (hs : Space base w S v L) (hL : M.Fine L) (hx : IsVals w x a) (ht : IsVals w t l) :
    Calls Tryd.prog 17 #[.pointer (some ⟨S, 0, none⟩), x, t] w fun e w' => e = .returned (.tuple #[.bool (M.onceB a L l), errV (M.onceF a L l)]) ∧ ∃ v', Space base w' S v' (M.onceL a L l) ∧ Touch S v w w' ∧ Near w v v' := by
  have still : ∀ {w' : World}, Below w.heap.size w w' → ∃ v', Space base w' S v' L ∧ Touch S v w w' ∧ Near w v v' := fun h => ⟨v, hs.stays h, Touch.of_below h, Near.refl _ _⟩
  by_cases ha : M.likeF a = 0
  · by_cases hf : M.tupF l = 0
    · by_cases hm : M.many a L = 0
      · by_cases hp : M.putF L l = 0
        · obtain ⟨e1, e2, e3⟩ := once_put ha hf hm hp
          rw [e1, e2, e3]
          exact oput_put base S v x t a l L w hs hL hx ht ha hf hm hp
        · obtain ⟨e1, e2, e3⟩ := once_full ha hf hm hp
          rw [e1, e2, e3]
          exact oput_full base S v x t a l L w hs hL hx ht ha hf hm hp
      · obtain ⟨e1, e2, e3⟩ := once_fit ha hf hm
        rw [e1, e2, e3]
        exact (oput_fit base S v x t a l L w hs hL hx ht ha hf hm).mono fun _ _ h => ⟨h.1, still h.2⟩
    · obtain ⟨e1, e2, e3⟩ := once_tup (L := L) ha hf
      rw [e1, e2, e3]
      exact (oput_tup base S v x t a l L w hs hL hx ht ha hf).mono fun _ _ h => ⟨h.1, still h.2⟩
  · obtain ⟨e1, e2, e3⟩ := once_like (L := L) (t := l) ha
    rw [e1, e2, e3]
    exact (oput_like base S v x t a L w hs hL hx ha).mono fun _ _ h => ⟨h.1, still h.2⟩

theorem och_like (hx : IsVals w x a) (ha : M.likeF a ≠ 0) :
    Calls Tryd.prog 12 #[.pointer (some ⟨S, 0, none⟩), x, t] w fun e w' => e = .returned (.tuple #[.slice none 0 0, errV (M.likeF a)]) ∧ Below w.heap.size w w' := by
  have hC := like x a w hx
  rw [errV_bad ha] at hC ⊢
  have HC := hide hC
  clear hC hx ha
  generalize M.likeF a = c at *
  go_enter Tryd.func12, Tryd.ntmps12
  go_wp2_with fail
  refine (unhide HC).mono ?_
  rintro e w1 ⟨rfl, hb1⟩
  go_wp2_with fail
  go_ret2
  exact ⟨rfl, hb1⟩

theorem och_tup (hx : IsVals w x a) (ht : IsVals w t l) (ha : M.likeF a = 0) (hf : M.tupF l ≠ 0) :
    Calls Tryd.prog 12 #[.pointer (some ⟨S, 0, none⟩), x, t] w fun e w' => e = .returned (.tuple #[.slice none 0 0, errV (M.tupF l)]) ∧ Below w.heap.size w w' := by
  have hC := like x a w hx
  rw [ha] at hC
  have HC : Hid (Calls Tryd.prog 35 #[x] w fun e w' => e = .returned .nilIface ∧ Below w.heap.size w w') := hide hC
  have HK : Hid (∀ w1, Below w.heap.size w w1 → Calls Tryd.prog 24 #[t] w1 fun e w' => e = .returned (.iface 69 (.int .i64 (M.tupF l))) ∧ Below w1.heap.size w1 w') := hide fun w1 hb => by rw [← errV_bad hf]; exact tcheck t l w1 (ht.stays hb (Nat.le_refl _))
  rw [errV_bad hf]
  clear hC hx ha ht hf
  generalize M.tupF l = c at *
  go_enter Tryd.func12, Tryd.ntmps12
  go_wp2_with fail
  refine (unhide HC).mono ?_
  rintro e w1 ⟨rfl, hb1⟩
  have HB1 := hide hb1
  clear hb1
  go_wp2_with fail
  refine (unhide HK _ HB1.out).mono ?_
  rintro e w2 ⟨rfl, hb2⟩
  go_wp2_with fail
  go_ret2
  exact ⟨rfl, HB1.out.trans (hb2.mono HB1.out.size)⟩

theorem och_none (hs : Space base w S v L) (hL : M.Fine L) (hx : IsVals w x a) (ht : IsVals w t l) (ha : M.likeF a = 0) (hf : M.tupF l = 0) (hg : M.getF a L ≠ 0) :
    Calls Tryd.prog 12 #[.pointer (some ⟨S, 0, none⟩), x, t] w fun e w' => e = .returned (.tuple #[.slice none 0 0, errV (M.getF a L)]) ∧ ∃ v', Space base w' S v' L ∧ Touch S v w w' ∧ Near w v v' := by
  have hC := like x a w hx
  rw [ha] at hC
  have HC : Hid (Calls Tryd.prog 35 #[x] w fun e w' => e = .returned .nilIface ∧ Below w.heap.size w w') := hide hC
  have HK : Hid (∀ w1, Below w.heap.size w w1 → Calls Tryd.prog 24 #[t] w1 fun e w' => e = .returned .nilIface ∧ Below w1.heap.size w1 w') := hide fun w1 hb => by have := tcheck t l w1 (ht.stays hb (Nat.le_refl _)); rwa [hf] at this
  have HT : Hid (∀ w1, Below w.heap.size w w1 → Calls Tryd.prog 36 #[.pointer (some ⟨S, 0, none⟩), x] w1 fun e w' => ∃ r v', e = .returned (.tuple #[r, .iface 69 (.int .i64 (M.getF a L))]) ∧ Space base w' S v' L ∧ Touch S v w1 w' ∧ Near w1 v v') := hide fun w1 hb => by
    have := take base S v x a L w1 (Space.stays hs hb) hL (hx.stays hb (Nat.le_refl _))
    rw [errV_bad hg, lessL_no hg] at this
    exact this.mono fun e w' ⟨r, v', h1, _, h2⟩ => ⟨r, v', h1, h2⟩
  rw [errV_bad hg]
  clear hC hs hL hx ha ht hf hg
  generalize M.getF a L = c at *
  go_enter Tryd.func12, Tryd.ntmps12
  go_wp2_with fail
  refine (unhide HC).mono ?_
  rintro e w1 ⟨rfl, hb1⟩
  have HB1 := hide hb1
  clear hb1
  go_wp2_with fail
  refine (unhide HK _ HB1.out).mono ?_
  rintro e w2 ⟨rfl, hb2⟩
  have HB2 := hide (HB1.out.trans (hb2.mono HB1.out.size))
  clear hb2
  go_wp2_with fail
  refine (unhide HT _ HB2.out).mono ?_
  rintro e w3 ⟨r, v', rfl, h1, h2, h3⟩
  have H1 := hide h1
  have H2 := hide (h2.after HB2.out)
  have H3 := hide (h3.mono HB2.out.size)
  clear h1 h2 h3
  go_wp2_with fail
  go_ret2
  exact ⟨rfl, v', H1.out, H2.out, H3.out⟩

theorem och_ok (hs : Space base w S v L) (hL : M.Fine L) (hx : IsVals w x a) (ht : Firm base w t l) (ha : M.likeF a = 0) (hf : M.tupF l = 0) (hg : M.getF a L = 0) :
    Calls Tryd.prog 12 #[.pointer (some ⟨S, 0, none⟩), x, t] w fun e w' => ∃ r v', e = .returned (.tuple #[r, .nilIface]) ∧ OwnT base w' r (M.getV a L) ∧ Space base w' S v' (M.lessL a L ++ [l]) ∧ Touch S v w w' ∧ Near w v v' := by
  have hC := like x a w hx
  rw [ha] at hC
  have HC : Hid (Calls Tryd.prog 35 #[x] w fun e w' => e = .returned .nilIface ∧ Below w.heap.size w w') := hide hC
  have HK : Hid (∀ w1, Below w.heap.size w w1 → Calls Tryd.prog 24 #[t] w1 fun e w' => e = .returned .nilIface ∧ Below w1.heap.size w1 w') := hide fun w1 hb => by have := tcheck t l w1 (ht.vals.stays hb (Nat.le_refl _)); rwa [hf] at this
  have HT : Hid (∀ w1, Below w.heap.size w w1 → Calls Tryd.prog 36 #[.pointer (some ⟨S, 0, none⟩), x] w1 fun e w' => ∃ r v', e = .returned (.tuple #[r, .nilIface]) ∧ OwnT base w' r (M.getV a L) ∧ Space base w' S v' (M.lessL a L) ∧ Touch S v w1 w' ∧ Near w1 v v') := hide fun w1 hb => by
    have := take base S v x a L w1 (Space.stays hs hb) hL (hx.stays hb (Nat.le_refl _))
    rwa [hg] at this
  have HP : Hid (∀ w2 w3 v', Below w.heap.size w w2 → Touch S v w2 w3 → Space base w3 S v' (M.lessL a L) → Calls Tryd.prog 37 #[.pointer (some ⟨S, 0, none⟩), t] w3 fun e w' => e = .returned .nilIface ∧ ∃ v2, Space base w' S v2 (M.lessL a L ++ [l]) ∧ Touch S v' w3 w' ∧ Near w3 v' v2) := hide fun w2 w3 v' hb h2 h3 => by
    have hp := ch_room hL hg hf
    have hs2 := Space.stays hs hb
    have := put base S v' t l _ w3 h3 ((ht.quiet hb hs.room).touch hs2 h2).vals
    rwa [putL_yes hp, hp] at this
  clear hC hs hL hx ha ht hf hg
  go_enter Tryd.func12, Tryd.ntmps12
  go_wp2_with fail
  refine (unhide HC).mono ?_
  rintro e w1 ⟨rfl, hb1⟩
  have HB1 := hide hb1
  clear hb1
  go_wp2_with fail
  refine (unhide HK _ HB1.out).mono ?_
  rintro e w2 ⟨rfl, hb2⟩
  have HB2 := hide (HB1.out.trans (hb2.mono HB1.out.size))
  clear hb2
  go_wp2_with fail
  refine (unhide HT _ HB2.out).mono ?_
  rintro e w3 ⟨r, v1, rfl, h0, h1, h2, h3⟩
  have HP3 := hide (unhide HP _ _ _ HB2.out h2 h1)
  have H0 := hide h0
  have H1 := hide h1
  have H2 := hide (h2.after HB2.out)
  have H3 := hide (h3.mono HB2.out.size)
  clear h0 h1 h2 h3
  go_wp2_with fail
  refine (unhide HP3).mono ?_
  rintro e w4 ⟨rfl, v2, h1, h2, h3⟩
  have H5 := hide h1
  have H6 := hide (H2.out.trans H3.out h2)
  have H7 := hide (H3.out.trans h3 H2.out.size)
  have H8 := hide (H0.out.solid (Sp.solid H1.out (by decide) h2))
  clear h1 h2 h3
  go_wp2_with fail
  go_ret2
  exact ⟨r, v2, rfl, H8.out, H5.out, H6.out, H7.out⟩

theorem och (hs : Space base w S v L) (hL : M.Fine L) (hx : IsVals w x a) (ht : Firm base w t l) :
    Calls Tryd.prog 12 #[.pointer (some ⟨S, 0, none⟩), x, t] w fun e w' => ∃ r v', e = .returned (.tuple #[r, errV (M.chF a L l)]) ∧ OwnT base w' r (M.chV a L l) ∧ Space base w' S v' (M.chL a L l) ∧ Touch S v w w' ∧ Near w v v' := by
  by_cases ha : M.likeF a = 0
  · by_cases hf : M.tupF l = 0
    · by_cases hg : M.getF a L = 0
      · obtain ⟨e1, e2, e3⟩ := ch_ok ha hf hg
        rw [e1, e2, e3]
        exact och_ok base S v x t a l L w hs hL hx ht ha hf hg
      · obtain ⟨e1, e2, e3⟩ := ch_none ha hf hg
        rw [e1, e2, e3]
        exact (och_none base S v x t a l L w hs hL hx ht.vals ha hf hg).mono fun _ _ ⟨h1, v', h2⟩ => ⟨_, v', h1, OwnT.nil _ _, h2⟩
    · obtain ⟨e1, e2, e3⟩ := ch_tup (L := L) ha hf
      rw [e1, e2, e3]
      exact (och_tup S x t a l w hx ht.vals ha hf).mono fun _ _ ⟨h1, hb⟩ => ⟨_, v, h1, OwnT.nil _ _, hs.stays hb, Touch.of_below hb, Near.refl _ _⟩
  · obtain ⟨e1, e2, e3⟩ := ch_like (L := L) (t := l) ha
    rw [e1, e2, e3]
    exact (och_like S x t a w hx ha).mono fun _ _ ⟨h1, hb⟩ => ⟨_, v, h1, OwnT.nil _ _, hs.stays hb, Touch.of_below hb, Near.refl _ _⟩
end

end Go.Proofs.YtlefhfmckimlaacDoor
