/-
  What Move of package once does, as one law of its call.
-/
import Derived.Test.YtlefhfmckimlaacDoorOnceMove
import Derived.LaidEqlPtr
namespace Go.Proofs.YtlefhfmckimlaacDoor
open Go.RowKit

/-- the fault of moving from a space to itself -/
def M.sameF (a : List M.Val) : Int := if M.likeF a = 0 then 3 else M.likeF a
theorem infoS : (Tryd.prog.info? 68).map (fun i => i.size) = some 1 := by kernel_rfl
theorem infoS' : ∃ j, Tryd.prog.info? 68 = some j ∧ j.size ≠ 0 := by
  have h := infoS
  cases hj : Tryd.prog.info? 68 with
  | none => rw [hj] at h; cases h
  | some j => exact ⟨j, rfl, by rw [hj] at h; simp at h; omega⟩
theorem eql_same (w : World) (S : Nat) : (binOp .eql 24 (.pointer (some ⟨S, 0, none⟩)) (.pointer (some ⟨S, 0, none⟩))).run Tryd.prog w = .ok (.bool true) w := by
  obtain ⟨j, hj, _⟩ := infoS'
  exact run_eql_ptr_same w _ Tryd.underlying24 hj

section
variable {base S O : Nat} {v u v1 u1 x : Value} {a l : List M.Val} {L K : List (List M.Val)} {w w1 : World}
theorem Pair.eql (h : Pair base w S O v u L K) : (binOp .eql 24 (.pointer (some ⟨S, 0, none⟩)) (.pointer (some ⟨O, 0, none⟩))).run Tryd.prog w = .ok (.bool false) w := by
  obtain ⟨j, hj, hz⟩ := infoS'
  exact run_eql_ptr_other w Tryd.underlying24 hj hz (fun e => h.so (by simpa using e)) h.s.heap h.o.heap

theorem move_like (h : Pair base w S O v u L K) (hx : IsVals w x a) (ha : M.likeF a ≠ 0) (p : Value) :
    Calls Tryd.prog 15 #[.pointer (some ⟨S, 0, none⟩), p, x] w fun e w' => e = .returned (.tuple #[.int .i64 0, errV (M.likeF a)]) ∧ Below w.heap.size w w' := by
  have hC := count base S v x a L w h.s h.fs hx
  rw [errV_bad ha] at hC ⊢
  have HC := hide hC
  clear hC h hx ha
  generalize M.likeF a = c at *
  generalize M.cnt a L = n at *
  go_enter Tryd.func15, Tryd.ntmps15
  go_wp2_with fail
  refine (unhide HC).mono ?_
  rintro e w1 ⟨rfl, hb1⟩
  go_wp2_with fail
  go_ret2
  exact ⟨rfl, hb1⟩

set_option maxRecDepth 100000 in
theorem move_ok (h : Pair base w S O v u L K) (hx : Firm base w x a) (ha : M.likeF a = 0) :
    Calls Tryd.prog 15 #[.pointer (some ⟨S, 0, none⟩), .pointer (some ⟨O, 0, none⟩), x] w fun e w' => e = .returned (.tuple #[.int .i64 (M.movN a L K), .nilIface]) ∧ ∃ v' u', Mv base w w' S O v u v' u' x a (M.lessN a L (M.movN a L K)) (K ++ M.gotN a L (M.movN a L K)) := by
  have HC := hide (count_ok base S v x a L w h.s h.fs hx.vals ha)
  have HM := hide (Mv.start h hx)
  have HA := hide ha
  have HFL := hide h.fs
  have HFK := hide h.fo
  have HST : Hid (∀ j, j ≤ M.movN a L K → (K ++ M.gotN a L j).length ≤ 20 ∧ (j < M.movN a L K ↔ (K ++ M.gotN a L j).length < 20 ∧ j < M.many a L)) := hide fun j hj => movN_step ha h.fo.2 hj
  have hmn : M.movN a L K ≤ M.many a L := movN_le
  have hn20 : M.many a L ≤ 20 := Nat.le_trans (many_le a L) h.fs.2
  clear h hx ha
  generalize hm : M.movN a L K = m at *
  generalize hn : M.many a L = n at *
  have HN := hide hn
  clear hm hn
  go_enter Tryd.func15, Tryd.ntmps15
  go_wp2_with fail
  refine (unhide HC).mono ?_
  rintro e w1 ⟨rfl, hb1⟩
  have HM1 := hide (HM.out.quiet hb1)
  have q := HM1.out.p.eql
  clear hb1 HM
  go_wp2_with fail
  go_loopw [25] (fun i wr => ∃ j : Nat, ∃ v' u' : Value, j ≤ m ∧ i = .int .i64 j ∧ Hid (Mv base w wr S O v u v' u' x a (M.lessN a L j) (K ++ M.gotN a L j))) (fun i _ => n - (intOf i).toNat)
  case atStart => exact ⟨0, v, u, Nat.zero_le _, rfl, hide (by simpa [M.lessN, M.gotN] using HM1.out)⟩
  case round =>
    clear HM1
    obtain ⟨j, v', u', hj, rfl, hMv⟩ := hrel
    by_cases hlt : j < n
    · have hg := lessN_get (L := L) HA.out (j := j) (by rw [HN.out]; exact hlt)
      by_cases hk : (K ++ M.gotN a L j).length < 20
      · have hjm : j < m := (HST.out j hj).2.2 ⟨hk, hlt⟩
        have HY := hide (mold_yes hMv.out hg hk)
        clear hg hk
        go_wp2_with fail
        refine (unhide HY).mono ?_
        rintro e w2 ⟨rfl, v2, u2, h2⟩
        have HM2 := hide h2
        clear h2
        go_wp2_with fail
        go_roundw
        case rel => exact ⟨j + 1, v2, u2, by omega, by go_num, hide (by have := HM2.out; rw [List.append_assoc] at this; exact this)⟩
        case measure => simp [intOf]; omega
      · have hjm : j = m := by
          rcases Nat.lt_or_ge j m with g | g
          · exact absurd ((HST.out j hj).2.1 g).1 hk
          · omega
        subst hjm
        have HY := hide (mold_no hMv.out hg hk)
        clear hg hk
        go_wp2_with fail
        refine (unhide HY).mono ?_
        rintro e w2 ⟨rfl, u2, h2⟩
        have HM2 := hide h2
        clear h2
        go_wp2_with fail
        go_ret2
        exact ⟨rfl, v', u2, HM2.out⟩
    · have hjm : j = m := by omega
      have hnm : n = m := by omega
      subst hjm
      subst hnm
      go_wp2
      go_ret2
      exact ⟨rfl, v', u', hMv.out⟩

theorem move (h : Pair base w S O v u L K) (hx : Firm base w x a) :
    Calls Tryd.prog 15 #[.pointer (some ⟨S, 0, none⟩), .pointer (some ⟨O, 0, none⟩), x] w fun e w' => e = .returned (.tuple #[.int .i64 (M.movN a L K), errV (M.likeF a)]) ∧ ∃ v' u', Mv base w w' S O v u v' u' x a (M.lessN a L (M.movN a L K)) (K ++ M.gotN a L (M.movN a L K)) := by
  by_cases ha : M.likeF a = 0
  · rw [ha]; exact move_ok h hx ha
  · have e0 : M.movN a L K = 0 := by unfold M.movN; rw [if_neg ha]
    rw [e0]
    refine (move_like h hx.vals ha _).mono ?_
    rintro e w' ⟨rfl, hb⟩
    exact ⟨rfl, v, u, by simpa [M.lessN, M.gotN] using (Mv.start h hx).quiet hb⟩

theorem moveSame (hs : Space base w S v L) (hL : M.Fine L) (hx : IsVals w x a) :
    Calls Tryd.prog 15 #[.pointer (some ⟨S, 0, none⟩), .pointer (some ⟨S, 0, none⟩), x] w fun e w' => e = .returned (.tuple #[.int .i64 0, errV (M.sameF a)]) ∧ Below w.heap.size w w' := by
  by_cases ha : M.likeF a = 0
  · have e3 : M.sameF a = 3 := by unfold M.sameF; rw [if_pos ha]
    rw [e3]
    have HC := hide (count_ok base S v x a L w hs hL hx ha)
    clear hs hL hx ha e3
    generalize M.many a L = n at *
    go_enter Tryd.func15, Tryd.ntmps15
    go_wp2_with fail
    refine (unhide HC).mono ?_
    rintro e w1 ⟨rfl, hb1⟩
    have q := eql_same w1 S
    go_wp2_with fail
    go_ret2
    exact ⟨rfl, hb1⟩
  · have e3 : M.sameF a = M.likeF a := by unfold M.sameF; rw [if_neg ha]
    rw [e3]
    have hC := count base S v x a L w hs hL hx
    rw [errV_bad ha] at hC ⊢
    have HC := hide hC
    clear hC hs hL hx ha e3
    generalize M.likeF a = c at *
    generalize M.cnt a L = n at *
    go_enter Tryd.func15, Tryd.ntmps15
    go_wp2_with fail
    refine (unhide HC).mono ?_
    rintro e w1 ⟨rfl, hb1⟩
    go_wp2_with fail
    go_ret2
    exact ⟨rfl, hb1⟩
end

end Go.Proofs.YtlefhfmckimlaacDoor
