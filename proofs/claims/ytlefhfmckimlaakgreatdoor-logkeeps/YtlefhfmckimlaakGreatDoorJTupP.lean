/-
  What strings.Cut at a comma does, and the iterator over the fields of a text.
  What Parse of package tuple does, as one law of its call.
-/
import Derived.Test.YtlefhfmckimlaakGreatDoorShelf
import Derived.Test.YtlefhfmckimlaakGreatDoorJPrint
import Derived.Test.YtlefhfmckimlaakGreatDoorJVal
import Derived.Lib.IndexLaws
import Derived.BigQuiet
import Derived.Deep.QuietTactic
import Derived.RangeFuncNested
import Derived.RangeFuncBound
import Derived.RangeFuncCalls
import Derived.RangeFuncLeaves
import Derived.Shelf.Abstract
import Derived.Shelf.RegionOpen
import Derived.WalkKit
import Derived.OwnWalkIn
import Derived.TacticsInMore
import Derived.LoopNIn
import Derived.LoopIn
import Derived.WalkSmall
import Derived.Test.YtlefhfmckimlaakGreatDoorJTup
import Derived.Test.YtlefhfmckimlaakGreatDoorJParse
import Derived.RangeFuncBox
import Derived.Maps.AppendAt
import Derived.Deep.AppendLies
namespace Go.Proofs.YtlefhfmckimlaakGreatDoor
open Go.RowKit Go.Shelf
attribute [local go_sem] Oper.semAt_some

theorem sliteMiss (s : ByteArray) (w : World) (hi : Lib.indexByte s.data.toList 44 = -1) :
    Calls Tryz.prog 127 #[.string s, .string ⟨#[44]⟩] w fun e w' => e = .returned (.tuple #[.string s, .string ⟨#[]⟩, .bool false]) ∧ Below w.heap.size w w' := by
  have HI : Hid (Calls Tryz.prog 154 #[.string s, .string ⟨#[44]⟩] w fun e w' => e = .returned (.int .i64 (-1)) ∧ w' = w) := hide (by have := Tryz.stringslite_Index_one s 44 w; rwa [hi] at this)
  clear hi
  go_enter Tryz.func127, Tryz.ntmps127
  go_wp2_with fail
  refine (unhide HI).mono ?_
  rintro e w1 ⟨rfl, rfl⟩
  go_wp2_with fail
  exact bodyPost_ret (v := .tuple #[.string s, .string ⟨#[]⟩, .bool false]) (by simp [results, Tryz.results127, go_sem]) rfl ⟨rfl, Below.refl _ _⟩

theorem sliteHit (s : ByteArray) (i : Nat) (w : World) (hs : s.size ≤ maxLen) (hi : Lib.indexByte s.data.toList 44 = i) (hlt : i < s.size) :
    Calls Tryz.prog 127 #[.string s, .string ⟨#[44]⟩] w fun e w' => e = .returned (.tuple #[.string (s.extract 0 i), .string (s.extract (i + 1) s.size), .bool true]) ∧ Below w.heap.size w w' := by
  unfold maxLen at hs
  have HI : Hid (Calls Tryz.prog 154 #[.string s, .string ⟨#[44]⟩] w fun e w' => e = .returned (.int .i64 i) ∧ w' = w) := hide (by have := Tryz.stringslite_Index_one s 44 w; rwa [hi] at this)
  clear hi
  have h0 : (0 : Int) ≤ (i : Int) := by omega
  have h1 : (i : Int) + 1 ≤ (s.size : Int) := by omega
  have h2 : (i : Int) ≤ (s.size : Int) := by omega
  go_enter Tryz.func127, Tryz.ntmps127
  go_wp2_with fail
  refine (unhide HI).mono ?_
  rintro e w1 ⟨rfl, rfl⟩
  go_wp2_with fail
  go_quiet (fail)
  go_wp2
  exact bodyPost_ret (v := .tuple #[.string (s.extract 0 i), .string (s.extract (i + 1) s.size), .bool true]) (by simp [results, Tryz.results127, go_sem]) rfl ⟨rfl, Go.below_drewN (Below.refl _ _) _⟩

theorem cutMiss (s : ByteArray) (w : World) (hi : Lib.indexByte s.data.toList 44 = -1) :
    Calls Tryz.prog 84 #[.string s, .string ⟨#[44]⟩] w fun e w' => e = .returned (.tuple #[.string s, .string ⟨#[]⟩, .bool false]) ∧ Below w.heap.size w w' := by
  go_enter Tryz.func84, Tryz.ntmps84
  go_wp2_with fail
  refine (sliteMiss s _ hi).mono ?_
  rintro e w1 ⟨rfl, hb⟩
  go_wp2_with fail
  exact bodyPost_ret (v := .tuple #[.string s, .string ⟨#[]⟩, .bool false]) (by simp [results, Tryz.results84, go_sem]) rfl ⟨rfl, hb⟩
theorem cutHit (s : ByteArray) (i : Nat) (w : World) (hs : s.size ≤ maxLen) (hi : Lib.indexByte s.data.toList 44 = i) (hlt : i < s.size) :
    Calls Tryz.prog 84 #[.string s, .string ⟨#[44]⟩] w fun e w' => e = .returned (.tuple #[.string (s.extract 0 i), .string (s.extract (i + 1) s.size), .bool true]) ∧ Below w.heap.size w w' := by
  have HI := hide hi
  have HL := hide hlt
  clear hi hlt
  go_enter Tryz.func84, Tryz.ntmps84
  go_wp2_with fail
  refine (sliteHit s i _ hs HI.out HL.out).mono ?_
  rintro e w1 ⟨rfl, hb⟩
  go_wp2_with fail
  exact bodyPost_ret (v := .tuple #[.string (s.extract 0 i), .string (s.extract (i + 1) s.size), .bool true]) (by simp [results, Tryz.results84, go_sem]) rfl ⟨rfl, hb⟩

/-- at its first comma, or nowhere -/
theorem cut_step (s : ByteArray) : (Lib.indexByte s.data.toList 44 = -1 ∧ M.cutL s.data.toList = [s.data.toList]) ∨
    ∃ i : Nat, i < s.size ∧ Lib.indexByte s.data.toList 44 = i ∧ M.cutL s.data.toList = (s.extract 0 i).data.toList :: M.cutL (s.extract (i + 1) s.size).data.toList := by
  by_cases h : Lib.indexByte s.data.toList 44 = -1
  · refine Or.inl ⟨h, M.cutL_none _ fun hm => ?_⟩
    obtain ⟨k, hk, e⟩ := List.mem_iff_getElem.1 hm
    exact Lib.indexByte_none h k (by rw [List.getElem?_eq_getElem hk, e])
  · have hg := Lib.indexByte_ge s.data.toList 44
    obtain ⟨i, hi⟩ : ∃ i : Nat, Lib.indexByte s.data.toList 44 = i := ⟨(Lib.indexByte s.data.toList 44).toNat, by omega⟩
    obtain ⟨h1, h2⟩ := Lib.indexByte_some hi
    have hlt : i < s.data.toList.length := (List.getElem?_eq_some_iff.1 h1).1
    have hsz : s.data.toList.length = s.size := by simp
    refine Or.inr ⟨i, by omega, hi, ?_⟩
    have e1 : (s.extract 0 i).data.toList = s.data.toList.take i := by simp [ByteArray.data_extract]
    have e2 : (s.extract (i + 1) s.size).data.toList = s.data.toList.drop (i + 1) := by
      rw [ByteArray.data_extract, Array.toList_extract, List.extract_eq_take_drop]
      exact List.take_of_length_le (by rw [List.length_drop]; omega)
    rw [e1, e2]
    have e3 : s.data.toList = s.data.toList.take i ++ 44 :: s.data.toList.drop (i + 1) := by
      have hx := List.getElem?_eq_some_iff.1 h1
      obtain ⟨hx1, hx2⟩ := hx
      rw [← hx2, List.getElem_cons_drop, List.take_append_drop]
    have hn : 44 ∉ s.data.toList.take i := fun hm => by
      obtain ⟨k, hk, e⟩ := List.mem_iff_getElem.1 hm
      rw [List.length_take] at hk
      exact h2 k (by omega) (by rw [List.getElem_take] at e; rw [List.getElem?_eq_getElem (by omega), e])
    have := M.cutL_append (s.data.toList.take i) (s.data.toList.drop (i + 1)) hn
    rw [← e3] at this
    exact this

abbrev Str := { s : ByteArray // s.size ≤ maxLen }
def lst (xs : List Str) : List (List UInt8) := xs.map fun x => x.1.data.toList
theorem lst_snoc (xs : List Str) (x : Str) : lst (xs ++ [x]) = lst xs ++ [x.1.data.toList] := by simp [lst]

def left (r m : Value) : Nat := match r, m with
  | .string s, .bool true => s.size + 1
  | _, _ => 0

theorem below_grown {w w' : World} (h : Below w.heap.size w w') : w.grownBy w' none := ⟨h.os, h.tape, h.output, h.size, fun k hk _ => h.block k hk⟩

set_option maxRecDepth 100000 in
set_option maxHeartbeats 1000000 in
theorem fields1 (n : Nat) (hn : 1 ≤ n) (l Bn : Nat) (s : ByteArray) (hs : s.size ≤ maxLen) (J Jx : List Str → World → Prop) (W : World) (hJ : AbidesFrom W.heap.size J)
    (hY : ∀ pre x W1, J pre W1 → pre.length < (M.cutL s.data.toList).length → YieldAt Fence.wide (n - 1) Tryz.prog l #[.string x.1] W1 fun e W' =>
      (e = .returned (.bool true) ∧ J (pre ++ [x]) W' ∧ True) ∨ (e = .returned (.bool false) ∧ Jx (pre ++ [x]) W'))
    (hc : W.cell? ⟨Bn, 0, none⟩ = some (.string s)) (h0 : J [] W) :
    CallsIn Fence.wide n Tryz.prog 156 #[.func (.yield l) #[] #[], .pointer (some ⟨Bn, 0, none⟩)] W fun e W' => (∃ v, e = .returned v) ∧
      ((∃ ys, lst ys = M.cutL s.data.toList ∧ J ys W') ∨ (∃ pre, lst pre <+: M.cutL s.data.toList ∧ Jx pre W')) := by
  have HJ := hide hJ
  have HY := hide hY
  clear hJ hY
  refine callsIn_of_wp Tryz.func156 rfl trivial ?_ rfl
  simp only [Tryz.ntmps156, List.size_toArray, List.length_cons, List.length_nil, Nat.reduceAdd, Nat.reduceSub, Array.replicate_succ, Array.replicate_zero, List.push_toArray, List.append_toArray, List.nil_append, List.cons_append]
  gi_wp2
  gi_loopw [3, 4] (fun r m wr => ∃ (pre : List Str) (q : ByteArray) (more : Bool), r = .string q ∧ m = .bool more ∧ q.size ≤ maxLen ∧ Hid (M.cutL s.data.toList = lst pre ++ if more then M.cutL q.data.toList else []) ∧ Hid (J pre wr)) (fun r m _ => left r m)
  case atStart => exact ⟨[], s, true, rfl, rfl, hs, hide (by simp [lst]), hide h0⟩
  case round =>
    obtain ⟨pre, q, more, rfl, rfl, hq, hcut, hJp⟩ := hrel
    cases more with
    | false =>
      gi_wp2
      go_end0
      exact ⟨⟨_, rfl⟩, .inl ⟨pre, by have := hcut.out; simpa using this.symm, hJp.out⟩⟩
    | true =>
      rcases cut_step q with ⟨hi, hcu⟩ | ⟨i, hilt, hi, hcu⟩
      · have HI := hide hi
        have HC := hide hcu
        clear hi hcu
        gi_wp2_with (refine ⟨trivial, ?_⟩; gi_at_call 84; refine (callsIn_wide.2 (cutMiss q _ HI.out)).mono ?_; rintro e w1 ⟨rfl, hb1⟩; obtain ⟨fn, tmps, assign, body, hy, hR⟩ := HY.out pre ⟨q, hq⟩ w1 (HJ.out pre _ _ none hJp.out (below_grown hb1) (fun r e => by cases e)) (by have := congrArg List.length hcut.out; rw [HC.out] at this; simp [lst] at this; omega))
        refine hR.mono ?_
        rintro e W3 (⟨rfl, hJ3, _⟩ | ⟨rfl, hJx3⟩)
        · have HJ3 := hide hJ3
          clear hJ3
          gi_wp2
          go_roundw
          case rel => exact ⟨pre ++ [⟨q, hq⟩], ⟨#[]⟩, false, rfl, rfl, by decide, hide (by rw [hcut.out, lst_snoc]; simp [HC.out]), HJ3⟩
          case measure => simp [left]
        · have HX3 := hide hJx3
          clear hJx3
          gi_wp2
          refine bodyPost_ret (results_none rfl _ _ _) rfl ?_
          exact ⟨⟨_, rfl⟩, .inr ⟨pre ++ [⟨q, hq⟩], ⟨[], by rw [hcut.out, lst_snoc]; simp [HC.out]⟩, HX3.out⟩⟩
      · have HI := hide hi
        have HC := hide hcu
        have HIL := hide hilt
        have hf : (q.extract 0 i).size ≤ maxLen := by rw [ByteArray.size_extract]; unfold maxLen at hq ⊢; omega
        have HF := hide hf
        have hrz : Hid ((q.extract (i + 1) q.size).size < q.size) := hide (by rw [ByteArray.size_extract]; omega)
        clear hi hcu hilt hf
        gi_wp2_with (refine ⟨trivial, ?_⟩; gi_at_call 84; refine (callsIn_wide.2 (cutHit q i _ hq HI.out HIL.out)).mono ?_; rintro e w1 ⟨rfl, hb1⟩; obtain ⟨fn, tmps, assign, body, hy, hR⟩ := HY.out pre ⟨q.extract 0 i, HF.out⟩ w1 (HJ.out pre _ _ none hJp.out (below_grown hb1) (fun r e => by cases e)) (by have := congrArg List.length hcut.out; rw [if_pos rfl, HC.out] at this; simp [lst] at this; omega))
        refine hR.mono ?_
        rintro e W3 (⟨rfl, hJ3, _⟩ | ⟨rfl, hJx3⟩)
        · have HJ3 := hide hJ3
          clear hJ3
          gi_wp2
          go_roundw
          case rel => exact ⟨pre ++ [⟨q.extract 0 i, HF.out⟩], q.extract (i + 1) q.size, true, rfl, rfl, by have := hrz.out; omega, hide (by rw [hcut.out, lst_snoc]; simp [HC.out]), HJ3⟩
          case measure => have := hrz.out; simp only [left]; omega
        · have HX3 := hide hJx3
          clear hJx3
          gi_wp2
          refine bodyPost_ret (results_none rfl _ _ _) rfl ?_
          exact ⟨⟨_, rfl⟩, .inr ⟨pre ++ [⟨q.extract 0 i, HF.out⟩], ⟨M.cutL (q.extract (i + 1) q.size).data.toList, by rw [hcut.out, lst_snoc]; simp [HC.out]⟩, HX3.out⟩⟩

theorem fields_stops (n : Nat) (hn : 1 ≤ n) (Bn : Nat) (s : ByteArray) (hs : s.size ≤ maxLen) (w : World) (hB : Bn < w.heap.size) (hc : w.cell? ⟨Bn, 0, none⟩ = some (.string s)) :
    SeqStopsK Fence.wide n Tryz.prog 156 #[.pointer (some ⟨Bn, 0, none⟩)] (fun x : Str => #[Value.string x.1]) (fun _ _ => True) (fun ys => lst ys = M.cutL s.data.toList) (fun pre => lst pre <+: M.cutL s.data.toList) (M.cutL s.data.toList).length w := fun l J Jx W hW hJ _ hY h0 =>
  fields1 n hn l Bn s hs J Jx W hJ hY ((hW.cell (p := ⟨Bn, 0, none⟩) hB).trans hc) h0

theorem fields (s : ByteArray) (w : World) : Calls Tryz.prog 128 #[.string s] w fun e w' => e = .returned (.func (.func 156) #[] #[.pointer (some ⟨w.heap.size, 0, none⟩)]) ∧ w' = w.alloc (.cells #[.string s] 9) := by
  go_enter Tryz.func128, Tryz.ntmps128
  go_wp2
  go_ret
  exact ⟨rfl, rfl⟩

end Go.Proofs.YtlefhfmckimlaakGreatDoor

namespace Go.Proofs.YtlefhfmckimlaakGreatDoor
open Go.RowKit Go.Shelf
attribute [local go_sem] Oper.semAt_some

/-- what has been put together of the fields that came -/
def vals (pre : List Str) : List M.Val := ((lst pre).map M.pVal).take 6
def okS (pre : List Str) : Prop := ∀ x ∈ pre, M.pErr x.1 = 0

theorem bytes_eq (x : ByteArray) : (⟨x.data.toList.toArray⟩ : ByteArray) = x := by cases x; simp
theorem pErrL_eq (x : ByteArray) : M.pErrL x.data.toList = M.pErr x := by unfold M.pErrL; rw [bytes_eq]
theorem pVal_eq (x : ByteArray) : M.pVal x.data.toList = ⟨M.pK x, M.pN x, M.pS x⟩ := by unfold M.pVal; rw [bytes_eq]
theorem vals_room {pre : List Str} (x : Str) (h : (vals pre).length ≤ 5) : vals (pre ++ [x]) = vals pre ++ [⟨M.pK x.1, M.pN x.1, M.pS x.1⟩] := by
  have hl : ((lst pre).map M.pVal).length ≤ 5 := by unfold vals at h; rw [List.length_take] at h; omega
  unfold vals
  rw [lst_snoc, List.map_append, List.take_of_length_le (by rw [List.length_append]; simp only [List.map_cons, List.map_nil, List.length_cons, List.length_nil]; omega), List.take_of_length_le (by omega)]
  simp [pVal_eq]
theorem vals_full {pre : List Str} (x : Str) (h : 5 < (vals pre).length) : vals (pre ++ [x]) = vals pre := by
  have hl : 6 ≤ ((lst pre).map M.pVal).length := by unfold vals at h; rw [List.length_take] at h; omega
  unfold vals
  rw [lst_snoc, List.map_append, List.take_append_of_le_length hl]
theorem vals_le (pre : List Str) : (vals pre).length ≤ 6 := by unfold vals; rw [List.length_take]; omega
theorem vals_ok {pre : List Str} (h : okS pre) : ∀ v ∈ vals pre, v.fault = 0 := fun v hv => by
  obtain ⟨p, hp, rfl⟩ := List.mem_map.1 (List.mem_of_mem_take hv)
  obtain ⟨x, hx, rfl⟩ := List.mem_map.1 hp
  rw [pVal_eq]
  exact (M.back_text (h x hx)).1
theorem fault_size {v : M.Val} (h : v.fault = 0) : v.s.size ≤ 12 := by
  obtain ⟨k, n, s⟩ := v
  simp only [M.Val.fault] at h
  rcases fault_kind h with rfl | rfl | rfl
  · have := (fault_num h).2.2; simp only; omega
  · exact (fault_text h).2.1
  · unfold M.fault M.faultA at h
    rw [if_neg (by decide), if_neg (by decide), if_pos rfl] at h
    by_cases e : n = 0 ∧ s.size = 0
    · simp only; omega
    · rw [if_neg e] at h; exact absurd h (by decide)
theorem vals_size {pre : List Str} (h : okS pre) : ∀ v ∈ vals pre, v.s.size ≤ maxLen := fun v hv => by
  have := fault_size (vals_ok h v hv); unfold maxLen; omega

theorem firstP_append : ∀ (a b : List (List UInt8)), (∀ p ∈ a, M.pErrL p = 0) → M.firstP (a ++ b) = M.firstP b
  | [], _, _ => rfl
  | p :: a, b, h => by
    show (if M.pErrL p ≠ 0 then M.pErrL p else M.firstP (a ++ b)) = _
    rw [if_neg (by have := h p (by simp); simpa using this)]
    exact firstP_append a b fun q hq => h q (by simp [hq])
theorem lst_ok {pre : List Str} (h : okS pre) : ∀ p ∈ lst pre, M.pErrL p = 0 := fun p hp => by
  obtain ⟨x, hx, rfl⟩ := List.mem_map.1 hp
  rw [pErrL_eq]; exact h x hx
theorem firstF_ok : ∀ {l : List M.Val}, (∀ v ∈ l, v.fault = 0) → M.firstF l = 0
  | [], _ => rfl
  | a :: l, h => by
    unfold M.firstF
    rw [if_neg (by have := h a (by simp); simpa using this)]
    exact firstF_ok fun v hv => h v (by simp [hv])

/-- a field that cannot be read -/
theorem parse_stop {l : List UInt8} {front : List Str} {x : Str} (h : lst (front ++ [x]) <+: M.cutL l) (hok : okS front) (hx : M.pErr x.1 ≠ 0) (hl : l.length ≠ 0) : M.readE l = M.pErr x.1 ∧ M.readV l = [] := by
  obtain ⟨r, hr⟩ := h
  have hf : M.firstP (M.cutL l) = M.pErr x.1 := by
    rw [← hr, lst_snoc, List.append_assoc, firstP_append _ _ (lst_ok hok)]
    show (if M.pErrL x.1.data.toList ≠ 0 then M.pErrL x.1.data.toList else M.firstP ([] ++ r)) = _
    rw [pErrL_eq, if_pos hx]
  have he : M.readE l = M.pErr x.1 := by unfold M.readE; rw [if_neg hl, hf, if_pos hx]
  exact ⟨he, by unfold M.readV; rw [he, if_pos hx]⟩
/-- all fields are read -/
theorem parse_done {l : List UInt8} {ys : List Str} (h : lst ys = M.cutL l) (hok : okS ys) (hl : l.length ≠ 0) :
    (M.readE l = 4 ∧ M.likeF (vals ys) = 4 ∧ M.readV l = []) ∨ (M.readE l = 0 ∧ M.likeF (vals ys) = 0 ∧ M.readV l = vals ys) := by
  have hf : M.firstP (M.cutL l) = 0 := by
    have := firstP_append (lst ys) [] (lst_ok hok)
    rw [List.append_nil] at this
    rw [← h, this]; rfl
  have hne : (M.cutL l).length ≠ 0 := fun e => M.cutL_ne l (List.length_eq_zero_iff.1 e)
  have hlen : (vals ys).length = min 6 (M.cutL l).length := by unfold vals; rw [List.length_take, List.length_map, h]
  by_cases h5 : 5 < (M.cutL l).length
  · refine Or.inl ?_
    have he : M.readE l = 4 := by unfold M.readE; rw [if_neg hl, hf, if_neg (by decide), if_pos h5]
    refine ⟨he, ?_, by unfold M.readV; rw [he, if_pos (by decide)]⟩
    unfold M.likeF
    rw [if_neg (by omega), if_pos (by omega)]
  · refine Or.inr ?_
    have he : M.readE l = 0 := by unfold M.readE; rw [if_neg hl, hf, if_neg (by decide), if_neg h5]
    refine ⟨he, ?_, ?_⟩
    · unfold M.likeF
      rw [if_neg (by omega), if_neg (by omega)]
      exact firstF_ok (vals_ok hok)
    · unfold M.readV
      rw [he, if_neg (by decide)]
      unfold vals
      rw [h, List.take_of_length_le (by rw [List.length_map]; omega)]

theorem below_others {w w' : World} (h : Below w.heap.size w w') : KeepsOthers w w' := ⟨h.size, fun k _ hk _ => (h.block k (Array.getElem?_eq_some_iff.1 hk).1).trans hk⟩
theorem boxed_below {w w' : World} {B : Nat} {t : TypeId} {v : Value} (h : Boxed w B t v) (hb : Below w.heap.size w w') : Boxed w' B t v := (hb.block B h.lt).trans h
theorem owns_below {w w' : World} {base : Nat} {e : TypeId} {size : Nat} {v : Value} {n : Nat} {xs : List Value} (h : w.ownsRow base e size v n xs) (hb : Below w.heap.size w w') : w'.ownsRow base e size v n xs := by
  refine h.kept (below_grown hb) ?_
  cases hv : v.ownBlock with
  | none => exact Or.inl rfl
  | some g => exact Or.inr (by simp)

def lastE (pre : List Str) : Int := match pre.getLast? with
  | some x => M.pErr x.1
  | none => 0
theorem lastE_snoc (pre : List Str) (x : Str) : lastE (pre ++ [x]) = M.pErr x.1 := by simp [lastE]
def Bad (pre : List Str) : Prop := ∃ front x, pre = front ++ [x] ∧ okS front ∧ M.pErr x.1 ≠ 0

theorem infoV : (Tryz.prog.info? 31).map (fun i => (i.zero, i.size, i.bytes)) = some (some (.agg #[.int .i64 0, .int .i64 0, .string ⟨#[]⟩]), 3, 32) := by kernel_rfl

/-- what holds between two rounds, and behind one that left -/
def InvI (w : World) (pre : List Str) (W : World) : Prop :=
  ((∃ v, Boxed W (w.heap.size + 1 + 1) 32 v ∧ W.ownsRow w.heap.size 31 3 v (vals pre).length (flat (vals pre)) ∧ True) ∧ (Boxed W w.heap.size 32 (.slice none 0 0) ∧ (Boxed W (w.heap.size + 1) 27 .nilIface ∧ okS pre))) ∧ Below w.heap.size w W
def InvX (w : World) (c : Code) (pre : List Str) (W : World) : Prop :=
  ((c = .ret ∧ Bad pre) ∧ (Boxed W w.heap.size 32 (.slice none 0 0) ∧ Boxed W (w.heap.size + 1) 27 (errV (lastE pre)))) ∧ Below w.heap.size w W
def cellsV (x : Str) : Obj := .cells #[.int .i64 (M.pK x.1), .int .i64 (M.pN x.1), .string (M.pS x.1)] 31

theorem okS_snoc {pre : List Str} {x : Str} (h : okS pre) (hx : M.pErr x.1 = 0) : okS (pre ++ [x]) := fun y hy => by
  rcases List.mem_append.1 hy with hy | hy
  · exact h y hy
  · simp at hy; subst hy; exact hx

theorem step_room {w W w1 w2 : World} {pre : List Str} {x : Str} {v v' : Value} {m : Nat} (hv : Boxed W (w.heap.size + 1 + 1) 32 v) (hR : Boxed W w.heap.size 32 (.slice none 0 0)) (hE : Boxed W (w.heap.size + 1) 27 .nilIface)
    (hrow : W.ownsRow w.heap.size 31 3 v (vals pre).length (flat (vals pre))) (hB : Below w.heap.size w W) (hok : okS pre) (hx : M.pErr x.1 = 0) (hm : m = (vals pre).length) (hr : m ≤ 5) (hb1 : Below W.heap.size W w1)
    (hown' : w2.ownsRow w.heap.size 31 3 v' (m + 1) (flat (vals pre) ++ [.int .i64 (M.pK x.1), .int .i64 (M.pN x.1), .string (M.pS x.1)])) (hgrow : ((w1.alloc (cellsV x)).alloc (cellsV x)).grownBy w2 v.ownBlock) :
    Boxed w2 (w.heap.size + 1 + 1) 32 v ∧ KeepsOthers W (w2.setCell ⟨w.heap.size + 1 + 1, 0, none⟩ v') ∧ InvI w (pre ++ [x]) (w2.setCell ⟨w.heap.size + 1 + 1, 0, none⟩ v') := by
  have hs1 := hb1.size
  have hs0 := hB.size
  have v1 := (boxed_below hv hb1).alloc (cellsV x)
  have r1 := (owns_below hrow hb1).alloc (cellsV x)
  have hle : w.heap.size ≤ (w1.alloc (cellsV x)).heap.size := by rw [World.size_alloc]; omega
  obtain ⟨a1, a2, a3, a4, a5⟩ := v1.appended (by decide) r1 hle (by omega) hown' hgrow
  have R2 := ((((boxed_below hR hb1).alloc (cellsV x)).alloc (cellsV x)).kept hgrow (((boxed_below hR hb1).alloc (cellsV x)).not_row (by decide) r1)).other (B' := w.heap.size + 1 + 1) (by omega) v'
  have E2 := ((((boxed_below hE hb1).alloc (cellsV x)).alloc (cellsV x)).kept hgrow (((boxed_below hE hb1).alloc (cellsV x)).not_row (by decide) r1)).other (B' := w.heap.size + 1 + 1) (by omega) v'
  have hvr := vals_room (pre := pre) x (by omega)
  refine ⟨a1, (below_others hb1).trans ((KeepsOthers.alloc w1 _).trans a4), ⟨⟨v', a2, ?_, trivial⟩, R2, E2, okS_snoc hok hx⟩, hB.trans ((hb1.mono hs0).trans (((Below.refl _ w1).alloc (by omega) _).trans a5))⟩
  rw [hvr, flat_append, List.length_append, ← hm]
  exact a3

theorem news_two (w1 : World) (x : Str) : ∀ j u, [Value.int .i64 (M.pK x.1), .int .i64 (M.pN x.1), .string (M.pS x.1)][j]? = some u → ((w1.alloc (cellsV x)).alloc (cellsV x)).cell? ((⟨w1.heap.size + 1, 0, none⟩ : Addr).add j) = some u := by
  have := World.news_of_block (heap_alloc_new (w1.alloc (cellsV x)) (cellsV x))
  rwa [World.size_alloc] at this
theorem row_at {W w1 : World} {B : Nat} {v : Value} {pre : List Str} {m : Nat} (h : W.ownsRow B 31 3 v (vals pre).length (flat (vals pre))) (hm : m = (vals pre).length) (hb : Below W.heap.size W w1) (x : Str) : ((w1.alloc (cellsV x)).alloc (cellsV x)).ownsRow B 31 3 v m (flat (vals pre)) := by
  rw [hm]; exact ((owns_below h hb).alloc _).alloc _

theorem step_full {w W w1 : World} {pre : List Str} {x : Str} {v : Value} (hv : Boxed W (w.heap.size + 1 + 1) 32 v) (hR : Boxed W w.heap.size 32 (.slice none 0 0)) (hE : Boxed W (w.heap.size + 1) 27 .nilIface)
    (hrow : W.ownsRow w.heap.size 31 3 v (vals pre).length (flat (vals pre))) (hB : Below w.heap.size w W) (hok : okS pre) (hx : M.pErr x.1 = 0) (hr : 5 < (vals pre).length) (hb1 : Below W.heap.size W w1) :
    KeepsOthers W (w1.alloc (cellsV x)) ∧ InvI w (pre ++ [x]) (w1.alloc (cellsV x)) := by
  have hs1 := hb1.size
  have hs0 := hB.size
  have hvr := vals_full (pre := pre) x hr
  refine ⟨(below_others hb1).trans (KeepsOthers.alloc w1 _), ⟨⟨v, (boxed_below hv hb1).alloc _, ?_, trivial⟩, (boxed_below hR hb1).alloc _, (boxed_below hE hb1).alloc _, okS_snoc hok hx⟩, hB.trans ((hb1.mono hs0).trans ((Below.refl _ w1).alloc (by omega) _))⟩
  rw [hvr]
  exact (owns_below hrow hb1).alloc _

theorem step_bad {w W w1 : World} {pre : List Str} {x : Str} (hR : Boxed W w.heap.size 32 (.slice none 0 0)) (hE : Boxed W (w.heap.size + 1) 27 .nilIface)
    (hB : Below w.heap.size w W) (hok : okS pre) (hx : M.pErr x.1 ≠ 0) (hb1 : Below W.heap.size W w1) :
    KeepsOthers W (((w1.setCell ⟨w.heap.size, 0, none⟩ (.slice none 0 0)).setCell ⟨w.heap.size + 1, 0, none⟩ (.iface 87 (.int .i64 (M.pErr x.1)))).alloc (cellsV x)) ∧
    InvX w .ret (pre ++ [x]) (((w1.setCell ⟨w.heap.size, 0, none⟩ (.slice none 0 0)).setCell ⟨w.heap.size + 1, 0, none⟩ (.iface 87 (.int .i64 (M.pErr x.1)))).alloc (cellsV x)) := by
  have hs1 := hb1.size
  have hs0 := hB.size
  have R1 := boxed_below hR hb1
  have E1 := boxed_below hE hb1
  have hz : w.heap.size ≤ ((w1.setCell ⟨w.heap.size, 0, none⟩ (.slice none 0 0)).setCell ⟨w.heap.size + 1, 0, none⟩ (.iface 87 (.int .i64 (M.pErr x.1)))).heap.size := by
    have h1 := (KeepsOthers.setCell w1 ⟨w.heap.size, 0, none⟩ (.slice none 0 0)).size
    have h2 := (KeepsOthers.setCell (w1.setCell ⟨w.heap.size, 0, none⟩ (.slice none 0 0)) ⟨w.heap.size + 1, 0, none⟩ (.iface 87 (.int .i64 (M.pErr x.1)))).size
    omega
  refine ⟨(below_others hb1).trans (((KeepsOthers.setCell _ _ _).trans (KeepsOthers.setCell _ _ _)).trans (KeepsOthers.alloc _ _)), ⟨⟨rfl, ⟨pre, x, rfl, hok, hx⟩⟩, ((R1.set _).other (by omega) _).alloc _, ?_⟩, ?_⟩
  · rw [lastE_snoc, errV_bad hx]
    exact ((E1.other (B' := w.heap.size) (by omega) _).set _).alloc _
  · exact hB.trans ((hb1.mono hs0).trans ((((Below.refl w.heap.size w1).setCell (p := ⟨w.heap.size, 0, none⟩) (Nat.le_refl _) _).setCell (p := ⟨w.heap.size + 1, 0, none⟩) (by simp) _).alloc hz _))

/-- the world behind the two stores of a return -/
def stored (w w2 : World) (r e : Value) : World := (w2.setCell ⟨w.heap.size, 0, none⟩ r).setCell ⟨w.heap.size + 1, 0, none⟩ e
theorem fin {w W w2 : World} {D : Nat} {r0 e0 : Value} (hR : Boxed W w.heap.size 32 r0) (hE : Boxed W (w.heap.size + 1) 27 e0) (hB : Below w.heap.size w W) (hb2 : Below W.heap.size W w2) (hK : W.heap[D]? = some (.deferred (some []))) (hD : w.heap.size ≤ D) (r e : Value) :
    (stored w w2 r e).heap[D]? = some (.deferred (some [])) ∧ ((stored w w2 r e).putObj D (.deferred none)).cell? ⟨w.heap.size, 0, none⟩ = some r ∧ ((stored w w2 r e).putObj D (.deferred none)).cell? ⟨w.heap.size + 1, 0, none⟩ = some e ∧ Below w.heap.size w ((stored w w2 r e).putObj D (.deferred none)) := by
  have hs2 := hb2.size
  have hs0 := hB.size
  have hK2 : (stored w w2 r e).heap[D]? = some (.deferred (some [])) := ((KeepsOthers.setCell _ _ _).trans (KeepsOthers.setCell _ _ _)).same D _ ((hb2.block D (Array.getElem?_eq_some_iff.1 hK).1).trans hK) rfl
  have R2 : Boxed (stored w w2 r e) w.heap.size 32 r := ((boxed_below hR hb2).set r).other (by omega) e
  have E2 : Boxed (stored w w2 r e) (w.heap.size + 1) 27 e := ((boxed_below hE hb2).other (B' := w.heap.size) (by omega) r).set e
  refine ⟨hK2, cell_kept R2.cell (grownBy_putObj' _ D _) (fun k hk => by cases hk; exact ⟨_, hK2, rfl⟩), cell_kept E2.cell (grownBy_putObj' _ D _) (fun k hk => by cases hk; exact ⟨_, hK2, rfl⟩), ?_⟩
  have b1 : Below w.heap.size w (stored w w2 r e) := hB.trans ((hb2.mono hs0).trans (((Below.refl w.heap.size w2).setCell (p := ⟨w.heap.size, 0, none⟩) (Nat.le_refl _) _).setCell (p := ⟨w.heap.size + 1, 0, none⟩) (by simp) _))
  exact b1.trans (belowK_b (w := w) (Nat.le_refl _) _ D _ _ hD hK2 rfl rfl)
theorem fin_row {w W w2 : World} {D : Nat} {v r e r0 e0 : Value} {n : Nat} {xs : List Value} (hrow : W.ownsRow w.heap.size 31 3 v n xs) (hR : Boxed W w.heap.size 32 r0) (hE : Boxed W (w.heap.size + 1) 27 e0) (hb2 : Below W.heap.size W w2) (hK : (stored w w2 r e).heap[D]? = some (.deferred (some []))) :
    ((stored w w2 r e).putObj D (.deferred none)).ownsRow w.heap.size 31 3 v n xs := by
  have r2 := owns_below hrow hb2
  have R2 := boxed_below hR hb2
  have E2 := boxed_below hE hb2
  have r3 := r2.kept (grownBy_setCell' w2 w.heap.size r) (.inr (R2.not_row (by decide) r2).symm)
  have E3 := E2.other (B' := w.heap.size) (by omega) r
  have r4 := r3.kept (grownBy_setCell' _ (w.heap.size + 1) e) (.inr (E3.not_row (by decide) r3).symm)
  exact ownsRow_putObj r4 _ hK rfl

set_option maxRecDepth 100000 in
set_option maxHeartbeats 4000000 in
theorem tparse_some (s : ByteArray) (w : World) (hs : s.size ≤ maxLen) (h0 : s.size ≠ 0) :
    Calls Tryz.prog 85 #[.string s] w fun e w' => (∃ v, e = .returned (.tuple #[v, errV (M.readE s.data.toList)]) ∧ w'.ownsRow w.heap.size 31 3 v (M.readV s.data.toList).length (flat (M.readV s.data.toList)) ∧ ∀ x ∈ M.readV s.data.toList, x.s.size ≤ maxLen) ∧ Below w.heap.size w w' := by
  obtain ⟨hn1, hn2⟩ := empty_of h0
  have HL0 : Hid (s.data.toList.length ≠ 0) := hide (by simpa using h0)
  clear h0
  obtain ⟨i0, hi, hz0, hz1, hz2⟩ := info_parts infoV
  have HI := hide (And.intro hi (And.intro hz0 (And.intro hz1 hz2)))
  clear hi hz0 hz1 hz2
  refine (callsIn_wide (n := 3)).1 ?_
  refine callsIn_of_wp_marks Tryz.func85 rfl trivial ?_ rfl
  simp only [Tryz.ntmps85, List.size_toArray, List.length_cons, List.length_nil, Nat.reduceAdd, Nat.reduceSub, Array.replicate_succ, Array.replicate_zero, List.push_toArray, List.append_toArray, List.nil_append, List.cons_append]
  gi_wp2_with (refine ⟨trivial, ?_⟩; gi_at_call 128; refine (callsIn_wide.2 (fields s _)).mono ?_; rintro e w' ⟨rfl, rfl⟩)
  have b0 := Boxed.new w 32 (.slice none 0 0)
  have b1 := Boxed.new (w.alloc (.cells #[.slice none 0 0] 32)) 27 .nilIface
  have b2 := Boxed.new ((w.alloc (.cells #[.slice none 0 0] 32)).alloc (.cells #[.nilIface] 27)) 32 (.slice none 0 0)
  have b3 := Boxed.new (((w.alloc (.cells #[.slice none 0 0] 32)).alloc (.cells #[.nilIface] 27)).alloc (.cells #[.slice none 0 0] 32)) 9 (.string s)
  simp only [World.size_alloc] at b1 b2 b3
  have hB0 : Below w.heap.size w ((((w.alloc (.cells #[.slice none 0 0] 32)).alloc (.cells #[.nilIface] 27)).alloc (.cells #[.slice none 0 0] 32)).alloc (.cells #[.string s] 9)) := ((((Below.refl _ w).alloc (Nat.le_refl _) _).alloc (by simp) _).alloc (by simp; omega) _).alloc (by simp; omega) _
  refine wpIn_rangeFunc_ownF rfl (by omega) (gf := 156) (lb := #[.pointer (some ⟨w.heap.size + 1 + 1 + 1, 0, none⟩)]) rfl trivial (enters_of Tryz.func156 (by kernel_rfl) rfl)
    (fields_stops _ (by omega) (w.heap.size + 1 + 1 + 1) s hs _ (by simp) b3.cell) (fun _ _ => trivial) (fun _ _ _ _ _ _ _ _ => trivial) (Below.refl _ _) (fun _ => rfl)
    (InvI w) (InvX w)
    (OwnFrom.and (OwnFrom.and (Own.from (holdsRow_own w.heap.size (w.heap.size + 1 + 1) 32 31 3 (fun pre => (vals pre).length) (fun pre => flat (vals pre)) (fun _ _ => True)) _) (OwnFrom.and (Own.from (boxed_own _ _ (fun _ => .slice none 0 0)) _) (OwnFrom.and (Own.from (boxed_own _ _ (fun _ => .nilIface)) _) (ownFrom_pure _ _)))) (ownFrom_below (Nat.le_refl _) (by simp; omega)))
    (fun c => OwnFrom.and (OwnFrom.and (ownFrom_pure _ _) (OwnFrom.and (Own.from (boxed_own _ _ (fun _ => .slice none 0 0)) _) (Own.from (boxed_own _ _ (fun pre => errV (lastE pre))) _))) (ownFrom_below (Nat.le_refl _) (by simp; omega)))
    ⟨⟨⟨_, b2.alloc _, World.ownsRow_nil _ _ _ _, trivial⟩, ((b0.alloc _).alloc _).alloc _, (b1.alloc _).alloc _, fun x hx => by simp at hx⟩, hB0⟩
    (fun x => { tmps := #[.string s, undef, .pointer (some ⟨w.heap.size, 0, none⟩), .pointer (some ⟨w.heap.size + 1, 0, none⟩), .pointer (some ⟨w.heap.size + 1 + 1, 0, none⟩), .string x.1, undef, undef, undef, .string s, .bool false, undef, .string s, .func (.func 156) #[] #[.pointer (some ⟨w.heap.size + 1 + 1 + 1, 0, none⟩)], .string x.1, undef, undef, undef, undef, undef, undef, undef, undef, undef, undef, undef, undef, undef, undef, undef, undef, undef, undef, undef, undef, undef], defers := [] }) ?assign ?body ?done ?stop
  case assign =>
    intro l x W K hK
    gi_wp2
    exact hK
  case body =>
    rintro l pre x W ⟨⟨⟨v, hv, hrow, _⟩, hbR, hbE, hok⟩, hB⟩ _
    have HOK := hide hok
    have HB := hide hB
    have HBR := hide hbR
    have HBE := hide hbE
    have HV := hide hv
    have HROW := hide hrow
    clear hok hB hbR hbE b0 b1 b2 b3 hB0
    have hln := HBR.out.lt
    have hln1 := HBE.out.lt
    by_cases hx : M.pErr x.1 = 0
    · have HP : Hid (∀ w, Calls Tryz.prog 129 #[.string x.1] w fun e w' => e = .returned (.tuple #[.agg #[.int .i64 (M.pK x.1), .int .i64 (M.pN x.1), .string (M.pS x.1)], .nilIface]) ∧ Below w.heap.size w w') := hide fun w => by have := parse x.1 w x.2; rwa [hx] at this
      have HX := hide hx
      clear hx
      obtain ⟨m, hm⟩ : ∃ m, m = (vals pre).length := ⟨_, rfl⟩
      have hm6 : m ≤ 6 := by have := vals_le pre; omega
      obtain ⟨ao, cap, hvs⟩ : ∃ ao cap, v = .slice ao m cap := by
        rcases hrow.2 with ⟨h1, h2⟩ | ⟨g, cap, _, h1, _⟩
        · exact ⟨none, 0, by rw [h1, hm, h2]⟩
        · exact ⟨_, cap, by rw [h1, hm]⟩
      subst hvs
      clear hrow hv
      have HM := hide hm
      clear hm
      by_cases hr : m ≤ 5
      · have hr' : (m : Int) ≤ 5 := by omega
        gi_wp2_with (first
          | (refine ⟨trivial, ?_⟩; gi_at_call 129; (refine (CallsIn.inRound l (callsIn_wide.2 (HP.out _))).mono ?_; rintro e w1 ⟨rfl, hb1⟩; have hv1 := boxed_below HV.out hb1; have hc1 := hv1.cell; have hl1 := hv1.lt; have HB1 := hide hb1; have HSZ : Hid (w.heap.size ≤ w1.heap.size) := hide (Nat.le_trans HB.out.size hb1.size); have HROW1 := hide (row_at HROW.out HM.out hb1 x); have HNEW := hide (news_two w1 x); clear hv1 hb1))
          | (gi_at_builtin; (refine wpListIn_append_own _ rfl _ _ 32 rfl w.heap.size 31 i0 (.agg #[.int .i64 0, .int .i64 0, .string ⟨#[]⟩]) 3 32 Tryz.underlying32 HI.out.1 HI.out.2.1 HI.out.2.2.1 HI.out.2.2.2 rfl (by decide) _ m (flat (vals pre)) rfl HROW1.out ⟨w1.heap.size + 1, 0, none⟩ 1 1 [.int .i64 (M.pK x.1), .int .i64 (M.pN x.1), .string (M.pS x.1)] rfl rfl HNEW.out (flat_oneCell [⟨M.pK x.1, M.pN x.1, M.pS x.1⟩]) (by unfold maxLen; omega) (by omega) (by have := HSZ.out; simp; omega) ?_); intro v' w2 hown' hgrow _; have HST := hide (step_room HV.out HBR.out HBE.out HROW.out HB.out HOK.out HX.out HM.out hr HB1.out hown' hgrow); obtain ⟨g', cap', rfl⟩ := ownsRow_succ hown'; have hc2 := HST.out.1.cell; have hf2 := HST.out.1.frozen; clear hown' hgrow))
        exact ⟨HST.out.2.1, trivial, HST.out.2.2⟩
      · have hr' : ¬ (m : Int) ≤ 5 := by omega
        gi_wp2_with (refine ⟨trivial, ?_⟩; gi_at_call 129; refine (CallsIn.inRound l (callsIn_wide.2 (HP.out _))).mono ?_; rintro e w1 ⟨rfl, hb1⟩; have hv1 := boxed_below HV.out hb1; have hc1 := hv1.cell; have hl1 := hv1.lt; have HST := hide (step_full HV.out HBR.out HBE.out HROW.out HB.out HOK.out HX.out (by have := HM.out; omega) hb1); clear hv1 hb1)
        exact ⟨HST.out.1, trivial, HST.out.2⟩
    · have HP : Hid (∀ w, Calls Tryz.prog 129 #[.string x.1] w fun e w' => e = .returned (.tuple #[.agg #[.int .i64 (M.pK x.1), .int .i64 (M.pN x.1), .string (M.pS x.1)], .iface 87 (.int .i64 (M.pErr x.1))]) ∧ Below w.heap.size w w') := hide fun w => by have := parse x.1 w x.2; rwa [errV_bad hx] at this
      have HX := hide hx
      clear hx hrow hv
      gi_wp2_with (refine ⟨trivial, ?_⟩; gi_at_call 129; refine (CallsIn.inRound l (callsIn_wide.2 (HP.out _))).mono ?_; rintro e w1 ⟨rfl, hb1⟩; have hR1 := boxed_below HBR.out hb1; have hcR := hR1.cell; have hfR := hR1.frozen; have hlR := hR1.lt; have hE1 := boxed_below HBE.out hb1; have hcE := hE1.cell; have hfE := hE1.frozen; have hlE := hE1.lt; have HST := hide (step_bad HBR.out HBE.out HB.out HOK.out HX.out hb1); clear hR1 hE1 hb1)
      exact ⟨HST.out.1, HST.out.2⟩
  case done =>
    rintro D ys W hD hys ⟨⟨⟨v, hv, hrow, _⟩, hbR, hbE, hok⟩, hB⟩ hK
    have hD' : w.heap.size ≤ D := by simp at hD; omega
    have hc := hv.cell
    have hl2 := hv.lt
    have hIs : IsVals W v (vals ys) := isVals_own (vals_size hok) hrow
    obtain ⟨m, hm⟩ : ∃ m, m = (vals ys).length := ⟨_, rfl⟩
    obtain ⟨ao, cap, hvs⟩ : ∃ ao cap, v = .slice ao m cap := by
      rcases hrow.2 with ⟨h1, h2⟩ | ⟨g, cap, _, h1, _⟩
      · exact ⟨none, 0, by rw [h1, hm, h2]⟩
      · exact ⟨_, cap, by rw [h1, hm]⟩
    subst hvs
    have HROW := hide hrow
    have HBR := hide hbR
    have HBE := hide hbE
    have HB := hide hB
    have HK := hide hK
    have HD := hide hD'
    have HOK := hide hok
    have HIS := hide hIs
    rcases parse_done hys hok HL0.out with ⟨e1, e2, e3⟩ | ⟨e1, e2, e3⟩
    · have HLk : Hid (Calls Tryz.prog 99 #[.slice ao m cap] W fun e w' => e = .returned (.iface 87 (.int .i64 4)) ∧ Below W.heap.size W w') := hide (by have := like _ (vals ys) W hIs; rwa [e2] at this)
      have H1 := hide e1
      have H3 := hide e3
      clear hrow hbR hbE hB hK hok hIs e1 e2 e3 hys hv hD hm b0 b1 b2 b3 hB0 hD'
      gi_wp2_with (refine ⟨trivial, ?_⟩; gi_at_call 99; refine (callsIn_wide.2 HLk.out).mono ?_; rintro e w2 ⟨rfl, hb2⟩; have hR1 := boxed_below HBR.out hb2; have hcR := hR1.cell; have hfR := hR1.frozen; have hE1 := boxed_below HBE.out hb2; have hcE := hE1.cell; have hfE := hE1.frozen; have HF := hide (fin HBR.out HBE.out HB.out hb2 HK.out HD.out (.slice none 0 0) (.iface 87 (.int .i64 4))); clear hR1 hE1 hb2)
      refine ⟨by simp, .inl ⟨_, _, rfl, run_takeDeferred HF.out.1, ?_⟩⟩
      have q1 := HF.out.2.1
      have q2 := HF.out.2.2.1
      refine ⟨.tuple #[.slice none 0 0, .iface 87 (.int .i64 4)], ?_, ⟨.slice none 0 0, by rw [H1.out]; rfl, by rw [H3.out]; exact ⟨World.ownsRow_nil _ _ _ _, fun x hx => by simp at hx⟩⟩, HF.out.2.2.2⟩
      unfold stored at q1 q2
      simp [results, Tryz.f85, go_sem, q1, q2]
    · have HLk : Hid (Calls Tryz.prog 99 #[.slice ao m cap] W fun e w' => e = .returned .nilIface ∧ Below W.heap.size W w') := hide (by have := like _ (vals ys) W hIs; rwa [e2] at this)
      have H1 := hide e1
      have H3 := hide e3
      clear hrow hbR hbE hB hK hok hIs e1 e2 e3 hys hv hD hm b0 b1 b2 b3 hB0 hD'
      gi_wp2_with (refine ⟨trivial, ?_⟩; gi_at_call 99; refine (callsIn_wide.2 HLk.out).mono ?_; rintro e w2 ⟨rfl, hb2⟩; have hc2 := (hb2.cell (p := ⟨w.heap.size + 1 + 1, 0, none⟩) hl2).trans hc; have hR1 := boxed_below HBR.out hb2; have hcR := hR1.cell; have hfR := hR1.frozen; have hE1 := boxed_below HBE.out hb2; have hcE := hE1.cell; have hfE := hE1.frozen; have HF := hide (fin HBR.out HBE.out HB.out hb2 HK.out HD.out (.slice ao m cap) .nilIface); have HFR := hide (fin_row HROW.out HBR.out HBE.out hb2 HF.out.1); clear hR1 hE1 hb2)
      refine ⟨by simp, .inl ⟨_, _, rfl, run_takeDeferred HF.out.1, ?_⟩⟩
      have q1 := HF.out.2.1
      have q2 := HF.out.2.2.1
      refine ⟨.tuple #[.slice ao m cap, .nilIface], ?_, ⟨.slice ao m cap, by rw [H1.out]; rfl, by rw [H3.out]; exact ⟨HFR.out, vals_size HOK.out⟩⟩, HF.out.2.2.2⟩
      unfold stored at q1 q2
      simp [results, Tryz.f85, go_sem, q1, q2]
  case stop =>
    rintro D c pre W hD hpre ⟨⟨⟨rfl, front, x, rfl, hok, hx⟩, hbR, hbE⟩, hB⟩ hK
    obtain ⟨e1, e2⟩ := parse_stop hpre hok hx HL0.out
    rw [lastE_snoc] at hbE
    have hD' : w.heap.size ≤ D := by simp at hD; omega
    have q1 := cell_kept hbR.cell (grownBy_putObj' _ D (.deferred none)) (fun r e => by cases e; exact ⟨_, hK, rfl⟩)
    have q2 := cell_kept hbE.cell (grownBy_putObj' _ D (.deferred none)) (fun r e => by cases e; exact ⟨_, hK, rfl⟩)
    have q3 : Below w.heap.size w (W.putObj D (.deferred none)) := hB.trans (belowK_b (w := w) (Nat.le_refl _) W D _ _ hD' hK rfl rfl)
    gi_wp2
    refine ⟨by simp, .inl ⟨_, _, rfl, run_takeDeferred hK, ?_⟩⟩
    refine ⟨.tuple #[.slice none 0 0, errV (M.pErr x.1)], ?_, ⟨.slice none 0 0, by rw [e1], by rw [e2]; exact ⟨World.ownsRow_nil _ _ _ _, fun x hx => by simp at hx⟩⟩, q3⟩
    simp [results, Tryz.f85, go_sem, q1, q2]

theorem tparse_none (w : World) : Calls Tryz.prog 85 #[.string ⟨#[]⟩] w fun e w' => e = .returned (.tuple #[.slice none 0 0, .iface 87 (.int .i64 5)]) ∧ Below w.heap.size w w' := by
  go_enter Tryz.func85, Tryz.ntmps85
  go_wp2
  exact bodyPost_ret (v := .tuple #[.slice none 0 0, .iface 87 (.int .i64 5)]) (by simp [results, Tryz.results85, go_sem]) rfl ⟨rfl, ((Below.refl _ _).alloc (Nat.le_refl _) _).alloc (by simp) _⟩

/-- .. in memory of its own -/
theorem tparseO (s : ByteArray) (w : World) (hs : s.size ≤ maxLen) :
    Calls Tryz.prog 85 #[.string s] w fun e w' => (∃ v, e = .returned (.tuple #[v, errV (M.readE s.data.toList)]) ∧ w'.ownsRow w.heap.size 31 3 v (M.readV s.data.toList).length (flat (M.readV s.data.toList)) ∧ ∀ x ∈ M.readV s.data.toList, x.s.size ≤ maxLen) ∧ Below w.heap.size w w' := by
  by_cases h : s.size = 0
  · have := size0 h; subst this
    refine (tparse_none w).mono ?_
    rintro e w' ⟨rfl, hb⟩
    exact ⟨⟨_, rfl, World.ownsRow_nil _ _ _ _, fun x hx => by exact absurd hx (by simp [M.readV, M.readE])⟩, hb⟩
  · exact tparse_some s w hs h
theorem tparse (s : ByteArray) (w : World) (hs : s.size ≤ maxLen) :
    Calls Tryz.prog 85 #[.string s] w fun e w' => (∃ v, e = .returned (.tuple #[v, errV (M.readE s.data.toList)]) ∧ IsVals w' v (M.readV s.data.toList)) ∧ Below w.heap.size w w' := by
  refine (tparseO s w hs).mono ?_
  rintro e w' ⟨⟨v, rfl, h1, h2⟩, hb⟩
  exact ⟨⟨v, rfl, isVals_own h2 h1⟩, hb⟩

end Go.Proofs.YtlefhfmckimlaakGreatDoor
