/-
  What strings.Cut at a comma does, and the iterator over the fields of a text.
-/
import Derived.Test.YtlefhfmckimlaajGreatDoorShelf
import Derived.Test.YtlefhfmckimlaajGreatDoorJ15A
import Derived.Test.YtlefhfmckimlaajGreatDoorValWalks
import Derived.Lib.IndexLaws
import Derived.BigQuiet
import Derived.Deep.QuietTactic
import Derived.RangeFuncNested
import Derived.RangeFuncBound
import Derived.RangeFuncCalls
import Derived.RangeFuncLeaves
import Derived.Shelf.Abstract
import Derived.Shelf.RegionOpen
import Derived.WalkKit
import Derived.OwnWalkIn
import Derived.TacticsInMore
import Derived.LoopNIn
import Derived.LoopIn
import Derived.WalkSmall
namespace Go.Proofs.YtlefhfmckimlaajGreatDoor
open Go.RowKit Go.Shelf
attribute [local go_sem] Oper.semAt_some

theorem sliteMiss (s : ByteArray) (w : World) (hi : Lib.indexByte s.data.toList 44 = -1) :
    Calls Tryz.prog 103 #[.string s, .string ⟨#[44]⟩] w fun e w' => e = .returned (.tuple #[.string s, .string ⟨#[]⟩, .bool false]) ∧ Below w.heap.size w w' := by
  have HI : Hid (Calls Tryz.prog 127 #[.string s, .string ⟨#[44]⟩] w fun e w' => e = .returned (.int .i64 (-1)) ∧ w' = w) := hide (by have := Tryz.stringslite_Index_one s 44 w; rwa [hi] at this)
  clear hi
  go_enter Tryz.func103, Tryz.ntmps103
  go_wp2_with fail
  refine (unhide HI).mono ?_
  rintro e w1 ⟨rfl, rfl⟩
  go_wp2_with fail
  exact bodyPost_ret (v := .tuple #[.string s, .string ⟨#[]⟩, .bool false]) (by simp [results, Tryz.results103, go_sem]) rfl ⟨rfl, Below.refl _ _⟩

theorem sliteHit (s : ByteArray) (i : Nat) (w : World) (hs : s.size ≤ maxLen) (hi : Lib.indexByte s.data.toList 44 = i) (hlt : i < s.size) :
    Calls Tryz.prog 103 #[.string s, .string ⟨#[44]⟩] w fun e w' => e = .returned (.tuple #[.string (s.extract 0 i), .string (s.extract (i + 1) s.size), .bool true]) ∧ Below w.heap.size w w' := by
  unfold maxLen at hs
  have HI : Hid (Calls Tryz.prog 127 #[.string s, .string ⟨#[44]⟩] w fun e w' => e = .returned (.int .i64 i) ∧ w' = w) := hide (by have := Tryz.stringslite_Index_one s 44 w; rwa [hi] at this)
  clear hi
  have h0 : (0 : Int) ≤ (i : Int) := by omega
  have h1 : (i : Int) + 1 ≤ (s.size : Int) := by omega
  have h2 : (i : Int) ≤ (s.size : Int) := by omega
  go_enter Tryz.func103, Tryz.ntmps103
  go_wp2_with fail
  refine (unhide HI).mono ?_
  rintro e w1 ⟨rfl, rfl⟩
  go_wp2_with fail
  go_quiet (fail)
  go_wp2
  exact bodyPost_ret (v := .tuple #[.string (s.extract 0 i), .string (s.extract (i + 1) s.size), .bool true]) (by simp [results, Tryz.results103, go_sem]) rfl ⟨rfl, Go.below_drewN (Below.refl _ _) _⟩

theorem cutMiss (s : ByteArray) (w : World) (hi : Lib.indexByte s.data.toList 44 = -1) :
    Calls Tryz.prog 69 #[.string s, .string ⟨#[44]⟩] w fun e w' => e = .returned (.tuple #[.string s, .string ⟨#[]⟩, .bool false]) ∧ Below w.heap.size w w' := by
  go_enter Tryz.func69, Tryz.ntmps69
  go_wp2_with fail
  refine (sliteMiss s _ hi).mono ?_
  rintro e w1 ⟨rfl, hb⟩
  go_wp2_with fail
  exact bodyPost_ret (v := .tuple #[.string s, .string ⟨#[]⟩, .bool false]) (by simp [results, Tryz.results69, go_sem]) rfl ⟨rfl, hb⟩
theorem cutHit (s : ByteArray) (i : Nat) (w : World) (hs : s.size ≤ maxLen) (hi : Lib.indexByte s.data.toList 44 = i) (hlt : i < s.size) :
    Calls Tryz.prog 69 #[.string s, .string ⟨#[44]⟩] w fun e w' => e = .returned (.tuple #[.string (s.extract 0 i), .string (s.extract (i + 1) s.size), .bool true]) ∧ Below w.heap.size w w' := by
  have HI := hide hi
  have HL := hide hlt
  clear hi hlt
  go_enter Tryz.func69, Tryz.ntmps69
  go_wp2_with fail
  refine (sliteHit s i _ hs HI.out HL.out).mono ?_
  rintro e w1 ⟨rfl, hb⟩
  go_wp2_with fail
  exact bodyPost_ret (v := .tuple #[.string (s.extract 0 i), .string (s.extract (i + 1) s.size), .bool true]) (by simp [results, Tryz.results69, go_sem]) rfl ⟨rfl, hb⟩

/-- at its first comma, or nowhere -/
theorem cut_step (s : ByteArray) : (Lib.indexByte s.data.toList 44 = -1 ∧ M.cutL s.data.toList = [s.data.toList]) ∨
    ∃ i : Nat, i < s.size ∧ Lib.indexByte s.data.toList 44 = i ∧ M.cutL s.data.toList = (s.extract 0 i).data.toList :: M.cutL (s.extract (i + 1) s.size).data.toList := by
  by_cases h : Lib.indexByte s.data.toList 44 = -1
  · refine Or.inl ⟨h, M.cutL_none _ fun hm => ?_⟩
    obtain ⟨k, hk, e⟩ := List.mem_iff_getElem.1 hm
    exact Lib.indexByte_none h k (by rw [List.getElem?_eq_getElem hk, e])
  · have hg := Lib.indexByte_ge s.data.toList 44
    obtain ⟨i, hi⟩ : ∃ i : Nat, Lib.indexByte s.data.toList 44 = i := ⟨(Lib.indexByte s.data.toList 44).toNat, by omega⟩
    obtain ⟨h1, h2⟩ := Lib.indexByte_some hi
    have hlt : i < s.data.toList.length := (List.getElem?_eq_some_iff.1 h1).1
    have hsz : s.data.toList.length = s.size := by simp
    refine Or.inr ⟨i, by omega, hi, ?_⟩
    have e1 : (s.extract 0 i).data.toList = s.data.toList.take i := by simp [ByteArray.data_extract]
    have e2 : (s.extract (i + 1) s.size).data.toList = s.data.toList.drop (i + 1) := by
      rw [ByteArray.data_extract, Array.toList_extract, List.extract_eq_take_drop]
      exact List.take_of_length_le (by rw [List.length_drop]; omega)
    rw [e1, e2]
    have e3 : s.data.toList = s.data.toList.take i ++ 44 :: s.data.toList.drop (i + 1) := by
      have hx := List.getElem?_eq_some_iff.1 h1
      obtain ⟨hx1, hx2⟩ := hx
      rw [← hx2, List.getElem_cons_drop, List.take_append_drop]
    have hn : 44 ∉ s.data.toList.take i := fun hm => by
      obtain ⟨k, hk, e⟩ := List.mem_iff_getElem.1 hm
      rw [List.length_take] at hk
      exact h2 k (by omega) (by rw [List.getElem_take] at e; rw [List.getElem?_eq_getElem (by omega), e])
    have := M.cutL_append (s.data.toList.take i) (s.data.toList.drop (i + 1)) hn
    rw [← e3] at this
    exact this

abbrev Str := { s : ByteArray // s.size ≤ maxLen }
def lst (xs : List Str) : List (List UInt8) := xs.map fun x => x.1.data.toList
theorem lst_snoc (xs : List Str) (x : Str) : lst (xs ++ [x]) = lst xs ++ [x.1.data.toList] := by simp [lst]

def left (r m : Value) : Nat := match r, m with
  | .string s, .bool true => s.size + 1
  | _, _ => 0

theorem below_grown {w w' : World} (h : Below w.heap.size w w') : w.grownBy w' none := ⟨h.os, h.tape, h.output, h.size, fun k hk _ => h.block k hk⟩

set_option maxRecDepth 100000 in
set_option maxHeartbeats 1000000 in
theorem fields1 (n : Nat) (hn : 1 ≤ n) (l Bn : Nat) (s : ByteArray) (hs : s.size ≤ maxLen) (J Jx : List Str → World → Prop) (W : World) (hJ : AbidesFrom W.heap.size J)
    (hY : ∀ pre x W1, J pre W1 → pre.length < (M.cutL s.data.toList).length → YieldAt Fence.wide (n - 1) Tryz.prog l #[.string x.1] W1 fun e W' =>
      (e = .returned (.bool true) ∧ J (pre ++ [x]) W' ∧ True) ∨ (e = .returned (.bool false) ∧ Jx (pre ++ [x]) W'))
    (hc : W.cell? ⟨Bn, 0, none⟩ = some (.string s)) (h0 : J [] W) :
    CallsIn Fence.wide n Tryz.prog 129 #[.func (.yield l) #[] #[], .pointer (some ⟨Bn, 0, none⟩)] W fun e W' => (∃ v, e = .returned v) ∧
      ((∃ ys, lst ys = M.cutL s.data.toList ∧ J ys W') ∨ (∃ pre, lst pre <+: M.cutL s.data.toList ∧ Jx pre W')) := by
  have HJ := hide hJ
  have HY := hide hY
  clear hJ hY
  refine callsIn_of_wp Tryz.func129 rfl trivial ?_ rfl
  simp only [Tryz.ntmps129, List.size_toArray, List.length_cons, List.length_nil, Nat.reduceAdd, Nat.reduceSub, Array.replicate_succ, Array.replicate_zero, List.push_toArray, List.append_toArray, List.nil_append, List.cons_append]
  gi_wp2
  gi_loopw [3, 4] (fun r m wr => ∃ (pre : List Str) (q : ByteArray) (more : Bool), r = .string q ∧ m = .bool more ∧ q.size ≤ maxLen ∧ Hid (M.cutL s.data.toList = lst pre ++ if more then M.cutL q.data.toList else []) ∧ Hid (J pre wr)) (fun r m _ => left r m)
  case atStart => exact ⟨[], s, true, rfl, rfl, hs, hide (by simp [lst]), hide h0⟩
  case round =>
    obtain ⟨pre, q, more, rfl, rfl, hq, hcut, hJp⟩ := hrel
    cases more with
    | false =>
      gi_wp2
      go_end0
      exact ⟨⟨_, rfl⟩, .inl ⟨pre, by have := hcut.out; simpa using this.symm, hJp.out⟩⟩
    | true =>
      rcases cut_step q with ⟨hi, hcu⟩ | ⟨i, hilt, hi, hcu⟩
      · have HI := hide hi
        have HC := hide hcu
        clear hi hcu
        gi_wp2_with (refine ⟨trivial, ?_⟩; gi_at_call 69; refine (callsIn_wide.2 (cutMiss q _ HI.out)).mono ?_; rintro e w1 ⟨rfl, hb1⟩; obtain ⟨fn, tmps, assign, body, hy, hR⟩ := HY.out pre ⟨q, hq⟩ w1 (HJ.out pre _ _ none hJp.out (below_grown hb1) (fun r e => by cases e)) (by have := congrArg List.length hcut.out; rw [HC.out] at this; simp [lst] at this; omega))
        refine hR.mono ?_
        rintro e W3 (⟨rfl, hJ3, _⟩ | ⟨rfl, hJx3⟩)
        · have HJ3 := hide hJ3
          clear hJ3
          gi_wp2
          go_roundw
          case rel => exact ⟨pre ++ [⟨q, hq⟩], ⟨#[]⟩, false, rfl, rfl, by decide, hide (by rw [hcut.out, lst_snoc]; simp [HC.out]), HJ3⟩
          case measure => simp [left]
        · have HX3 := hide hJx3
          clear hJx3
          gi_wp2
          refine bodyPost_ret (results_none rfl _ _ _) rfl ?_
          exact ⟨⟨_, rfl⟩, .inr ⟨pre ++ [⟨q, hq⟩], ⟨[], by rw [hcut.out, lst_snoc]; simp [HC.out]⟩, HX3.out⟩⟩
      · have HI := hide hi
        have HC := hide hcu
        have HIL := hide hilt
        have hf : (q.extract 0 i).size ≤ maxLen := by rw [ByteArray.size_extract]; unfold maxLen at hq ⊢; omega
        have HF := hide hf
        have hrz : Hid ((q.extract (i + 1) q.size).size < q.size) := hide (by rw [ByteArray.size_extract]; omega)
        clear hi hcu hilt hf
        gi_wp2_with (refine ⟨trivial, ?_⟩; gi_at_call 69; refine (callsIn_wide.2 (cutHit q i _ hq HI.out HIL.out)).mono ?_; rintro e w1 ⟨rfl, hb1⟩; obtain ⟨fn, tmps, assign, body, hy, hR⟩ := HY.out pre ⟨q.extract 0 i, HF.out⟩ w1 (HJ.out pre _ _ none hJp.out (below_grown hb1) (fun r e => by cases e)) (by have := congrArg List.length hcut.out; rw [if_pos rfl, HC.out] at this; simp [lst] at this; omega))
        refine hR.mono ?_
        rintro e W3 (⟨rfl, hJ3, _⟩ | ⟨rfl, hJx3⟩)
        · have HJ3 := hide hJ3
          clear hJ3
          gi_wp2
          go_roundw
          case rel => exact ⟨pre ++ [⟨q.extract 0 i, HF.out⟩], q.extract (i + 1) q.size, true, rfl, rfl, by have := hrz.out; omega, hide (by rw [hcut.out, lst_snoc]; simp [HC.out]), HJ3⟩
          case measure => have := hrz.out; simp only [left]; omega
        · have HX3 := hide hJx3
          clear hJx3
          gi_wp2
          refine bodyPost_ret (results_none rfl _ _ _) rfl ?_
          exact ⟨⟨_, rfl⟩, .inr ⟨pre ++ [⟨q.extract 0 i, HF.out⟩], ⟨M.cutL (q.extract (i + 1) q.size).data.toList, by rw [hcut.out, lst_snoc]; simp [HC.out]⟩, HX3.out⟩⟩

theorem fields_stops (n : Nat) (hn : 1 ≤ n) (Bn : Nat) (s : ByteArray) (hs : s.size ≤ maxLen) (w : World) (hB : Bn < w.heap.size) (hc : w.cell? ⟨Bn, 0, none⟩ = some (.string s)) :
    SeqStopsK Fence.wide n Tryz.prog 129 #[.pointer (some ⟨Bn, 0, none⟩)] (fun x : Str => #[Value.string x.1]) (fun _ _ => True) (fun ys => lst ys = M.cutL s.data.toList) (fun pre => lst pre <+: M.cutL s.data.toList) (M.cutL s.data.toList).length w := fun l J Jx W hW hJ _ hY h0 =>
  fields1 n hn l Bn s hs J Jx W hJ hY ((hW.cell (p := ⟨Bn, 0, none⟩) hB).trans hc) h0

theorem fields (s : ByteArray) (w : World) : Calls Tryz.prog 104 #[.string s] w fun e w' => e = .returned (.func (.func 129) #[] #[.pointer (some ⟨w.heap.size, 0, none⟩)]) ∧ w' = w.alloc (.cells #[.string s] 9) := by
  go_enter Tryz.func104, Tryz.ntmps104
  go_wp2
  go_ret
  exact ⟨rfl, rfl⟩

end Go.Proofs.YtlefhfmckimlaajGreatDoor
