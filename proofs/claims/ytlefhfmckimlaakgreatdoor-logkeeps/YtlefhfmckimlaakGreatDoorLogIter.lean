/-
  The iterator over the whole records of a text: it gives each, in order.
-/
import Derived.Test.YtlefhfmckimlaakGreatDoorLogCut
set_option linter.unusedVariables false
namespace Go.Proofs.YtlefhfmckimlaakGreatDoor
open Go.RowKit Go.Shelf
attribute [local go_sem] Oper.semAt_some

/-- what may be in a record -/
abbrev Rk := { a : M.Ask // M.RecOk a }
def txt (x : Rk) : ByteArray := bytesB (M.recL x.1)
def texts (xs : List Rk) : List (List UInt8) := xs.map fun x => M.recL x.1
/-- the first line of a text, or none -/
theorem lns_step (s : List UInt8) (xs : List Rk) (h : M.lns s = texts xs) : (10 ∉ s ∧ xs = []) ∨ ∃ x ys r, xs = x :: ys ∧ s = M.recL x.1 ++ 10 :: r ∧ 10 ∉ M.recL x.1 ∧ M.lns r = texts ys := by
  by_cases hm : 10 ∈ s
  · obtain ⟨p, r, e, hp⟩ := List.eq_append_cons_of_mem hm
    subst e
    rw [M.lns_append hp] at h
    cases xs with
    | nil => simp [texts] at h
    | cons x ys =>
      simp only [texts, List.map_cons, List.cons.injEq] at h
      exact Or.inr ⟨x, ys, r, rfl, by rw [h.1], by rw [← h.1]; exact hp, h.2⟩
  · rw [M.lns_none hm] at h
    cases xs with
    | nil => exact Or.inl ⟨hm, rfl⟩
    | cons x ys => simp [texts] at h

set_option maxRecDepth 100000 in
set_option maxHeartbeats 1000000 in
theorem recs1 (n : Nat) (hn : 1 ≤ n) (l Bn : Nat) (s : List UInt8) (hs : s.length ≤ maxLen) (xs : List Rk) (hx : M.lns s = texts xs) (J Jx : List Rk → World → Prop) (W : World) (hJ : AbidesFrom W.heap.size J)
    (hY : ∀ pre x W1, J pre W1 → pre.length < xs.length → YieldAt Fence.wide (n - 1) Tryz.prog l #[.string (txt x)] W1 fun e W' =>
      (e = .returned (.bool true) ∧ J (pre ++ [x]) W' ∧ True) ∨ (e = .returned (.bool false) ∧ Jx (pre ++ [x]) W'))
    (hc : W.cell? ⟨Bn, 0, none⟩ = some (.string (bytesB s))) (h0 : J [] W) :
    CallsIn Fence.wide n Tryz.prog 83 #[.func (.yield l) #[] #[], .pointer (some ⟨Bn, 0, none⟩)] W fun e W' => (∃ v, e = .returned v) ∧
      ((∃ ys, ys = xs ∧ J ys W') ∨ (∃ pre, pre <+: xs ∧ Jx pre W')) := by
  have HJ := hide hJ
  have HY := hide hY
  have H0 := hide h0
  have hBn := World.block_lt_of_cell? _ _ hc
  clear hJ hY h0
  -- the first cut
  have first : ∃ ln q : List UInt8, ∃ whole : Bool, Hid (∀ wx, Calls Tryz.prog 84 #[.string (bytesB s), .string ⟨#[10]⟩] wx fun e w' => e = .returned (.tuple #[.string (bytesB ln), .string (bytesB q), .bool whole]) ∧ Below wx.heap.size wx w') ∧ q.length ≤ maxLen ∧ Hid (if whole then ∃ x ys, xs = x :: ys ∧ ln = M.recL x.1 ∧ M.lns q = texts ys else xs = []) := by
    rcases lns_step s xs hx with ⟨h1, h2⟩ | ⟨x, ys, r, h1, h2, h3, h4⟩
    · exact ⟨s, [], false, hide fun wx => cutNo s 10 wx h1, Nat.zero_le _, hide (by simp [h2])⟩
    · exact ⟨M.recL x.1, r, true, hide fun wx => by rw [h2]; exact cutYes _ r 10 wx h3 (by rw [← h2]; exact hs), by rw [h2] at hs; simp at hs; omega, hide (by simp only [if_true]; exact ⟨x, ys, h1, rfl, h4⟩)⟩
  obtain ⟨ln, q, whole, HC1, hq, HF⟩ := first
  clear hx
  generalize bytesB s = sB at *
  refine callsIn_of_wp Tryz.func83 rfl trivial ?_ rfl
  simp only [Tryz.ntmps83, List.size_toArray, List.length_cons, List.length_nil, Nat.reduceAdd, Nat.reduceSub, Array.replicate_succ, Array.replicate_zero, List.push_toArray, List.append_toArray, List.nil_append, List.cons_append]
  gi_wp2_with (refine ⟨trivial, ?_⟩; gi_at_call 84; refine (callsIn_wide.2 (HC1.out _)).mono ?_; rintro e w1 ⟨rfl, hb1⟩; have HJ1 := hide (HJ.out [] _ _ none H0.out (below_grown hb1) (fun r e => by cases e)); clear hb1)
  gi_loopw [3, 4, 5] (fun sl sr sw wr => ∃ (pre : List Rk) (ln q : List UInt8) (whole : Bool), sl = .string (bytesB ln) ∧ sr = .string (bytesB q) ∧ sw = .bool whole ∧ q.length ≤ maxLen ∧ Hid (if whole then ∃ x ys, xs = pre ++ x :: ys ∧ ln = M.recL x.1 ∧ M.lns q = texts ys else xs = pre) ∧ Hid (J pre wr)) (fun _ sr sw _ => left sr sw)
  case atStart => exact ⟨[], ln, q, whole, rfl, rfl, rfl, hq, HF, HJ1⟩
  case round =>
    obtain ⟨pre, ln, q, whole, rfl, rfl, rfl, hq, hF, hJp⟩ := hrel
    cases whole with
    | false =>
      have HE : Hid (xs = pre) := hide (by have := hF.out; simpa using this)
      gi_wp2_with (refine ⟨fun _ e => (by cases e), ?_⟩)
      go_end0
      exact ⟨⟨_, rfl⟩, .inl ⟨pre, HE.out.symm, hJp.out⟩⟩
    | true =>
      obtain ⟨x, ys, e1, e2, e3⟩ : ∃ x ys, xs = pre ++ x :: ys ∧ ln = M.recL x.1 ∧ M.lns q = texts ys := by have := hF.out; simpa using this
      obtain ⟨fn, tmps, assign, body, hy, hR⟩ := HY.out pre x _ hJp.out (by rw [e1]; simp)
      have second : ∃ ln2 q2 : List UInt8, ∃ whole2 : Bool, Hid (∀ wx, Calls Tryz.prog 84 #[.string (bytesB q), .string ⟨#[10]⟩] wx fun e w' => e = .returned (.tuple #[.string (bytesB ln2), .string (bytesB q2), .bool whole2]) ∧ Below wx.heap.size wx w') ∧ q2.length ≤ maxLen ∧ Hid (left (.string (bytesB q2)) (.bool whole2) < q.length + 1) ∧ Hid (if whole2 then ∃ x' ys', xs = (pre ++ [x]) ++ x' :: ys' ∧ ln2 = M.recL x'.1 ∧ M.lns q2 = texts ys' else xs = pre ++ [x]) := by
        rcases lns_step q ys e3 with ⟨h1, h2⟩ | ⟨x', ys', r, h1, h2, h3, h4⟩
        · exact ⟨q, [], false, hide fun wx => cutNo q 10 wx h1, Nat.zero_le _, hide (by simp [left]), hide (by simp [e1, h2])⟩
        · refine ⟨M.recL x'.1, r, true, hide fun wx => by rw [h2]; exact cutYes _ r 10 wx h3 (by rw [← h2]; exact hq), by rw [h2] at hq; simp at hq; omega, hide ?_, hide ?_⟩
          · simp only [left, bytesB_size]; rw [h2]; simp; omega
          · simp only [if_true]; exact ⟨x', ys', by rw [e1, h1]; simp, rfl, h4⟩
      obtain ⟨ln2, q2, whole2, HC2, hq2, HM2, HF2⟩ := second
      have HL : Hid (bytesB ln = txt x) := hide (by rw [e2]; rfl)
      have HQZ : Hid ((bytesB q).size = q.length) := hide (bytesB_size q)
      have HPX : Hid (pre ++ [x] <+: xs) := hide ⟨ys, by rw [e1]; simp⟩
      rw [HL.out]
      clear e1 e2 e3 hF HL
      generalize bytesB q = qB at *
      gi_wp2
      refine hR.mono ?_
      rintro e W3 (⟨rfl, hJ3, _⟩ | ⟨rfl, hJx3⟩)
      · have HJ3 := hide hJ3
        clear hJ3
        gi_wp2_with (refine ⟨trivial, ?_⟩; gi_at_call 84; refine (callsIn_wide.2 (HC2.out _)).mono ?_; rintro e w4 ⟨rfl, hb4⟩; have HJ4 := hide (HJ.out (pre ++ [x]) _ _ none HJ3.out (below_grown hb4) (fun r e => by cases e)); clear hb4)
        go_roundw
        case rel => exact ⟨pre ++ [x], ln2, q2, whole2, rfl, rfl, rfl, hq2, HF2, HJ4⟩
        case measure => have := HM2.out; have := HQZ.out; simp only [left] at *; omega
      · have HX3 := hide hJx3
        clear hJx3
        gi_wp2
        go_end0
        exact ⟨⟨_, rfl⟩, .inr ⟨pre ++ [x], HPX.out, HX3.out⟩⟩

theorem recs_stops (n : Nat) (hn : 1 ≤ n) (Bn : Nat) (s : List UInt8) (hs : s.length ≤ maxLen) (xs : List Rk) (hx : M.lns s = texts xs) (w : World) (hB : Bn < w.heap.size) (hc : w.cell? ⟨Bn, 0, none⟩ = some (.string (bytesB s))) :
    SeqStopsK Fence.wide n Tryz.prog 83 #[.pointer (some ⟨Bn, 0, none⟩)] (fun x : Rk => #[Value.string (txt x)]) (fun _ _ => True) (fun ys => ys = xs) (fun pre => pre <+: xs) xs.length w := fun l J Jx W hW hJ _ hY h0 =>
  recs1 n hn l Bn s hs xs hx J Jx W hJ hY ((hW.cell (p := ⟨Bn, 0, none⟩) hB).trans hc) h0

theorem lRecords (s : ByteArray) (w : World) : Calls Tryz.prog 41 #[.string s] w fun e w' => e = .returned (.func (.func 83) #[] #[.pointer (some ⟨w.heap.size, 0, none⟩)]) ∧ w' = w.alloc (.cells #[.string s] 9) := by
  go_enter Tryz.func41, Tryz.ntmps41
  go_wp2
  go_ret
  exact ⟨rfl, rfl⟩

end Go.Proofs.YtlefhfmckimlaakGreatDoor
