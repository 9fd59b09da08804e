/-
  The iterator over the whole records of a text: it gives each, in order.
  What stops, write, Sync, Fail, Mark, Bytes and Safe of package log do, each as one law of its call.
-/
import Derived.Test.YtlefhfmckimlaajGreatDoorJ37A
import Derived.Test.YtlefhfmckimlaajGreatDoorLogOwn
import Derived.Test.YtlefhfmckimlaajGreatDoorShelf
import Derived.BigQuiet
import Derived.Deep.QuietTactic
import Derived.Deep.RegionWith
set_option linter.unusedVariables false
namespace Go.Proofs.YtlefhfmckimlaajGreatDoor
open Go.RowKit Go.Shelf
attribute [local go_sem] Oper.semAt_some

/-- what may be in a record -/
abbrev Rk := { a : M.Ask // M.RecOk a }
def txt (x : Rk) : ByteArray := bytesB (M.recL x.1)
def texts (xs : List Rk) : List (List UInt8) := xs.map fun x => M.recL x.1
/-- the first line of a text, or none -/
theorem lns_step (s : List UInt8) (xs : List Rk) (h : M.lns s = texts xs) : (10 ∉ s ∧ xs = []) ∨ ∃ x ys r, xs = x :: ys ∧ s = M.recL x.1 ++ 10 :: r ∧ 10 ∉ M.recL x.1 ∧ M.lns r = texts ys := by
  by_cases hm : 10 ∈ s
  · obtain ⟨p, r, e, hp⟩ := List.eq_append_cons_of_mem hm
    subst e
    rw [M.lns_append hp] at h
    cases xs with
    | nil => simp [texts] at h
    | cons x ys =>
      simp only [texts, List.map_cons, List.cons.injEq] at h
      exact Or.inr ⟨x, ys, r, rfl, by rw [h.1], by rw [← h.1]; exact hp, h.2⟩
  · rw [M.lns_none hm] at h
    cases xs with
    | nil => exact Or.inl ⟨hm, rfl⟩
    | cons x ys => simp [texts] at h

set_option maxRecDepth 100000 in
set_option maxHeartbeats 1000000 in
theorem recs1 (n : Nat) (hn : 1 ≤ n) (l Bn : Nat) (s : List UInt8) (hs : s.length ≤ maxLen) (xs : List Rk) (hx : M.lns s = texts xs) (J Jx : List Rk → World → Prop) (W : World) (hJ : AbidesFrom W.heap.size J)
    (hY : ∀ pre x W1, J pre W1 → pre.length < xs.length → YieldAt Fence.wide (n - 1) Tryz.prog l #[.string (txt x)] W1 fun e W' =>
      (e = .returned (.bool true) ∧ J (pre ++ [x]) W' ∧ True) ∨ (e = .returned (.bool false) ∧ Jx (pre ++ [x]) W'))
    (hc : W.cell? ⟨Bn, 0, none⟩ = some (.string (bytesB s))) (h0 : J [] W) :
    CallsIn Fence.wide n Tryz.prog 68 #[.func (.yield l) #[] #[], .pointer (some ⟨Bn, 0, none⟩)] W fun e W' => (∃ v, e = .returned v) ∧
      ((∃ ys, ys = xs ∧ J ys W') ∨ (∃ pre, pre <+: xs ∧ Jx pre W')) := by
  have HJ := hide hJ
  have HY := hide hY
  have H0 := hide h0
  have hBn := World.block_lt_of_cell? _ _ hc
  clear hJ hY h0
  -- the first cut
  have first : ∃ ln q : List UInt8, ∃ whole : Bool, Hid (∀ wx, Calls Tryz.prog 69 #[.string (bytesB s), .string ⟨#[10]⟩] wx fun e w' => e = .returned (.tuple #[.string (bytesB ln), .string (bytesB q), .bool whole]) ∧ Below wx.heap.size wx w') ∧ q.length ≤ maxLen ∧ Hid (if whole then ∃ x ys, xs = x :: ys ∧ ln = M.recL x.1 ∧ M.lns q = texts ys else xs = []) := by
    rcases lns_step s xs hx with ⟨h1, h2⟩ | ⟨x, ys, r, h1, h2, h3, h4⟩
    · exact ⟨s, [], false, hide fun wx => cutNo s 10 wx h1, Nat.zero_le _, hide (by simp [h2])⟩
    · exact ⟨M.recL x.1, r, true, hide fun wx => by rw [h2]; exact cutYes _ r 10 wx h3 (by rw [← h2]; exact hs), by rw [h2] at hs; simp at hs; omega, hide (by simp only [if_true]; exact ⟨x, ys, h1, rfl, h4⟩)⟩
  obtain ⟨ln, q, whole, HC1, hq, HF⟩ := first
  clear hx
  generalize bytesB s = sB at *
  refine callsIn_of_wp Tryz.func68 rfl trivial ?_ rfl
  simp only [Tryz.ntmps68, List.size_toArray, List.length_cons, List.length_nil, Nat.reduceAdd, Nat.reduceSub, Array.replicate_succ, Array.replicate_zero, List.push_toArray, List.append_toArray, List.nil_append, List.cons_append]
  gi_wp2_with (refine ⟨trivial, ?_⟩; gi_at_call 69; refine (callsIn_wide.2 (HC1.out _)).mono ?_; rintro e w1 ⟨rfl, hb1⟩; have HJ1 := hide (HJ.out [] _ _ none H0.out (below_grown hb1) (fun r e => by cases e)); clear hb1)
  gi_loopw [3, 4, 5] (fun sl sr sw wr => ∃ (pre : List Rk) (ln q : List UInt8) (whole : Bool), sl = .string (bytesB ln) ∧ sr = .string (bytesB q) ∧ sw = .bool whole ∧ q.length ≤ maxLen ∧ Hid (if whole then ∃ x ys, xs = pre ++ x :: ys ∧ ln = M.recL x.1 ∧ M.lns q = texts ys else xs = pre) ∧ Hid (J pre wr)) (fun _ sr sw _ => left sr sw)
  case atStart => exact ⟨[], ln, q, whole, rfl, rfl, rfl, hq, HF, HJ1⟩
  case round =>
    obtain ⟨pre, ln, q, whole, rfl, rfl, rfl, hq, hF, hJp⟩ := hrel
    cases whole with
    | false =>
      have HE : Hid (xs = pre) := hide (by have := hF.out; simpa using this)
      gi_wp2_with (refine ⟨fun _ e => (by cases e), ?_⟩)
      go_end0
      exact ⟨⟨_, rfl⟩, .inl ⟨pre, HE.out.symm, hJp.out⟩⟩
    | true =>
      obtain ⟨x, ys, e1, e2, e3⟩ : ∃ x ys, xs = pre ++ x :: ys ∧ ln = M.recL x.1 ∧ M.lns q = texts ys := by have := hF.out; simpa using this
      obtain ⟨fn, tmps, assign, body, hy, hR⟩ := HY.out pre x _ hJp.out (by rw [e1]; simp)
      have second : ∃ ln2 q2 : List UInt8, ∃ whole2 : Bool, Hid (∀ wx, Calls Tryz.prog 69 #[.string (bytesB q), .string ⟨#[10]⟩] wx fun e w' => e = .returned (.tuple #[.string (bytesB ln2), .string (bytesB q2), .bool whole2]) ∧ Below wx.heap.size wx w') ∧ q2.length ≤ maxLen ∧ Hid (left (.string (bytesB q2)) (.bool whole2) < q.length + 1) ∧ Hid (if whole2 then ∃ x' ys', xs = (pre ++ [x]) ++ x' :: ys' ∧ ln2 = M.recL x'.1 ∧ M.lns q2 = texts ys' else xs = pre ++ [x]) := by
        rcases lns_step q ys e3 with ⟨h1, h2⟩ | ⟨x', ys', r, h1, h2, h3, h4⟩
        · exact ⟨q, [], false, hide fun wx => cutNo q 10 wx h1, Nat.zero_le _, hide (by simp [left]), hide (by simp [e1, h2])⟩
        · refine ⟨M.recL x'.1, r, true, hide fun wx => by rw [h2]; exact cutYes _ r 10 wx h3 (by rw [← h2]; exact hq), by rw [h2] at hq; simp at hq; omega, hide ?_, hide ?_⟩
          · simp only [left, bytesB_size]; rw [h2]; simp; omega
          · simp only [if_true]; exact ⟨x', ys', by rw [e1, h1]; simp, rfl, h4⟩
      obtain ⟨ln2, q2, whole2, HC2, hq2, HM2, HF2⟩ := second
      have HL : Hid (bytesB ln = txt x) := hide (by rw [e2]; rfl)
      have HQZ : Hid ((bytesB q).size = q.length) := hide (bytesB_size q)
      have HPX : Hid (pre ++ [x] <+: xs) := hide ⟨ys, by rw [e1]; simp⟩
      rw [HL.out]
      clear e1 e2 e3 hF HL
      generalize bytesB q = qB at *
      gi_wp2
      refine hR.mono ?_
      rintro e W3 (⟨rfl, hJ3, _⟩ | ⟨rfl, hJx3⟩)
      · have HJ3 := hide hJ3
        clear hJ3
        gi_wp2_with (refine ⟨trivial, ?_⟩; gi_at_call 69; refine (callsIn_wide.2 (HC2.out _)).mono ?_; rintro e w4 ⟨rfl, hb4⟩; have HJ4 := hide (HJ.out (pre ++ [x]) _ _ none HJ3.out (below_grown hb4) (fun r e => by cases e)); clear hb4)
        go_roundw
        case rel => exact ⟨pre ++ [x], ln2, q2, whole2, rfl, rfl, rfl, hq2, HF2, HJ4⟩
        case measure => have := HM2.out; have := HQZ.out; simp only [left] at *; omega
      · have HX3 := hide hJx3
        clear hJx3
        gi_wp2
        go_end0
        exact ⟨⟨_, rfl⟩, .inr ⟨pre ++ [x], HPX.out, HX3.out⟩⟩

theorem recs_stops (n : Nat) (hn : 1 ≤ n) (Bn : Nat) (s : List UInt8) (hs : s.length ≤ maxLen) (xs : List Rk) (hx : M.lns s = texts xs) (w : World) (hB : Bn < w.heap.size) (hc : w.cell? ⟨Bn, 0, none⟩ = some (.string (bytesB s))) :
    SeqStopsK Fence.wide n Tryz.prog 68 #[.pointer (some ⟨Bn, 0, none⟩)] (fun x : Rk => #[Value.string (txt x)]) (fun _ _ => True) (fun ys => ys = xs) (fun pre => pre <+: xs) xs.length w := fun l J Jx W hW hJ _ hY h0 =>
  recs1 n hn l Bn s hs xs hx J Jx W hJ hY ((hW.cell (p := ⟨Bn, 0, none⟩) hB).trans hc) h0

theorem lRecords (s : ByteArray) (w : World) : Calls Tryz.prog 41 #[.string s] w fun e w' => e = .returned (.func (.func 68) #[] #[.pointer (some ⟨w.heap.size, 0, none⟩)]) ∧ w' = w.alloc (.cells #[.string s] 9) := by
  go_enter Tryz.func41, Tryz.ntmps41
  go_wp2
  go_ret
  exact ⟨rfl, rfl⟩

end Go.Proofs.YtlefhfmckimlaajGreatDoor

set_option linter.unusedVariables false
namespace Go.Proofs.YtlefhfmckimlaajGreatDoor
open Go.RowKit
attribute [local go_sem ↓] Go.wp_at_zero Go.wp_at_succ

section
variable {base : Nat} {w w' : World} {J C : Nat} {uv : Value} {K : ByteArray} {sf lf : Int} {st : Bool} {R : List M.Rul} {F : Nat → Prop} {c : M.Cop} {g : M.Lg}

theorem lStops (h : LgC base w J C uv K sf lf false R) (hl : lf ≤ 9223372036854775807) (b : Bool) (hb : b = decide (lf = 0)) :
    Calls Tryz.prog 40 #[.pointer (some ⟨J, 0, none⟩)] w fun e w' => e = .returned (.bool b) ∧ LgC base w' J C uv K sf (M.lessS lf) b R ∧ Tch (fun k => k = J) w w' := by
  obtain ⟨c0, c1, c2, c3, c4, c5, cn, cf⟩ := h.cells
  have f4 := cf 4
  have f5 := cf 5
  have HL := hide h
  clear cf h
  by_cases h1 : 0 < lf
  · have hb2 : b = false := by rw [hb]; exact decide_eq_false (by omega)
    have HS := hide (HL.out.store 4 (.int .i64 (lf - 1)) (C' := C) (K' := K) (sf' := sf) (lf' := lf - 1) (st' := false) rfl)
    have HE : Hid (M.lessS lf = lf - 1) := hide (by unfold M.lessS; rw [if_pos h1])
    clear hb
    subst hb2
    go_enter Tryz.func40, Tryz.ntmps40
    go_wp2_with fail
    go_ret
    rw [HE.out]
    exact ⟨rfl, HS.out.1, HS.out.2⟩
  · have HE : Hid (M.lessS lf = lf) := hide (by unfold M.lessS; rw [if_neg h1])
    have HS := hide (HL.out.store 5 (.bool b) (C' := C) (K' := K) (sf' := sf) (lf' := lf) (st' := b) rfl)
    have hq : (lf == 0) = b := by
      rw [hb]
      by_cases e : lf = 0
      · simp [e]
      · simp [e]
    have k5 : (w.setCell ⟨J, 5, none⟩ (.bool b)).cell? ⟨J, 5, none⟩ = some (.bool b) := HS.out.1.cells.2.2.2.2.2.1
    clear hb
    go_enter Tryz.func40, Tryz.ntmps40
    go_wp2_with fail
    go_ret
    rw [HE.out]
    exact ⟨rfl, HS.out.1, HS.out.2⟩

theorem lCount (s : ByteArray) (w : World) (k : Nat) (hk : s.data.toList.count 10 = k) : Calls Tryz.prog 65 #[.string s, .string ⟨#[10]⟩] w fun e w' => e = .returned (.int .i64 k) ∧ w' = w := by
  have := Tryz.strings_Count_one s 10 w
  unfold Lib.countByte at this
  rwa [hk] at this

theorem lWrite_full (h : LgC base w J C uv K sf lf false R) (k : Nat) (hk : K.data.toList.count 10 = k) (h30 : 30 ≤ k) (s : ByteArray) :
    Calls Tryz.prog 37 #[.pointer (some ⟨J, 0, none⟩), .string s] w fun e w' => e = .returned (.iface 66 (.int .i64 4)) ∧ w' = w := by
  obtain ⟨c0, c1, c2, c3, c4, c5, cn, cf⟩ := h.cells
  have HC := hide (lCount K w k hk)
  have i1 : (30 : Int) ≤ (k : Int) := by omega
  clear cf h hk
  go_enter Tryz.func37, Tryz.ntmps37
  go_wp2_with fail
  refine (unhide HC).mono ?_
  rintro e w1 ⟨rfl, hw⟩
  obtain rfl := hw.symm
  go_wp2_with fail
  go_ret
  exact ⟨rfl, rfl⟩

theorem lWrite_ok (h : LgC base w J C uv K sf lf false R) (hl : lf ≤ 9223372036854775807) (hK : K.size ≤ 100000000) (k : Nat) (hk : K.data.toList.count 10 = k) (h30 : k < 30) (h0 : lf ≠ 0) (s : ByteArray) (hs : s.size ≤ 1000) :
    Calls Tryz.prog 37 #[.pointer (some ⟨J, 0, none⟩), .string s] w fun e w' => e = .returned .nilIface ∧ LgC base w' J C uv (K ++ s) sf (M.lessS lf) false R ∧ Tch (fun k => k = J) w w' := by
  obtain ⟨c0, c1, c2, c3, c4, c5, cn, cf⟩ := h.cells
  have HC := hide (lCount K w k hk)
  have HS := hide (lStops h hl false (decide_eq_false h0).symm)
  have i1 : ¬ (30 : Int) ≤ (k : Int) := by omega
  clear cf h hk
  go_enter Tryz.func37, Tryz.ntmps37
  go_wp2_with fail
  refine (unhide HC).mono ?_
  rintro e w1 ⟨rfl, hw⟩
  obtain rfl := hw.symm
  go_wp2_with fail
  refine (unhide HS).mono ?_
  rintro e w2 ⟨rfl, hL2, ht2⟩
  have HT2 := hide ht2
  have HS3 := hide (hL2.store 2 (.string (K ++ s)) (C' := C) (K' := K ++ s) (sf' := sf) (lf' := M.lessS lf) (st' := false) rfl)
  clear c0 c1 c2 c3 c4 c5 cn ht2
  obtain ⟨c0, c1, c2, c3, c4, c5, cn, cf⟩ := hL2.cells
  have f2 := cf 2
  clear cf hL2
  go_wp2_with fail
  go_ret
  exact ⟨rfl, HS3.out.1, HT2.out.trans (Grows.refl _ _) HS3.out.2⟩

theorem lWrite_stop (h : LgC base w J C uv K sf 0 false R) (hK : K.size ≤ 100000000) (k : Nat) (hk : K.data.toList.count 10 = k) (h30 : k < 30) (s : ByteArray) (hs : s.size ≤ 1000) :
    Calls Tryz.prog 37 #[.pointer (some ⟨J, 0, none⟩), .string s] w fun e w' => e = .returned (.iface 66 (.int .i64 6)) ∧ LgC base w' J C uv (K ++ s.extract 0 (s.size / 2)) sf 0 true R ∧ Tch (fun k => k = J) w w' := by
  obtain ⟨c0, c1, c2, c3, c4, c5, cn, cf⟩ := h.cells
  have HC := hide (lCount K w k hk)
  have HS := hide (lStops h (by decide) true rfl)
  have i1 : ¬ (30 : Int) ≤ (k : Int) := by omega
  have i2 : (0 : Int) ≤ (s.size : Int) / 2 := by omega
  have i3 : (s.size : Int) / 2 ≤ (s.size : Int) := by omega
  obtain ⟨hf, hhf⟩ : ∃ hf : Nat, hf = s.size / 2 := ⟨_, rfl⟩
  have i4 : (s.size : Int) / 2 = (hf : Int) := by omega
  rw [← hhf]
  clear cf h hk hhf
  go_enter Tryz.func37, Tryz.ntmps37
  go_wp2_with fail
  refine (unhide HC).mono ?_
  rintro e w1 ⟨rfl, hw⟩
  obtain rfl := hw.symm
  go_wp2_with fail
  refine (unhide HS).mono ?_
  rintro e w2 ⟨rfl, hL2, ht2⟩
  have HT2 := hide ht2
  have HL2 := hide (hL2.quiet (w' := w2.drew) ((Below.refl _ _).drew))
  have HS3 := hide (HL2.out.store 2 (.string (K ++ s.extract 0 hf)) (C' := C) (K' := K ++ s.extract 0 hf) (sf' := sf) (lf' := 0) (st' := true) rfl)
  clear c0 c1 c2 c3 c4 c5 cn ht2
  obtain ⟨c0, c1, c2, c3, c4, c5, cn, cf⟩ := hL2.cells
  have f2 := cf 2
  clear cf hL2
  go_wp2_with fail
  go_region
  all_goals
    go_wp2_with fail
    go_ret
    exact ⟨rfl, HS3.out.1, (HT2.out.then ((Below.refl _ _).drew)).trans (Grows.refl _ _) HS3.out.2⟩

theorem lSync_no (h : LgC base w J C uv K sf lf true R) :
    Calls Tryz.prog 15 #[.pointer (some ⟨J, 0, none⟩)] w fun e w' => e = .returned (.iface 66 (.int .i64 6)) ∧ w' = w := by
  obtain ⟨c0, c1, c2, c3, c4, c5, cn, cf⟩ := h.cells
  clear cf h
  go_enter Tryz.func15, Tryz.ntmps15
  go_wp2_with fail
  go_ret
  exact ⟨rfl, rfl⟩
theorem lSync_last (h : LgC base w J C uv K sf 0 false R) :
    Calls Tryz.prog 15 #[.pointer (some ⟨J, 0, none⟩)] w fun e w' => e = .returned (.iface 66 (.int .i64 6)) ∧ LgC base w' J C uv K sf 0 true R ∧ Tch (fun k => k = J) w w' := by
  obtain ⟨c0, c1, c2, c3, c4, c5, cn, cf⟩ := h.cells
  have HS := hide (lStops h (by decide) true rfl)
  clear cf h
  go_enter Tryz.func15, Tryz.ntmps15
  go_wp2_with fail
  refine (unhide HS).mono ?_
  rintro e w2 ⟨rfl, hL2, ht2⟩
  have HL2 := hide hL2
  have HT2 := hide ht2
  clear hL2 ht2
  go_wp2_with fail
  go_ret
  exact ⟨rfl, HL2.out, HT2.out⟩
theorem lSync_ok (h : LgC base w J C uv K sf lf false R) (hl : lf ≤ 9223372036854775807) (h0 : lf ≠ 0) (hK : K.size ≤ 100000000) :
    Calls Tryz.prog 15 #[.pointer (some ⟨J, 0, none⟩)] w fun e w' => e = .returned .nilIface ∧ LgC base w' J C uv K K.size (M.lessS lf) false R ∧ Tch (fun k => k = J) w w' := by
  obtain ⟨c0, c1, c2, c3, c4, c5, cn, cf⟩ := h.cells
  have HS := hide (lStops h hl false (decide_eq_false h0).symm)
  clear cf h
  go_enter Tryz.func15, Tryz.ntmps15
  go_wp2_with fail
  refine (unhide HS).mono ?_
  rintro e w2 ⟨rfl, hL2, ht2⟩
  have HT2 := hide ht2
  have HS3 := hide (hL2.store 3 (.int .i64 K.size) (C' := C) (K' := K) (sf' := K.size) (lf' := M.lessS lf) (st' := false) rfl)
  clear c0 c1 c2 c3 c4 c5 cn ht2
  obtain ⟨c0, c1, c2, c3, c4, c5, cn, cf⟩ := hL2.cells
  have f3 := cf 3
  clear cf hL2
  go_wp2_with fail
  go_ret
  exact ⟨rfl, HS3.out.1, HT2.out.trans (Grows.refl _ _) HS3.out.2⟩
theorem lFailC (h : LgC base w J C uv K sf lf st R) (m : Int) :
    Calls Tryz.prog 13 #[.pointer (some ⟨J, 0, none⟩), .int .i64 m] w fun e w' => e = .returned (.tuple #[]) ∧ LgC base w' J C uv K sf m st R ∧ Tch (fun k => k = J) w w' := by
  have HS3 := hide (h.store 4 (.int .i64 m) (C' := C) (K' := K) (sf' := sf) (lf' := m) (st' := st) rfl)
  obtain ⟨c0, c1, c2, c3, c4, c5, cn, cf⟩ := h.cells
  have f4 := cf 4
  clear cf h
  go_enter Tryz.func13, Tryz.ntmps13
  go_wp2_with fail
  go_end0
  exact ⟨rfl, HS3.out.1, HS3.out.2⟩
theorem lBytesC (h : LgC base w J C uv K sf lf st R) :
    Calls Tryz.prog 19 #[.pointer (some ⟨J, 0, none⟩)] w fun e w' => e = .returned (.int .i64 K.size) ∧ Below w.heap.size w w' := by
  obtain ⟨c0, c1, c2, c3, c4, c5, cn, cf⟩ := h.cells
  clear cf h
  go_enter Tryz.func19, Tryz.ntmps19
  go_wp2_with fail
  go_ret
  exact ⟨rfl, Below.refl _ _⟩
theorem lSafeC (h : LgC base w J C uv K sf lf st R) :
    Calls Tryz.prog 18 #[.pointer (some ⟨J, 0, none⟩)] w fun e w' => e = .returned (.int .i64 sf) ∧ Below w.heap.size w w' := by
  obtain ⟨c0, c1, c2, c3, c4, c5, cn, cf⟩ := h.cells
  clear cf h
  go_enter Tryz.func18, Tryz.ntmps18
  go_wp2_with fail
  go_ret
  exact ⟨rfl, Below.refl _ _⟩
theorem lMarkC (h : LgC base w J C uv K sf lf st R) (hc : CpIs base w F C c R) (ht : TabFrom base w) :
    Calls Tryz.prog 17 #[.pointer (some ⟨J, 0, none⟩)] w fun e w' => e = .returned (.tuple #[.int .i64 c.n, .int .i64 (M.mark c.l)]) ∧ Below w.heap.size w w' := by
  obtain ⟨c0, c1, c2, c3, c4, c5, cn, cf⟩ := h.cells
  have HM := hide (mMark hc ht)
  generalize M.mark c.l = y at *
  generalize c.n = z at *
  clear cf h hc ht
  go_enter Tryz.func17, Tryz.ntmps17
  go_wp2_with fail
  refine (unhide HM).mono ?_
  rintro e w1 ⟨rfl, hb1⟩
  have HB1 := hide hb1
  clear hb1
  go_wp2_with fail
  go_ret2
  exact ⟨rfl, HB1.out⟩
end

end Go.Proofs.YtlefhfmckimlaajGreatDoor
