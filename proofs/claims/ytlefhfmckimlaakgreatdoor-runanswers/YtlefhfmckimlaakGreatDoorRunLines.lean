/-
  The library's cut at one byte, and the iterator of package run over the lines of a text: it gives each, in order.
-/
import Derived.Test.YtlefhfmckimlaakGreatDoorRunWords
import Derived.Test.YtlefhfmckimlaakGreatDoorRunFact
import Derived.Test.YtlefhfmckimlaakGreatDoorJTupP
set_option linter.unusedVariables false
namespace Go.Proofs.YtlefhfmckimlaakGreatDoor
open Go.RowKit Go.Shelf
attribute [local go_sem] Oper.semAt_some

abbrev bytesB (l : List UInt8) : ByteArray := ⟨l.toArray⟩
theorem bytesB_size (l : List UInt8) : (bytesB l).size = l.length := by simp [ByteArray.size]
theorem bytesB_list (l : List UInt8) : (bytesB l).data.toList = l := by simp

theorem sliteMissC (s : ByteArray) (c : UInt8) (w : World) (hi : Lib.indexByte s.data.toList c = -1) :
    Calls Tryz.prog 127 #[.string s, .string ⟨#[c]⟩] w fun e w' => e = .returned (.tuple #[.string s, .string ⟨#[]⟩, .bool false]) ∧ Below w.heap.size w w' := by
  have HI : Hid (Calls Tryz.prog 154 #[.string s, .string ⟨#[c]⟩] w fun e w' => e = .returned (.int .i64 (-1)) ∧ w' = w) := hide (by have := Tryz.stringslite_Index_one s c w; rwa [hi] at this)
  clear hi
  go_enter Tryz.func127, Tryz.ntmps127
  go_wp2_with fail
  refine (unhide HI).mono ?_
  rintro e w1 ⟨rfl, rfl⟩
  go_wp2_with fail
  exact bodyPost_ret (v := .tuple #[.string s, .string ⟨#[]⟩, .bool false]) (by simp [results, Tryz.results127, go_sem]) rfl ⟨rfl, Below.refl _ _⟩
theorem sliteHitC (s : ByteArray) (c : UInt8) (i : Nat) (w : World) (hs : s.size ≤ maxLen) (hi : Lib.indexByte s.data.toList c = i) (hlt : i < s.size) :
    Calls Tryz.prog 127 #[.string s, .string ⟨#[c]⟩] w fun e w' => e = .returned (.tuple #[.string (s.extract 0 i), .string (s.extract (i + 1) s.size), .bool true]) ∧ Below w.heap.size w w' := by
  unfold maxLen at hs
  have HI : Hid (Calls Tryz.prog 154 #[.string s, .string ⟨#[c]⟩] w fun e w' => e = .returned (.int .i64 i) ∧ w' = w) := hide (by have := Tryz.stringslite_Index_one s c w; rwa [hi] at this)
  clear hi
  have h0 : (0 : Int) ≤ (i : Int) := by omega
  have h1 : (i : Int) + 1 ≤ (s.size : Int) := by omega
  have h2 : (i : Int) ≤ (s.size : Int) := by omega
  have h3 : (⟨#[c]⟩ : ByteArray).size = 1 := rfl
  go_enter Tryz.func127, Tryz.ntmps127
  go_wp2_with fail
  refine (unhide HI).mono ?_
  rintro e w1 ⟨rfl, rfl⟩
  go_wp2_with fail
  go_quiet (fail)
  go_wp2
  exact bodyPost_ret (v := .tuple #[.string (s.extract 0 i), .string (s.extract (i + 1) s.size), .bool true]) (by simp [results, Tryz.results127, go_sem]) rfl ⟨rfl, Go.below_drewN (Below.refl _ _) _⟩
/-- a text without that byte -/
theorem cutNo (l : List UInt8) (c : UInt8) (w : World) (h : c ∉ l) :
    Calls Tryz.prog 84 #[.string (bytesB l), .string ⟨#[c]⟩] w fun e w' => e = .returned (.tuple #[.string (bytesB l), .string ⟨#[]⟩, .bool false]) ∧ Below w.heap.size w w' := by
  have HS := hide (sliteMissC (bytesB l) c w (by rw [bytesB_list]; exact M.index_no l c h))
  generalize bytesB l = s at *
  clear h
  go_enter Tryz.func84, Tryz.ntmps84
  go_wp2_with fail
  refine (unhide HS).mono ?_
  rintro e w1 ⟨rfl, hb⟩
  go_wp2_with fail
  exact bodyPost_ret (v := .tuple #[.string s, .string ⟨#[]⟩, .bool false]) (by simp [results, Tryz.results84, go_sem]) rfl ⟨rfl, hb⟩
/-- a text with it: what stands ahead of it, and behind -/
theorem cutYes (p r : List UInt8) (c : UInt8) (w : World) (h : c ∉ p) (hs : (p ++ c :: r).length ≤ maxLen) :
    Calls Tryz.prog 84 #[.string (bytesB (p ++ c :: r)), .string ⟨#[c]⟩] w fun e w' => e = .returned (.tuple #[.string (bytesB p), .string (bytesB r), .bool true]) ∧ Below w.heap.size w w' := by
  have HS := hide (sliteHitC (bytesB (p ++ c :: r)) c p.length w (by rw [bytesB_size]; exact hs) (by rw [bytesB_list]; exact M.index_at p r c h) (by rw [bytesB_size]; simp))
  have e1 : (bytesB (p ++ c :: r)).extract 0 p.length = bytesB p := by
    apply WideShapes.bytes_inj
    simp [ByteArray.data_extract]
  have e2 : (bytesB (p ++ c :: r)).extract (p.length + 1) (bytesB (p ++ c :: r)).size = bytesB r := by
    apply WideShapes.bytes_inj
    rw [ByteArray.data_extract, Array.toList_extract, List.extract_eq_take_drop, bytesB_size]
    rw [List.take_of_length_le (by simp; omega)]
    simp
  rw [e1, e2] at HS
  generalize bytesB (p ++ c :: r) = s at *
  generalize bytesB p = x at *
  generalize bytesB r = y at *
  clear h hs e1 e2
  go_enter Tryz.func84, Tryz.ntmps84
  go_wp2_with fail
  refine (unhide HS).mono ?_
  rintro e w1 ⟨rfl, hb⟩
  go_wp2_with fail
  exact bodyPost_ret (v := .tuple #[.string x, .string y, .bool true]) (by simp [results, Tryz.results84, go_sem]) rfl ⟨rfl, hb⟩

/-- a line that is not too long -/
abbrev Ln := { l : List UInt8 // l.length ≤ 3000 }
def txtL (x : Ln) : ByteArray := bytesB x.1
def raw (xs : List Ln) : List (List UInt8) := xs.map fun x => x.1
theorem raw_snoc (xs : List Ln) (x : Ln) : raw (xs ++ [x]) = raw xs ++ [x.1] := by simp [raw]
theorem lines_last {a : List UInt8} (h : 10 ∉ a) (h0 : a ≠ []) : M.linesL a = [a] := by
  unfold M.linesL
  rw [M.cutB_none 10 a h]
  unfold M.noLast
  rw [if_neg (by simpa using h0)]
/-- a text that is not empty: its first line, and what is behind -/
theorem line_step (s : List UInt8) (hs : s.length ≤ 3000) (h0 : s ≠ []) : ∃ (x : Ln) (r : List UInt8), M.linesL s = x.1 :: M.linesL r ∧ r.length < s.length ∧ ∀ wx, ∃ b, Calls Tryz.prog 84 #[.string (bytesB s), .string ⟨#[10]⟩] wx fun e w' => e = .returned (.tuple #[.string (txtL x), .string (bytesB r), .bool b]) ∧ Below wx.heap.size wx w' := by
  by_cases hm : 10 ∈ s
  · obtain ⟨p, r, e, hp⟩ := List.eq_append_cons_of_mem hm
    subst e
    have hl : p.length ≤ 3000 := by simp at hs; omega
    exact ⟨⟨p, hl⟩, r, M.lines_next r hp, by simp; omega, fun wx => ⟨true, cutYes p r 10 wx hp (by unfold maxLen; omega)⟩⟩
  · refine ⟨⟨s, hs⟩, [], by rw [lines_last hm h0, M.linesL_nil], ?_, fun wx => ⟨false, cutNo s 10 wx hm⟩⟩
    have := List.length_pos_iff.2 h0
    simpa using this
def leftS (r : Value) : Nat := match r with
  | .string s => s.size
  | _ => 0

set_option maxRecDepth 100000 in
set_option maxHeartbeats 1000000 in
theorem lines1 (n : Nat) (hn : 1 ≤ n) (l Bn : Nat) (s : List UInt8) (hs : s.length ≤ 3000) (J Jx : List Ln → World → Prop) (W : World) (hJ : AbidesFrom W.heap.size J)
    (hY : ∀ pre x W1, J pre W1 → pre.length < (M.linesL s).length → YieldAt Fence.wide (n - 1) Tryz.prog l #[.string (txtL x)] W1 fun e W' =>
      (e = .returned (.bool true) ∧ J (pre ++ [x]) W' ∧ True) ∨ (e = .returned (.bool false) ∧ Jx (pre ++ [x]) W'))
    (hc : W.cell? ⟨Bn, 0, none⟩ = some (.string (bytesB s))) (h0 : J [] W) :
    CallsIn Fence.wide n Tryz.prog 112 #[.func (.yield l) #[] #[], .pointer (some ⟨Bn, 0, none⟩)] W fun e W' => (∃ v, e = .returned v) ∧
      ((∃ ys, raw ys = M.linesL s ∧ J ys W') ∨ (∃ pre, raw pre <+: M.linesL s ∧ Jx pre W')) := by
  have HJ := hide hJ
  have HY := hide hY
  have H0 := hide h0
  have hBn := World.block_lt_of_cell? _ _ hc
  have hsz := bytesB_size s
  have HLS : Hid (∃ z, z = M.linesL s) := hide ⟨_, rfl⟩
  clear hJ hY h0
  generalize hsB : bytesB s = sB at hc
  have HSB := hide hsB
  clear hsB
  refine callsIn_of_wp Tryz.func112 rfl trivial ?_ rfl
  simp only [Tryz.ntmps112, List.size_toArray, List.length_cons, List.length_nil, Nat.reduceAdd, Nat.reduceSub, Array.replicate_succ, Array.replicate_zero, List.push_toArray, List.append_toArray, List.nil_append, List.cons_append]
  gi_wp2
  gi_loopw [3] (fun sr wr => ∃ (pre : List Ln) (q : List UInt8) (qB : ByteArray), sr = .string qB ∧ Hid (qB = bytesB q) ∧ q.length ≤ 3000 ∧ Hid (M.linesL s = raw pre ++ M.linesL q) ∧ Hid (J pre wr)) (fun sr _ => leftS sr)
  case atStart => exact ⟨[], s, sB, rfl, hide HSB.out.symm, hs, hide (by simp [raw]), H0⟩
  case round =>
    obtain ⟨pre, q, qB, rfl, HQ, hq, hcut, hJp⟩ := hrel
    by_cases hz : q = []
    · have HE : Hid (raw pre = M.linesL s) := hide (by rw [hcut.out, hz, M.linesL_nil, List.append_nil])
      have e0 : qB = ⟨#[]⟩ := by rw [HQ.out, hz]
      subst e0
      gi_wp2
      go_end0
      exact ⟨⟨_, rfl⟩, .inl ⟨pre, HE.out, hJp.out⟩⟩
    · obtain ⟨x, r, e1, e2, e3⟩ := line_step q hq hz
      have hqs : qB.size = q.length := by rw [HQ.out]; exact bytesB_size q
      obtain ⟨hn1, hn2⟩ := empty_of (s := qB) (by rw [hqs]; exact fun h => hz (List.length_eq_zero_iff.1 h))
      have HC : Hid (∀ wx, ∃ b, Calls Tryz.prog 84 #[.string qB, .string ⟨#[10]⟩] wx fun e w' => e = .returned (.tuple #[.string (txtL x), .string (bytesB r), .bool b]) ∧ Below wx.heap.size wx w') := hide (by rw [HQ.out]; exact e3)
      have HL : Hid (M.linesL s = raw (pre ++ [x]) ++ M.linesL r) := hide (by rw [hcut.out, e1, raw_snoc, List.append_assoc]; rfl)
      have HLE : Hid (pre.length < (M.linesL s).length) := hide (by
        have := congrArg List.length HL.out
        rw [List.length_append, raw_snoc, List.length_append] at this
        simp [raw] at this
        omega)
      have HPX : Hid (raw (pre ++ [x]) <+: M.linesL s) := hide ⟨M.linesL r, HL.out.symm⟩
      have HR : Hid (r.length < qB.size ∧ r.length ≤ 3000) := hide (by omega)
      clear hz hqs e1 e2 e3 hq
      obtain ⟨rB, hrB⟩ : ∃ rB, rB = bytesB r := ⟨_, rfl⟩
      rw [← hrB] at HC
      have HRB := hide hrB
      clear hrB
      obtain ⟨bb, HCC⟩ : ∃ bb, Hid (Calls Tryz.prog 84 #[.string qB, .string ⟨#[10]⟩] wr fun e w' => e = .returned (.tuple #[.string (txtL x), .string rB, .bool bb]) ∧ Below wr.heap.size wr w') := by
        obtain ⟨bb, h⟩ := HC.out wr
        exact ⟨bb, hide h⟩
      gi_wp2_with (refine ⟨trivial, ?_⟩; gi_at_call 84; refine (callsIn_wide.2 HCC.out).mono ?_; rintro e w1 ⟨rfl, hb1⟩; obtain ⟨fn, tmps, assign, body, hy, hR⟩ := HY.out pre x w1 (HJ.out pre _ _ none hJp.out (below_grown hb1) (fun r e => by cases e)) HLE.out; clear hb1)
      refine hR.mono ?_
      rintro e W3 (⟨rfl, hJ3, _⟩ | ⟨rfl, hJx3⟩)
      · have HJ3 := hide hJ3
        clear hJ3
        gi_wp2
        go_roundw
        case rel => exact ⟨pre ++ [x], r, rB, rfl, HRB, HR.out.2, HL, HJ3⟩
        case measure => have := HR.out; have h2 : rB.size = r.length := by rw [HRB.out]; exact bytesB_size r
                        simp only [leftS]; omega
      · have HX3 := hide hJx3
        clear hJx3
        gi_wp2
        refine bodyPost_ret (results_none rfl _ _ _) rfl ?_
        exact ⟨⟨_, rfl⟩, .inr ⟨pre ++ [x], HPX.out, HX3.out⟩⟩

theorem lines_stops (n : Nat) (hn : 1 ≤ n) (Bn : Nat) (s : List UInt8) (hs : s.length ≤ 3000) (w : World) (hB : Bn < w.heap.size) (hc : w.cell? ⟨Bn, 0, none⟩ = some (.string (bytesB s))) :
    SeqStopsK Fence.wide n Tryz.prog 112 #[.pointer (some ⟨Bn, 0, none⟩)] (fun x : Ln => #[Value.string (txtL x)]) (fun _ _ => True) (fun ys => raw ys = M.linesL s) (fun pre => raw pre <+: M.linesL s) (M.linesL s).length w := fun l J Jx W hW hJ _ hY h0 =>
  lines1 n hn l Bn s hs J Jx W hJ hY ((hW.cell (p := ⟨Bn, 0, none⟩) hB).trans hc) h0

theorem rLines (s : ByteArray) (w : World) : Calls Tryz.prog 69 #[.string s] w fun e w' => e = .returned (.func (.func 112) #[] #[.pointer (some ⟨w.heap.size, 0, none⟩)]) ∧ w' = w.alloc (.cells #[.string s] 9) := by
  go_enter Tryz.func69, Tryz.ntmps69
  go_wp2
  go_ret
  exact ⟨rfl, rfl⟩

end Go.Proofs.YtlefhfmckimlaakGreatDoor
