/-
  What Mark of package mirror's copy does, as one law of its call.
-/
import Derived.Test.YtlefhfmckimlaakGreatDoorCopDeed
import Derived.Test.YtlefhfmckimlaakGreatDoorJPrint
import Derived.Test.YtlefhfmckimlaakGreatDoorJHash
import Derived.Test.YtlefhfmckimlaakGreatDoorJSpace
set_option linter.unusedVariables false
namespace Go.Proofs.YtlefhfmckimlaakGreatDoor
open Go.RowKit
attribute [local go_sem ↓] Go.wp_at_zero Go.wp_at_succ

/-- All, with the rows that it has made -/
theorem allR (base S : Nat) (u : Value) (L : List (List M.Val)) (w : World) (hs : Space base w S u L) (hL : M.Fine L) :
    Calls Tryz.prog 63 #[.pointer (some ⟨S, 0, none⟩)] w fun e w' => ∃ ao cap, e = .returned (.slice ao L.length cap) ∧ RowOf (OwnT w.heap.size w') w.heap.size w' (.slice ao L.length cap) L ∧ Below w.heap.size w w' := by
  obtain ⟨c1, _, s1⟩ := hs.cell
  have hu : IsTups w u L := hs.row.tups fun _ _ ho => ho.vals
  rcases Nat.eq_zero_or_pos L.length with h0 | h0
  · obtain ⟨ao, cap, rfl, _⟩ := hu.shape
    have hl := List.length_eq_zero_iff.1 h0
    subst hl
    refine (all_none S cap ao w c1).mono ?_
    rintro e w' ⟨rfl, hb⟩
    exact ⟨none, 0, rfl, RowOf.nil _ _ _, hb⟩
  · obtain ⟨b, off, cap, rfl, h1, h2, h3⟩ := hu.some h0
    refine (all_many S b off L.length cap L w rfl h0 c1 h3 hL).mono ?_
    rintro e w' ⟨v, rfl, h4, hb⟩
    obtain ⟨ao, cap2, rfl⟩ := h4.shape
    exact ⟨ao, cap2, rfl, h4, hb⟩

section
variable {base : Nat} {w : World} {C S B : Nat} {v rv : Value} {l : List (List M.Val)} {g : Int → Int × ByteArray} {m : Int} {k : Nat} {R : List M.Rul}
theorem str_bytes (q : List UInt8) : (⟨q.toArray⟩ : ByteArray).data.toList = q := by simp

set_option maxHeartbeats 1000000 in
set_option maxRecDepth 100000 in
theorem cMark (h : Cp base w C S B v rv l g m k R) (hL : M.Fine l) (hT : TabFrom base w) :
    Calls Tryz.prog 30 #[.pointer (some ⟨C, 0, none⟩)] w fun e w' => e = .returned (.tuple #[.int .i64 m, .int .i64 (M.mark l)]) ∧ Below w.heap.size w w' := by
  have HC := hide h
  have HL := hide hL
  have HT := hide hT
  have h20 : l.length ≤ 20 := hL.2
  have HAL : Hid (∀ wx, Below w.heap.size w wx → Calls Tryz.prog 63 #[.pointer (some ⟨S, 0, none⟩)] wx fun e w' => ∃ ao cap, e = .returned (.slice ao l.length cap) ∧ RowOf (OwnT wx.heap.size w') wx.heap.size w' (.slice ao l.length cap) l ∧ Below wx.heap.size wx w') := hide fun wx hb => allR base S v l wx (h.quiet hb).sp hL
  have HCC : Hid (∀ wx, Below w.heap.size w wx → wx.cell? ⟨C, 1, none⟩ = some (.pointer (some ⟨S, 0, none⟩)) ∧ wx.cell? ⟨C, 3, none⟩ = some (.int .i64 m) ∧ C < wx.heap.size) := hide fun wx hb => ⟨(h.quiet hb).cells.2.1, (h.quiet hb).cells.2.2.2.1, (h.quiet hb).cells.2.2.2.2.1⟩
  obtain ⟨n, hn⟩ : ∃ n, n = l.length := ⟨_, rfl⟩
  have HN := hide hn
  rw [← hn] at h20 HAL
  clear h hL hT hn
  obtain ⟨c0, c3, cn⟩ := HCC.out (w.alloc (.cells #[.pointer none, .slice none 0 0] 133)) ((Below.refl _ _).alloc (Nat.le_refl _) _)
  go_enter Tryz.func30, Tryz.ntmps30
  go_wp2_with fail
  refine (HAL.out _ ((Below.refl _ _).alloc (Nat.le_refl _) _)).mono ?_
  rintro e w1 ⟨ao, cap, rfl, hr1, hb1⟩
  have HB1 : Hid (Below w.heap.size w w1) := hide (((Below.refl _ _).alloc (Nat.le_refl _) (.cells #[.pointer none, .slice none 0 0] 133)).trans (hb1.mono (by simp)))
  have HBL1 : Hid (Blt w.heap.size w.heap.size (Lib.byteCells (M.markL (l.take 0))) w1) := hide (Blt.stays (Lib.fresh_isBuilder _ _ _) hb1)
  have HR1 := hide hr1
  clear hb1 hr1 c0 c3 cn
  rcases Nat.eq_zero_or_pos n with h0 | h0
  · have hl0 : l = [] := List.length_eq_zero_iff.1 (by rw [← HN.out]; exact h0)
    subst hl0
    subst h0
    have HBL : Hid (Blt w.heap.size w.heap.size (Lib.byteCells []) w1.drew) := hide (HBL1.out.stays ((Below.refl _ _).drew))
    have hws := HB1.out.size
    obtain ⟨_, c3, cn⟩ := HCC.out w1 HB1.out
    have HH : Hid (∀ wx, Calls Tryz.prog 66 #[.string ⟨(([] : List UInt8)).toArray⟩] wx fun e w' => e = .returned (.int .i64 7) ∧ w' = wx) := hide fun wx => number ⟨(([] : List UInt8)).toArray⟩ wx (by decide)
    go_wp2_with fail
    go_loopw [13] (fun i wr => i = .int .i64 0 ∧ wr = w1) (fun _ _ => 0)
    case atStart => exact ⟨rfl, rfl⟩
    case round =>
      obtain ⟨rfl, rfl⟩ := hrel
      go_wp2_with fail
      go_region_held3 (fun w' => w'.cell? ⟨C, 3, none⟩ = some (.int .i64 m)) (first | go_keep | assumption)
        (first
          | (go_at_call 67; refine (Tryz.Builder_String_any w.heap.size w.heap.size _ _ HBL.out hws).mono ?_; rintro e w5 ⟨rfl, hb5⟩; have HB5 := hide (HB1.out.drew.trans hb5); have c5 := (HCC.out w5 HB5.out).2.1; clear hb5)
          | (go_at_call 66; refine (HH.out _).mono ?_; rintro e w6 ⟨rfl, hw6⟩; obtain rfl := hw6.symm))
      all_goals
        go_wp2_with fail
        go_ret2
        exact ⟨rfl, HB5.out⟩
  · obtain ⟨gb, cap2, e, _⟩ := HR1.out.at (by have := HN.out; omega)
    simp only [Value.slice.injEq] at e
    obtain ⟨rfl, _, _⟩ := e
    go_wp2_with fail
    go_loopw [13] (fun i wr => ∃ k : Nat, k ≤ n ∧ i = .int .i64 k ∧ Hid (Blt w.heap.size w.heap.size (Lib.byteCells (M.markL (l.take k))) wr) ∧ Hid (RowOf (OwnT (w.heap.size + 1) wr) (w.heap.size + 1) wr (.slice (some ⟨gb, 0, none⟩) n cap) l) ∧ Hid (Below w.heap.size w wr)) (fun i _ => n - (intOf i).toNat)
    case atStart => exact ⟨0, Nat.zero_le _, rfl, HBL1, hide (by simpa using HR1.out), HB1⟩
    case round =>
      obtain ⟨k, hk, rfl, hblt, hrow, hbel⟩ := hrel
      obtain ⟨_, c3, cn⟩ := HCC.out wr hbel.out
      have hws := hbel.out.size
      have HSZ : Hid ((M.markL (l.take k)).length ≤ 1420) := hide (by
        have h1 := M.markL_len (L := l.take k) (fun t ht => HL.out.1 t (List.mem_of_mem_take ht))
        have h3 : (l.take k).length ≤ k := List.length_take_le _ _
        omega)
      by_cases hlt : k < n
      · have hkl : k < l.length := HN.out ▸ hlt
        have i1 : (k : Int) < (n : Int) := by omega
        have i0 : (0 : Int) ≤ (k : Int) := by omega
        obtain ⟨gb2, cap2, e, hat⟩ := hrow.out.at (by omega)
        simp only [Value.slice.injEq, Option.some.injEq, Addr.mk.injEq, and_true] at e
        obtain ⟨rfl, _, rfl⟩ := e
        obtain ⟨x, hx, hxo⟩ := hat k hkl
        obtain ⟨xa, xn, xc, rfl⟩ := hxo.vals.isSlice
        have hlk := M.tupF_like (HL.out.1 l[k] (List.getElem_mem hkl))
        have HPR : Hid (Calls Tryz.prog 65 #[.slice xa xn xc] wr fun e w' => e = .returned (.string (M.line l[k])) ∧ Below wr.heap.size wr w') := hide (cPrinted _ _ wr hxo.vals (HT.out wr (hbel.out.mono HC.out.base_le)) hlk)
        have HY := hide (M.line_small hlk)
        have HMT := hide (M.markL_take hkl)
        generalize M.line l[k] = y at *
        clear hat hxo hlk
        go_wp2_with fail
        refine (unhide HPR).mono ?_
        rintro e w2 ⟨rfl, hb2⟩
        have HBL2 := hide (hblt.out.stays hb2)
        have HR2 := hide ((Spare.below hb2).row hrow.out (fun _ _ ho => ho.solid (Solid.below hb2)))
        have HB2 := hide (hbel.out.trans (hb2.mono hbel.out.size))
        clear hb2
        go_wp2_with fail
        refine (writeK w.heap.size w.heap.size _ _ _ HBL2.out (by rw [Lib.byteCells_length]; have := HSZ.out; have := HY.out; omega) HB2.out.size).mono ?_
        rintro e w3 ⟨rfl, hbl3, hb3, hk3⟩
        have HBL3 : Hid (Blt w.heap.size w.heap.size (Lib.byteCells (M.markL (l.take k) ++ y.data.toList)) w3) := hide (by have := hbl3; rwa [cells_word] at this)
        have HR3 := hide (hk3.row HR2.out (fun _ _ ho => ho.solid hk3.solid))
        have HB3 := hide (HB2.out.trans hb3)
        clear hbl3 hb3 hk3
        go_wp2_with fail
        refine (writeK w.heap.size w.heap.size _ _ _ HBL3.out (by rw [Lib.byteCells_length, List.length_append]; have := HSZ.out; have := HY.out; have h9 : y.data.toList.length = y.size := Array.length_toList; show _ + 1 ≤ _; omega) HB3.out.size).mono ?_
        rintro e w4 ⟨rfl, hbl4, hb4, hk4⟩
        have HBL4 := hide hbl4
        have HR4 := hide (hk4.row HR3.out (fun _ _ ho => ho.solid hk4.solid))
        have HB4 := hide (HB3.out.trans hb4)
        clear hbl4 hb4 hk4
        go_wp2_with fail
        go_roundw
        case rel =>
          refine ⟨k + 1, by omega, by go_num, hide ?_, HR4, HB4⟩
          have := HBL4.out
          rw [cells_word, List.append_assoc] at this
          rw [HMT.out]
          exact this
        case measure => simp [intOf]; omega
      · have hkn : k = n := by omega
        have i1 : ¬ (k : Int) < (n : Int) := by omega
        have HBL : Hid (Blt w.heap.size w.heap.size (Lib.byteCells (M.markL l)) wr.drew) := hide (by
          have h1 := hblt.out
          rw [hkn, HN.out, List.take_length] at h1
          exact h1.stays ((Below.refl _ _).drew))
        have hsz : (M.markL l).length ≤ 1420 := by
          have h1 := HSZ.out
          rwa [hkn, HN.out, List.take_length] at h1
        obtain ⟨Z, hZ⟩ : ∃ Z, Z = M.mark l := ⟨_, rfl⟩
        have HZ := hide hZ
        have HH : Hid (∀ wx, Calls Tryz.prog 66 #[.string ⟨(M.markL l).toArray⟩] wx fun e w' => e = .returned (.int .i64 Z) ∧ w' = wx) := hide fun wx => by
          have h1 := number ⟨(M.markL l).toArray⟩ wx (by show (M.markL l).toArray.size ≤ _; unfold maxLen; rw [List.size_toArray]; omega)
          have e : M.hash ⟨(M.markL l).toArray⟩ = Z := by
            rw [hZ]; unfold M.hash M.mark; rw [str_bytes]
          rwa [e] at h1
        generalize M.markL l = q at *
        clear hZ hkn hsz
        go_wp2_with fail
        go_region_held3 (fun w' => w'.cell? ⟨C, 3, none⟩ = some (.int .i64 m)) (first | go_keep | assumption)
          (first
            | (go_at_call 67; refine (Tryz.Builder_String_any w.heap.size w.heap.size _ _ HBL.out hws).mono ?_; rintro e w5 ⟨rfl, hb5⟩; have HB5 := hide (hbel.out.drew.trans hb5); have c5 := (HCC.out w5 HB5.out).2.1; clear hb5)
            | (go_at_call 66; refine (HH.out _).mono ?_; rintro e w6 ⟨rfl, hw6⟩; obtain rfl := hw6.symm))
        all_goals
          go_wp2_with fail
          go_ret2
          exact ⟨by rw [← HZ.out]; rfl, HB5.out⟩
end

end Go.Proofs.YtlefhfmckimlaakGreatDoor
