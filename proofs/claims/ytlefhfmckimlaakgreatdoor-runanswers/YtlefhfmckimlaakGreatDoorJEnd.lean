/-
  The document's own Line, of any line: what it answers and the space behind it.
  The walk of the Go function RunAnswers: it returns true, whatever text comes in.
  Proved: the Go function RunAnswers returns true for every text, and leaves it as it was: a session answers what the document's own Line answers to each of its lines, one behind the other, over one space of the document's own, and 'too long' where it is too long. The library's tables, errors and error type that the program's text lays are as that text lays them (the card ties this).
-/
import Derived.Test.YtlefhfmckimlaakGreatDoorJDoc1
import Derived.Test.YtlefhfmckimlaakGreatDoorDocDeal
import Derived.Test.YtlefhfmckimlaakGreatDoorRunCalls
import Derived.Test.YtlefhfmckimlaakGreatDoorRunRowA
import Derived.Test.YtlefhfmckimlaakGreatDoorTie
import Derived.Test.YtlefhfmckimlaakGreatDoorCards
import Derived.SevenTiedAt
import Derived.ChangeMaps5
set_option linter.unusedVariables false
namespace Go.Proofs.YtlefhfmckimlaakGreatDoor
open Go.RowKit

section
variable {base R : Nat} {s : ByteArray} {u : Value} {L : List (List M.Val)} {w : World}
theorem docLine (hs : s.size ≤ 3000) (hz : Zs base w R u L) (hL : M.Fine L) :
    Calls Tryz.prog 34 #[.pointer (some ⟨R, 0, none⟩), .string s] w fun e w' => e = .returned (.string ⟨(M.lineR L s.data.toList).1.toArray⟩) ∧ ThenZ base w w' R u (M.lineR L s.data.toList).2 := by
  obtain ⟨k, ws, hp⟩ : ∃ k ws, pieces s = k :: ws := by
    cases h : pieces s with
    | nil => have := pieces_len s; rw [h] at this; simp at this
    | cons a r => exact ⟨a, r, rfl⟩
  have hc : M.cutB 32 s.data.toList = k.data.toList :: lists ws := by rw [← pieces_lists, hp]; rfl
  rw [M.line_deed hc]
  have hlen : (lists ws).length = ws.length := by simp [lists]
  have ke : ∀ {x : ByteArray}, k.data.toList = x.data.toList → k = x := fun h => data_own h
  by_cases hw : wants k = ws.length
  · by_cases h1 : k = bDeal
    · subst h1
      obtain ⟨a, b, c, rfl⟩ := three_of (ws := ws) (by have : wants bDeal = 3 := by decide
                                                       omega)
      exact docDeal hs hp hz
    by_cases h2 : k = bOnce
    · subst h2
      obtain ⟨a, b, rfl⟩ := two_of (ws := ws) (by have : wants bOnce = 2 := by decide
                                                  omega)
      exact docOnce hs hp hz hL
    have h3 : k = bPut ∨ k = bRead ∨ k = bTake ∨ k = bCount ∨ k = bPrint := by
      by_cases h : k = bPut ∨ k = bRead ∨ k = bTake ∨ k = bCount ∨ k = bPrint
      · exact h
      · unfold wants at hw
        rw [if_neg h1, if_neg h2, if_neg h] at hw
        omega
    have h4 : ws.length = 1 := by
      unfold wants at hw
      rw [if_neg h1, if_neg h2, if_pos h3] at hw
      omega
    obtain ⟨a, rfl⟩ := one_of h4
    rcases h3 with rfl | rfl | rfl | rfl | rfl
    · rw [deed_one (by decide) (by decide)]
      exact docPut hs hp hz hL
    · rw [deed_one (by decide) (by decide)]
      exact docRead hs hp hz hL
    · rw [deed_one (by decide) (by decide)]
      exact docTake hs hp hz hL
    · rw [deed_one (by decide) (by decide)]
      exact docCount hs hp hz hL
    · rw [deed_one (by decide) (by decide)]
      exact docPrint hs hp hz hL
  · have no : ∀ {x : ByteArray} {n : Nat}, wants x = n → ws.length = n → k.data.toList ≠ x.data.toList := fun {x n} h1 h2 h3 => hw (by rw [ke h3, h1, h2])
    rw [M.deed_bad (fun h => ⟨no (x := bPut) (n := 1) (by decide) (hlen ▸ h), no (x := bRead) (n := 1) (by decide) (hlen ▸ h), no (x := bTake) (n := 1) (by decide) (hlen ▸ h), no (x := bCount) (n := 1) (by decide) (hlen ▸ h), no (x := bPrint) (n := 1) (by decide) (hlen ▸ h)⟩) (fun h => no (x := bOnce) (n := 2) (by decide) (hlen ▸ h)) (fun h => no (x := bDeal) (n := 3) (by decide) (hlen ▸ h))]
    refine (docBad hs hp hw).mono ?_
    rintro e w' ⟨rfl, hb⟩
    exact ⟨rfl, ThenZ.still hz hb⟩
end
end Go.Proofs.YtlefhfmckimlaakGreatDoor

set_option linter.unusedVariables false
namespace Go.Proofs.YtlefhfmckimlaakGreatDoor.runAnswers
open Go.RowKit

/-- the document's own cut at a line's end -/
theorem docLines (s : ByteArray) (w : World) (hs : s.size ≤ 3000) : Calls Tryz.prog 33 #[.string s, .int .u8 10] w fun e w' => ∃ (ls : List ByteArray) (n g c : Nat), e = .returned (.slice (some ⟨g, 0, none⟩) (n + 1) c) ∧ ls.length = n + 1 ∧ n ≤ 3000 ∧ n + 1 ≤ c ∧ c ≤ maxLen ∧ lists ls = M.cutB 10 s.data.toList ∧ (∀ i (h : i < ls.length), w'.cell? ⟨g, i, none⟩ = some (.string ls[i])) ∧ Below w.heap.size w w' := by
  refine (rcutB 10 s w (by omega)).mono ?_
  rintro e w' ⟨v, ps, rfl, hown, hl, hlen, hb⟩
  have h0 : 0 < ps.length := by
    cases ps with
    | nil => exact absurd hl.symm (M.cutB_ne 10 _)
    | cons a r => simp
  obtain ⟨n, hn⟩ : ∃ n, ps.length = n + 1 := ⟨ps.length - 1, by omega⟩
  obtain ⟨g, cap, rfl, hg, _⟩ := hown.form h0
  obtain ⟨hc1, hc2⟩ := own_cap hown
  refine ⟨ps.map (·.1), n, g, cap, by rw [hn], by rw [List.length_map, hn], by omega, by omega, hc2, ?_, fun i hi => ?_, hb⟩
  · rw [← hl]
    simp [lists, lst]
  · rw [List.length_map] at hi
    rw [hown.cellAt i (by omega)]
    unfold strs
    rw [List.getElem?_map, List.getElem?_eq_getElem hi, List.getElem_map]
    rfl
/-- the lines, where the last piece is empty, and where it is not -/
theorem lines_less {ls : List ByteArray} {n : Nat} {l : List UInt8} (hl : lists ls = M.cutB 10 l) (hn : ls.length = n + 1) (h : ls[n]'(by omega) = ⟨#[]⟩) : lists (ls.take n) = M.linesL l := by
  unfold M.linesL M.noLast
  rw [← hl]
  have hlen : (lists ls).length = n + 1 := by simp [lists, hn]
  have e : (lists ls).getLastD [] = [] := by
    rw [List.getLastD_eq_getLast?, List.getLast?_eq_getElem?, hlen, Nat.add_sub_cancel]
    unfold lists
    rw [List.getElem?_map, List.getElem?_eq_getElem (by omega), h]
    rfl
  rw [if_pos e, List.dropLast_eq_take, hlen, Nat.add_sub_cancel]
  unfold lists
  rw [List.map_take]
theorem lines_all {ls : List ByteArray} {n : Nat} {l : List UInt8} (hl : lists ls = M.cutB 10 l) (hn : ls.length = n + 1) (h : ls[n]'(by omega) ≠ ⟨#[]⟩) : lists ls = M.linesL l := by
  unfold M.linesL M.noLast
  rw [← hl]
  have hlen : (lists ls).length = n + 1 := by simp [lists, hn]
  rw [if_neg]
  intro e
  rw [List.getLastD_eq_getLast?, List.getLast?_eq_getElem?, hlen, Nat.add_sub_cancel] at e
  unfold lists at e
  rw [List.getElem?_map, List.getElem?_eq_getElem (by omega)] at e
  exact h (data_own e)
theorem lists_take {K : List ByteArray} {k : Nat} (h : k < K.length) : lists (K.take (k + 1)) = lists (K.take k) ++ [K[k].data.toList] := by
  unfold lists
  rw [List.take_succ_eq_append_getElem h, List.map_append]
  rfl
theorem run_more (L : List (List M.Val)) (a : List (List UInt8)) (s : List UInt8) : M.runL L (a ++ [s]) = M.runL L a ++ ((M.lineR (M.runS L a) s).1 ++ [10]) := M.runL_append L a [s]
theorem space_more (L : List (List M.Val)) (a : List (List UInt8)) (s : List UInt8) : M.runS L (a ++ [s]) = (M.lineR (M.runS L a) s).2 := M.runS_append L a [s]

set_option maxRecDepth 100000 in
set_option maxHeartbeats 4000000 in
theorem walk (t : ByteArray) (w : World) (hs : t.size ≤ maxLen) (ht : Env w) :
    Calls Tryz.prog 5 #[.string t] w fun e w' => e = .returned (.bool true) ∧ Below w.heap.size w w' := by
  unfold maxLen at hs
  have lt : t.data.toList.length = t.size := by simp
  by_cases h : 3000 < t.size
  · have h1 : (3000 : Int) < (t.size : Int) := by omega
    have HR := hide (by
      have := runT t w ht
      rwa [M.run_long (by rw [lt]; exact h)] at this)
    unfold M.wLong at HR
    clear ht lt
    go_enter Tryz.func5, Tryz.ntmps5
    go_wp2_with fail
    refine (unhide HR).mono ?_
    rintro e w2 ⟨rfl, hb2⟩
    dsimp only
    have HB2 := hide hb2
    clear hb2 HR
    go_wp2_with fail
    go_ret
    exact ⟨by first | rfl | simp, HB2.out⟩
  · have h1 : ¬ (3000 : Int) < (t.size : Int) := by omega
    have h3 : t.size ≤ 3000 := by omega
    have HR := hide (runT t w ht)
    have HE : Hid (M.runR t.data.toList = M.runL [] (M.linesL t.data.toList)) := hide (if_neg (by rw [lt]; exact h))
    have HC := hide fun wx => docLines t wx h3
    obtain ⟨B, hB⟩ : ∃ B : ByteArray, B = ⟨(M.runR t.data.toList).toArray⟩ := ⟨_, rfl⟩
    rw [← hB] at HR
    have HBB := hide hB
    have sB : B.size ≤ 9000000 := by rw [hB]; exact M.run_size _
    have ee : (B.toList == B.toList) = true := by simp
    have HSZ := hide h3
    clear ht lt hB h h3
    go_enter Tryz.func5, Tryz.ntmps5
    go_wp2_with fail
    refine (unhide HR).mono ?_
    rintro e w1 ⟨rfl, hb1⟩
    dsimp only
    have HB1 := hide hb1
    clear hb1 HR
    go_wp2_with fail
    refine (HC.out _).mono ?_
    rintro e w2 ⟨ls, n, g, c, rfl, hn, hn3, hc1, hc2, hl, hw, hb2⟩
    dsimp only
    have HB2 := hide (HB1.out.trans (hb2.mono HB1.out.size))
    unfold maxLen at hc2
    have q1 : (0 : Int) < (n : Int) + 1 := by omega
    have q2 : IntKind.i64.wrap ((n : Int) + 1 - 1) = n := by
      rw [show (n : Int) + 1 - 1 = n by omega]
      exact IntWalk.i64_in _ ⟨by omega, by omega⟩
    have q3 : IntKind.i64.wrap (n : Int) = n := IntWalk.i64_in _ ⟨by omega, by omega⟩
    have q4 : (n : Int) < (n : Int) + 1 := by omega
    have q5 : (0 : Int) ≤ (n : Int) := by omega
    have q6 : (n : Int) ≤ (c : Int) := by omega
    have hcn : w2.cell? ⟨g, n, none⟩ = some (.string (ls[n]'(by omega))) := hw n (by omega)
    have hgl := World.block_lt_of_cell? _ _ hcn
    have HSL : Hid (∀ x ∈ ls, x.size ≤ 3000) := hide fun x hx => by
      have h1 : x.data.toList ∈ M.cutB 10 t.data.toList := by rw [← hl]; exact List.mem_map.2 ⟨x, hx, rfl⟩
      have h2 := (M.cutB_sizes 10 t.data.toList).1 _ h1
      rw [← Lib.size_eq, ← Lib.size_eq] at h2
      exact Nat.le_trans h2 HSZ.out
    have HL := hide hl
    have HN := hide hn
    have HW : Hid (∀ wx, Below w2.heap.size w2 wx → ∀ i (h : i < ls.length), wx.cell? ⟨g, i, none⟩ = some (.string ls[i])) := hide fun wx hb i hi => (hb.cell (p := ⟨g, i, none⟩) hgl).trans (hw i hi)
    have HZ0 : Hid (Zs w2.heap.size (w2.alloc (.cells #[.slice none 0 0] 78)) w2.heap.size (.slice none 0 0) []) := hide ⟨Nat.le_refl _, heap_alloc_new w2 _, RowOf.nil _ _ _⟩
    have HB0 : Hid (Below w2.heap.size w2 (w2.alloc (.cells #[.slice none 0 0] 78))) := hide ((Below.refl _ _).alloc (Nat.le_refl _) _)
    clear hb2 hl hw
    by_cases hx : ls[n]'(by omega) = ⟨#[]⟩
    · have HKE : Hid (lists (ls.take n) = M.linesL t.data.toList) := hide (lines_less HL.out HN.out hx)
      rw [hx] at hcn
      clear hx
      have HKL : Hid ((ls.take n).length = n) := hide (by first | exact HN.out | (rw [List.length_take, HN.out]; omega))
      obtain ⟨K, hK⟩ : ∃ K, K = ls.take n := ⟨_, rfl⟩
      have HKC : Hid (∀ wx, Below w2.heap.size w2 wx → ∀ i (h : i < K.length), wx.cell? ⟨g, i, none⟩ = some (.string K[i]) ∧ K[i].size ≤ 3000) := hide fun wx hb i hi => by
        have hi2 : i < ls.length := by rw [HN.out]; rw [hK, HKL.out] at hi; omega
        have e : K[i] = ls[i] := by
          subst hK
          first | rfl | exact List.getElem_take
        rw [e]
        exact ⟨HW.out wx hb i hi2, HSL.out _ (List.getElem_mem hi2)⟩
      rw [← hK] at HKL HKE
      clear hK hn
      go_wp2_with fail
      go_loopw [6, 7] (fun st si wr => ∃ (k : Nat) (q : ByteArray) (u : Value), k ≤ n ∧ st = .string q ∧ si = .int .i64 k ∧ Hid (q.data.toList = M.runL [] (lists (K.take k))) ∧ Hid (Zs w2.heap.size wr w2.heap.size u (M.runS [] (lists (K.take k)))) ∧ Hid (Below w2.heap.size w2 wr)) (fun _ si _ => n - (intOf si).toNat)
      case atStart => exact ⟨0, ⟨#[]⟩, _, Nat.zero_le _, rfl, rfl, hide rfl, HZ0, HB0⟩
      case round =>
        obtain ⟨k, q, u, hk, rfl, rfl, HQ, HZ, HB⟩ := hrel
        have k0 : (0 : Int) ≤ (k : Int) := by omega
        have HBE := hide (HB2.out.trans (HB.out.mono HB2.out.size))
        by_cases hlt : k < n
        · have k1 : (k : Int) < (n : Int) := by omega
          have hkK : k < K.length := by rw [HKL.out]; exact hlt
          obtain ⟨hck, hsk⟩ := HKC.out wr HB.out k hkK
          have hbl := World.block_lt_of_cell? _ _ hck
          have HFI := hide (M.runS_fine (lists (K.take k)) Fine.nil)
          have HLN := hide (docLine hsk HZ.out HFI.out)
          have HTK := hide (lists_take hkK)
          have HLS := hide (M.lineR_fine HFI.out K[k].data.toList)
          have HQZ : Hid (q.size ≤ 3000 * 101) := hide (by
            have h1 := M.runL_len (L := []) (lists (K.take k)) Fine.nil
            have h2 : (lists (K.take k)).length = k := by unfold lists; rw [List.length_map, List.length_take]; omega
            rw [h2, ← HQ.out, ← Lib.size_eq] at h1
            have h4 : k * 101 ≤ 3000 * 101 := Nat.mul_le_mul_right _ (by omega)
            omega)
          have hqz := HQZ.out
          generalize K[k] = x at *
          obtain ⟨a, ha⟩ : ∃ a : ByteArray, a = ⟨(M.lineR (M.runS [] (lists (K.take k))) x.data.toList).1.toArray⟩ := ⟨_, rfl⟩
          rw [← ha] at HLN
          have haz : a.size ≤ 100 := by rw [ha]; exact HLS.out.1
          have HA : Hid (a.data.toList = (M.lineR (M.runS [] (lists (K.take k))) x.data.toList).1) := hide (by rw [ha])
          have hadd1 : ∀ w, (Op.stringOp .add q a).run Tryz.prog w = .ok (.string (q ++ a)) w := fun w => run_string_add_sum w _ _ (by omega)
          have hadd2 : ∀ w, (Op.stringOp .add (q ++ a) ⟨#[10]⟩).run Tryz.prog w = .ok (.string ((q ++ a) ++ ⟨#[10]⟩)) w := fun w => run_string_add_sum w _ _ (by rw [ByteArray.size_append]; show q.size + a.size + 1 ≤ _; omega)
          clear ha haz hqz hkK
          go_wp2_with fail
          refine (unhide HLN).mono ?_
          rintro e w3 ⟨rfl, u3, hz3, ht3, hn3'⟩
          dsimp only
          have HZ3 := hide hz3
          have HB3 := hide (HB.out.trans (Sp.below HZ.out ht3 (Nat.le_refl _)))
          clear hz3 ht3 hn3'
          go_wp2_with fail
          go_roundw
          case rel =>
            refine ⟨k + 1, _, u3, by omega, rfl, by go_num, hide ?_, hide ?_, HB3⟩
            · rw [HTK.out, run_more, ByteArray.data_append, Array.toList_append, ByteArray.data_append, Array.toList_append, HQ.out, HA.out, List.append_assoc]
            · rw [HTK.out, space_more]; exact HZ3.out
          case measure => simp [intOf]; omega
        · have k1 : ¬ (k : Int) < (n : Int) := by omega
          have hqB : q = B := by
            have h1 := HQ.out
            rw [List.take_of_length_le (by rw [HKL.out]; omega), HKE.out, ← HE.out] at h1
            exact data_own (by rw [h1, HBB.out])
          subst hqB
          go_wp2_with fail
          go_ret
          exact ⟨by first | rfl | simp, HBE.out⟩
    · have HKE : Hid (lists ls = M.linesL t.data.toList) := hide (lines_all HL.out HN.out hx)
      have hxe := word_ne (l := []) hx rfl
      generalize (ls[n]'(by omega) : ByteArray) = last at hcn hxe
      clear hx
      have HKL : Hid ((ls).length = (n + 1)) := hide (by first | exact HN.out | (rw [List.length_take, HN.out]; omega))
      obtain ⟨K, hK⟩ : ∃ K, K = ls := ⟨_, rfl⟩
      have HKC : Hid (∀ wx, Below w2.heap.size w2 wx → ∀ i (h : i < K.length), wx.cell? ⟨g, i, none⟩ = some (.string K[i]) ∧ K[i].size ≤ 3000) := hide fun wx hb i hi => by
        have hi2 : i < ls.length := by rw [HN.out]; rw [hK, HKL.out] at hi; omega
        have e : K[i] = ls[i] := by
          subst hK
          first | rfl | exact List.getElem_take
        rw [e]
        exact ⟨HW.out wx hb i hi2, HSL.out _ (List.getElem_mem hi2)⟩
      rw [← hK] at HKL HKE
      clear hK hn
      go_wp2_with fail
      go_loopw [6, 7] (fun st si wr => ∃ (k : Nat) (q : ByteArray) (u : Value), k ≤ (n + 1) ∧ st = .string q ∧ si = .int .i64 k ∧ Hid (q.data.toList = M.runL [] (lists (K.take k))) ∧ Hid (Zs w2.heap.size wr w2.heap.size u (M.runS [] (lists (K.take k)))) ∧ Hid (Below w2.heap.size w2 wr)) (fun _ si _ => (n + 1) - (intOf si).toNat)
      case atStart => exact ⟨0, ⟨#[]⟩, _, Nat.zero_le _, rfl, rfl, hide rfl, HZ0, HB0⟩
      case round =>
        obtain ⟨k, q, u, hk, rfl, rfl, HQ, HZ, HB⟩ := hrel
        have k0 : (0 : Int) ≤ (k : Int) := by omega
        have HBE := hide (HB2.out.trans (HB.out.mono HB2.out.size))
        by_cases hlt : k < (n + 1)
        · have k1 : (k : Int) < (n : Int) + 1 := by omega
          have hkK : k < K.length := by rw [HKL.out]; exact hlt
          obtain ⟨hck, hsk⟩ := HKC.out wr HB.out k hkK
          have hbl := World.block_lt_of_cell? _ _ hck
          have HFI := hide (M.runS_fine (lists (K.take k)) Fine.nil)
          have HLN := hide (docLine hsk HZ.out HFI.out)
          have HTK := hide (lists_take hkK)
          have HLS := hide (M.lineR_fine HFI.out K[k].data.toList)
          have HQZ : Hid (q.size ≤ 3000 * 101) := hide (by
            have h1 := M.runL_len (L := []) (lists (K.take k)) Fine.nil
            have h2 : (lists (K.take k)).length = k := by unfold lists; rw [List.length_map, List.length_take]; omega
            rw [h2, ← HQ.out, ← Lib.size_eq] at h1
            have h4 : k * 101 ≤ 3000 * 101 := Nat.mul_le_mul_right _ (by omega)
            omega)
          have hqz := HQZ.out
          generalize K[k] = x at *
          obtain ⟨a, ha⟩ : ∃ a : ByteArray, a = ⟨(M.lineR (M.runS [] (lists (K.take k))) x.data.toList).1.toArray⟩ := ⟨_, rfl⟩
          rw [← ha] at HLN
          have haz : a.size ≤ 100 := by rw [ha]; exact HLS.out.1
          have HA : Hid (a.data.toList = (M.lineR (M.runS [] (lists (K.take k))) x.data.toList).1) := hide (by rw [ha])
          have hadd1 : ∀ w, (Op.stringOp .add q a).run Tryz.prog w = .ok (.string (q ++ a)) w := fun w => run_string_add_sum w _ _ (by omega)
          have hadd2 : ∀ w, (Op.stringOp .add (q ++ a) ⟨#[10]⟩).run Tryz.prog w = .ok (.string ((q ++ a) ++ ⟨#[10]⟩)) w := fun w => run_string_add_sum w _ _ (by rw [ByteArray.size_append]; show q.size + a.size + 1 ≤ _; omega)
          clear ha haz hqz hkK
          go_wp2_with fail
          refine (unhide HLN).mono ?_
          rintro e w3 ⟨rfl, u3, hz3, ht3, hn3'⟩
          dsimp only
          have HZ3 := hide hz3
          have HB3 := hide (HB.out.trans (Sp.below HZ.out ht3 (Nat.le_refl _)))
          clear hz3 ht3 hn3'
          go_wp2_with fail
          go_roundw
          case rel =>
            refine ⟨k + 1, _, u3, by omega, rfl, by go_num, hide ?_, hide ?_, HB3⟩
            · rw [HTK.out, run_more, ByteArray.data_append, Array.toList_append, ByteArray.data_append, Array.toList_append, HQ.out, HA.out, List.append_assoc]
            · rw [HTK.out, space_more]; exact HZ3.out
          case measure => simp [intOf]; omega
        · have k1 : ¬ (k : Int) < (n : Int) + 1 := by omega
          have hqB : q = B := by
            have h1 := HQ.out
            rw [List.take_of_length_le (by rw [HKL.out]; omega), HKE.out, ← HE.out] at h1
            exact data_own (by rw [h1, HBB.out])
          subst hqB
          go_wp2_with fail
          go_ret
          exact ⟨by first | rfl | simp, HBE.out⟩

end Go.Proofs.YtlefhfmckimlaakGreatDoor.runAnswers

set_option linter.unusedVariables false
namespace Go.Proofs.YtlefhfmckimlaakGreatDoor.runAnswers
open Go.ChangeShapes Go.WideShapes Go.ChangeAt Go.RowKit Go.Joins

set_option maxRecDepth 100000 in
theorem lifted (os : Os) (started : os.Started) (H : Type) (enc : TypeId × Value → H) :
    ReturnsInHanded {} Tryz.checked os 5 .any (fun w args => (Rows.runAnswersSpec.pre enc Tryz.prog Tryz.f5 [] false w args ∧ laidMetH Tryz.prog Rows.runAnswersRow.laid w) ∧ sizedMet enc Tryz.prog Tryz.f5 (OpenSpec.ofChange Rows.runAnswersSpec) false w args)
      (Rows.runAnswersSpec.post enc Tryz.prog Tryz.f5 false true false false) := by
  refine returnsInHanded_of_change_and (C := Tryz.checked) (X := fun w _ => laidMetH Tryz.prog Rows.runAnswersRow.laid w) (fun _ _ _ hh h => h.of_heap hh) runRow.own started (by kernel_rfl) Tryz.func5
    (ChangeSpec.witness_shaped (enc := enc) (C := Tryz.checked) (os := os) (X := fun w _ => laidMetH Tryz.prog Rows.runAnswersRow.laid w) false (runRow.start os) #[.string ⟨#[]⟩] 8 (runRow.start_os os) (World.shaped_of_RefB (by kernel_rfl) (by kernel_rfl)) (by kernel_rfl) (by kernel_rfl) (by kernel_rfl) (runRow.door_met os _)) ?_
  intro W base args ds gs before hval0 hW _ hsz0 hL _
  have hval : ∀ (j : Nat) t v, Tryz.f5.params[j]? = some t → args[j]? = some v → Value.okWide Tryz.prog W .any base t v := hval0
  have hW' := hW
  obtain ⟨p, q, hA0, hV, rfl, hfz, hnd⟩ := hW
  have hA : DataW.TrodAll enc Tryz.prog W 0 (fun _ => true) true Tryz.f5.params.toList args.toList ds p := hA0
  rw [Tryz.params5] at hA hval
  obtain ⟨v0, d0, rfl, rfl, h0⟩ := trodAll_one hA
  obtain ⟨rfl, rfl⟩ := trodVars_none hV
  have k0 := h0
  have lt0 : ∀ x ∈ p, x.block < W.heap.size := by obtain ⟨m, hm⟩ := k0; exact DataW.trod_lt m _ _ _ hm
  obtain ⟨y0, hv0, _, _, hy0⟩ := Go.ChangeMaps.open_string Tryz.underlying9 (hval 0 9 v0 rfl rfl) h0
  subst hv0
  have hE := runRow.env_of hL
  clear hA0 hval0 hL hsz0
  simp only [List.append_nil] at hW'
  refine (walk y0 W hy0 hE).mono fun e W' ⟨he, bel⟩ => ?_
  subst he
  exact ⟨_, rfl, _, _, _, [], _, [], hW', trodAll_mk1 (shut_bool Tryz.underlying4 _), trodAll_mk1 (Below.trod runRow.laidOut (by kernel_rfl) (of_decide_eq_true (by kernel_rfl)) k0 bel lt0), rfl, bel.frame _, fun h => by cases h⟩

theorem over : Rows.RunAnswersSaid :=
  OpenClaim.holds_of_wide 5 Tryz.f5 rfl rfl rfl rfl rfl rfl rfl ⟨rfl, rfl, rfl, rfl, rfl⟩ rfl rfl rfl rfl rfl (by kernel_rfl) Tryz.func5 (by kernel_rfl)
    (of_decide_eq_true (by kernel_rfl)) (by unfold Func.isWrapper; first | (rw [if_pos (by decide +kernel)]; kernel_rfl) | (rw [if_neg (by decide +kernel)]; exact ⟨rfl, rfl⟩))
    (fun os started H enc _ => lifted os started H enc)

end Go.Proofs.YtlefhfmckimlaakGreatDoor.runAnswers

namespace Go.Proofs.YtlefhfmckimlaakGreatDoor
theorem runAnswers_holds : Rows.RunAnswersCardSaid :=
  Claim7.holds_tied_plain_at .later [] [.data, .data, .data, .data, .handle, .sentinel, .sentinel, .pinned] true (true, "561334207de6c37c0ecf0f81ae7b521efbda2900dc8be53939330fc5f9515f21") true
    runAnswers.over (fun _ h => by cases h) (by kernel_rfl) (fun _ h => by cases h) runAnswers_row_tie rfl ⟨rfl, rfl⟩ (by kernel_rfl) rfl
    (fun f fn hf hfn => by
      obtain rfl : f = 5 := Option.some.inj ((show Tryz.prog.funcNamed "tuplestead/tuplelaw3.RunAnswers" = some 5 by kernel_rfl).symm.trans hf) |>.symm
      obtain rfl : fn = Tryz.f5 := (Option.some.inj (Tryz.func5.symm.trans hfn)).symm
      exact ⟨by kernel_rfl, fun j t ht => by
        rw [Tryz.params5] at ht
        have hm : t ∈ [9] := by simpa using Array.mem_of_getElem? ht
        have hall : ([9].all fun u => !Tryz.prog.wantsStandIn u) = true := by kernel_rfl
        exact (show Tryz.prog.wantsStandIn t = false by simpa using List.all_eq_true.1 hall t hm)⟩)
    (by kernel_rfl)
#print axioms runAnswers_holds
end Go.Proofs.YtlefhfmckimlaakGreatDoor
