/-
  The document's own Line: the words that it cuts a line into, and that it is bad where they are not as many as its first word wants.
-/
import Derived.Test.YtlefhfmckimlaakGreatDoorRunAns
import Derived.Test.YtlefhfmckimlaakGreatDoorJCut
set_option linter.unusedVariables false
namespace Go.Proofs.YtlefhfmckimlaakGreatDoor
open Go.RowKit

theorem lists_own : ∀ {a b : List ByteArray}, lists a = lists b → a = b
  | [], [], _ => rfl
  | [], _ :: _, h => by simp [lists] at h
  | _ :: _, [], h => by simp [lists] at h
  | x :: a, y :: b, h => by
    simp only [lists, List.map_cons, List.cons.injEq] at h
    rw [data_own h.1, lists_own (a := a) (b := b) h.2]
/-- the document's own cut at a blank -/
theorem docCut (s : ByteArray) (w : World) (hs : s.size ≤ 3000) : Calls Tryz.prog 33 #[.string s, .int .u8 32] w fun e w' => ∃ g c, e = .returned (.slice (some ⟨g, 0, none⟩) (pieces s).length c) ∧ w.heap.size ≤ g ∧ Wds w' g 0 (pieces s) ∧ Below w.heap.size w w' := by
  refine (rcutB 32 s w (by omega)).mono ?_
  rintro e w' ⟨v, ps, rfl, hown, hl, hlen, hb⟩
  have hps : ps.map (·.1) = pieces s := lists_own (by
    rw [pieces_lists, ← hl]
    simp [lists, lst])
  have hn : (pieces s).length = ps.length := by rw [← hps, List.length_map]
  have h0 : 0 < ps.length := by rw [← hn, pieces_len]; omega
  obtain ⟨g, cap, rfl, hg, _⟩ := hown.form h0
  refine ⟨g, cap, by rw [hn], hg, fun i hi => ?_, hb⟩
  rw [Nat.zero_add, hown.cellAt i (by omega)]
  unfold strs
  have e : (pieces s)[i] = (ps[i]'(by omega)).1 := by simp only [← hps, List.getElem_map]
  rw [List.getElem?_map, List.getElem?_eq_getElem (by omega), e]
  rfl
/-- how many words a first word wants -/
def wants (k : ByteArray) : Int := if k = bDeal then 3 else if k = bOnce then 2 else if k = bPut ∨ k = bRead ∨ k = bTake ∨ k = bCount ∨ k = bPrint then 1 else -1
theorem word_ne {a b : ByteArray} {l : List UInt8} (h : a ≠ b) (hb : b.data.toList = l) : (a.toList == l) = false := beq_eq_false_iff_ne.2 fun e => h (data_own (by rw [← Lib.toList_data, e, hb]))

section
variable {s k : ByteArray} {ws : List ByteArray} {w : World} {R : Nat}
set_option maxRecDepth 100000 in
set_option maxHeartbeats 2000000 in
theorem docBad (hs : s.size ≤ 3000) (hp : pieces s = k :: ws) (hw : wants k ≠ ws.length) :
    Calls Tryz.prog 34 #[.pointer (some ⟨R, 0, none⟩), .string s] w fun e w' => e = .returned (.string ⟨#[98, 97, 100]⟩) ∧ Below w.heap.size w w' := by
  have hC := docCut s w hs
  have hlen : ws.length ≤ 3000 := by
    have h1 := Lib.countB_le ⟨#[32]⟩ (by decide) s.size s (Nat.le_refl _)
    have h2 := pieces_len s
    rw [hp, List.length_cons] at h2
    omega
  rw [hp] at hC
  have HC : Hid (Calls Tryz.prog 33 #[.string s, .int .u8 32] w fun e w' => ∃ g c, e = .returned (.slice (some ⟨g, 0, none⟩) (ws.length + 1) c) ∧ w'.cell? ⟨g, 0, none⟩ = some (.string k) ∧ Below w.heap.size w w') := hide (hC.mono fun e w' ⟨g, c, h1, _, h2, h3⟩ => ⟨g, c, h1, h2 0 (by simp), h3⟩)
  generalize ws.length = N at *
  have q1 : (0 : Int) < (N : Int) + 1 := by omega
  have q2 : IntKind.i64.wrap ((N : Int) + 1 - 1) = N := by
    rw [show (N : Int) + 1 - 1 = N by omega]
    exact IntWalk.i64_in _ ⟨by omega, by omega⟩
  have q3 : IntKind.i64.wrap (N : Int) = N := IntWalk.i64_in _ ⟨by omega, by omega⟩
  clear hs hp hC
  have fin : ∀ m : Int, wants k = m → ((N : Int) == m) = false := fun m hm => beq_eq_false_iff_ne.2 fun e => hw (hm.trans e.symm)
  by_cases h0 : k = bPut
  · subst h0
    have hf := fin 1 (by decide)
    unfold bPut at HC
    clear hw fin
    go_enter Tryz.func34, Tryz.ntmps34
    go_wp2_with fail
    refine (unhide HC).mono ?_
    rintro e w1 ⟨g, c, rfl, hc, hb1⟩
    have HB1 := hide hb1
    clear hb1
    dsimp only
    go_wp2_with fail
    go_ret
    exact ⟨rfl, HB1.out⟩
  by_cases h1 : k = bRead
  · subst h1
    have hf := fin 1 (by decide)
    unfold bRead at HC
    clear hw fin
    go_enter Tryz.func34, Tryz.ntmps34
    go_wp2_with fail
    refine (unhide HC).mono ?_
    rintro e w1 ⟨g, c, rfl, hc, hb1⟩
    have HB1 := hide hb1
    clear hb1
    dsimp only
    go_wp2_with fail
    go_ret
    exact ⟨rfl, HB1.out⟩
  by_cases h2 : k = bTake
  · subst h2
    have hf := fin 1 (by decide)
    unfold bTake at HC
    clear hw fin
    go_enter Tryz.func34, Tryz.ntmps34
    go_wp2_with fail
    refine (unhide HC).mono ?_
    rintro e w1 ⟨g, c, rfl, hc, hb1⟩
    have HB1 := hide hb1
    clear hb1
    dsimp only
    go_wp2_with fail
    go_ret
    exact ⟨rfl, HB1.out⟩
  by_cases h3 : k = bCount
  · subst h3
    have hf := fin 1 (by decide)
    unfold bCount at HC
    clear hw fin
    go_enter Tryz.func34, Tryz.ntmps34
    go_wp2_with fail
    refine (unhide HC).mono ?_
    rintro e w1 ⟨g, c, rfl, hc, hb1⟩
    have HB1 := hide hb1
    clear hb1
    dsimp only
    go_wp2_with fail
    go_ret
    exact ⟨rfl, HB1.out⟩
  by_cases h4 : k = bPrint
  · subst h4
    have hf := fin 1 (by decide)
    unfold bPrint at HC
    clear hw fin
    go_enter Tryz.func34, Tryz.ntmps34
    go_wp2_with fail
    refine (unhide HC).mono ?_
    rintro e w1 ⟨g, c, rfl, hc, hb1⟩
    have HB1 := hide hb1
    clear hb1
    dsimp only
    go_wp2_with fail
    go_ret
    exact ⟨rfl, HB1.out⟩
  by_cases h5 : k = bOnce
  · subst h5
    have hf := fin 2 (by decide)
    unfold bOnce at HC
    clear hw fin
    go_enter Tryz.func34, Tryz.ntmps34
    go_wp2_with fail
    refine (unhide HC).mono ?_
    rintro e w1 ⟨g, c, rfl, hc, hb1⟩
    have HB1 := hide hb1
    clear hb1
    dsimp only
    go_wp2_with fail
    go_ret
    exact ⟨rfl, HB1.out⟩
  by_cases h6 : k = bDeal
  · subst h6
    have hf := fin 3 (by decide)
    unfold bDeal at HC
    clear hw fin
    go_enter Tryz.func34, Tryz.ntmps34
    go_wp2_with fail
    refine (unhide HC).mono ?_
    rintro e w1 ⟨g, c, rfl, hc, hb1⟩
    have HB1 := hide hb1
    clear hb1
    dsimp only
    go_wp2_with fail
    go_ret
    exact ⟨rfl, HB1.out⟩
  have hf := fin (-1) (by unfold wants; rw [if_neg h6, if_neg h5, if_neg (by simp [h0, h1, h2, h3, h4])])
  have f0 : (k.toList == [112, 117, 116]) = false := word_ne h0 rfl
  have f1 : (k.toList == [114, 101, 97, 100]) = false := word_ne h1 rfl
  have f2 : (k.toList == [116, 97, 107, 101]) = false := word_ne h2 rfl
  have f3 : (k.toList == [99, 111, 117, 110, 116]) = false := word_ne h3 rfl
  have f4 : (k.toList == [112, 114, 105, 110, 116]) = false := word_ne h4 rfl
  have f5 : (k.toList == [111, 110, 99, 101]) = false := word_ne h5 rfl
  have f6 : (k.toList == [100, 101, 97, 108]) = false := word_ne h6 rfl
  clear hw fin h0 h1 h2 h3 h4 h5 h6
  go_enter Tryz.func34, Tryz.ntmps34
  go_wp2_with fail
  refine (unhide HC).mono ?_
  rintro e w1 ⟨g, c, rfl, hc, hb1⟩
  have HB1 := hide hb1
  clear hb1
  dsimp only
  go_wp2_with fail
  go_ret
  exact ⟨rfl, HB1.out⟩
end
end Go.Proofs.YtlefhfmckimlaakGreatDoor
