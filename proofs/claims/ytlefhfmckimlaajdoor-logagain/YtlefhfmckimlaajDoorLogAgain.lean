/-
  The walk of the Go function LogAgain: it returns true, whatever comes in.
-/
import Derived.Test.YtlefhfmckimlaajDoorLogCalls
import Derived.Deep.CutRange
set_option linter.unusedVariables false
namespace Go.Proofs.YtlefhfmckimlaajDoor.logAgain
open Go.RowKit
attribute [local go_sem ↓] Go.wp_at_zero Go.wp_at_succ

def anyV : M.Val := ⟨2, 0, ⟨#[]⟩⟩
def numV (n : Int) : M.Val := ⟨0, n, ⟨#[]⟩⟩
def R3 : List M.Rul := [⟨0, -1, [anyV], true⟩, ⟨1, -1, [anyV], true⟩, ⟨2, -1, [anyV], true⟩]
def xN (n seq : Int) : M.Ask := ⟨1, seq, 0, [numV n]⟩
theorem fine3 : M.rulE R3 = 0 := by decide +kernel
theorem fault_num {n : Int} : (numV n).fault = if n < -1000000 ∨ 1000000 < n then 1 else 0 := by
  show M.fault 0 n ⟨#[]⟩ = _
  unfold M.fault M.faultN
  rw [if_pos rfl]
  split <;> rfl
theorem tup_num {n : Int} : M.tupF [numV n] = if n < -1000000 ∨ 1000000 < n then 1 else 0 := by
  have h1 : M.likeF [numV n] = (numV n).fault := by
    unfold M.likeF
    rw [if_neg (by simp), if_neg (by simp)]
    unfold M.firstF
    by_cases h : (numV n).fault ≠ 0
    · rw [if_pos h]
    · rw [if_neg h]
      have h0 : (numV n).fault = 0 := by simpa using h
      rw [h0]; rfl
  unfold M.tupF
  rw [h1, fault_num]
  by_cases h : n < -1000000 ∨ 1000000 < n
  · rw [if_pos h]; rfl
  · rw [if_neg h]; rfl
theorem ask_num {n seq : Int} : M.askF (xN n seq) = if n < -1000000 ∨ 1000000 < n then 1 else 0 := by
  rw [M.askF_put (a := xN n seq) (by show ¬ ((1 : Int) < 0 ∨ 1000000 < (1 : Int) ∨ (0 : Int) < 0 ∨ 2 < (0 : Int)); omega) rfl]
  exact tup_num
theorem may_num {n : Int} (h : M.tupF [numV n] = 0) : M.mayR R3 1 0 [numV n] = true := by
  have he : M.mayE R3 1 0 [numV n] = 0 := by rw [M.mayE_tup fine3 (by decide)]; exact h
  have hs : M.spotR R3 1 0 [numV n] = 0 := M.spotR_hit (by decide) (fun j hj => by omega) rfl
  rw [M.mayR_hit he (by rw [hs]; decide)]
  simp only [hs]
  rfl
/-- what the first call answers, and what it is then -/
theorem first (n seq : Int) (k : Nat) (hk : 2 ≤ k) : ((seq ≠ 1 ∨ n < -1000000 ∨ 1000000 < n) ∧ (M.lgDo R3 M.Lg.new (xN n seq) k).1 ≠ 0 ∧ (M.lgDo R3 M.Lg.new (xN n seq) k).2.2.bytes = 0) ∨ ((M.lgDo R3 M.Lg.new (xN n seq) k).1 = 0 ∧ (M.lgDo R3 M.Lg.new (xN n seq) k).2.1 = M.sOk ∧ (M.lgDo R3 M.Lg.new (xN n seq) k).2.2.bytes = k ∧ ∀ k', (M.lgDo R3 (M.lgDo R3 M.Lg.new (xN n seq) k).2.2 (xN n seq) k').1 = 0 ∧ (M.lgDo R3 (M.lgDo R3 M.Lg.new (xN n seq) k).2.2 (xN n seq) k').2.1 = M.sOk ∧ (M.lgDo R3 (M.lgDo R3 M.Lg.new (xN n seq) k).2.2 (xN n seq) k').2.2.bytes = k) := by
  by_cases h : seq ≠ 1 ∨ n < -1000000 ∨ 1000000 < n
  · have hd : (M.doR R3 M.Lg.new.cop (xN n seq)).1 ≠ 0 := by
      show (M.doR R3 M.Cop.new (xN n seq)).1 ≠ 0
      by_cases h1 : n < -1000000 ∨ 1000000 < n
      · have hf : M.askF (xN n seq) ≠ 0 := by rw [ask_num, if_pos h1]; decide
        rw [M.doR_bad hf]
        exact hf
      · have hf : M.askF (xN n seq) = 0 := by rw [ask_num, if_neg h1]
        have hs : seq ≠ 1 := by omega
        have ha : M.againB M.Cop.new.g (xN n seq) = false := M.again_not (fun q => by have := q.2; simp [M.Cop.new] at this)
        rw [M.doR_state hf ha (by show seq ≠ 0 + 1; omega)]
        decide
    refine Or.inl ⟨h, ?_, ?_⟩
    · rw [M.lgDo_bad rfl hd]; exact hd
    · rw [M.lgDo_bad rfl hd]; rfl
  · have h1 : seq = 1 := by omega
    subst h1
    have h2 : ¬ (n < -1000000 ∨ 1000000 < n) := by omega
    have hf : M.askF (xN n 1) = 0 := by rw [ask_num, if_neg h2]
    have ht : M.tupF [numV n] = 0 := by rw [tup_num, if_neg h2]
    have hal : M.allowB R3 M.Cop.new.l (xN n 1) = true := by
      unfold M.allowB
      rw [if_pos (show (xN n 1).deed = 0 from rfl)]
      exact may_num ht
    have hs : M.deedS [] (xN n 1) = M.sOk := by
      unfold M.deedS
      rw [if_pos (show (xN n 1).deed = 0 from rfl), if_pos (show M.putF [] (xN n 1).t = 0 from putF_ok ht (by simp))]
    have hd : M.doR R3 M.Lg.new.cop (xN n 1) = (0, M.sOk, M.Cop.new.did (xN n 1) M.sOk (M.deedL [] (xN n 1))) := by
      show M.doR R3 M.Cop.new (xN n 1) = _
      rw [M.doR_did hf (M.again_no rfl) rfl hal]
      show (0, M.deedS [] (xN n 1), M.Cop.new.did (xN n 1) (M.deedS [] (xN n 1)) (M.deedL [] (xN n 1))) = _
      rw [hs]
    have e1 := M.lgDo_did (R := R3) (g := M.Lg.new) (a := xN n 1) (n := k) rfl (by rw [hd]) (by rw [hd]; show (0 + 1 : Nat) ≠ 0; decide) (by decide) (by decide)
    rw [hd] at e1
    simp only at e1
    obtain ⟨c1, hc1⟩ : ∃ c1, c1 = M.Cop.new.did (xN n 1) M.sOk (M.deedL [] (xN n 1)) := ⟨_, rfl⟩
    rw [← hc1] at e1
    have hg : c1.g 1 = (1, M.sOk) := by rw [hc1]; exact M.upG_same (g := M.Cop.new.g) (a := xN n 1)
    have e2 : M.doR R3 c1 (xN n 1) = (0, M.sOk, c1) := by
      have hag : M.againB c1.g (xN n 1) = true := decide_eq_true (by show 1 = (c1.g 1).1 ∧ 0 < (c1.g 1).1; rw [hg]; decide)
      rw [M.doR_again hf hag]
      show (0, (c1.g 1).2, c1) = _
      rw [hg]
    refine Or.inr ⟨by rw [e1], by rw [e1], ?_, fun k' => ?_⟩
    · rw [e1]
      show 0 + k + 0 = k
      omega
    · rw [e1]
      obtain ⟨g1, hg1⟩ : ∃ g1 : M.Lg, g1 = { M.Lg.new with cs := M.Lg.new.cs ++ [c1], ms := M.Lg.new.ms ++ [M.Lg.new.bytes + k], left := M.lessS M.Lg.new.left } := ⟨_, rfl⟩
      have hcop : g1.cop = c1 := by rw [hg1]; rfl
      have hst : g1.stop = false := by rw [hg1]; rfl
      have hb : g1.bytes = k := by rw [hg1]; show 0 + k + 0 = k; omega
      simp only
      rw [← hg1, M.lgDo_again hst (by rw [hcop, e2]) (by rw [hcop, e2]), hcop, e2]
      exact ⟨rfl, rfl, hb⟩

/-- the blocks of the law's own -/
abbrev Sv : Obj := .cells #[.int .i64 2, .int .i64 0, .string ⟨#[]⟩] 58
abbrev Rv (b : Nat) : Obj := .cells #[.int .i64 0, .int .i64 (-1), .slice (some ⟨b, 0, none⟩) 1 1, .bool true, .int .i64 1, .int .i64 (-1), .slice (some ⟨b, 0, none⟩) 1 1, .bool true, .int .i64 2, .int .i64 (-1), .slice (some ⟨b, 0, none⟩) 1 1, .bool true] 92
theorem own_any (w : World) : OwnT w.heap.size (w.alloc Sv) (.slice (some ⟨w.heap.size, 0, none⟩) 1 1) [anyV] :=
  ⟨World.ownsRow_lit (base := w.heap.size) (e := 58) (size := 3) w #[.int .i64 2, .int .i64 0, .string ⟨#[]⟩] 1 (Nat.le_refl _) (by unfold maxLen; decide) rfl, fun x hx => by
    rw [List.mem_singleton.1 hx]; unfold maxLen; decide⟩
theorem rules3 (w : World) : AtR ((w.alloc Sv).alloc (Rv w.heap.size)) (some ⟨w.heap.size + 1, 0, none⟩) R3 := by
  have h2 : IsVals ((w.alloc Sv).alloc (Rv w.heap.size)) (.slice (some ⟨w.heap.size, 0, none⟩) 1 1) [anyV] := (own_any w).vals.stays ((Below.refl _ _).alloc (Nat.le_refl _) _) (Nat.le_refl _)
  have h3 := World.ownsRow_lit (base := w.heap.size) (e := 92) (size := 4) (w.alloc Sv) #[.int .i64 0, .int .i64 (-1), .slice (some ⟨w.heap.size, 0, none⟩) 1 1, .bool true, .int .i64 1, .int .i64 (-1), .slice (some ⟨w.heap.size, 0, none⟩) 1 1, .bool true, .int .i64 2, .int .i64 (-1), .slice (some ⟨w.heap.size, 0, none⟩) 1 1, .bool true] 3 (by simp) (by unfold maxLen; decide) rfl
  obtain ⟨a, c, e, h4⟩ := atR_own (l := R3) rfl (show RowR ((w.alloc Sv).alloc (Rv w.heap.size)) _ R3 from ⟨_, _, rfl, h2, _, _, rfl, h2, _, _, rfl, h2, rfl⟩) h3
  cases e
  simpa using h4
theorem opens (w : World) : Calls Tryd.prog 20 #[] w fun e w' => e = .returned (.slice (some ⟨w.heap.size + 1, 0, none⟩) 3 3) ∧ w' = (w.alloc Sv).alloc (Rv w.heap.size) := by
  go_enter Tryd.func20, Tryd.ntmps20
  go_wp2
  go_ret
  exact ⟨rfl, rfl⟩
theorem log1 (w : World) :
    Calls Tryd.prog 19 #[.slice (some ⟨w.heap.size + 1, 0, none⟩) 3 3] ((w.alloc Sv).alloc (Rv w.heap.size)) fun e w' => ∃ J F, e = .returned (.tuple #[.pointer (some ⟨J, 0, none⟩), .nilIface]) ∧ LgIs w.heap.size w' F J M.Lg.new R3 ∧ Below w.heap.size w w' := by
  have hb : Below w.heap.size w ((w.alloc Sv).alloc (Rv w.heap.size)) := ((Below.refl _ _).alloc (Nat.le_refl _) _).alloc (by simp) _
  refine (lNew_ok w.heap.size (some ⟨w.heap.size + 1, 0, none⟩) 3 3 R3 _ hb.size rfl (by unfold maxLen; decide) (rules3 w) fine3).mono ?_
  rintro e w' ⟨J, F, rfl, h1, _, h3⟩
  exact ⟨J, F, rfl, h1, hb.trans (h3.mono hb.size)⟩
/-- what is asked, in a box of the law's own -/
abbrev Av (b : Nat) (seq : Int) : Obj := .cells #[.int .i64 1, .int .i64 seq, .int .i64 0, .slice (some ⟨b, 0, none⟩) 1 1] 61
abbrev Nv (n : Int) : Obj := .cells #[.int .i64 0, .int .i64 n, .string ⟨#[]⟩] 58

set_option maxHeartbeats 1000000 in
theorem walk (n seq : Int) (w : World) (ht : Tab w) :
    Calls Tryd.prog 6 #[.int .i64 n, .int .i64 seq] w fun e w' => e = .returned (.bool true) ∧ Below w.heap.size w w' := by
  have HN := hide (log1 w)
  have HT := hide ht
  have HF := hide (first n seq)
  clear ht
  go_enter Tryd.func6, Tryd.ntmps6
  go_wp2_with fail
  refine (opens w).mono ?_
  rintro e w1 ⟨rfl, rfl⟩
  go_wp2_with fail
  refine (unhide HN).mono ?_
  rintro e w2 ⟨J, F, rfl, hJ, hb2⟩
  obtain ⟨W, hW⟩ : ∃ W, W = (w2.alloc (Nv n)).alloc (Av w2.heap.size seq) := ⟨_, rfl⟩
  have hbW : Below w2.heap.size w2 W := by rw [hW]; exact ((Below.refl _ _).alloc (Nat.le_refl _) _).alloc (by simp) _
  have HBW : Hid (Below w.heap.size w W) := hide (hb2.trans (hbW.mono hb2.size))
  have HJW := hide (hJ.quiet hbW)
  have HOT : Hid (OwnT w2.heap.size W (.slice (some ⟨w2.heap.size, 0, none⟩) 1 1) [numV n]) := hide (by
    have h0 : OwnT w2.heap.size (w2.alloc (Nv n)) (.slice (some ⟨w2.heap.size, 0, none⟩) 1 1) [numV n] :=
      ⟨World.ownsRow_lit (base := w2.heap.size) (e := 58) (size := 3) w2 #[.int .i64 0, .int .i64 n, .string ⟨#[]⟩] 1 (Nat.le_refl _) (by unfold maxLen; decide) rfl, fun x hx => by
        rw [List.mem_singleton.1 hx]; show (0 : Nat) ≤ _; exact Nat.zero_le _⟩
    rw [hW]
    exact h0.solid (Solid.below ((Below.refl _ _).alloc (Nat.le_refl _) _)))
  have HBX : Hid (W.heap[w2.heap.size + 1]? = some (Av w2.heap.size seq)) := hide (by
    have := heap_alloc_new (w2.alloc (Nv n)) (Av w2.heap.size seq)
    rw [hW]
    simpa using this)
  have HTB : Hid (∀ wx, Below w.heap.size w wx → TabFrom w.heap.size wx) := hide fun wx hb wy hy => HT.out.stays (hb.trans hy) (Nat.le_refl _)
  have HD1 : Hid (Calls Tryd.prog 21 #[.pointer (some ⟨J, 0, none⟩), aggA 1 seq 0 (some ⟨w2.heap.size, 0, none⟩) 1 1] W fun e w' => ∃ k, 2 ≤ k ∧ k ≤ 1000000 ∧ e = .returned (.tuple #[.string (M.lgDo R3 M.Lg.new (xN n seq) k).2.1, errV (M.lgDo R3 M.Lg.new (xN n seq) k).1]) ∧ ∃ F', LgIs w.heap.size w' F' J (M.lgDo R3 M.Lg.new (xN n seq) k).2.2 R3 ∧ Tch F W w' ∧ Grows W F F') := hide (lDo (xN n seq) HJW.out HOT.out.vals (HTB.out _ HBW.out))
  have a0 : W.cell? ⟨w2.heap.size + 1, 0, none⟩ = some (.int .i64 1) := by rw [cell_of_row W _ _ _ _ (0, 0) HBX.out]; rfl
  have a1 : W.cell? ⟨w2.heap.size + 1, 1, none⟩ = some (.int .i64 seq) := by rw [cell_of_row W _ _ _ _ (0, 0) HBX.out]; rfl
  have a2 : W.cell? ⟨w2.heap.size + 1, 2, none⟩ = some (.int .i64 0) := by rw [cell_of_row W _ _ _ _ (0, 0) HBX.out]; rfl
  have a3 : W.cell? ⟨w2.heap.size + 1, 3, none⟩ = some (.slice (some ⟨w2.heap.size, 0, none⟩) 1 1) := by rw [cell_of_row W _ _ _ _ (0, 0) HBX.out]; rfl
  have an := World.block_lt_of_cell? _ _ a0
  have HWW := hide hW
  clear hJ hb2 hbW hW HN
  go_upto_region 5 with fail
  rw [← HWW.out]
  clear HWW
  go_wp2_with fail
  refine (unhide HD1).mono ?_
  rintro e w3 ⟨k, hk2, hk6, rfl, F1, hJ1, ht1, hg1⟩
  have HB3 : Hid (Below w.heap.size w w3) := hide (HBW.out.trans (ht1.below HJW.out.lows HBW.out.size))
  have HJ1 := hide hJ1
  have HOT3 := hide (HOT.out.solid ht1.vals)
  have HBX3 : Hid (w3.heap[w2.heap.size + 1]? = some (Av w2.heap.size seq)) := hide ((ht1.block _ (heap_lt HBX.out) (HJW.out.other HBX.out (by decide) (by decide) (by decide) (by decide) (by decide))).trans HBX.out)
  obtain ⟨g1, hg1e⟩ : ∃ g1, g1 = (M.lgDo R3 M.Lg.new (xN n seq) k).2.2 := ⟨_, rfl⟩
  obtain ⟨E1, hE1⟩ : ∃ E1, E1 = (M.lgDo R3 M.Lg.new (xN n seq) k).1 := ⟨_, rfl⟩
  obtain ⟨s1, hs1⟩ : ∃ s1, s1 = (M.lgDo R3 M.Lg.new (xN n seq) k).2.1 := ⟨_, rfl⟩
  have HX := hide (HF.out k hk2)
  rw [← hg1e, ← hE1, ← hs1] at HX
  rw [← hE1, ← hs1]
  rw [← hg1e] at HJ1
  clear hJ1 ht1 hg1 hg1e hE1 hs1 HD1 HF a0 a1 a2 a3 an HOT HBX HJW HBW
  have HBY := hide (lBytes HJ1.out)
  rcases HX.out with ⟨q1, q2, q3⟩ | ⟨q1, q2, q3, q4⟩
  · rw [q3] at HBY
    rw [errV_bad q2]
    have q5 : seq ≠ 1 ∨ (seq = 1 ∧ n < -1000000) ∨ (seq = 1 ∧ ¬ n < -1000000 ∧ 1000000 < n) := by omega
    clear HX q1 q2 q3
    go_wp2_with fail
    refine (unhide HBY).mono ?_
    rintro e w4 ⟨rfl, hb4⟩
    have HB4 := hide (HB3.out.trans (hb4.mono HB3.out.size))
    clear hb4
    rcases q5 with h1 | ⟨rfl, h1⟩ | ⟨rfl, h1, h2⟩
    · have h1' : (seq == 1) = false := by simpa using h1
      go_wp2_with fail
      go_ret
      exact ⟨rfl, HB4.out⟩
    all_goals
      go_wp2_with fail
      go_ret
      exact ⟨rfl, HB4.out⟩
  · subst q1 q2
    rw [q3] at HBY
    rw [show errV 0 = Value.nilIface from rfl]
    have HQ4 := hide q4
    clear HX q3 q4
    go_wp2_with fail
    refine (unhide HBY).mono ?_
    rintro e w4 ⟨rfl, hb4⟩
    have HB4 := hide (HB3.out.trans (hb4.mono HB3.out.size))
    have HJ4 := hide (HJ1.out.quiet hb4)
    have HOT4 := hide (HOT3.out.solid (Solid.below hb4))
    have HBX4 : Hid (w4.heap[w2.heap.size + 1]? = some (Av w2.heap.size seq)) := hide ((hb4.block _ (heap_lt HBX3.out)).trans HBX3.out)
    clear hb4 HBY HJ1 HOT3 HBX3
    have HD2 : Hid (Calls Tryd.prog 21 #[.pointer (some ⟨J, 0, none⟩), aggA 1 seq 0 (some ⟨w2.heap.size, 0, none⟩) 1 1] w4 fun e w' => ∃ k', 2 ≤ k' ∧ k' ≤ 1000000 ∧ e = .returned (.tuple #[.string (M.lgDo R3 g1 (xN n seq) k').2.1, errV (M.lgDo R3 g1 (xN n seq) k').1]) ∧ ∃ F', LgIs w.heap.size w' F' J (M.lgDo R3 g1 (xN n seq) k').2.2 R3 ∧ Tch F1 w4 w' ∧ Grows w4 F1 F') := hide (lDo (xN n seq) HJ4.out HOT4.out.vals (HTB.out _ HB4.out))
    have a0 : w4.cell? ⟨w2.heap.size + 1, 0, none⟩ = some (.int .i64 1) := by rw [cell_of_row w4 _ _ _ _ (0, 0) HBX4.out]; rfl
    have a1 : w4.cell? ⟨w2.heap.size + 1, 1, none⟩ = some (.int .i64 seq) := by rw [cell_of_row w4 _ _ _ _ (0, 0) HBX4.out]; rfl
    have a2 : w4.cell? ⟨w2.heap.size + 1, 2, none⟩ = some (.int .i64 0) := by rw [cell_of_row w4 _ _ _ _ (0, 0) HBX4.out]; rfl
    have a3 : w4.cell? ⟨w2.heap.size + 1, 3, none⟩ = some (.slice (some ⟨w2.heap.size, 0, none⟩) 1 1) := by rw [cell_of_row w4 _ _ _ _ (0, 0) HBX4.out]; rfl
    have an := World.block_lt_of_cell? _ _ a0
    go_wp2_with fail
    refine (unhide HD2).mono ?_
    rintro e w5 ⟨k', _, _, rfl, F2, hJ2, ht2, _⟩
    obtain ⟨r1, r2, r3⟩ := HQ4.out k'
    have HB5 : Hid (Below w.heap.size w w5) := hide (HB4.out.trans (ht2.below HJ4.out.lows HB4.out.size))
    have HBZ := hide (lBytes hJ2)
    rw [r3] at HBZ
    rw [r1, r2, show errV 0 = Value.nilIface from rfl]
    have hk : (2 : Int) ≤ (k : Int) := by omega
    clear r1 r2 r3 hJ2 ht2 HQ4 HD2 a0 a1 a2 a3 an
    simp only [M.sOk]
    go_wp2_with fail
    refine (unhide HBZ).mono ?_
    rintro e w6 ⟨rfl, hb6⟩
    have HB6 := hide (HB5.out.trans (hb6.mono HB5.out.size))
    clear hb6
    go_wp2_with fail
    go_ret
    exact ⟨rfl, HB6.out⟩

end Go.Proofs.YtlefhfmckimlaajDoor.logAgain
