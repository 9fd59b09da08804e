/-
  The walk of the Go function CrowdAlone: it returns true, whatever comes in.
-/
import Derived.Test.YtlefhfmckimlaaiDoorCrdCalls
set_option linter.unusedVariables false
namespace Go.Proofs.YtlefhfmckimlaaiDoor.crowdAlone
open Go.RowKit
attribute [local go_sem ↓] Go.wp_at_zero Go.wp_at_succ

def anyV : M.Val := ⟨2, 0, ⟨#[]⟩⟩
def numV (n : Int) : M.Val := ⟨0, n, ⟨#[]⟩⟩
def R3 : List M.Rul := [⟨0, -1, [anyV], true⟩, ⟨1, -1, [anyV], true⟩, ⟨2, -1, [anyV], true⟩]
def xN (n : Int) : M.Ask := ⟨1, 1, 0, [numV n]⟩
theorem fine3 : M.rulE R3 = 0 := by decide +kernel
theorem fault_num {n : Int} : (numV n).fault = if n < -1000000 ∨ 1000000 < n then 1 else 0 := by
  show M.fault 0 n ⟨#[]⟩ = _
  unfold M.fault M.faultN
  rw [if_pos rfl]
  split <;> rfl
theorem tup_num {n : Int} : M.tupF [numV n] = if n < -1000000 ∨ 1000000 < n then 1 else 0 := by
  have h1 : M.likeF [numV n] = (numV n).fault := by
    unfold M.likeF
    rw [if_neg (by simp), if_neg (by simp)]
    unfold M.firstF
    by_cases h : (numV n).fault ≠ 0
    · rw [if_pos h]
    · rw [if_neg h]
      have h0 : (numV n).fault = 0 := by simpa using h
      rw [h0]; rfl
  unfold M.tupF
  rw [h1, fault_num]
  by_cases h : n < -1000000 ∨ 1000000 < n
  · rw [if_pos h]; rfl
  · rw [if_neg h]; rfl
theorem ask_num {n : Int} : M.askF (xN n) = if n < -1000000 ∨ 1000000 < n then 1 else 0 := by
  rw [M.askF_put (a := xN n) (by show ¬ ((1 : Int) < 0 ∨ 1000000 < (1 : Int) ∨ (0 : Int) < 0 ∨ 2 < (0 : Int)); omega) rfl]
  exact tup_num
theorem may_num {n : Int} (h : M.tupF [numV n] = 0) : M.mayR R3 1 0 [numV n] = true := by
  have he : M.mayE R3 1 0 [numV n] = 0 := by rw [M.mayE_tup fine3 (by decide)]; exact h
  have hs : M.spotR R3 1 0 [numV n] = 0 := M.spotR_hit (by decide) (fun j hj => by omega) rfl
  rw [M.mayR_hit he (by rw [hs]; decide)]
  simp only [hs]
  rfl
theorem do_num {n : Int} (h1 : ¬ (n < -1000000 ∨ 1000000 < n)) : (M.doR R3 M.Cop.new (xN n)).1 = 0 ∧ (M.doR R3 M.Cop.new (xN n)).2.1 = M.sOk := by
  have hf : M.askF (xN n) = 0 := by rw [ask_num, if_neg h1]
  have ht : M.tupF [numV n] = 0 := by rw [tup_num, if_neg h1]
  have hal : M.allowB R3 M.Cop.new.l (xN n) = true := by
    unfold M.allowB
    rw [if_pos (show (xN n).deed = 0 from rfl)]
    exact may_num ht
  rw [M.doR_did hf (M.again_no rfl) rfl hal]
  refine ⟨rfl, ?_⟩
  show M.deedS [] (xN n) = _
  unfold M.deedS
  rw [if_pos (show (xN n).deed = 0 from rfl), if_pos (show M.putF [] (xN n).t = 0 from putF_ok ht (by simp))]
/-- what one alone answers -/
theorem alone (n : Int) (lie : ByteArray) : ((n < -1000000 ∨ 1000000 < n) ∧ (M.crR R3 M.Cop.new 1 [lie] (xN n)).1 ≠ 0) ∨ (¬ (n < -1000000 ∨ 1000000 < n) ∧ (M.crR R3 M.Cop.new 1 [lie] (xN n)).1 = 0 ∧ ((lie ≠ M.sNo ∧ (M.crR R3 M.Cop.new 1 [lie] (xN n)).2.1 = lie) ∨ (lie = M.sNo ∧ (M.crR R3 M.Cop.new 1 [lie] (xN n)).2.1 = M.sOk))) := by
  by_cases h : n < -1000000 ∨ 1000000 < n
  · refine Or.inl ⟨h, ?_⟩
    have hf : M.askF (xN n) ≠ 0 := by rw [ask_num, if_pos h]; decide
    have hd : (M.doR R3 M.Cop.new (xN n)).1 ≠ 0 := by rw [M.doR_bad hf]; exact hf
    rw [M.crR_bad (by simp) hd]
    exact hd
  · obtain ⟨d1, d2⟩ := do_num h
    refine Or.inr ⟨h, ?_⟩
    rw [M.crR_ok (by simp) d1, d2]
    have hw : ∀ s : ByteArray, M.winE [s] (M.need 1) = 0 ∧ M.winS [s] (M.need 1) = s := fun s => by
      have hi : M.winI [s] (M.need 1) = 0 := M.winI_hit (by simp) (fun j hj => by omega) (by rw [M.hitB_at (by simp)]; simp [M.cntV, M.need])
      have h0 : M.winE [s] (M.need 1) = 0 := M.winE_hit (by decide) (by simp) (by rw [hi]; simp)
      exact ⟨h0, by rw [M.winS_hit h0 (by rw [hi]; simp)]; simp [hi]⟩
    have hsay : M.sayL 1 [lie] M.sOk = [M.sayA [lie] M.sOk 0] := rfl
    rw [hsay]
    obtain ⟨w1, w2⟩ := hw (M.sayA [lie] M.sOk 0)
    refine ⟨w1, ?_⟩
    by_cases hl : lie = M.sNo
    · exact Or.inr ⟨hl, by rw [w2]; exact M.sayA_true (lie := [lie]) (by simp) hl⟩
    · exact Or.inl ⟨hl, by rw [w2]; exact M.sayA_lie (lie := [lie]) (by simp) hl⟩

/-- the blocks of the law's own -/
abbrev Sv : Obj := .cells #[.int .i64 2, .int .i64 0, .string ⟨#[]⟩] 25
abbrev Rv (b : Nat) : Obj := .cells #[.int .i64 0, .int .i64 (-1), .slice (some ⟨b, 0, none⟩) 1 1, .bool true, .int .i64 1, .int .i64 (-1), .slice (some ⟨b, 0, none⟩) 1 1, .bool true, .int .i64 2, .int .i64 (-1), .slice (some ⟨b, 0, none⟩) 1 1, .bool true] 33
theorem own_any (w : World) : OwnT w.heap.size (w.alloc Sv) (.slice (some ⟨w.heap.size, 0, none⟩) 1 1) [anyV] :=
  ⟨World.ownsRow_lit (base := w.heap.size) (e := 25) (size := 3) w #[.int .i64 2, .int .i64 0, .string ⟨#[]⟩] 1 (Nat.le_refl _) (by unfold maxLen; decide) rfl, fun x hx => by
    rw [List.mem_singleton.1 hx]; unfold maxLen; decide⟩
theorem rules3 (w : World) : AtR ((w.alloc Sv).alloc (Rv w.heap.size)) (some ⟨w.heap.size + 1, 0, none⟩) R3 := by
  have h2 : IsVals ((w.alloc Sv).alloc (Rv w.heap.size)) (.slice (some ⟨w.heap.size, 0, none⟩) 1 1) [anyV] := (own_any w).vals.stays ((Below.refl _ _).alloc (Nat.le_refl _) _) (Nat.le_refl _)
  have h3 := World.ownsRow_lit (base := w.heap.size) (e := 33) (size := 4) (w.alloc Sv) #[.int .i64 0, .int .i64 (-1), .slice (some ⟨w.heap.size, 0, none⟩) 1 1, .bool true, .int .i64 1, .int .i64 (-1), .slice (some ⟨w.heap.size, 0, none⟩) 1 1, .bool true, .int .i64 2, .int .i64 (-1), .slice (some ⟨w.heap.size, 0, none⟩) 1 1, .bool true] 3 (by simp) (by unfold maxLen; decide) rfl
  obtain ⟨a, c, e, h4⟩ := atR_own (l := R3) rfl (show RowR ((w.alloc Sv).alloc (Rv w.heap.size)) _ R3 from ⟨_, _, rfl, h2, _, _, rfl, h2, _, _, rfl, h2, rfl⟩) h3
  cases e
  simpa using h4
theorem opens (w : World) : Calls Tryd.prog 15 #[] w fun e w' => e = .returned (.slice (some ⟨w.heap.size + 1, 0, none⟩) 3 3) ∧ w' = (w.alloc Sv).alloc (Rv w.heap.size) := by
  go_enter Tryd.func15, Tryd.ntmps15
  go_wp2
  go_ret
  exact ⟨rfl, rfl⟩
theorem crowd1 (w : World) :
    Calls Tryd.prog 12 #[.int .i64 1, .slice (some ⟨w.heap.size + 1, 0, none⟩) 3 3] ((w.alloc Sv).alloc (Rv w.heap.size)) fun e w' => ∃ K F, e = .returned (.tuple #[.pointer (some ⟨K, 0, none⟩), .nilIface]) ∧ CwIs w.heap.size w' F K 1 M.Cop.new R3 ∧ Below w.heap.size w w' := by
  have hb : Below w.heap.size w ((w.alloc Sv).alloc (Rv w.heap.size)) := ((Below.refl _ _).alloc (Nat.le_refl _) _).alloc (by simp) _
  refine (crNew_ok w.heap.size 1 (some ⟨w.heap.size + 1, 0, none⟩) 3 3 R3 _ hb.size (by decide) (by decide) rfl (by unfold maxLen; decide) (rules3 w) fine3).mono ?_
  rintro e w' ⟨K, F, rfl, h1, _, h3⟩
  exact ⟨K, F, rfl, h1, hb.trans (h3.mono hb.size)⟩
/-- the one call: its tuple and its lie lie in blocks of the law's own -/
theorem doOne {w w2 : World} {K : Nat} {F : Nat → Prop} (n : Int) (lie : ByteArray) (hlie : lie.size ≤ reachBytes) (h : CwIs w.heap.size w2 F K 1 M.Cop.new R3) (hb : Below w.heap.size w w2) (ht : Tab w) :
    Calls Tryd.prog 14 #[.pointer (some ⟨K, 0, none⟩), aggA 1 1 0 (some ⟨w2.heap.size, 0, none⟩) 1 1, .slice (some ⟨w2.heap.size + 1, 0, none⟩) 1 1] ((w2.alloc (.cells #[.int .i64 0, .int .i64 n, .string ⟨#[]⟩] 25)).alloc (.cells #[.string lie] 9)) fun e w' => e = .returned (.tuple #[.string (M.crR R3 M.Cop.new 1 [lie] (xN n)).2.1, errV (M.crR R3 M.Cop.new 1 [lie] (xN n)).1]) ∧ Below w.heap.size w w' := by
  have hb1 : Below w2.heap.size w2 ((w2.alloc (.cells #[.int .i64 0, .int .i64 n, .string ⟨#[]⟩] 25)).alloc (.cells #[.string lie] 9)) := ((Below.refl _ _).alloc (Nat.le_refl _) _).alloc (by simp) _
  have h2 := h.quiet hb1
  have hvb : ((w2.alloc (.cells #[.int .i64 0, .int .i64 n, .string ⟨#[]⟩] 25)).alloc (.cells #[.string lie] 9)).heap[w2.heap.size]? = some (.cells #[.int .i64 0, .int .i64 n, .string ⟨#[]⟩] 25 (0, 0)) := (Below.heap_alloc _ _ _ (by simp)).trans (heap_alloc_new w2 _)
  have hlb : ((w2.alloc (.cells #[.int .i64 0, .int .i64 n, .string ⟨#[]⟩] 25)).alloc (.cells #[.string lie] 9)).heap[w2.heap.size + 1]? = some (.cells #[.string lie] 9 (0, 0)) := by
    have := heap_alloc_new (w2.alloc (.cells #[.int .i64 0, .int .i64 n, .string ⟨#[]⟩] 25)) (.cells #[.string lie] 9)
    simpa using this
  have hown : OwnT w2.heap.size (w2.alloc (.cells #[.int .i64 0, .int .i64 n, .string ⟨#[]⟩] 25)) (.slice (some ⟨w2.heap.size, 0, none⟩) 1 1) [numV n] :=
    ⟨World.ownsRow_lit (base := w2.heap.size) (e := 25) (size := 3) w2 #[.int .i64 0, .int .i64 n, .string ⟨#[]⟩] 1 (Nat.le_refl _) (by unfold maxLen; decide) rfl, fun x hx => by
      rw [List.mem_singleton.1 hx]; show (0 : Nat) ≤ _; exact Nat.zero_le _⟩
  have hbb := hb.trans (hb1.mono hb.size)
  refine (crDo (xN n) h2 (fun wx hT => ?_) (fun wx hT => ?_) (lie := [lie]) rfl (by show 1 ≤ maxLen; unfold maxLen; decide) (by decide) (fun wx hx => ht.stays (hbb.trans hx) (Nat.le_refl _))).mono ?_
  · exact ((hown.solid (Solid.below ((Below.refl _ _).alloc (Nat.le_refl _) _))).solid hT.vals).vals
  · intro _
    refine ⟨w2.heap.size + 1, 0, rfl, fun i hi => ?_⟩
    have e0 : i = 0 := by simpa using hi
    subst e0
    have hk : wx.heap[w2.heap.size + 1]? = some (.cells #[.string lie] 9 (0, 0)) := (hT.block _ (heap_lt hlb) (h2.other hlb (by decide) (by decide) (by decide) (by decide) (by decide) (by decide))).trans hlb
    refine ⟨?_, hlie⟩
    rw [cell_of_row wx _ _ _ _ (0, 0) hk]; rfl
  · rintro e w' ⟨rfl, F', _, k2, _⟩
    exact ⟨rfl, hbb.trans (k2.below h2.lows hbb.size)⟩

set_option maxHeartbeats 1000000 in
theorem walk (lie : ByteArray) (n : Int) (w : World) (hl : lie.size ≤ reachBytes) (ht : Tab w) :
    Calls Tryd.prog 6 #[.string lie, .int .i64 n] w fun e w' => e = .returned (.bool true) ∧ Below w.heap.size w w' := by
  have HD : Hid (∀ w2 K F, CwIs w.heap.size w2 F K 1 M.Cop.new R3 → Below w.heap.size w w2 → Calls Tryd.prog 14 #[.pointer (some ⟨K, 0, none⟩), aggA 1 1 0 (some ⟨w2.heap.size, 0, none⟩) 1 1, .slice (some ⟨w2.heap.size + 1, 0, none⟩) 1 1] ((w2.alloc (.cells #[.int .i64 0, .int .i64 n, .string ⟨#[]⟩] 25)).alloc (.cells #[.string lie] 9)) fun e w' => e = .returned (.tuple #[.string (M.crR R3 M.Cop.new 1 [lie] (xN n)).2.1, errV (M.crR R3 M.Cop.new 1 [lie] (xN n)).1]) ∧ Below w.heap.size w w') := hide fun w2 K F h hb => doOne n lie hl h hb ht
  have HF := hide (alone n lie)
  have HN := hide (crowd1 w)
  generalize M.crR R3 M.Cop.new 1 [lie] (xN n) = r at *
  obtain ⟨E, s, c⟩ := r
  simp only at HF HD
  clear hl ht
  go_enter Tryd.func6, Tryd.ntmps6
  go_wp2_with fail
  refine (opens w).mono ?_
  rintro e w1 ⟨rfl, rfl⟩
  go_wp2_with fail
  refine (unhide HN).mono ?_
  rintro e w2 ⟨K, F, rfl, hC, hb2⟩
  have HC := hide hC
  have HB2 := hide hb2
  have HND := hide (crNeed hC)
  rw [show M.need 1 = 1 by decide] at HND
  have HD2 := hide (HD.out w2 K F hC hb2)
  clear hC hb2 HD HN
  go_wp2_with fail
  refine (unhide HND).mono ?_
  rintro e w3 ⟨rfl, hw3⟩
  obtain rfl := hw3.symm
  go_wp2_with fail
  refine (unhide HD2).mono ?_
  rintro e w4 ⟨rfl, hb4⟩
  have HB4 := hide hb4
  clear hb4
  rcases HF.out with ⟨h1, h2⟩ | ⟨h1, h2, h3⟩
  · rw [errV_bad h2]
    have hx : n < -1000000 ∨ (¬ n < -1000000 ∧ 1000000 < n) := by omega
    clear h1 h2 HF
    rcases hx with h1 | ⟨h1, h2⟩
    all_goals
      go_wp2_with fail
      go_ret
      exact ⟨rfl, HB4.out⟩
  · subst h2
    rw [show errV 0 = Value.nilIface from rfl]
    clear h1 HF
    rcases h3 with ⟨h3, h4⟩ | ⟨h3, h4⟩
    · subst h4
      have hss : (s.toList == s.toList) = true := by simp
      clear h3
      go_wp2_with fail
      go_ret
      exact ⟨rfl, HB4.out⟩
    · subst h3 h4
      simp only [M.sOk, M.sNo]
      go_wp2_with fail
      go_ret
      exact ⟨rfl, HB4.out⟩

end Go.Proofs.YtlefhfmckimlaaiDoor.crowdAlone
