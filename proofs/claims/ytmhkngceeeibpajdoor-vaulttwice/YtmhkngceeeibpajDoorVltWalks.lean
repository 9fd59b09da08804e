/-
  What New, Part and True of package vault do, each as one law of its call.
-/
import Derived.Test.YtmhkngceeeibpajDoorVltOwn
import Derived.Test.YtmhkngceeeibpajDoorJProof
import Derived.Test.YtmhkngceeeibpajDoorBase
import Derived.WalkSmall
import Derived.Deep.RegionHeld3
set_option linter.unusedVariables false
namespace Go.Proofs.YtmhkngceeeibpajDoor
open Go.RowKit Go.WideMaps Go.Maps

theorem vNew_bad (many need : Int) (w : World) (h : many < 1 ∨ 7 < many ∨ need < 1 ∨ many < need) :
    Calls Tryd.prog 6 #[.int .i64 many, .int .i64 need] w fun e w' => e = .returned (.tuple #[.pointer none, .iface 52 (.int .i64 1)]) ∧ w' = w := by
  have hx : many < 1 ∨ (¬ many < 1 ∧ 7 < many) ∨ (¬ many < 1 ∧ ¬ 7 < many ∧ need < 1) ∨ (¬ many < 1 ∧ ¬ 7 < many ∧ ¬ need < 1 ∧ many < need) := by omega
  clear h
  rcases hx with h1 | ⟨h1, h2⟩ | ⟨h1, h2, h3⟩ | ⟨h1, h2, h3, h4⟩
  all_goals
    go_enter Tryd.func6, Tryd.ntmps6
    go_wp2_with fail
    go_ret2
    exact ⟨rfl, rfl⟩
theorem Vt.made {base : Nat} {w : World} (hb : base ≤ w.heap.size) (many need : Nat) :
    Vt base ((w.alloc (.map #[] 0)).alloc (.cells #[.int .i64 many, .int .i64 need, .map (some w.heap.size)] 55)) (w.heap.size + 1) w.heap.size (M.Vlt.new many need) (fun _ => (nilS, nilS)) := by
  refine ⟨by omega, hb, ?_, ⟨.map [], ?_, holds_none⟩, fun a p h => by cases h⟩
  · have := heap_alloc_new (w.alloc (.map #[] 0)) (.cells #[.int .i64 many, .int .i64 need, .map (some w.heap.size)] 55)
    rw [show (w.alloc (.map #[] 0)).heap.size = w.heap.size + 1 by simp] at this
    exact this
  · exact (World.ownsMap_made w Tryd.prog 9 heldV).alloc _
theorem vNew_ok (base many need : Nat) (w : World) (hb : base ≤ w.heap.size) (h1 : 1 ≤ need) (h2 : need ≤ many) (h7 : many ≤ 7) :
    Calls Tryd.prog 6 #[.int .i64 many, .int .i64 need] w fun e w' => ∃ V F, e = .returned (.tuple #[.pointer (some ⟨V, 0, none⟩), .nilIface]) ∧ VtIs base w' F V (M.Vlt.new many need) ∧ (∀ i, F i → w.heap.size ≤ i) ∧ Below w.heap.size w w' := by
  have HV := hide (Vt.made (w := w) hb many need)
  have hmm := @run_makeMap Tryd.prog
  have n1 : ¬ (many : Int) < 1 := by omega
  have n2 : ¬ (7 : Int) < (many : Int) := by omega
  have n3 : ¬ (need : Int) < 1 := by omega
  have n4 : ¬ (many : Int) < (need : Int) := by omega
  clear hb
  go_enter Tryd.func6, Tryd.ntmps6
  go_wp2_with fail
  go_ret2
  refine ⟨_, rfl, _, ⟨M.Vlt.new_ok h1 h2 h7, _, _, rfl, HV.out⟩, fun i hi => ?_, ((Below.refl _ _).alloc (Nat.le_refl _) _).alloc (by simp) _⟩
  rcases hi with rfl | rfl | ⟨a, p, hp, _⟩
  · exact Nat.le_succ _
  · exact Nat.le_refl _
  · cases hp

theorem vPlace (V many : Nat) (x : Int) (w : World) (hV : w.cell? ⟨V, 0, none⟩ = some (.int .i64 many)) :
    Calls Tryd.prog 20 #[.pointer (some ⟨V, 0, none⟩), .int .i64 x] w fun e w' => e = .returned (.bool (M.placeB many x)) ∧ w' = w := by
  have hVl : V < w.heap.size := World.block_lt_of_cell? w _ hV
  by_cases h1 : 1 ≤ x
  · by_cases h2 : x ≤ (many : Int)
    · rw [M.placeB_yes h1 h2]
      go_enter Tryd.func20, Tryd.ntmps20
      go_wp2
      go_ret
      exact ⟨by simp, rfl⟩
    · rw [M.placeB_no (by omega)]
      go_enter Tryd.func20, Tryd.ntmps20
      go_wp2
      go_ret
      exact ⟨by simp, rfl⟩
  · rw [M.placeB_no (by omega)]
    go_enter Tryd.func20, Tryd.ntmps20
    go_wp2
    go_ret
    exact ⟨by simp, rfl⟩

section
variable {base : Nat} {w : World} {F : Nat → Prop} {V : Nat} {v : M.Vlt}
theorem vTrue (a : ByteArray) (x y : Int) (h : VtIs base w F V v) (ha : a.size ≤ maxLen) :
    Calls Tryd.prog 10 #[.pointer (some ⟨V, 0, none⟩), .string a, .agg #[.int .i64 x, .int .i64 y]] w fun e w' => e = .returned (.tuple #[.bool (M.truR v a x y), errV (M.truE v a x y)]) ∧ Below w.heap.size w w' := by
  obtain ⟨B, K, rfl, hc⟩ := h.is
  have HB : Hid (∀ o, Below w.heap.size w (w.alloc o)) := hide fun o => (Below.refl _ _).alloc (Nat.le_refl _) o
  have HQ := hide (hc.quiet (HB.out (.cells #[.int .i64 x, .int .i64 y] 31)))
  obtain ⟨c0, c1, c2, cn⟩ := (hc.quiet (HB.out (.cells #[.int .i64 x, .int .i64 y] 31))).cells
  cases hg : v.g a with
  | none =>
    have e1 : M.truR v a x y = false := by unfold M.truR; rw [hg]
    have e2 : M.truE v a x y = 5 := by unfold M.truE; rw [hg]
    rw [e1, e2, errV_bad (by decide)]
    have hlk := HQ.out.lookNo a ha hg
    clear hg e1 e2 h hc HQ
    go_enter Tryd.func10, Tryd.ntmps10
    go_wp2_with fail
    go_ret2
    exact ⟨rfl, ((Below.refl _ _).alloc (Nat.le_refl _) _).alloc (by simp) _⟩
  | some p =>
    have e1 : M.truR v a x y = M.chkR (M.commits p) x y := by unfold M.truR; rw [hg]
    have e2 : M.truE v a x y = M.chkE (M.commits p) x y := by unfold M.truE; rw [hg]
    rw [e1, e2]
    obtain ⟨sa, sc, ca, cc, hlk, _, hat⟩ := HQ.out.lookYes a ha hg
    have hp7 := (M.facE_ok (h.ok.kept a p hg).2).1
    have HCK : Hid (∀ wx, Below (w.alloc (.cells #[.int .i64 x, .int .i64 y] 31)).heap.size (w.alloc (.cells #[.int .i64 x, .int .i64 y] 31)) wx → Calls Tryd.prog 26 #[.slice ca p.length cc, .agg #[.int .i64 x, .int .i64 y]] wx fun e w' => e = .returned (.tuple #[.bool (M.chkR (M.commits p) x y), errV (M.chkE (M.commits p) x y)]) ∧ Below wx.heap.size wx w') := hide fun wx hb => pCheck ca p.length cc (M.commits p) x y wx (M.commits_len p).symm (by unfold maxLen; omega) (hat.stays hb (Nat.le_refl _))
    generalize M.chkR (M.commits p) x y = b at *
    obtain ⟨er, her⟩ : ∃ er, er = errV (M.chkE (M.commits p) x y) := ⟨_, rfl⟩
    rw [← her] at HCK
    rw [← her]
    clear hg e1 e2 h hc hat her HQ
    go_enter Tryd.func10, Tryd.ntmps10
    go_wp2_with fail
    refine (HCK.out _ ((Below.refl _ _).alloc (Nat.le_refl _) _)).mono ?_
    rintro e w1 ⟨rfl, hb1⟩
    have HB1 := hide hb1
    clear hb1
    go_wp2_with fail
    go_ret2
    exact ⟨rfl, ((HB.out _).alloc (by simp) _).trans (HB1.out.mono (by simp; omega))⟩
end

end Go.Proofs.YtmhkngceeeibpajDoor
