/-
  What New, Part and True of package vault do, each as one law of its call.
  What Part of package vault does, as one law of its call.
-/
import Derived.Test.YtlefhfmckimlaajDoorVltOwn
import Derived.Test.YtlefhfmckimlaajDoorProofCheck
import Derived.Test.YtlefhfmckimlaajDoorJ10A
import Derived.WalkSmall
import Derived.Deep.RegionHeld3
set_option linter.unusedVariables false
namespace Go.Proofs.YtlefhfmckimlaajDoor
open Go.RowKit Go.WideMaps Go.Maps

theorem vNew_bad (many need : Int) (w : World) (h : many < 1 ∨ 7 < many ∨ need < 1 ∨ many < need) :
    Calls Tryd.prog 7 #[.int .i64 many, .int .i64 need] w fun e w' => e = .returned (.tuple #[.pointer none, .iface 66 (.int .i64 1)]) ∧ w' = w := by
  have hx : many < 1 ∨ (¬ many < 1 ∧ 7 < many) ∨ (¬ many < 1 ∧ ¬ 7 < many ∧ need < 1) ∨ (¬ many < 1 ∧ ¬ 7 < many ∧ ¬ need < 1 ∧ many < need) := by omega
  clear h
  rcases hx with h1 | ⟨h1, h2⟩ | ⟨h1, h2, h3⟩ | ⟨h1, h2, h3, h4⟩
  all_goals
    go_enter Tryd.func7, Tryd.ntmps7
    go_wp2_with fail
    go_ret2
    exact ⟨rfl, rfl⟩
theorem Vt.made {base : Nat} {w : World} (hb : base ≤ w.heap.size) (many need : Nat) :
    Vt base ((w.alloc (.map #[] 0)).alloc (.cells #[.int .i64 many, .int .i64 need, .map (some w.heap.size)] 69)) (w.heap.size + 1) w.heap.size (M.Vlt.new many need) (fun _ => (nilS, nilS)) := by
  refine ⟨by omega, hb, ?_, ⟨.map [], ?_, holds_none⟩, fun a p h => by cases h⟩
  · have := heap_alloc_new (w.alloc (.map #[] 0)) (.cells #[.int .i64 many, .int .i64 need, .map (some w.heap.size)] 69)
    rw [show (w.alloc (.map #[] 0)).heap.size = w.heap.size + 1 by simp] at this
    exact this
  · exact (World.ownsMap_made w Tryd.prog 9 heldV).alloc _
theorem vNew_ok (base many need : Nat) (w : World) (hb : base ≤ w.heap.size) (h1 : 1 ≤ need) (h2 : need ≤ many) (h7 : many ≤ 7) :
    Calls Tryd.prog 7 #[.int .i64 many, .int .i64 need] w fun e w' => ∃ V F, e = .returned (.tuple #[.pointer (some ⟨V, 0, none⟩), .nilIface]) ∧ VtIs base w' F V (M.Vlt.new many need) ∧ (∀ i, F i → w.heap.size ≤ i) ∧ Below w.heap.size w w' := by
  have HV := hide (Vt.made (w := w) hb many need)
  have hmm := @run_makeMap Tryd.prog
  have n1 : ¬ (many : Int) < 1 := by omega
  have n2 : ¬ (7 : Int) < (many : Int) := by omega
  have n3 : ¬ (need : Int) < 1 := by omega
  have n4 : ¬ (many : Int) < (need : Int) := by omega
  clear hb
  go_enter Tryd.func7, Tryd.ntmps7
  go_wp2_with fail
  go_ret2
  refine ⟨_, rfl, _, ⟨M.Vlt.new_ok h1 h2 h7, _, _, rfl, HV.out⟩, fun i hi => ?_, ((Below.refl _ _).alloc (Nat.le_refl _) _).alloc (by simp) _⟩
  rcases hi with rfl | rfl | ⟨a, p, hp, _⟩
  · exact Nat.le_succ _
  · exact Nat.le_refl _
  · cases hp

theorem vPlace (V many : Nat) (x : Int) (w : World) (hV : w.cell? ⟨V, 0, none⟩ = some (.int .i64 many)) :
    Calls Tryd.prog 25 #[.pointer (some ⟨V, 0, none⟩), .int .i64 x] w fun e w' => e = .returned (.bool (M.placeB many x)) ∧ w' = w := by
  have hVl : V < w.heap.size := World.block_lt_of_cell? w _ hV
  by_cases h1 : 1 ≤ x
  · by_cases h2 : x ≤ (many : Int)
    · rw [M.placeB_yes h1 h2]
      go_enter Tryd.func25, Tryd.ntmps25
      go_wp2
      go_ret
      exact ⟨by simp, rfl⟩
    · rw [M.placeB_no (by omega)]
      go_enter Tryd.func25, Tryd.ntmps25
      go_wp2
      go_ret
      exact ⟨by simp, rfl⟩
  · rw [M.placeB_no (by omega)]
    go_enter Tryd.func25, Tryd.ntmps25
    go_wp2
    go_ret
    exact ⟨by simp, rfl⟩

section
variable {base : Nat} {w : World} {F : Nat → Prop} {V : Nat} {v : M.Vlt}
theorem vTrue (a : ByteArray) (x y : Int) (h : VtIs base w F V v) (ha : a.size ≤ maxLen) :
    Calls Tryd.prog 11 #[.pointer (some ⟨V, 0, none⟩), .string a, .agg #[.int .i64 x, .int .i64 y]] w fun e w' => e = .returned (.tuple #[.bool (M.truR v a x y), errV (M.truE v a x y)]) ∧ Below w.heap.size w w' := by
  obtain ⟨B, K, rfl, hc⟩ := h.is
  have HB : Hid (∀ o, Below w.heap.size w (w.alloc o)) := hide fun o => (Below.refl _ _).alloc (Nat.le_refl _) o
  have HQ := hide (hc.quiet (HB.out (.cells #[.int .i64 x, .int .i64 y] 31)))
  obtain ⟨c0, c1, c2, cn⟩ := (hc.quiet (HB.out (.cells #[.int .i64 x, .int .i64 y] 31))).cells
  cases hg : v.g a with
  | none =>
    have e1 : M.truR v a x y = false := by unfold M.truR; rw [hg]
    have e2 : M.truE v a x y = 5 := by unfold M.truE; rw [hg]
    rw [e1, e2, errV_bad (by decide)]
    have hlk := HQ.out.lookNo a ha hg
    clear hg e1 e2 h hc HQ
    go_enter Tryd.func11, Tryd.ntmps11
    go_wp2_with fail
    go_ret2
    exact ⟨rfl, ((Below.refl _ _).alloc (Nat.le_refl _) _).alloc (by simp) _⟩
  | some p =>
    have e1 : M.truR v a x y = M.chkR (M.commits p) x y := by unfold M.truR; rw [hg]
    have e2 : M.truE v a x y = M.chkE (M.commits p) x y := by unfold M.truE; rw [hg]
    rw [e1, e2]
    obtain ⟨sa, sc, ca, cc, hlk, _, hat⟩ := HQ.out.lookYes a ha hg
    have hp7 := (M.facE_ok (h.ok.kept a p hg).2).1
    have HCK : Hid (∀ wx, Below (w.alloc (.cells #[.int .i64 x, .int .i64 y] 31)).heap.size (w.alloc (.cells #[.int .i64 x, .int .i64 y] 31)) wx → Calls Tryd.prog 31 #[.slice ca p.length cc, .agg #[.int .i64 x, .int .i64 y]] wx fun e w' => e = .returned (.tuple #[.bool (M.chkR (M.commits p) x y), errV (M.chkE (M.commits p) x y)]) ∧ Below wx.heap.size wx w') := hide fun wx hb => pCheck ca p.length cc (M.commits p) x y wx (M.commits_len p).symm (by unfold maxLen; omega) (hat.stays hb (Nat.le_refl _))
    generalize M.chkR (M.commits p) x y = b at *
    obtain ⟨er, her⟩ : ∃ er, er = errV (M.chkE (M.commits p) x y) := ⟨_, rfl⟩
    rw [← her] at HCK
    rw [← her]
    clear hg e1 e2 h hc hat her HQ
    go_enter Tryd.func11, Tryd.ntmps11
    go_wp2_with fail
    refine (HCK.out _ ((Below.refl _ _).alloc (Nat.le_refl _) _)).mono ?_
    rintro e w1 ⟨rfl, hb1⟩
    have HB1 := hide hb1
    clear hb1
    go_wp2_with fail
    go_ret2
    exact ⟨rfl, ((HB.out _).alloc (by simp) _).trans (HB1.out.mono (by simp; omega))⟩
end

end Go.Proofs.YtlefhfmckimlaajDoor

set_option linter.unusedVariables false
namespace Go.Proofs.YtlefhfmckimlaajDoor
open Go.RowKit Go.WideMaps Go.Maps

section
variable {base : Nat} {w : World} {F : Nat → Prop} {V : Nat} {v : M.Vlt}
set_option maxRecDepth 100000 in
theorem vPart (a : ByteArray) (x : Int) (h : VtIs base w F V v) (ha : a.size ≤ maxLen) :
    Calls Tryd.prog 9 #[.pointer (some ⟨V, 0, none⟩), .string a, .int .i64 x] w fun e w' => e = .returned (.tuple #[.agg #[.int .i64 (M.partR v a x).1, .int .i64 (M.partR v a x).2], errV (M.partE v a x)]) ∧ Below w.heap.size w w' := by
  obtain ⟨B, K, rfl, hc⟩ := h.is
  have HB : Hid (∀ o, Below w.heap.size w (w.alloc o)) := hide fun o => (Below.refl _ _).alloc (Nat.le_refl _) o
  have HB2 : Hid (∀ o o2, Below w.heap.size w ((w.alloc o).alloc o2)) := hide fun o o2 => ((Below.refl _ _).alloc (Nat.le_refl _) _).alloc (by simp) _
  have HQ := hide (hc.quiet (HB.out (.cells #[.int .i64 0, .int .i64 0] 31)))
  obtain ⟨c0, c1, c2, cn⟩ := (hc.quiet (HB.out (.cells #[.int .i64 0, .int .i64 0] 31))).cells
  have hmany := h.ok.seven
  cases hg : v.g a with
  | none =>
    have e1 : M.partR v a x = (0, 0) := by unfold M.partR; rw [hg]
    have e2 : M.partE v a x = 5 := by unfold M.partE; rw [hg]
    rw [e1, e2, errV_bad (by decide)]
    have hlk := HQ.out.lookNo a ha hg
    clear hg e1 e2 h hc HQ
    go_enter Tryd.func9, Tryd.ntmps9
    go_wp2_with fail
    refine bodyPost_ret (v := .tuple #[.agg #[.int .i64 0, .int .i64 0], .iface 66 (.int .i64 5)]) (by simp [results, Tryd.results9, go_sem]) rfl ⟨rfl, ?_⟩
    exact HB2.out _ _
  | some p =>
    obtain ⟨sa, sc, ca, cc, hlk, hat, _⟩ := HQ.out.lookYes a ha hg
    have HCE := hide ((hc.quiet (HB2.out (.cells #[.int .i64 0, .int .i64 0] 31) (.cells #[.slice sa v.many sc, .slice ca p.length cc] 71))).cells.1)
    have HPL : Hid (Calls Tryd.prog 25 #[.pointer (some ⟨V, 0, none⟩), .int .i64 x] ((w.alloc (.cells #[.int .i64 0, .int .i64 0] 31)).alloc (.cells #[.slice sa v.many sc, .slice ca p.length cc] 71)) fun e w' => e = .returned (.bool (M.placeB v.many x)) ∧ w' = (w.alloc (.cells #[.int .i64 0, .int .i64 0] 31)).alloc (.cells #[.slice sa v.many sc, .slice ca p.length cc] 71)) := hide (vPlace V v.many x _ HCE.out)
    by_cases hx : 1 ≤ x ∧ x ≤ (v.many : Int)
    · have e1 : M.partR v a x = (x, M.ev p x) := by unfold M.partR; rw [hg]; exact if_pos hx
      have e2 : M.partE v a x = 0 := by unfold M.partE; rw [hg]; exact if_pos hx
      rw [e1, e2]
      rw [M.placeB_yes hx.1 hx.2] at HPL
      obtain ⟨i, rfl⟩ : ∃ i : Nat, x = (i : Int) + 1 := ⟨(x - 1).toNat, by omega⟩
      have hi : i < v.many := by omega
      obtain ⟨b, off, rfl, hlie⟩ := hat (by rw [M.deal_len]; omega)
      obtain ⟨d1, d2⟩ := (hlie.stays ((Below.refl _ _).alloc (Nat.le_refl _) (.cells #[.slice (some ⟨b, off, none⟩) v.many sc, .slice ca p.length cc] 71)) (Nat.le_refl _)) i (by rw [M.deal_len]; exact hi)
      rw [M.deal_at p hi] at d1 d2
      simp only at d1 d2
      have x3 : (i : Int) < (v.many : Int) := by omega
      have x4 : (0 : Int) ≤ (i : Int) := by omega
      have x5 : (i : Int) + 1 - 1 = (i : Int) := by omega
      generalize M.ev p ((i : Int) + 1) = z at *
      generalize v.many = mn at *
      clear hg e1 e2 h hc hat hlie hx HQ HCE
      go_enter Tryd.func9, Tryd.ntmps9
      go_wp2_with fail
      refine (unhide HPL).mono ?_
      rintro e w9 ⟨rfl, hw9⟩
      obtain rfl := hw9
      go_wp2_with fail
      refine bodyPost_ret (v := .tuple #[.agg #[.int .i64 ((i : Int) + 1), .int .i64 z], .nilIface]) (by simp [results, Tryd.results9, go_sem]) rfl ⟨rfl, ?_⟩
      exact HB2.out _ _
    · have e1 : M.partR v a x = (0, 0) := by unfold M.partR; rw [hg]; exact if_neg hx
      have e2 : M.partE v a x = 1 := by unfold M.partE; rw [hg]; exact if_neg hx
      rw [e1, e2, errV_bad (by decide)]
      rw [M.placeB_no hx] at HPL
      generalize v.many = mn at *
      clear hg e1 e2 h hc hat hx HQ HCE
      go_enter Tryd.func9, Tryd.ntmps9
      go_wp2_with fail
      refine (unhide HPL).mono ?_
      rintro e w9 ⟨rfl, hw9⟩
      obtain rfl := hw9
      go_wp2_with fail
      refine bodyPost_ret (v := .tuple #[.agg #[.int .i64 0, .int .i64 0], .iface 66 (.int .i64 1)]) (by simp [results, Tryd.results9, go_sem]) rfl ⟨rfl, ?_⟩
      exact HB2.out _ _
end

end Go.Proofs.YtlefhfmckimlaajDoor
