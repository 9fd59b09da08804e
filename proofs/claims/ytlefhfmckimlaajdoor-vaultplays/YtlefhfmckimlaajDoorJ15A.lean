/-
  What At of package poly does with factors that are right: the library's way back over a slice, and the sum.
  What At of package poly answers, whatever comes in, as one law of its call.
-/
import Derived.Test.YtlefhfmckimlaajDoorPolyAt
set_option linter.unusedVariables false
namespace Go.Proofs.YtlefhfmckimlaajDoor
open Go.RowKit Go.Shelf
attribute [local go_sem] Oper.semAt_some

/-- what comes in a round: a place in the row, and a factor that is right -/
abbrev Fac := { z : Int × Int // 0 ≤ z.2 ∧ z.2 < 257 }
def facs (xs : List Fac) : List Int := xs.map fun z => z.1.2
theorem facs_snoc (xs : List Fac) (z : Fac) : facs (xs ++ [z]) = facs xs ++ [z.1.2] := by simp [facs]
theorem facs_len (xs : List Fac) : (facs xs).length = xs.length := by simp [facs]

/-- what lies below n₀, and the block B, are kept -/
def KeepB (n₀ B : Nat) (W W' : World) : Prop := Below n₀ W W' ∧ W'.heap[B]? = W.heap[B]?
theorem KeepB.refl (n₀ B : Nat) (W : World) : KeepB n₀ B W W := ⟨Below.refl _ _, rfl⟩
theorem KeepB.trans {n₀ B : Nat} {X Y Z : World} (h : KeepB n₀ B X Y) (g : KeepB n₀ B Y Z) : KeepB n₀ B X Z := ⟨h.1.trans g.1, g.2.trans h.2⟩
theorem KeepB.cell {n₀ B : Nat} {X Y : World} (h : KeepB n₀ B X Y) : Y.cell? ⟨B, 0, none⟩ = X.cell? ⟨B, 0, none⟩ := by
  simp only [World.cell?, h.2]
theorem keepB_b {n₀ B : Nat} {w : World} (hn : n₀ ≤ w.heap.size) (hB : B < w.heap.size) (W : World) (l : Nat) (o o' : Obj) (hl : w.heap.size ≤ l) (h : W.heap[l]? = some o) (h1 : o.isCells = false) (h2 : o.isWalk = false) : KeepB n₀ B W (W.putObj l o') :=
  ⟨belowK_b hn W l o o' hl h h1 h2, (grownBy_putObj' W l o').block B (by have := (Array.getElem?_eq_some_iff.1 h).1; omega) (by intro e; cases e; omega)⟩

theorem backward (a : Option Addr) (n cap : Nat) (w : World) : Calls Tryd.prog 96 #[.slice a n cap] w fun e w' => e = .returned (.func (.func 116) #[] #[.pointer (some ⟨w.heap.size, 0, none⟩)]) ∧ w' = w.alloc (.cells #[.slice a n cap] 22) := by
  go_enter Tryd.func96, Tryd.ntmps96
  go_wp2
  go_ret
  exact ⟨rfl, rfl⟩

set_option maxRecDepth 100000 in
set_option maxHeartbeats 2000000 in
theorem backward1 (m : Nat) (hm1 : 1 ≤ m) (l Bs n₀ n cap : Nat) (a : Option Addr) (p : List Int) (hn : n = p.length) (hm : n ≤ 7) (hr : ∀ i (hi : i < p.length), 0 ≤ p[i] ∧ p[i] < 257) (J Jx : List Fac → World → Prop)
    (hY : ∀ pre x W, J pre W → pre.length < n → YieldAt Fence.wide (m - 1) Tryd.prog l #[.int .i64 x.1.1, .int .i64 x.1.2] W fun e W' =>
      (e = .returned (.bool true) ∧ J (pre ++ [x]) W' ∧ KeepB n₀ Bs W W') ∨ (e = .returned (.bool false) ∧ Jx (pre ++ [x]) W'))
    (W : World) (hBs : W.cell? ⟨Bs, 0, none⟩ = some (.slice a n cap)) (hc : 0 < n → ∃ b off, a = some ⟨b, off, none⟩ ∧ b < n₀ ∧ LieI W b off p) (h0 : J [] W) :
    CallsIn Fence.wide m Tryd.prog 116 #[.func (.yield l) #[] #[], .pointer (some ⟨Bs, 0, none⟩)] W fun e W' => (∃ v, e = .returned v) ∧
      ((∃ ys, facs ys = p.reverse ∧ J ys W') ∨ (∃ pre, True ∧ Jx pre W')) := by
  have HY := hide hY
  have HC := hide hc
  have HN := hide hn
  have HR := hide hr
  clear hY hc hn hr
  refine callsIn_of_wp Tryd.func116 rfl trivial ?_ rfl
  simp only [Tryd.ntmps116, List.size_toArray, List.length_cons, List.length_nil, Nat.reduceAdd, Nat.reduceSub, Array.replicate_succ, Array.replicate_zero, List.push_toArray, List.append_toArray, List.nil_append, List.cons_append]
  gi_wp2
  gi_loopw [3] (fun s wr => ∃ (i : Int) (pre : List Fac), s = .int .i64 i ∧ -1 ≤ i ∧ i < n ∧ Hid (facs pre = (p.drop (i + 1).toNat).reverse) ∧ Hid (J pre wr) ∧ Hid (KeepB n₀ Bs W wr)) (fun s _ => (intOf s + 1).toNat)
  case atStart => exact ⟨(n : Int) - 1, [], rfl, by omega, by omega, hide (by have h := HN.out; rw [show ((n : Int) - 1 + 1).toNat = p.length by omega]; simp [facs]), hide h0, hide (KeepB.refl _ _ _)⟩
  case round =>
    obtain ⟨i, pre, rfl, hi0, hi1, hp, hJ, hB⟩ := hrel
    have hBs' : wr.cell? ⟨Bs, 0, none⟩ = some (.slice a n cap) := hB.out.cell.trans hBs
    by_cases hlt : 0 ≤ i
    · obtain ⟨k, rfl⟩ : ∃ k : Nat, i = k := ⟨i.toNat, by omega⟩
      have hkn : k < n := by omega
      have hkl : k < p.length := by have := HN.out; omega
      obtain ⟨b, off, rfl, hbn, hlie⟩ := HC.out (by omega)
      have c1 : wr.cell? ⟨b, off + k, none⟩ = some (.int .i64 p[k]) := (hB.out.1.cell (p := ⟨b, off + k, none⟩) hbn).trans (hlie k hkl)
      have HD : Hid (facs pre ++ [p[k]] = (p.drop k).reverse) := hide (by
        rw [hp.out, show ((k : Int) + 1).toNat = k + 1 by omega, ← List.getElem_cons_drop hkl, List.reverse_cons])
      have hlen : pre.length < n := by
        have e := congrArg List.length hp.out
        rw [facs_len, List.length_reverse, List.length_drop, show ((k : Int) + 1).toNat = k + 1 by omega] at e
        have := HN.out
        omega
      have HRK := hide (HR.out k hkl)
      clear hlie
      generalize hz : p[k] = z at c1 HD HRK
      clear hz
      obtain ⟨fn, tmps, assign, body, hy, hR⟩ := HY.out pre ⟨((k : Int), z), HRK.out⟩ wr hJ.out hlen
      dsimp only at hy
      clear hlen
      gi_wp2
      refine hR.mono ?_
      rintro e W3 (⟨rfl, hJ3, hk3⟩ | ⟨rfl, hJx3⟩)
      · have HJ3 := hide hJ3
        have HK3 := hide hk3
        clear hJ3 hk3
        gi_wp2
        go_roundw
        case rel => exact ⟨(k : Int) - 1, pre ++ [⟨((k : Int), z), HRK.out⟩], rfl, by omega, by omega, hide (by rw [facs_snoc, show ((k : Int) - 1 + 1).toNat = k by omega]; exact HD.out), HJ3, hide (hB.out.trans HK3.out)⟩
        case measure => simp [intOf]
      · have HX3 := hide hJx3
        clear hJx3
        gi_wp2
        refine bodyPost_ret (results_none rfl _ _ _) rfl ?_
        exact ⟨⟨_, rfl⟩, .inr ⟨_, trivial, HX3.out⟩⟩
    · have hfin : Hid (facs pre = p.reverse) := hide (by have h := hp.out; rwa [show (i + 1).toNat = 0 by omega, List.drop_zero] at h)
      gi_wp2
      go_end0
      exact ⟨⟨_, rfl⟩, .inl ⟨pre, hfin.out, hJ.out⟩⟩

theorem backward_stops (m : Nat) (hm1 : 1 ≤ m) (Bs n₀ n cap : Nat) (a : Option Addr) (p : List Int) (hn : n = p.length) (hm : n ≤ 7) (hr : ∀ i (hi : i < p.length), 0 ≤ p[i] ∧ p[i] < 257) (w : World) (hB : Bs < w.heap.size) (hBs : w.cell? ⟨Bs, 0, none⟩ = some (.slice a n cap)) (hc : 0 < n → ∃ b off, a = some ⟨b, off, none⟩ ∧ b < n₀ ∧ LieI w b off p) :
    SeqStopsK Fence.wide m Tryd.prog 116 #[.pointer (some ⟨Bs, 0, none⟩)] (fun x : Fac => #[Value.int .i64 x.1.1, Value.int .i64 x.1.2]) (KeepB n₀ Bs) (fun ys => facs ys = p.reverse) (fun _ => True) n w := fun l J Jx W hW _ _ hY h0 =>
  backward1 m hm1 l Bs n₀ n cap a p hn hm hr J Jx hY W ((hW.cell (p := ⟨Bs, 0, none⟩) hB).trans hBs) (fun h => by
    obtain ⟨b, off, e, hb, hl⟩ := hc h
    exact ⟨b, off, e, hb, hl.stays hW (Nat.le_refl _)⟩) h0

theorem heap_other (W : World) {B C : Nat} (h : C ≠ B) (v : Value) : (W.setCell ⟨B, 0, none⟩ v).heap[C]? = W.heap[C]? := by
  show (W.heap.modify B _)[C]? = _
  rw [Array.getElem?_modify, if_neg (fun e => h e.symm)]
theorem ev_next (pre : List Fac) (z : Fac) (x : Int) : M.ev (facs (pre ++ [z])).reverse x = (M.ev (facs pre).reverse x * x + z.1.2) % 257 := by
  rw [facs_snoc, List.reverse_append, List.reverse_singleton, List.singleton_append, M.ev_cons, Int.mul_comm x, Int.add_comm]

set_option maxRecDepth 100000 in
set_option maxHeartbeats 4000000 in
theorem atOk (a : Option Addr) (n cap : Nat) (p : List Int) (x : Int) (w : World) (hn : n = p.length) (hm : n ≤ maxLen) (hl : AtI w a p) (hf : M.facE p = 0) (hx0 : 0 ≤ x) (hx1 : x < 257) :
    Calls Tryd.prog 66 #[.slice a n cap, .int .i64 x] w fun e w' => e = .returned (.tuple #[.int .i64 (M.ev p x), .nilIface]) ∧ Below w.heap.size w w' := by
  obtain ⟨h7, hr⟩ := M.facE_ok hf
  have HC : Hid (∀ w1, Below w.heap.size w w1 → Calls Tryd.prog 95 #[.slice a n cap] w1 fun e w' => e = .returned .nilIface ∧ w' = w1) := hide fun w1 hb => by
    have := checkFac a n cap p w1 hn hm (hl.stays hb (Nat.le_refl _))
    rwa [hf] at this
  have HL : Hid (∀ w1, Below w.heap.size w w1 → 0 < n → ∃ b off, a = some ⟨b, off, none⟩ ∧ b < w.heap.size ∧ LieI w1 b off p) := hide fun w1 hb h0 => by
    obtain ⟨b, off, e, g⟩ := hl (by omega)
    exact ⟨b, off, e, by have := World.block_lt_of_cell? w _ (g 0 (by omega)); simp only at this; omega, g.stays hb (Nat.le_refl _)⟩
  have HN := hide hn
  have HR := hide hr
  clear hn hm hl hf hr
  refine (callsIn_wide (n := 3)).1 ?_
  refine callsIn_of_wp_marks Tryd.func66 rfl trivial ?_ rfl
  simp only [Tryd.ntmps66, List.size_toArray, List.length_cons, List.length_nil, Nat.reduceAdd, Nat.reduceSub, Array.replicate_succ, Array.replicate_zero, List.push_toArray, List.append_toArray, List.nil_append, List.cons_append]
  gi_wp2_with (first
    | (refine ⟨trivial, ?_⟩; gi_at_call 95; refine (callsIn_wide.2 (HC.out _ ((Below.refl _ w).alloc (Nat.le_refl _) _))).mono ?_; rintro e w' ⟨rfl, rfl⟩)
    | (refine ⟨trivial, ?_⟩; gi_at_call 28; refine (callsIn_wide.2 (Md.isYes x _ hx0 hx1)).mono ?_; rintro e w' ⟨rfl, rfl⟩)
    | (refine ⟨trivial, ?_⟩; gi_at_call 96; refine (callsIn_wide.2 (backward a n cap _)).mono ?_; rintro e w' ⟨rfl, rfl⟩))
  have b0 := Boxed.new w 3 (.int .i64 x)
  have b1 := Boxed.new (w.alloc (.cells #[.int .i64 x] 3)) 3 (.int .i64 0)
  have b2 := Boxed.new ((w.alloc (.cells #[.int .i64 x] 3)).alloc (.cells #[.int .i64 0] 3)) 22 (.slice a n cap)
  simp only [World.size_alloc] at b1 b2
  have hB0 : Below w.heap.size w (((w.alloc (.cells #[.int .i64 x] 3)).alloc (.cells #[.int .i64 0] 3)).alloc (.cells #[.slice a n cap] 22)) := (((Below.refl _ w).alloc (Nat.le_refl _) _).alloc (by simp) _).alloc (by simp; omega) _
  refine wpIn_rangeFunc_ownF rfl (by omega) (gf := 116) (lb := #[.pointer (some ⟨w.heap.size + 1 + 1, 0, none⟩)]) rfl trivial (enters_of Tryd.func116 (by kernel_rfl) rfl)
    (backward_stops _ (by omega) (w.heap.size + 1 + 1) w.heap.size n cap a p HN.out (by have := HN.out; omega) HR.out _ (by simp) b2.cell (HL.out _ hB0)) KeepB.trans (keepB_b (by simp; omega) (by simp)) (Below.refl _ _) (fun _ => rfl)
    (fun pre W => (Boxed W (w.heap.size + 1) 3 (.int .i64 (M.ev (facs pre).reverse x)) ∧ Boxed W w.heap.size 3 (.int .i64 x)) ∧ Below w.heap.size w W)
    (fun _ _ _ => False)
    (OwnFrom.and (OwnFrom.and (Own.from (boxed_own _ _ (fun pre => .int .i64 (M.ev (facs pre).reverse x))) _) (Own.from (boxed_own _ _ (fun _ => .int .i64 x)) _)) (ownFrom_below (Nat.le_refl _) (by simp; omega)))
    (fun _ _ _ _ _ hs _ _ => hs)
    ⟨⟨b1.alloc _, (b0.alloc _).alloc _⟩, hB0⟩
    (fun z => { tmps := #[.slice a n cap, .int .i64 x, undef, .pointer (some ⟨w.heap.size, 0, none⟩), .int .i64 0, .nilIface, .nilIface, .pointer (some ⟨w.heap.size + 1, 0, none⟩), undef, .int .i64 z.1.2, .slice a n cap, .nilIface, .nilIface, .bool false, undef, .int .i64 x, .bool true, .bool false, undef, .slice a n cap, .func (.func 116) #[] #[.pointer (some ⟨w.heap.size + 1 + 1, 0, none⟩)], .int .i64 z.1.1, .int .i64 z.1.2, undef, undef, undef, undef, undef, undef, undef], defers := [] }) ?assign ?body ?done ?stop
  case assign =>
    intro l z W K hK
    gi_wp2
    exact hK
  case body =>
    rintro l pre z W ⟨⟨hb1, hb0⟩, hB⟩ _
    have HE := hide (ev_next pre z x)
    obtain ⟨q, hq⟩ : ∃ q, q = M.ev (facs pre).reverse x := ⟨_, rfl⟩
    have hr1 := M.ev_range (facs pre).reverse x
    rw [← hq] at hr1 hb1 HE
    obtain ⟨q0, q1⟩ := hr1
    obtain ⟨m0, m1⟩ := prod_range q0 q1 hx0 hx1
    obtain ⟨z0, z1⟩ := z.2
    have hc1 := hb1.cell
    have hf1 := hb1.frozen
    have hl1 := hb1.lt
    have hc0 := hb0.cell
    have hl0 := hb0.lt
    have H1 := hide hb1
    have H0 := hide hb0
    have HB := hide hB
    clear hq hb1 hb0 hB b0 b1 b2 hB0
    gi_wp2
    refine ⟨KeepsOthers.setCell _ _ _, ⟨(Below.refl w.heap.size W).setCell (p := ⟨w.heap.size + 1, 0, none⟩) (by simp) _, ?_⟩, ⟨?_, H0.out.other (by omega) _⟩, HB.out.setCell (p := ⟨w.heap.size + 1, 0, none⟩) (by simp) _⟩
    · exact heap_other W (by omega) _
    · rw [HE.out]; exact H1.out.set _
  case done =>
    rintro D ys W hD hys ⟨⟨hb1, hb0⟩, hB⟩ hK
    have hc1 := hb1.cell
    have hl1 := hb1.lt
    have HS : Hid (M.ev (facs ys).reverse x = M.ev p x) := hide (by rw [hys, List.reverse_reverse])
    have HB := hide hB
    have HD := hide hD
    have HK := hide hK
    clear hys hb1 hb0 hB b0 b1 b2 hB0 hD hK
    gi_wp2
    refine ⟨by simp, .inl ⟨_, _, rfl, run_takeDeferred HK.out, ?_⟩⟩
    refine ⟨.tuple #[.int .i64 (M.ev p x), .nilIface], ?_, rfl, HB.out.trans (belowK_b (w := w) (Nat.le_refl _) W D _ _ (by have := HD.out; simp at this; omega) HK.out rfl rfl)⟩
    rw [← HS.out]
    simp [results, Tryd.f66, go_sem]
  case stop =>
    rintro D c pre W _ _ h _
    exact h.elim

end Go.Proofs.YtlefhfmckimlaajDoor

set_option linter.unusedVariables false
namespace Go.Proofs.YtlefhfmckimlaajDoor
open Go.RowKit

theorem atFac (a : Option Addr) (n cap : Nat) (p : List Int) (x : Int) (w : World) (hn : n = p.length) (hm : n ≤ maxLen) (hl : AtI w a p) (hf : M.facE p ≠ 0) :
    Calls Tryd.prog 66 #[.slice a n cap, .int .i64 x] w fun e w' => e = .returned (.tuple #[.int .i64 0, .iface 66 (.int .i64 (M.facE p))]) ∧ Below w.heap.size w w' := by
  have HC : Hid (∀ w1, Below w.heap.size w w1 → Calls Tryd.prog 95 #[.slice a n cap] w1 fun e w' => e = .returned (.iface 66 (.int .i64 (M.facE p))) ∧ w' = w1) := hide fun w1 hb => by
    have := checkFac a n cap p w1 hn hm (hl.stays hb (Nat.le_refl _))
    rwa [errV_bad hf] at this
  clear hn hm hl hf
  go_enter Tryd.func66, Tryd.ntmps66
  go_wp2_with fail
  refine (unhide HC _ ((Below.refl _ w).alloc (Nat.le_refl _) _)).mono ?_
  rintro e w1 ⟨rfl, rfl⟩
  go_wp2_with fail
  go_ret2
  exact ⟨rfl, (Below.refl _ _).alloc (Nat.le_refl _) _⟩

theorem atX (a : Option Addr) (n cap : Nat) (p : List Int) (x : Int) (w : World) (hn : n = p.length) (hm : n ≤ maxLen) (hl : AtI w a p) (hf : M.facE p = 0) (hx : x < 0 ∨ 257 ≤ x) :
    Calls Tryd.prog 66 #[.slice a n cap, .int .i64 x] w fun e w' => e = .returned (.tuple #[.int .i64 0, .iface 66 (.int .i64 1)]) ∧ Below w.heap.size w w' := by
  have HC : Hid (∀ w1, Below w.heap.size w w1 → Calls Tryd.prog 95 #[.slice a n cap] w1 fun e w' => e = .returned .nilIface ∧ w' = w1) := hide fun w1 hb => by
    have := checkFac a n cap p w1 hn hm (hl.stays hb (Nat.le_refl _))
    rwa [hf] at this
  have HX := hide hx
  clear hn hm hl hf hx
  go_enter Tryd.func66, Tryd.ntmps66
  go_wp2_with fail
  refine (unhide HC _ ((Below.refl _ w).alloc (Nat.le_refl _) _)).mono ?_
  rintro e w1 ⟨rfl, rfl⟩
  go_wp2_with fail
  refine (Md.isNo x _ HX.out).mono ?_
  rintro e w1 ⟨rfl, rfl⟩
  go_wp2_with fail
  go_ret2
  exact ⟨rfl, (Below.refl _ _).alloc (Nat.le_refl _) _⟩

theorem pAt (a : Option Addr) (n cap : Nat) (p : List Int) (x : Int) (w : World) (hn : n = p.length) (hm : n ≤ maxLen) (hl : AtI w a p) :
    Calls Tryd.prog 66 #[.slice a n cap, .int .i64 x] w fun e w' => e = .returned (.tuple #[.int .i64 (M.atR p x), errV (M.atE p x)]) ∧ Below w.heap.size w w' := by
  by_cases hf : M.facE p = 0
  · cases hx : M.inR x
    · have h := M.atE_x hf hx
      rw [M.atR_bad (by rw [h]; decide), h]
      exact atX a n cap p x w hn hm hl hf (M.inR_no hx)
    · have h := M.atE_0 hf hx
      rw [M.atR_ok h, h]
      exact atOk a n cap p x w hn hm hl hf (M.inR_yes hx).1 (M.inR_yes hx).2
  · have h := M.atE_fac (x := x) hf
    rw [M.atR_bad (by rw [h]; exact hf), h, errV_bad hf]
    exact atFac a n cap p x w hn hm hl hf

end Go.Proofs.YtlefhfmckimlaajDoor
