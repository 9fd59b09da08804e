/-
  What At of package poly does, and what it asks: each as one law of its call.
  What At of package poly does with factors that are right: the library's way back over a slice, and the sum.
  What At of package poly answers, whatever comes in, as one law of its call.
  What package poly asks of points: each as one law of its call.
  What Next and Zero of package poly do, each as one law of its call.
-/
import Derived.Test.YtmhkngceeeibpajDoorJMem
import Derived.RangeFuncNested
import Derived.RangeFuncBound
import Derived.RangeFuncCalls
import Derived.RangeFuncLeaves
import Derived.RangeFuncBox
import Derived.Shelf.Abstract
import Derived.Shelf.RegionOpen
import Derived.WalkKit
import Derived.OwnWalkIn
import Derived.TacticsInMore
import Derived.LoopNIn
import Derived.LoopIn
import Derived.Deep.RegionWith
import Derived.BigQuiet
import Derived.Deep.QuietTactic
set_option linter.unusedVariables false
namespace Go.Proofs.YtmhkngceeeibpajDoor
open Go.RowKit Go.Shelf
attribute [local go_sem] Oper.semAt_some

theorem isBad (a : Int) (w : World) : Calls Tryd.prog 64 #[.int .i64 a] w fun e w' => e = .returned (.bool (!M.inR a)) ∧ w' = w := by
  cases h : M.inR a
  · have H := hide (M.inR_no h)
    clear h
    go_enter Tryd.func64, Tryd.ntmps64
    go_wp2_with (go_at_call 23; refine (Md.isNo _ _ H.out).mono ?_; rintro e w' ⟨rfl, rfl⟩)
    go_ret
    exact ⟨rfl, rfl⟩
  · obtain ⟨h0, h1⟩ := M.inR_yes h
    clear h
    go_enter Tryd.func64, Tryd.ntmps64
    go_wp2_with (go_at_call 23; refine (Md.isYes _ _ (by assumption) (by assumption)).mono ?_; rintro e w' ⟨rfl, rfl⟩)
    go_ret
    exact ⟨rfl, rfl⟩

/-- one of the factors is none of the chapter's -/
def badB (p : List Int) : Bool := decide (M.first (M.facF p) p.length ≠ 0)

theorem findInts (a : Option Addr) (n cap : Nat) (p : List Int) (w : World) (hn : n = p.length) (h7 : n ≤ 7) (hl : AtI w a p) :
    Calls Tryd.prog 59 #[.slice a n cap, .func (.func 64) #[] #[]] w fun e w' => (∃ r, e = .returned (.int .i64 r) ∧ decide (0 ≤ r) = badB p) ∧ w' = w := by
  have HL := hide hl
  have HN := hide hn
  clear hl hn
  go_enter Tryd.func59, Tryd.ntmps59
  go_wp2
  go_loop [8] (fun i => ∃ k : Nat, k ≤ n ∧ i = .int .i64 k ∧ Hid (M.first (M.facF p) k = 0)) (fun i => n - (intOf i).toNat)
  case atStart => exact ⟨0, Nat.zero_le _, rfl, hide rfl⟩
  case round =>
    obtain ⟨k, hk, rfl, hno⟩ := hrel
    by_cases hlt : k < n
    · have hkl : k < p.length := HN.out ▸ hlt
      obtain ⟨b, off, rfl, hlie⟩ := HL.out (by omega)
      have c1 := hlie k hkl
      have HF := hide (M.facF_at hkl)
      clear hlie
      generalize hz : p[k] = z at c1 HF
      clear hz
      cases hb : M.inR z
      · have hC : ∀ w, Calls Tryd.prog 64 #[.int .i64 z] w fun e w' => e = .returned (.bool true) ∧ w' = w := fun w => by have := isBad z w; rwa [hb] at this
        have HC := hide hC
        have hfin : Hid (badB p = true) := hide (by
          have h1 := HF.out
          rw [hb] at h1
          unfold badB
          rw [M.first_bad hkl hno.out (by rw [h1]; decide), h1]; rfl)
        clear hC hb
        go_wp2_with fail
        refine (unhide HC _).mono ?_
        rintro e w1 ⟨rfl, rfl⟩
        go_wp2_with fail
        go_ret
        exact ⟨⟨_, rfl, by rw [hfin.out]; simp⟩, rfl⟩
      · have hC : ∀ w, Calls Tryd.prog 64 #[.int .i64 z] w fun e w' => e = .returned (.bool false) ∧ w' = w := fun w => by have := isBad z w; rwa [hb] at this
        have HC := hide hC
        have HS : Hid (M.first (M.facF p) (k + 1) = 0) := hide (by rw [M.first_next hno.out, HF.out, if_pos hb])
        clear hC hb
        go_wp2_with fail
        refine (unhide HC _).mono ?_
        rintro e w1 ⟨rfl, rfl⟩
        go_wp2_with fail
        go_round
        case rel => exact ⟨k + 1, by omega, by go_num, HS⟩
        case measure => simp [intOf]; omega
    · have hfin : Hid (badB p = false) := hide (by
        have h1 := hno.out
        have h2 := HN.out
        unfold badB
        rw [← h2, show n = k by omega, h1]; rfl)
      go_wp2
      go_ret
      exact ⟨⟨_, rfl, by rw [hfin.out]; decide⟩, rfl⟩

theorem hasBad (a : Option Addr) (n cap : Nat) (p : List Int) (w : World) (hn : n = p.length) (h7 : n ≤ 7) (hl : AtI w a p) :
    Calls Tryd.prog 47 #[.slice a n cap, .func (.func 64) #[] #[]] w fun e w' => e = .returned (.bool (badB p)) ∧ w' = w := by
  have HI := hide (findInts a n cap p w hn h7 hl)
  clear hn hl
  go_enter Tryd.func47, Tryd.ntmps47
  go_wp2_with fail
  refine (unhide HI).mono ?_
  rintro e w1 ⟨⟨r, rfl, hr⟩, rfl⟩
  have HR := hide hr
  clear hr
  go_wp2_with fail
  go_ret
  exact ⟨by rw [← HR.out]; rfl, rfl⟩

theorem checkFac (a : Option Addr) (n cap : Nat) (p : List Int) (w : World) (hn : n = p.length) (hm : n ≤ maxLen) (hl : AtI w a p) :
    Calls Tryd.prog 55 #[.slice a n cap] w fun e w' => e = .returned (errV (M.facE p)) ∧ w' = w := by
  unfold maxLen at hm
  by_cases h7 : 7 < n
  · have h7' : (7 : Int) < n := by omega
    rw [M.facE_many (hn ▸ h7)]
    clear hn hl
    go_enter Tryd.func55, Tryd.ntmps55
    go_wp2
    go_ret
    exact ⟨rfl, rfl⟩
  · have h7' : ¬ (7 : Int) < n := by omega
    have hC := hasBad a n cap p w hn (by omega) hl
    have hc := M.fac_first p p.length
    rw [M.facE_few (hn ▸ h7)]
    generalize hq : M.first (M.facF p) p.length = q at hc ⊢
    have hb : badB p = decide (q ≠ 0) := by unfold badB; rw [hq]
    rw [hb] at hC
    clear hb hq hn hl
    by_cases h0 : q = 0
    · subst h0
      have HC : Hid (Calls Tryd.prog 47 #[.slice a n cap, .func (.func 64) #[] #[]] w fun e w' => e = .returned (.bool false) ∧ w' = w) := hide hC
      clear hC hc
      go_enter Tryd.func55, Tryd.ntmps55
      go_wp2_with fail
      refine (unhide HC).mono ?_
      rintro e w1 ⟨rfl, rfl⟩
      go_wp2_with fail
      go_ret
      exact ⟨rfl, rfl⟩
    · rw [decide_eq_true h0] at hC
      have HC := hide hC
      have H1 : Hid (q = 1) := hide (by omega)
      clear hC hc h0
      go_enter Tryd.func55, Tryd.ntmps55
      go_wp2_with fail
      refine (unhide HC).mono ?_
      rintro e w1 ⟨rfl, rfl⟩
      go_wp2_with fail
      go_ret
      exact ⟨by rw [H1.out]; rfl, rfl⟩

end Go.Proofs.YtmhkngceeeibpajDoor

set_option linter.unusedVariables false
namespace Go.Proofs.YtmhkngceeeibpajDoor
open Go.RowKit Go.Shelf
attribute [local go_sem] Oper.semAt_some

/-- what comes in a round: a place in the row, and a factor that is right -/
abbrev Fac := { z : Int × Int // 0 ≤ z.2 ∧ z.2 < 257 }
def facs (xs : List Fac) : List Int := xs.map fun z => z.1.2
theorem facs_snoc (xs : List Fac) (z : Fac) : facs (xs ++ [z]) = facs xs ++ [z.1.2] := by simp [facs]
theorem facs_len (xs : List Fac) : (facs xs).length = xs.length := by simp [facs]

/-- what lies below n₀, and the block B, are kept -/
def KeepB (n₀ B : Nat) (W W' : World) : Prop := Below n₀ W W' ∧ W'.heap[B]? = W.heap[B]?
theorem KeepB.refl (n₀ B : Nat) (W : World) : KeepB n₀ B W W := ⟨Below.refl _ _, rfl⟩
theorem KeepB.trans {n₀ B : Nat} {X Y Z : World} (h : KeepB n₀ B X Y) (g : KeepB n₀ B Y Z) : KeepB n₀ B X Z := ⟨h.1.trans g.1, g.2.trans h.2⟩
theorem KeepB.cell {n₀ B : Nat} {X Y : World} (h : KeepB n₀ B X Y) : Y.cell? ⟨B, 0, none⟩ = X.cell? ⟨B, 0, none⟩ := by
  simp only [World.cell?, h.2]
theorem keepB_b {n₀ B : Nat} {w : World} (hn : n₀ ≤ w.heap.size) (hB : B < w.heap.size) (W : World) (l : Nat) (o o' : Obj) (hl : w.heap.size ≤ l) (h : W.heap[l]? = some o) (h1 : o.isCells = false) (h2 : o.isWalk = false) : KeepB n₀ B W (W.putObj l o') :=
  ⟨belowK_b hn W l o o' hl h h1 h2, (grownBy_putObj' W l o').block B (by have := (Array.getElem?_eq_some_iff.1 h).1; omega) (by intro e; cases e; omega)⟩

theorem backward (a : Option Addr) (n cap : Nat) (w : World) : Calls Tryd.prog 56 #[.slice a n cap] w fun e w' => e = .returned (.func (.func 65) #[] #[.pointer (some ⟨w.heap.size, 0, none⟩)]) ∧ w' = w.alloc (.cells #[.slice a n cap] 22) := by
  go_enter Tryd.func56, Tryd.ntmps56
  go_wp2
  go_ret
  exact ⟨rfl, rfl⟩

set_option maxRecDepth 100000 in
set_option maxHeartbeats 2000000 in
theorem backward1 (m : Nat) (hm1 : 1 ≤ m) (l Bs n₀ n cap : Nat) (a : Option Addr) (p : List Int) (hn : n = p.length) (hm : n ≤ 7) (hr : ∀ i (hi : i < p.length), 0 ≤ p[i] ∧ p[i] < 257) (J Jx : List Fac → World → Prop)
    (hY : ∀ pre x W, J pre W → pre.length < n → YieldAt Fence.wide (m - 1) Tryd.prog l #[.int .i64 x.1.1, .int .i64 x.1.2] W fun e W' =>
      (e = .returned (.bool true) ∧ J (pre ++ [x]) W' ∧ KeepB n₀ Bs W W') ∨ (e = .returned (.bool false) ∧ Jx (pre ++ [x]) W'))
    (W : World) (hBs : W.cell? ⟨Bs, 0, none⟩ = some (.slice a n cap)) (hc : 0 < n → ∃ b off, a = some ⟨b, off, none⟩ ∧ b < n₀ ∧ LieI W b off p) (h0 : J [] W) :
    CallsIn Fence.wide m Tryd.prog 65 #[.func (.yield l) #[] #[], .pointer (some ⟨Bs, 0, none⟩)] W fun e W' => (∃ v, e = .returned v) ∧
      ((∃ ys, facs ys = p.reverse ∧ J ys W') ∨ (∃ pre, True ∧ Jx pre W')) := by
  have HY := hide hY
  have HC := hide hc
  have HN := hide hn
  have HR := hide hr
  clear hY hc hn hr
  refine callsIn_of_wp Tryd.func65 rfl trivial ?_ rfl
  simp only [Tryd.ntmps65, List.size_toArray, List.length_cons, List.length_nil, Nat.reduceAdd, Nat.reduceSub, Array.replicate_succ, Array.replicate_zero, List.push_toArray, List.append_toArray, List.nil_append, List.cons_append]
  gi_wp2
  gi_loopw [3] (fun s wr => ∃ (i : Int) (pre : List Fac), s = .int .i64 i ∧ -1 ≤ i ∧ i < n ∧ Hid (facs pre = (p.drop (i + 1).toNat).reverse) ∧ Hid (J pre wr) ∧ Hid (KeepB n₀ Bs W wr)) (fun s _ => (intOf s + 1).toNat)
  case atStart => exact ⟨(n : Int) - 1, [], rfl, by omega, by omega, hide (by have h := HN.out; rw [show ((n : Int) - 1 + 1).toNat = p.length by omega]; simp [facs]), hide h0, hide (KeepB.refl _ _ _)⟩
  case round =>
    obtain ⟨i, pre, rfl, hi0, hi1, hp, hJ, hB⟩ := hrel
    have hBs' : wr.cell? ⟨Bs, 0, none⟩ = some (.slice a n cap) := hB.out.cell.trans hBs
    by_cases hlt : 0 ≤ i
    · obtain ⟨k, rfl⟩ : ∃ k : Nat, i = k := ⟨i.toNat, by omega⟩
      have hkn : k < n := by omega
      have hkl : k < p.length := by have := HN.out; omega
      obtain ⟨b, off, rfl, hbn, hlie⟩ := HC.out (by omega)
      have c1 : wr.cell? ⟨b, off + k, none⟩ = some (.int .i64 p[k]) := (hB.out.1.cell (p := ⟨b, off + k, none⟩) hbn).trans (hlie k hkl)
      have HD : Hid (facs pre ++ [p[k]] = (p.drop k).reverse) := hide (by
        rw [hp.out, show ((k : Int) + 1).toNat = k + 1 by omega, ← List.getElem_cons_drop hkl, List.reverse_cons])
      have hlen : pre.length < n := by
        have e := congrArg List.length hp.out
        rw [facs_len, List.length_reverse, List.length_drop, show ((k : Int) + 1).toNat = k + 1 by omega] at e
        have := HN.out
        omega
      have HRK := hide (HR.out k hkl)
      clear hlie
      generalize hz : p[k] = z at c1 HD HRK
      clear hz
      obtain ⟨fn, tmps, assign, body, hy, hR⟩ := HY.out pre ⟨((k : Int), z), HRK.out⟩ wr hJ.out hlen
      dsimp only at hy
      clear hlen
      gi_wp2
      refine hR.mono ?_
      rintro e W3 (⟨rfl, hJ3, hk3⟩ | ⟨rfl, hJx3⟩)
      · have HJ3 := hide hJ3
        have HK3 := hide hk3
        clear hJ3 hk3
        gi_wp2
        go_roundw
        case rel => exact ⟨(k : Int) - 1, pre ++ [⟨((k : Int), z), HRK.out⟩], rfl, by omega, by omega, hide (by rw [facs_snoc, show ((k : Int) - 1 + 1).toNat = k by omega]; exact HD.out), HJ3, hide (hB.out.trans HK3.out)⟩
        case measure => simp [intOf]
      · have HX3 := hide hJx3
        clear hJx3
        gi_wp2
        refine bodyPost_ret (results_none rfl _ _ _) rfl ?_
        exact ⟨⟨_, rfl⟩, .inr ⟨_, trivial, HX3.out⟩⟩
    · have hfin : Hid (facs pre = p.reverse) := hide (by have h := hp.out; rwa [show (i + 1).toNat = 0 by omega, List.drop_zero] at h)
      gi_wp2
      go_end0
      exact ⟨⟨_, rfl⟩, .inl ⟨pre, hfin.out, hJ.out⟩⟩

theorem backward_stops (m : Nat) (hm1 : 1 ≤ m) (Bs n₀ n cap : Nat) (a : Option Addr) (p : List Int) (hn : n = p.length) (hm : n ≤ 7) (hr : ∀ i (hi : i < p.length), 0 ≤ p[i] ∧ p[i] < 257) (w : World) (hB : Bs < w.heap.size) (hBs : w.cell? ⟨Bs, 0, none⟩ = some (.slice a n cap)) (hc : 0 < n → ∃ b off, a = some ⟨b, off, none⟩ ∧ b < n₀ ∧ LieI w b off p) :
    SeqStopsK Fence.wide m Tryd.prog 65 #[.pointer (some ⟨Bs, 0, none⟩)] (fun x : Fac => #[Value.int .i64 x.1.1, Value.int .i64 x.1.2]) (KeepB n₀ Bs) (fun ys => facs ys = p.reverse) (fun _ => True) n w := fun l J Jx W hW _ _ hY h0 =>
  backward1 m hm1 l Bs n₀ n cap a p hn hm hr J Jx hY W ((hW.cell (p := ⟨Bs, 0, none⟩) hB).trans hBs) (fun h => by
    obtain ⟨b, off, e, hb, hl⟩ := hc h
    exact ⟨b, off, e, hb, hl.stays hW (Nat.le_refl _)⟩) h0

theorem heap_other (W : World) {B C : Nat} (h : C ≠ B) (v : Value) : (W.setCell ⟨B, 0, none⟩ v).heap[C]? = W.heap[C]? := by
  show (W.heap.modify B _)[C]? = _
  rw [Array.getElem?_modify, if_neg (fun e => h e.symm)]
theorem ev_next (pre : List Fac) (z : Fac) (x : Int) : M.ev (facs (pre ++ [z])).reverse x = (M.ev (facs pre).reverse x * x + z.1.2) % 257 := by
  rw [facs_snoc, List.reverse_append, List.reverse_singleton, List.singleton_append, M.ev_cons, Int.mul_comm x, Int.add_comm]

set_option maxRecDepth 100000 in
set_option maxHeartbeats 4000000 in
theorem atOk (a : Option Addr) (n cap : Nat) (p : List Int) (x : Int) (w : World) (hn : n = p.length) (hm : n ≤ maxLen) (hl : AtI w a p) (hf : M.facE p = 0) (hx0 : 0 ≤ x) (hx1 : x < 257) :
    Calls Tryd.prog 44 #[.slice a n cap, .int .i64 x] w fun e w' => e = .returned (.tuple #[.int .i64 (M.ev p x), .nilIface]) ∧ Below w.heap.size w w' := by
  obtain ⟨h7, hr⟩ := M.facE_ok hf
  have HC : Hid (∀ w1, Below w.heap.size w w1 → Calls Tryd.prog 55 #[.slice a n cap] w1 fun e w' => e = .returned .nilIface ∧ w' = w1) := hide fun w1 hb => by
    have := checkFac a n cap p w1 hn hm (hl.stays hb (Nat.le_refl _))
    rwa [hf] at this
  have HL : Hid (∀ w1, Below w.heap.size w w1 → 0 < n → ∃ b off, a = some ⟨b, off, none⟩ ∧ b < w.heap.size ∧ LieI w1 b off p) := hide fun w1 hb h0 => by
    obtain ⟨b, off, e, g⟩ := hl (by omega)
    exact ⟨b, off, e, by have := World.block_lt_of_cell? w _ (g 0 (by omega)); simp only at this; omega, g.stays hb (Nat.le_refl _)⟩
  have HN := hide hn
  have HR := hide hr
  clear hn hm hl hf hr
  refine (callsIn_wide (n := 3)).1 ?_
  refine callsIn_of_wp_marks Tryd.func44 rfl trivial ?_ rfl
  simp only [Tryd.ntmps44, List.size_toArray, List.length_cons, List.length_nil, Nat.reduceAdd, Nat.reduceSub, Array.replicate_succ, Array.replicate_zero, List.push_toArray, List.append_toArray, List.nil_append, List.cons_append]
  gi_wp2_with (first
    | (refine ⟨trivial, ?_⟩; gi_at_call 55; refine (callsIn_wide.2 (HC.out _ ((Below.refl _ w).alloc (Nat.le_refl _) _))).mono ?_; rintro e w' ⟨rfl, rfl⟩)
    | (refine ⟨trivial, ?_⟩; gi_at_call 23; refine (callsIn_wide.2 (Md.isYes x _ hx0 hx1)).mono ?_; rintro e w' ⟨rfl, rfl⟩)
    | (refine ⟨trivial, ?_⟩; gi_at_call 56; refine (callsIn_wide.2 (backward a n cap _)).mono ?_; rintro e w' ⟨rfl, rfl⟩))
  have b0 := Boxed.new w 3 (.int .i64 x)
  have b1 := Boxed.new (w.alloc (.cells #[.int .i64 x] 3)) 3 (.int .i64 0)
  have b2 := Boxed.new ((w.alloc (.cells #[.int .i64 x] 3)).alloc (.cells #[.int .i64 0] 3)) 22 (.slice a n cap)
  simp only [World.size_alloc] at b1 b2
  have hB0 : Below w.heap.size w (((w.alloc (.cells #[.int .i64 x] 3)).alloc (.cells #[.int .i64 0] 3)).alloc (.cells #[.slice a n cap] 22)) := (((Below.refl _ w).alloc (Nat.le_refl _) _).alloc (by simp) _).alloc (by simp; omega) _
  refine wpIn_rangeFunc_ownF rfl (by omega) (gf := 65) (lb := #[.pointer (some ⟨w.heap.size + 1 + 1, 0, none⟩)]) rfl trivial (enters_of Tryd.func65 (by kernel_rfl) rfl)
    (backward_stops _ (by omega) (w.heap.size + 1 + 1) w.heap.size n cap a p HN.out (by have := HN.out; omega) HR.out _ (by simp) b2.cell (HL.out _ hB0)) KeepB.trans (keepB_b (by simp; omega) (by simp)) (Below.refl _ _) (fun _ => rfl)
    (fun pre W => (Boxed W (w.heap.size + 1) 3 (.int .i64 (M.ev (facs pre).reverse x)) ∧ Boxed W w.heap.size 3 (.int .i64 x)) ∧ Below w.heap.size w W)
    (fun _ _ _ => False)
    (OwnFrom.and (OwnFrom.and (Own.from (boxed_own _ _ (fun pre => .int .i64 (M.ev (facs pre).reverse x))) _) (Own.from (boxed_own _ _ (fun _ => .int .i64 x)) _)) (ownFrom_below (Nat.le_refl _) (by simp; omega)))
    (fun _ _ _ _ _ hs _ _ => hs)
    ⟨⟨b1.alloc _, (b0.alloc _).alloc _⟩, hB0⟩
    (fun z => { tmps := #[.slice a n cap, .int .i64 x, undef, .pointer (some ⟨w.heap.size, 0, none⟩), .int .i64 0, .nilIface, .nilIface, .pointer (some ⟨w.heap.size + 1, 0, none⟩), undef, .int .i64 z.1.2, .slice a n cap, .nilIface, .nilIface, .bool false, undef, .int .i64 x, .bool true, .bool false, undef, .slice a n cap, .func (.func 65) #[] #[.pointer (some ⟨w.heap.size + 1 + 1, 0, none⟩)], .int .i64 z.1.1, .int .i64 z.1.2, undef, undef, undef, undef, undef, undef, undef], defers := [] }) ?assign ?body ?done ?stop
  case assign =>
    intro l z W K hK
    gi_wp2
    exact hK
  case body =>
    rintro l pre z W ⟨⟨hb1, hb0⟩, hB⟩ _
    have HE := hide (ev_next pre z x)
    obtain ⟨q, hq⟩ : ∃ q, q = M.ev (facs pre).reverse x := ⟨_, rfl⟩
    have hr1 := M.ev_range (facs pre).reverse x
    rw [← hq] at hr1 hb1 HE
    obtain ⟨q0, q1⟩ := hr1
    obtain ⟨m0, m1⟩ := prod_range q0 q1 hx0 hx1
    obtain ⟨z0, z1⟩ := z.2
    have hc1 := hb1.cell
    have hf1 := hb1.frozen
    have hl1 := hb1.lt
    have hc0 := hb0.cell
    have hl0 := hb0.lt
    have H1 := hide hb1
    have H0 := hide hb0
    have HB := hide hB
    clear hq hb1 hb0 hB b0 b1 b2 hB0
    gi_wp2
    refine ⟨KeepsOthers.setCell _ _ _, ⟨(Below.refl w.heap.size W).setCell (p := ⟨w.heap.size + 1, 0, none⟩) (by simp) _, ?_⟩, ⟨?_, H0.out.other (by omega) _⟩, HB.out.setCell (p := ⟨w.heap.size + 1, 0, none⟩) (by simp) _⟩
    · exact heap_other W (by omega) _
    · rw [HE.out]; exact H1.out.set _
  case done =>
    rintro D ys W hD hys ⟨⟨hb1, hb0⟩, hB⟩ hK
    have hc1 := hb1.cell
    have hl1 := hb1.lt
    have HS : Hid (M.ev (facs ys).reverse x = M.ev p x) := hide (by rw [hys, List.reverse_reverse])
    have HB := hide hB
    have HD := hide hD
    have HK := hide hK
    clear hys hb1 hb0 hB b0 b1 b2 hB0 hD hK
    gi_wp2
    refine ⟨by simp, .inl ⟨_, _, rfl, run_takeDeferred HK.out, ?_⟩⟩
    refine ⟨.tuple #[.int .i64 (M.ev p x), .nilIface], ?_, rfl, HB.out.trans (belowK_b (w := w) (Nat.le_refl _) W D _ _ (by have := HD.out; simp at this; omega) HK.out rfl rfl)⟩
    rw [← HS.out]
    simp [results, Tryd.f44, go_sem]
  case stop =>
    rintro D c pre W _ _ h _
    exact h.elim

end Go.Proofs.YtmhkngceeeibpajDoor

set_option linter.unusedVariables false
namespace Go.Proofs.YtmhkngceeeibpajDoor
open Go.RowKit

theorem atFac (a : Option Addr) (n cap : Nat) (p : List Int) (x : Int) (w : World) (hn : n = p.length) (hm : n ≤ maxLen) (hl : AtI w a p) (hf : M.facE p ≠ 0) :
    Calls Tryd.prog 44 #[.slice a n cap, .int .i64 x] w fun e w' => e = .returned (.tuple #[.int .i64 0, .iface 52 (.int .i64 (M.facE p))]) ∧ Below w.heap.size w w' := by
  have HC : Hid (∀ w1, Below w.heap.size w w1 → Calls Tryd.prog 55 #[.slice a n cap] w1 fun e w' => e = .returned (.iface 52 (.int .i64 (M.facE p))) ∧ w' = w1) := hide fun w1 hb => by
    have := checkFac a n cap p w1 hn hm (hl.stays hb (Nat.le_refl _))
    rwa [errV_bad hf] at this
  clear hn hm hl hf
  go_enter Tryd.func44, Tryd.ntmps44
  go_wp2_with fail
  refine (unhide HC _ ((Below.refl _ w).alloc (Nat.le_refl _) _)).mono ?_
  rintro e w1 ⟨rfl, rfl⟩
  go_wp2_with fail
  go_ret2
  exact ⟨rfl, (Below.refl _ _).alloc (Nat.le_refl _) _⟩

theorem atX (a : Option Addr) (n cap : Nat) (p : List Int) (x : Int) (w : World) (hn : n = p.length) (hm : n ≤ maxLen) (hl : AtI w a p) (hf : M.facE p = 0) (hx : x < 0 ∨ 257 ≤ x) :
    Calls Tryd.prog 44 #[.slice a n cap, .int .i64 x] w fun e w' => e = .returned (.tuple #[.int .i64 0, .iface 52 (.int .i64 1)]) ∧ Below w.heap.size w w' := by
  have HC : Hid (∀ w1, Below w.heap.size w w1 → Calls Tryd.prog 55 #[.slice a n cap] w1 fun e w' => e = .returned .nilIface ∧ w' = w1) := hide fun w1 hb => by
    have := checkFac a n cap p w1 hn hm (hl.stays hb (Nat.le_refl _))
    rwa [hf] at this
  have HX := hide hx
  clear hn hm hl hf hx
  go_enter Tryd.func44, Tryd.ntmps44
  go_wp2_with fail
  refine (unhide HC _ ((Below.refl _ w).alloc (Nat.le_refl _) _)).mono ?_
  rintro e w1 ⟨rfl, rfl⟩
  go_wp2_with fail
  refine (Md.isNo x _ HX.out).mono ?_
  rintro e w1 ⟨rfl, rfl⟩
  go_wp2_with fail
  go_ret2
  exact ⟨rfl, (Below.refl _ _).alloc (Nat.le_refl _) _⟩

theorem pAt (a : Option Addr) (n cap : Nat) (p : List Int) (x : Int) (w : World) (hn : n = p.length) (hm : n ≤ maxLen) (hl : AtI w a p) :
    Calls Tryd.prog 44 #[.slice a n cap, .int .i64 x] w fun e w' => e = .returned (.tuple #[.int .i64 (M.atR p x), errV (M.atE p x)]) ∧ Below w.heap.size w w' := by
  by_cases hf : M.facE p = 0
  · cases hx : M.inR x
    · have h := M.atE_x hf hx
      rw [M.atR_bad (by rw [h]; decide), h]
      exact atX a n cap p x w hn hm hl hf (M.inR_no hx)
    · have h := M.atE_0 hf hx
      rw [M.atR_ok h, h]
      exact atOk a n cap p x w hn hm hl hf (M.inR_yes hx).1 (M.inR_yes hx).2
  · have h := M.atE_fac (x := x) hf
    rw [M.atR_bad (by rw [h]; exact hf), h, errV_bad hf]
    exact atFac a n cap p x w hn hm hl hf

end Go.Proofs.YtmhkngceeeibpajDoor

set_option linter.unusedVariables false
namespace Go.Proofs.YtmhkngceeeibpajDoor
open Go.RowKit

theorem isThere (B : Nat) (u v a : Int) (w : World) (hB : w.cell? ⟨B, 0, none⟩ = some (.int .i64 a)) :
    Calls Tryd.prog 66 #[.agg #[.int .i64 u, .int .i64 v], .pointer (some ⟨B, 0, none⟩)] w fun e w' => e = .returned (.bool (u == a)) ∧ Below w.heap.size w w' := by
  have hBl : B < w.heap.size := World.block_lt_of_cell? w _ hB
  go_enter Tryd.func66, Tryd.ntmps66
  go_wp2
  go_ret
  exact ⟨rfl, (Below.refl _ _).alloc (Nat.le_refl _) _⟩

theorem findPts (b off i cap B : Nat) (l : List (Int × Int)) (a : Int) (w : World) (hi : i ≤ l.length) (h7 : i ≤ 7) (hl : LieP w b off l) (hB : w.cell? ⟨B, 0, none⟩ = some (.int .i64 a)) :
    Calls Tryd.prog 34 #[.slice (some ⟨b, off, none⟩) i cap, .func (.func 66) #[] #[.pointer (some ⟨B, 0, none⟩)]] w fun e w' => (∃ r, e = .returned (.int .i64 r) ∧ decide (0 ≤ r) = M.ahead l i a) ∧ Below w.heap.size w w' := by
  have HL := hide hl
  have HB := hide hB
  clear hl hB
  go_enter Tryd.func34, Tryd.ntmps34
  go_wp2
  go_loopw [8] (fun s wr => ∃ k : Nat, k ≤ i ∧ s = .int .i64 k ∧ Hid (M.ahead l k a = false) ∧ Hid (Below w.heap.size w wr)) (fun s _ => i - (intOf s).toNat)
  case atStart => exact ⟨0, Nat.zero_le _, rfl, hide (M.ahead_zero l a), hide (Below.refl _ _)⟩
  case round =>
    obtain ⟨k, hk, rfl, hno, hbel⟩ := hrel
    by_cases hlt : k < i
    · have hkl : k < l.length := by omega
      obtain ⟨c1, c2⟩ := (HL.out.stays hbel.out (Nat.le_refl _)) k hkl
      have hBc : wr.cell? ⟨B, 0, none⟩ = some (.int .i64 a) := (hbel.out.cell (p := ⟨B, 0, none⟩) (World.block_lt_of_cell? w _ HB.out)).trans HB.out
      have hC := isThere B l[k].1 l[k].2 a wr hBc
      have HS := hide (M.ahead_succ hkl a)
      clear hBc
      generalize l[k].1 = u at c1 hC HS
      generalize l[k].2 = v at c2 hC
      cases hb : (u == a)
      · rw [hb] at hC
        have HC := hide hC
        have HN : Hid (M.ahead l (k + 1) a = false) := hide (by rw [HS.out, hno.out, hb]; rfl)
        clear hC hb
        go_wp2_with fail
        refine (unhide HC).mono ?_
        rintro e w1 ⟨rfl, hb1⟩
        go_wp2_with fail
        go_roundw
        case rel => exact ⟨k + 1, by omega, by go_num, HN, hide (hbel.out.trans (hb1.mono hbel.out.size))⟩
        case measure => simp [intOf]; omega
      · rw [hb] at hC
        have HC := hide hC
        have hfin : Hid (M.ahead l i a = true) := hide (by
          have h1 : M.ahead l (k + 1) a = true := by rw [HS.out, hno.out, hb]; rfl
          exact M.ahead_mono (by omega) h1)
        clear hC hb
        go_wp2_with fail
        refine (unhide HC).mono ?_
        rintro e w1 ⟨rfl, hb1⟩
        go_wp2_with fail
        go_ret
        exact ⟨⟨_, rfl, by rw [hfin.out]; simp⟩, hbel.out.trans (hb1.mono hbel.out.size)⟩
    · have hfin : Hid (M.ahead l i a = false) := hide (by rw [show i = k by omega]; exact hno.out)
      go_wp2
      go_ret
      exact ⟨⟨_, rfl, by rw [hfin.out]; decide⟩, hbel.out⟩

theorem hasAhead (b off i cap B : Nat) (l : List (Int × Int)) (a : Int) (w : World) (hi : i ≤ l.length) (h7 : i ≤ 7) (hl : LieP w b off l) (hB : w.cell? ⟨B, 0, none⟩ = some (.int .i64 a)) :
    Calls Tryd.prog 21 #[.slice (some ⟨b, off, none⟩) i cap, .func (.func 66) #[] #[.pointer (some ⟨B, 0, none⟩)]] w fun e w' => e = .returned (.bool (M.ahead l i a)) ∧ Below w.heap.size w w' := by
  have HI := hide (findPts b off i cap B l a w hi h7 hl hB)
  clear hi hl hB
  go_enter Tryd.func21, Tryd.ntmps21
  go_wp2_with fail
  refine (unhide HI).mono ?_
  rintro e w1 ⟨⟨r, rfl, hr⟩, hb1⟩
  have HR := hide hr
  clear hr
  go_wp2_with fail
  go_ret
  exact ⟨by rw [← HR.out]; rfl, hb1⟩

theorem ptsNone (a : Option Addr) (cap : Nat) (w : World) : Calls Tryd.prog 57 #[.slice a 0 cap] w fun e w' => e = .returned (errV 5) ∧ Below w.heap.size w w' := by
  go_enter Tryd.func57, Tryd.ntmps57
  go_wp2
  go_ret
  exact ⟨rfl, Below.refl _ _⟩
theorem ptsMany (a : Option Addr) (n cap : Nat) (w : World) (h : 7 < n) (hm : n ≤ maxLen) : Calls Tryd.prog 57 #[.slice a n cap] w fun e w' => e = .returned (errV 4) ∧ Below w.heap.size w w' := by
  unfold maxLen at hm
  have h0 : ¬ (n : Int) = 0 := by omega
  have h7 : (7 : Int) < n := by omega
  go_enter Tryd.func57, Tryd.ntmps57
  go_wp2
  go_ret
  exact ⟨rfl, Below.refl _ _⟩

set_option maxHeartbeats 2000000 in
theorem ptsSome (b off n cap : Nat) (l : List (Int × Int)) (w : World) (hn : n = l.length) (h0 : 0 < n) (h7 : n ≤ 7) (hcap : n ≤ cap) (hcm : cap ≤ maxLen) (hl : LieP w b off l) :
    Calls Tryd.prog 57 #[.slice (some ⟨b, off, none⟩) n cap] w fun e w' => e = .returned (errV (M.first (M.ptF l) l.length)) ∧ Below w.heap.size w w' := by
  unfold maxLen at hcm
  have HL := hide hl
  have HN := hide hn
  clear hl hn
  have hz : ¬ (n : Int) = 0 := by omega
  have h7' : ¬ (7 : Int) < n := by omega
  go_enter Tryd.func57, Tryd.ntmps57
  go_wp2
  go_loopw [15] (fun s wr => ∃ k : Nat, k ≤ n ∧ s = .int .i64 k ∧ Hid (M.first (M.ptF l) k = 0) ∧ Hid (Below w.heap.size w wr)) (fun s _ => n - (intOf s).toNat)
  case atStart => exact ⟨0, Nat.zero_le _, rfl, hide rfl, hide (Below.refl _ _)⟩
  case round =>
    obtain ⟨k, hk, rfl, hno, hbel⟩ := hrel
    by_cases hlt : k < n
    · have hkl : k < l.length := by have := HN.out; omega
      have hkc : k ≤ cap := by omega
      obtain ⟨c1, c2⟩ := (HL.out.stays hbel.out (Nat.le_refl _)) k hkl
      have HA : Hid (∀ (u : Int) (wx : World), Below wr.heap.size wr wx → wx.cell? ⟨wr.heap.size, 0, none⟩ = some (.int .i64 u) → Calls Tryd.prog 21 #[.slice (some ⟨b, off, none⟩) k cap, .func (.func 66) #[] #[.pointer (some ⟨wr.heap.size, 0, none⟩)]] wx fun e w' => e = .returned (.bool (M.ahead l k u)) ∧ Below wx.heap.size wx w') := hide fun u wx hb hc =>
        hasAhead b off k cap wr.heap.size l u wx (by omega) (by omega) ((HL.out.stays hbel.out (Nat.le_refl _)).stays hb (Nat.le_refl _)) hc
      have HP := hide (M.pt_at hkl)
      have HOK : Hid (M.okP l k = (M.inR l[k].1 && M.inR l[k].2)) := hide (by unfold M.okP; rw [HP.out])
      have HBAD : Hid (∀ e : Int, e ≠ 0 → M.ptF l k = e → M.first (M.ptF l) l.length = e) := hide fun e h1 h2 => by rw [M.first_bad hkl hno.out (by rw [h2]; exact h1), h2]
      have HNX := hide (M.first_next hno.out)
      have HPT : Hid ((M.pt l k).1 = l[k].1) := hide (by rw [HP.out])
      clear hcap
      generalize l[k].1 = u at c1 HOK HPT
      generalize l[k].2 = v at c2 HOK
      have HBW : Hid (∀ w1, Below (wr.heap.size + 1) (wr.alloc (.cells #[.int .i64 u, .int .i64 v] 31)) w1 → Below w.heap.size w w1) := hide fun w1 h1 => hbel.out.trans (((Below.refl _ wr).alloc (Nat.le_refl _) _).trans (h1.mono (by simp)) |>.mono hbel.out.size)
      cases hu : M.inR u
      · have HU := hide (M.inR_no hu)
        have hfin : Hid (M.first (M.ptF l) l.length = 1) := hide (HBAD.out 1 (by decide) (M.ptF_range (by rw [HOK.out, hu]; rfl)))
        clear hu
        go_wp2_with (go_at_call 23; refine (Md.isNo u _ HU.out).mono ?_; rintro e w1 ⟨rfl, rfl⟩)
        go_ret
        exact ⟨by rw [hfin.out]; rfl, HBW.out _ (Below.refl _ _)⟩
      · obtain ⟨u0, u1⟩ := M.inR_yes hu
        cases hv : M.inR v
        · have HV := hide (M.inR_no hv)
          have hfin : Hid (M.first (M.ptF l) l.length = 1) := hide (HBAD.out 1 (by decide) (M.ptF_range (by rw [HOK.out, hu, hv]; rfl)))
          clear hu hv
          go_wp2_with (first | (go_at_call_of 23 u; refine (Md.isYes u _ (by assumption) (by assumption)).mono ?_; rintro e w1 ⟨rfl, rfl⟩) | (go_at_call_of 23 v; refine (Md.isNo v _ HV.out).mono ?_; rintro e w1 ⟨rfl, rfl⟩))
          go_ret
          exact ⟨by rw [hfin.out]; rfl, HBW.out _ (Below.refl _ _)⟩
        · obtain ⟨v0, v1⟩ := M.inR_yes hv
          have hok : M.okP l k = true := by rw [HOK.out, hu, hv]; rfl
          cases ha : M.ahead l k u
          · have HS : Hid (M.first (M.ptF l) (k + 1) = 0) := hide (by rw [HNX.out]; exact M.ptF_ok hok (by rw [HPT.out]; exact ha))
            have HA' := HA.out u
            rw [ha] at HA'
            have HAA := hide HA'
            clear HA' ha hu hv hok HBAD HNX
            go_wp2_with (first | (go_at_call_of 23 u; refine (Md.isYes u _ (by assumption) (by assumption)).mono ?_; rintro e w1 ⟨rfl, rfl⟩) | (go_at_call_of 23 v; refine (Md.isYes v _ (by assumption) (by assumption)).mono ?_; rintro e w1 ⟨rfl, rfl⟩) | (go_at_call 21; refine (HAA.out _ ((Below.refl _ wr).alloc (Nat.le_refl _) _) (by simp [go_sem])).mono ?_; rintro e w1 ⟨rfl, hb1⟩))
            go_roundw
            case rel => exact ⟨k + 1, by omega, by go_num, HS, hide (HBW.out _ (by simpa using hb1))⟩
            case measure => simp [intOf]; omega
          · have hfin : Hid (M.first (M.ptF l) l.length = 7) := hide (HBAD.out 7 (by decide) (M.ptF_clash hok (by rw [HPT.out]; exact ha)))
            have HA' := HA.out u
            rw [ha] at HA'
            have HAA := hide HA'
            clear HA' ha hu hv hok HBAD HNX
            go_wp2_with (first | (go_at_call_of 23 u; refine (Md.isYes u _ (by assumption) (by assumption)).mono ?_; rintro e w1 ⟨rfl, rfl⟩) | (go_at_call_of 23 v; refine (Md.isYes v _ (by assumption) (by assumption)).mono ?_; rintro e w1 ⟨rfl, rfl⟩) | (go_at_call 21; refine (HAA.out _ ((Below.refl _ wr).alloc (Nat.le_refl _) _) (by simp [go_sem])).mono ?_; rintro e w1 ⟨rfl, hb1⟩))
            go_ret
            exact ⟨by rw [hfin.out]; rfl, HBW.out _ (by simpa using hb1)⟩
    · have hfin : Hid (M.first (M.ptF l) l.length = 0) := hide (by rw [← HN.out, show n = k by omega]; exact hno.out)
      go_wp2
      go_ret
      exact ⟨by rw [hfin.out]; rfl, hbel.out⟩

theorem checkPts (a : Option Addr) (n cap : Nat) (l : List (Int × Int)) (w : World) (hn : n = l.length) (hcap : n ≤ cap) (hcm : cap ≤ maxLen) (hl : AtP w a l) :
    Calls Tryd.prog 57 #[.slice a n cap] w fun e w' => e = .returned (errV (M.ptsE l)) ∧ Below w.heap.size w w' := by
  by_cases h0 : n = 0
  · rw [M.ptsE_none (by omega)]
    subst h0
    exact ptsNone a cap w
  · by_cases h7 : 7 < n
    · rw [M.ptsE_many (by omega)]
      exact ptsMany a n cap w h7 (by omega)
    · rw [M.ptsE_some (by omega) (by omega)]
      obtain ⟨b, off, rfl, g⟩ := hl (by omega)
      exact ptsSome b off n cap l w hn (by omega) (by omega) hcap hcm g

end Go.Proofs.YtmhkngceeeibpajDoor

set_option linter.unusedVariables false
namespace Go.Proofs.YtmhkngceeeibpajDoor
open Go.RowKit

theorem apart (a b : Int) (w : World) (a0 : 0 ≤ a) (a1 : a < 257) (b0 : 0 ≤ b) (b1 : b < 257) : Calls Tryd.prog 67 #[.int .i64 a, .int .i64 b] w fun e w' => e = .returned (.int .i64 ((a - b + 257) % 257)) ∧ w' = w := by
  go_enter Tryd.func67, Tryd.ntmps67
  go_wp2
  go_ret
  exact ⟨rfl, rfl⟩

set_option maxHeartbeats 2000000 in
theorem weigh (b off n cap : Nat) (l : List (Int × Int)) (i : Nat) (x : Int) (w : World) (hn : n = l.length) (h7 : n ≤ 7) (hi : i < n) (hR : M.Right l) (hx0 : 0 ≤ x) (hx1 : x < 257) (hl : LieP w b off l) :
    Calls Tryd.prog 58 #[.slice (some ⟨b, off, none⟩) n cap, .int .i64 i, .int .i64 x] w fun e w' => e = .returned (.tuple #[.int .i64 (M.wtI l i x), .nilIface]) ∧ Below w.heap.size w w' := by
  have hil : i < l.length := hn ▸ hi
  have HL := hide hl
  have HN := hide hn
  have HR := hide hR
  have HU := hide (M.under_ne hR hil)
  have HW : Hid (M.wtI l i x = M.over l i x l.length * M.invI (M.over l i l[i].1 l.length) % 257) := hide (by unfold M.wtI; rw [M.pt_at hil])
  obtain ⟨y, hy⟩ : ∃ y, y = l[i].1 := ⟨_, rfl⟩
  have hyr := (hR.1 i hil).1
  have HI : Hid (∀ wr, Below w.heap.size w wr → wr.cell? ⟨b, off + i * 2, none⟩ = some (.int .i64 y)) := hide fun wr hb => by rw [hy]; exact ((hl.stays hb (Nat.le_refl _)) i hil).1
  rw [← hy] at HW HU hyr
  obtain ⟨y0, y1⟩ := hyr
  clear hl hn hR hy
  go_enter Tryd.func58, Tryd.ntmps58
  go_wp2
  go_loopw [8, 9, 16] (fun so su sj wr => ∃ (k : Nat) (ov un : Int), so = .int .i64 ov ∧ su = .int .i64 un ∧ sj = .int .i64 k ∧ k ≤ n ∧ (0 ≤ ov ∧ ov < 257) ∧ (0 ≤ un ∧ un < 257) ∧ Hid (ov = M.over l i x k) ∧ Hid (un = M.over l i y k) ∧ Hid (Below w.heap.size w wr)) (fun _ _ sj _ => n - (intOf sj).toNat)
  case atStart => exact ⟨0, 1, 1, rfl, rfl, rfl, Nat.zero_le _, by decide, by decide, hide rfl, hide rfl, hide (Below.refl _ _)⟩
  case round =>
    obtain ⟨k, ov, un, rfl, rfl, rfl, hk, ⟨o0, o1⟩, ⟨n0, n1⟩, hov, hun, hbel⟩ := hrel
    by_cases hlt : k < n
    · have hkl : k < l.length := by have := HN.out; omega
      obtain ⟨c1, c2⟩ := (HL.out.stays hbel.out (Nat.le_refl _)) k hkl
      obtain ⟨z0, z1⟩ := (HR.out.1 k hkl).1
      have HST : Hid (k ≠ i → M.over l i x (k + 1) = M.over l i x k * ((x - l[k].1 + 257) % 257) % 257 ∧ M.over l i y (k + 1) = M.over l i y k * ((y - l[k].1 + 257) % 257) % 257) := hide fun h => ⟨M.over_step h hkl x, M.over_step h hkl y⟩
      generalize l[k].1 = z at c1 z0 z1 HST
      generalize l[k].2 = v at c2
      by_cases hki : k = i
      · have HE : Hid (k = i) := hide hki
        have hne : ((k : Int) != (i : Int)) = false := by simp; omega
        clear hki
        go_wp2_with fail
        go_roundw
        case rel =>
          exact ⟨k + 1, ov, un, rfl, rfl, by go_num, by omega, ⟨o0, o1⟩, ⟨n0, n1⟩, hide (by rw [hov.out, HE.out, M.over_skip]), hide (by rw [hun.out, HE.out, M.over_skip]), hide (hbel.out.trans (((Below.refl _ wr).alloc (Nat.le_refl _) _).mono hbel.out.size))⟩
        case measure => simp [intOf]; omega
      · have HE := hide (HST.out hki)
        have hne : ((k : Int) != (i : Int)) = true := by simp; omega
        have ci := HI.out wr hbel.out
        have hbl : b < wr.heap.size := World.block_lt_of_cell? wr _ ci
        have h1 := fun w => apart x z w hx0 hx1 z0 z1
        have h2 := fun w => apart y z w y0 y1 z0 z1
        obtain ⟨d, hd⟩ : ∃ d, d = (x - z + 257) % 257 := ⟨_, rfl⟩
        obtain ⟨f, hf⟩ : ∃ f, f = (y - z + 257) % 257 := ⟨_, rfl⟩
        rw [← hd] at h1 HE
        rw [← hf] at h2 HE
        have d0 : 0 ≤ d := by omega
        have d1 : d < 257 := by omega
        have f0 : 0 ≤ f := by omega
        have f1 : f < 257 := by omega
        obtain ⟨p0, p1⟩ := prod_range o0 o1 d0 d1
        obtain ⟨q0, q1⟩ := prod_range n0 n1 f0 f1
        have H1 := hide h1
        have H2 := hide h2
        clear h1 h2 hd hf hki
        go_wp2_with fail
        refine (unhide H1 _).mono ?_
        rintro e w1 ⟨rfl, rfl⟩
        go_wp2_with fail
        go_quiet ((go_at_call 67; exact Calls.quiet_of_same (H2.out _)))
        go_wp2_with fail
        go_roundw
        case rel =>
          exact ⟨k + 1, ov * d % 257, un * f % 257, rfl, rfl, by go_num, by omega, by omega, by omega, hide (by rw [HE.out.1, hov.out]), hide (by rw [HE.out.2, hun.out]), hide (hbel.out.trans ((Go.below_drewN ((Below.refl _ wr).alloc (Nat.le_refl _) _) _).mono hbel.out.size))⟩
        case measure => simp [intOf]; omega
    · have hkn : k = l.length := by have := HN.out; omega
      rw [hkn] at hov hun
      have HFIN : Hid (M.wtI l i x = ov * M.invI un % 257) := hide (by rw [HW.out, hov.out, hun.out])
      have hpos : 0 < un := by rw [hun.out]; exact HU.out
      have h1 := fun w => Md.invOk un w hpos n1
      obtain ⟨v, hv⟩ : ∃ v, v = M.invI un := ⟨_, rfl⟩
      have hvr := M.invI_range un
      rw [← hv] at h1 hvr HFIN
      obtain ⟨v0, v1⟩ := hvr
      obtain ⟨p0, p1⟩ := prod_range o0 o1 v0 v1
      have H1 := hide h1
      have HK := hide hkn
      clear h1 hv hkn hov hun
      go_wp2_with fail
      refine (unhide H1 _).mono ?_
      rintro e w1 ⟨rfl, rfl⟩
      go_wp2_with fail
      go_ret2
      exact ⟨by rw [HFIN.out]; rfl, hbel.out⟩

theorem nextPts (a : Option Addr) (n cap : Nat) (l : List (Int × Int)) (x : Int) (w : World) (hn : n = l.length) (hcap : n ≤ cap) (hcm : cap ≤ maxLen) (hl : AtP w a l) (hf : M.ptsE l ≠ 0) :
    Calls Tryd.prog 45 #[.slice a n cap, .int .i64 x] w fun e w' => e = .returned (.tuple #[.int .i64 0, .iface 52 (.int .i64 (M.ptsE l))]) ∧ Below w.heap.size w w' := by
  have HC : Hid (Calls Tryd.prog 57 #[.slice a n cap] w fun e w' => e = .returned (.iface 52 (.int .i64 (M.ptsE l))) ∧ Below w.heap.size w w') := hide (by
    have := checkPts a n cap l w hn hcap hcm hl
    rwa [errV_bad hf] at this)
  clear hn hcm hl hf hcap
  go_enter Tryd.func45, Tryd.ntmps45
  go_wp2_with fail
  refine (unhide HC).mono ?_
  rintro e w1 ⟨rfl, hb1⟩
  go_wp2_with fail
  go_ret2
  exact ⟨rfl, hb1⟩

theorem nextX (a : Option Addr) (n cap : Nat) (l : List (Int × Int)) (x : Int) (w : World) (hn : n = l.length) (hcap : n ≤ cap) (hcm : cap ≤ maxLen) (hl : AtP w a l) (hf : M.ptsE l = 0) (hx : x < 0 ∨ 257 ≤ x) :
    Calls Tryd.prog 45 #[.slice a n cap, .int .i64 x] w fun e w' => e = .returned (.tuple #[.int .i64 0, .iface 52 (.int .i64 1)]) ∧ Below w.heap.size w w' := by
  have HC : Hid (Calls Tryd.prog 57 #[.slice a n cap] w fun e w' => e = .returned .nilIface ∧ Below w.heap.size w w') := hide (by
    have := checkPts a n cap l w hn hcap hcm hl
    rwa [hf] at this)
  have HX := hide hx
  clear hn hcm hl hf hcap hx
  go_enter Tryd.func45, Tryd.ntmps45
  go_wp2_with fail
  refine (unhide HC).mono ?_
  rintro e w1 ⟨rfl, hb1⟩
  go_wp2_with fail
  refine (Md.isNo x _ HX.out).mono ?_
  rintro e w2 ⟨rfl, rfl⟩
  go_wp2_with fail
  go_ret2
  exact ⟨rfl, hb1⟩

set_option maxHeartbeats 2000000 in
theorem nextOk (a : Option Addr) (n cap : Nat) (l : List (Int × Int)) (x : Int) (w : World) (hn : n = l.length) (hcap : n ≤ cap) (hcm : cap ≤ maxLen) (hl : AtP w a l) (hf : M.ptsE l = 0) (hx0 : 0 ≤ x) (hx1 : x < 257) :
    Calls Tryd.prog 45 #[.slice a n cap, .int .i64 x] w fun e w' => e = .returned (.tuple #[.int .i64 (M.next l x), .nilIface]) ∧ Below w.heap.size w w' := by
  obtain ⟨g0, g7, hR⟩ := M.ptsE_ok hf
  have HC : Hid (Calls Tryd.prog 57 #[.slice a n cap] w fun e w' => e = .returned .nilIface ∧ Below w.heap.size w w') := hide (by
    have := checkPts a n cap l w hn hcap hcm hl
    rwa [hf] at this)
  obtain ⟨b, off, rfl, hlie⟩ := hl g0
  have h7 : n ≤ 7 := by omega
  have HL := hide hlie
  have HN := hide hn
  have HR := hide hR
  have HALL := hide (M.sumI_all hR g0 x)
  clear hn hl hf hcap hcm hR hlie g0 g7
  go_enter Tryd.func45, Tryd.ntmps45
  go_wp2_with fail
  refine (unhide HC).mono ?_
  rintro e w1 ⟨rfl, hb1⟩
  have HB1 := hide hb1
  clear hb1 HC
  go_wp2_with fail
  refine (Md.isYes x _ hx0 hx1).mono ?_
  rintro e w2 ⟨rfl, hw⟩
  obtain rfl := hw.symm
  go_wp2_with fail
  go_loopw [7, 23] (fun ss sj wr => ∃ (k : Nat) (s : Int), ss = .int .i64 s ∧ sj = .int .i64 k ∧ k ≤ n ∧ (0 ≤ s ∧ s < 257) ∧ Hid (s = M.sumI l x k) ∧ Hid (Below w.heap.size w wr)) (fun _ sj _ => n - (intOf sj).toNat)
  case atStart => exact ⟨0, 0, rfl, rfl, Nat.zero_le _, by decide, hide rfl, HB1⟩
  case round =>
    obtain ⟨k, s, rfl, rfl, hk, ⟨s0, s1⟩, hs, hbel⟩ := hrel
    by_cases hlt : k < n
    · have hkl : k < l.length := by have := HN.out; omega
      obtain ⟨c1, c2⟩ := (HL.out.stays hbel.out (Nat.le_refl _)) k hkl
      obtain ⟨z0, z1⟩ := (HR.out.1 k hkl).2
      have HST := hide (M.sumI_step hkl x)
      have HWT : Hid (∀ wx, Below w.heap.size w wx → Calls Tryd.prog 58 #[.slice (some ⟨b, off, none⟩) n cap, .int .i64 k, .int .i64 x] wx fun e w' => e = .returned (.tuple #[.int .i64 (M.wtI l k x), .nilIface]) ∧ Below wx.heap.size wx w') := hide fun wx hb => weigh b off n cap l k x wx HN.out h7 hlt HR.out hx0 hx1 (HL.out.stays hb (Nat.le_refl _))
      obtain ⟨t, ht⟩ : ∃ t, t = M.wtI l k x := ⟨_, rfl⟩
      have htr := M.wtI_range l k x
      rw [← ht] at htr HST HWT
      obtain ⟨t0, t1⟩ := htr
      clear ht
      generalize l[k].1 = u at c1
      generalize l[k].2 = z at c2 z0 z1 HST
      obtain ⟨p0, p1⟩ := prod_range z0 z1 t0 t1
      have HA : Hid (Below w.heap.size w (wr.alloc (.cells #[.int .i64 u, .int .i64 z] 31))) := hide (hbel.out.trans (((Below.refl _ wr).alloc (Nat.le_refl _) _).mono hbel.out.size))
      go_wp2_with fail
      refine (unhide HWT _ HA.out).mono ?_
      rintro e w2 ⟨rfl, hb2⟩
      obtain ⟨hc, hfz⟩ := bcell hb2
      have HB2 := hide (HA.out.trans (hb2.mono HA.out.size))
      clear hb2
      go_wp2_with fail
      go_roundw
      case rel => exact ⟨k + 1, (s + z * t) % 257, rfl, by go_num, by omega, by omega, hide (by rw [HST.out, hs.out]), HB2⟩
      case measure => simp [intOf]; omega
    · have HFIN : Hid (s = M.next l x) := hide (by rw [hs.out, ← HALL.out, ← HN.out, show k = n by omega])
      clear hs
      go_wp2_with fail
      go_ret2
      exact ⟨by rw [HFIN.out]; rfl, hbel.out⟩

theorem pNext (a : Option Addr) (n cap : Nat) (l : List (Int × Int)) (x : Int) (w : World) (hn : n = l.length) (hcap : n ≤ cap) (hcm : cap ≤ maxLen) (hl : AtP w a l) :
    Calls Tryd.prog 45 #[.slice a n cap, .int .i64 x] w fun e w' => e = .returned (.tuple #[.int .i64 (M.nxR l x), errV (M.nxE l x)]) ∧ Below w.heap.size w w' := by
  by_cases hf : M.ptsE l = 0
  · cases hx : M.inR x
    · have h := M.nxE_x hf hx
      rw [M.nxR_bad (by rw [h]; decide), h]
      exact nextX a n cap l x w hn hcap hcm hl hf (M.inR_no hx)
    · have h := M.nxE_0 hf hx
      rw [M.nxR_ok h, h]
      exact nextOk a n cap l x w hn hcap hcm hl hf (M.inR_yes hx).1 (M.inR_yes hx).2
  · have h := M.nxE_pts (x := x) hf
    rw [M.nxR_bad (by rw [h]; exact hf), h, errV_bad hf]
    exact nextPts a n cap l x w hn hcap hcm hl hf

theorem pZero (a : Option Addr) (n cap : Nat) (l : List (Int × Int)) (w : World) (hn : n = l.length) (hcap : n ≤ cap) (hcm : cap ≤ maxLen) (hl : AtP w a l) :
    Calls Tryd.prog 36 #[.slice a n cap] w fun e w' => e = .returned (.tuple #[.int .i64 (M.nxR l 0), errV (M.ptsE l)]) ∧ Below w.heap.size w w' := by
  have h := pNext a n cap l 0 w hn hcap hcm hl
  rw [M.nxE_zero] at h
  have H := hide h
  clear h hn hcap hcm hl
  go_enter Tryd.func36, Tryd.ntmps36
  go_wp2_with fail
  refine (unhide H).mono ?_
  rintro e w1 ⟨rfl, hb1⟩
  go_wp2_with fail
  go_ret2
  exact ⟨rfl, hb1⟩

end Go.Proofs.YtmhkngceeeibpajDoor
