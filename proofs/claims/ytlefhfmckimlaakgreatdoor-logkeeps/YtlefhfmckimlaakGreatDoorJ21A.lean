/-
  What is left of a list of tuples when all of it that fits is taken away, one behind the other; lists that a law puts together beside a space.
  What Mark of package mirror's copy does, as one law of its call.
  What New, Do, Mark and Space of package mirror do, whatever comes in, each as one law of its call.
  A log in memory of a call's own: a struct that leads to a copy and to rules, and bears its records as bytes; what a call on it leaves as it was.
-/
import Derived.Test.YtlefhfmckimlaakGreatDoorJ20A
import Derived.Test.YtlefhfmckimlaakGreatDoorJ19A
import Derived.Test.YtlefhfmckimlaakGreatDoorJ16A
import Derived.Test.YtlefhfmckimlaakGreatDoorJ11A
namespace Go.Proofs.YtlefhfmckimlaakGreatDoor
open Go.RowKit

def M.keepL (a : List M.Val) (X : List (List M.Val)) : List (List M.Val) := X.filter fun t => !M.fitAll a t
/-- the space when j of those that were put have been asked for -/
def M.mid (a : List M.Val) (L : List (List M.Val)) (j : Nat) : List (List M.Val) := M.keepL a (L.take j) ++ L.drop j

theorem keep_no {a : List M.Val} {L : List (List M.Val)} {j : Nat} (hj : j < L.length) (h : M.fitAll a L[j] = false) : M.keepL a (L.take (j + 1)) = M.keepL a (L.take j) ++ [L[j]] := by
  unfold M.keepL
  rw [List.take_succ_eq_append_getElem hj, List.filter_append, List.filter_cons, h]; simp
theorem keep_yes {a : List M.Val} {L : List (List M.Val)} {j : Nat} (hj : j < L.length) (h : M.fitAll a L[j] = true) : M.keepL a (L.take (j + 1)) = M.keepL a (L.take j) := by
  unfold M.keepL
  rw [List.take_succ_eq_append_getElem hj, List.filter_append, List.filter_cons, h]; simp
theorem mid_zero (a : List M.Val) (L : List (List M.Val)) : M.mid a L 0 = L := by simp [M.mid, M.keepL]
theorem mid_no {a : List M.Val} {L : List (List M.Val)} {j : Nat} (hj : j < L.length) (h : M.fitAll a L[j] = false) : M.mid a L (j + 1) = M.mid a L j := by
  unfold M.mid
  rw [keep_no hj h, List.drop_eq_getElem_cons hj, List.append_assoc]; rfl
theorem mid_end (a : List M.Val) (L : List (List M.Val)) : M.mid a L L.length = M.keepL a L := by simp [M.mid]
theorem keep_all {a : List M.Val} {X : List (List M.Val)} {j : Nat} (hj : j < (M.keepL a X).length) : M.fitAll a (M.keepL a X)[j] = false := by
  have h := (List.mem_filter.1 (show (M.keepL a X)[j] ∈ X.filter (fun t => !M.fitAll a t) from List.getElem_mem hj)).2
  simpa using h
theorem spot_keep (a : List M.Val) (X : List (List M.Val)) : M.spot a (M.keepL a X) = (M.keepL a X).length := spot_none fun _ hj => keep_all hj
/-- the first that fits, behind some that do not -/
theorem get_app {a x : List M.Val} {K D : List (List M.Val)} (ha : M.likeF a = 0) (hK : ∀ j (hj : j < K.length), M.fitAll a K[j] = false) (hx : M.fitAll a x = true) : M.getF a (K ++ x :: D) = 0 ∧ M.getV a (K ++ x :: D) = x ∧ M.lessL a (K ++ x :: D) = K ++ D := by
  have hlt : K.length < (K ++ x :: D).length := by simp
  have h1 : M.spot a (K ++ x :: D) = K.length := spot_hit hlt (fun i hi => by rw [List.getElem_append_left hi]; exact hK i hi) (by rw [List.getElem_append_right (Nat.le_refl _)]; simpa using hx)
  have h0 : M.getF a (K ++ x :: D) = 0 := getF_hit ha (by rw [h1]; exact hlt)
  refine ⟨h0, ?_, ?_⟩
  · unfold M.getV
    rw [if_pos h0, h1, List.getD_eq_getElem?_getD, List.getElem?_append_right (Nat.le_refl _)]
    simp
  · unfold M.lessL
    rw [if_pos h0, h1, List.eraseIdx_append_of_length_le (Nat.le_refl _)]
    simp
theorem mid_get {a : List M.Val} {L : List (List M.Val)} {j : Nat} (ha : M.likeF a = 0) (hj : j < L.length) (h : M.fitAll a L[j] = true) : M.getF a (M.mid a L j) = 0 ∧ M.getV a (M.mid a L j) = L[j] ∧ M.lessL a (M.mid a L j) = M.mid a L (j + 1) := by
  have e : M.mid a L j = M.keepL a (L.take j) ++ L[j] :: L.drop (j + 1) := by unfold M.mid; rw [List.drop_eq_getElem_cons hj]
  have e2 : M.mid a L (j + 1) = M.keepL a (L.take j) ++ L.drop (j + 1) := by unfold M.mid; rw [keep_yes hj h]
  rw [e, e2]
  exact get_app ha (fun i hi => keep_all hi) h
theorem mid_last {a : List M.Val} {L : List (List M.Val)} (ha : M.likeF a = 0) : M.getF a (M.mid a L L.length) = 5 := by
  rw [mid_end]
  exact getF_miss ha (by rw [spot_keep]; exact Nat.lt_irrefl _)
theorem mid_fine {a : List M.Val} {L : List (List M.Val)} (j : Nat) (h : M.Fine L) : M.Fine (M.mid a L j) := by
  constructor
  · intro t ht
    unfold M.mid M.keepL at ht
    rcases List.mem_append.1 ht with ht | ht
    · exact h.1 t (List.mem_of_mem_take (List.mem_filter.1 ht).1)
    · exact h.1 t (List.mem_of_mem_drop ht)
  · have h1 : (M.keepL a (L.take j)).length ≤ (L.take j).length := List.length_filter_le _ _
    have h2 : (M.mid a L j).length = (M.keepL a (L.take j)).length + (L.drop j).length := by unfold M.mid; rw [List.length_append]
    rw [List.length_take] at h1
    rw [List.length_drop] at h2
    have := h.2
    omega
theorem many_drop {a : List M.Val} {L : List (List M.Val)} {j : Nat} (hj : j < L.length) : M.many a (L.drop j) = M.many a (L.drop (j + 1)) + (if M.fitAll a L[j] then 1 else 0) := by
  unfold M.many
  rw [List.drop_eq_getElem_cons hj, List.countP_cons]

/-- a struct's list stays while another list's row is appended to -/
theorem Sp.grown {T : TypeId} {Q : Value → List M.Val → Prop} {base S m : Nat} {w w' : World} {u v : Value} {L : List (List M.Val)} {xs : List Value} (h : Sp T Q base w S v L) (hT : T ≠ 32) (hx : w.ownsRow base 32 1 u m xs) (ha : Apart v u) (hg : w.grownBy w' u.ownBlock) : Sp T Q base w' S v L := by
  have hS : some S ≠ u.ownBlock := fun e => by
    rcases hx.2 with ⟨hv, _⟩ | ⟨g, cap, c2, hv, _, hh, _⟩
    · rw [hv] at e; cases e
    · rw [hv] at e
      have : S = g := by simpa [Value.ownBlock] using e
      subst this
      rw [h.heap] at hh
      exact hT (tag_eq hh)
  refine ⟨h.lo, (hg.block S (heap_lt h.heap) hS).trans h.heap, ?_⟩
  obtain ⟨ys, h1, h2⟩ := h.row
  refine ⟨ys, h1.kept hg ?_, h2⟩
  cases hv : v.ownBlock with
  | none => exact Or.inl rfl
  | some k => exact Or.inr (fun e => ha k hv e.symm)
theorem Space.grown {base S m : Nat} {w w' : World} {u v : Value} {L : List (List M.Val)} {xs : List Value} (h : Space base w S v L) (hx : w.ownsRow base 32 1 u m xs) (ha : Apart v u) (hg : w.grownBy w' u.ownBlock) : Space base w' S v L :=
  (Sp.grown h (by decide) hx ha hg).mono fun _ _ ho => ho.solid (solid_grown hx hg)
theorem RowOf.grown {Q : Value → List M.Val → Prop} {base : Nat} {w w' : World} {u v : Value} {L : List (List M.Val)} (h : RowOf Q base w v L) (ha : Apart v u) (hg : w.grownBy w' u.ownBlock) : RowOf Q base w' v L := by
  obtain ⟨ys, h1, h2⟩ := h
  refine ⟨ys, h1.kept hg ?_, h2⟩
  cases hv : v.ownBlock with
  | none => exact Or.inl rfl
  | some k => exact Or.inr (fun e => ha k hv e.symm)
/-- the cells of a list's row -/
theorem RowOf.at {Q : Value → List M.Val → Prop} {base : Nat} {w : World} {u : Value} {L : List (List M.Val)} (h : RowOf Q base w u L) (h0 : 0 < L.length) : ∃ g cap, u = .slice (some ⟨g, 0, none⟩) L.length cap ∧ ∀ j (hj : j < L.length), ∃ x, w.cell? ⟨g, j, none⟩ = some x ∧ Q x L[j] := by
  obtain ⟨xs, h1, h2⟩ := h
  have hlen : xs.length = L.length := by have := h1.1; omega
  obtain ⟨g, cap, rfl, _⟩ := h1.form h0
  refine ⟨g, cap, rfl, fun j hj => ⟨xs[j], ?_, h2 j (by omega) hj⟩⟩
  rw [h1.cellAt j (by omega), List.getElem?_eq_getElem (by omega)]
theorem RowOf.shape {Q : Value → List M.Val → Prop} {base : Nat} {w : World} {u : Value} {L : List (List M.Val)} (h : RowOf Q base w u L) : ∃ ao cap, u = .slice ao L.length cap := by
  obtain ⟨xs, h1, _⟩ := h
  rcases h1.2 with ⟨hv, hn⟩ | ⟨g, cap, cur, hv, _⟩
  · exact ⟨none, 0, by rw [hv, hn]⟩
  · exact ⟨_, _, hv⟩
/-- a list of argument tuples, one more appended -/
theorem RowOf.more {Q : Value → List M.Val → Prop} {base : Nat} {w w' : World} {u u' x : Value} {L : List (List M.Val)} {l : List M.Val} {xs : List Value} (hx1 : w.ownsRow base 32 1 u L.length xs) (hx2 : ∀ i (h1 : i < xs.length) (h2 : i < L.length), Q xs[i] L[i]) (ho : w'.ownsRow base 32 1 u' (L.length + 1) (xs ++ [x])) (hq : Q x l) : RowOf Q base w' u' (L ++ [l]) :=
  RowOf.snoc hx2 (by have := hx1.1; omega) ho hq
theorem near_lies {H g : Nat} {w : World} {u : Value} {n c : Nat} (h : u.ownBlock = some g ∨ g = H) (hw : w.heap.size ≤ H) : Near w u (.slice (some ⟨g, 0, none⟩) n c) := by
  rcases h with h | h
  · exact Or.inl h.symm
  · refine Or.inr fun k hk => ?_
    have : g = k := by simpa [Value.ownBlock] using hk
    omega

end Go.Proofs.YtlefhfmckimlaakGreatDoor

set_option linter.unusedVariables false
namespace Go.Proofs.YtlefhfmckimlaakGreatDoor
open Go.RowKit
attribute [local go_sem ↓] Go.wp_at_zero Go.wp_at_succ

/-- All, with the rows that it has made -/
theorem allR (base S : Nat) (u : Value) (L : List (List M.Val)) (w : World) (hs : Space base w S u L) (hL : M.Fine L) :
    Calls Tryz.prog 63 #[.pointer (some ⟨S, 0, none⟩)] w fun e w' => ∃ ao cap, e = .returned (.slice ao L.length cap) ∧ RowOf (OwnT w.heap.size w') w.heap.size w' (.slice ao L.length cap) L ∧ Below w.heap.size w w' := by
  obtain ⟨c1, _, s1⟩ := hs.cell
  have hu : IsTups w u L := hs.row.tups fun _ _ ho => ho.vals
  rcases Nat.eq_zero_or_pos L.length with h0 | h0
  · obtain ⟨ao, cap, rfl, _⟩ := hu.shape
    have hl := List.length_eq_zero_iff.1 h0
    subst hl
    refine (all_none S cap ao w c1).mono ?_
    rintro e w' ⟨rfl, hb⟩
    exact ⟨none, 0, rfl, RowOf.nil _ _ _, hb⟩
  · obtain ⟨b, off, cap, rfl, h1, h2, h3⟩ := hu.some h0
    refine (all_many S b off L.length cap L w rfl h0 c1 h3 hL).mono ?_
    rintro e w' ⟨v, rfl, h4, hb⟩
    obtain ⟨ao, cap2, rfl⟩ := h4.shape
    exact ⟨ao, cap2, rfl, h4, hb⟩

section
variable {base : Nat} {w : World} {C S B : Nat} {v rv : Value} {l : List (List M.Val)} {g : Int → Int × ByteArray} {m : Int} {k : Nat} {R : List M.Rul}
theorem str_bytes (q : List UInt8) : (⟨q.toArray⟩ : ByteArray).data.toList = q := by simp

set_option maxHeartbeats 1000000 in
set_option maxRecDepth 100000 in
theorem cMark (h : Cp base w C S B v rv l g m k R) (hL : M.Fine l) (hT : TabFrom base w) :
    Calls Tryz.prog 30 #[.pointer (some ⟨C, 0, none⟩)] w fun e w' => e = .returned (.tuple #[.int .i64 m, .int .i64 (M.mark l)]) ∧ Below w.heap.size w w' := by
  have HC := hide h
  have HL := hide hL
  have HT := hide hT
  have h20 : l.length ≤ 20 := hL.2
  have HAL : Hid (∀ wx, Below w.heap.size w wx → Calls Tryz.prog 63 #[.pointer (some ⟨S, 0, none⟩)] wx fun e w' => ∃ ao cap, e = .returned (.slice ao l.length cap) ∧ RowOf (OwnT wx.heap.size w') wx.heap.size w' (.slice ao l.length cap) l ∧ Below wx.heap.size wx w') := hide fun wx hb => allR base S v l wx (h.quiet hb).sp hL
  have HCC : Hid (∀ wx, Below w.heap.size w wx → wx.cell? ⟨C, 1, none⟩ = some (.pointer (some ⟨S, 0, none⟩)) ∧ wx.cell? ⟨C, 3, none⟩ = some (.int .i64 m) ∧ C < wx.heap.size) := hide fun wx hb => ⟨(h.quiet hb).cells.2.1, (h.quiet hb).cells.2.2.2.1, (h.quiet hb).cells.2.2.2.2.1⟩
  obtain ⟨n, hn⟩ : ∃ n, n = l.length := ⟨_, rfl⟩
  have HN := hide hn
  rw [← hn] at h20 HAL
  clear h hL hT hn
  obtain ⟨c0, c3, cn⟩ := HCC.out (w.alloc (.cells #[.pointer none, .slice none 0 0] 133)) ((Below.refl _ _).alloc (Nat.le_refl _) _)
  go_enter Tryz.func30, Tryz.ntmps30
  go_wp2_with fail
  refine (HAL.out _ ((Below.refl _ _).alloc (Nat.le_refl _) _)).mono ?_
  rintro e w1 ⟨ao, cap, rfl, hr1, hb1⟩
  have HB1 : Hid (Below w.heap.size w w1) := hide (((Below.refl _ _).alloc (Nat.le_refl _) (.cells #[.pointer none, .slice none 0 0] 133)).trans (hb1.mono (by simp)))
  have HBL1 : Hid (Blt w.heap.size w.heap.size (Lib.byteCells (M.markL (l.take 0))) w1) := hide (Blt.stays (Lib.fresh_isBuilder _ _ _) hb1)
  have HR1 := hide hr1
  clear hb1 hr1 c0 c3 cn
  rcases Nat.eq_zero_or_pos n with h0 | h0
  · have hl0 : l = [] := List.length_eq_zero_iff.1 (by rw [← HN.out]; exact h0)
    subst hl0
    subst h0
    have HBL : Hid (Blt w.heap.size w.heap.size (Lib.byteCells []) w1.drew) := hide (HBL1.out.stays ((Below.refl _ _).drew))
    have hws := HB1.out.size
    obtain ⟨_, c3, cn⟩ := HCC.out w1 HB1.out
    have HH : Hid (∀ wx, Calls Tryz.prog 66 #[.string ⟨(([] : List UInt8)).toArray⟩] wx fun e w' => e = .returned (.int .i64 7) ∧ w' = wx) := hide fun wx => number ⟨(([] : List UInt8)).toArray⟩ wx (by decide)
    go_wp2_with fail
    go_loopw [13] (fun i wr => i = .int .i64 0 ∧ wr = w1) (fun _ _ => 0)
    case atStart => exact ⟨rfl, rfl⟩
    case round =>
      obtain ⟨rfl, rfl⟩ := hrel
      go_wp2_with fail
      go_region_held3 (fun w' => w'.cell? ⟨C, 3, none⟩ = some (.int .i64 m)) (first | go_keep | assumption)
        (first
          | (go_at_call 67; refine (Tryz.Builder_String_any w.heap.size w.heap.size _ _ HBL.out hws).mono ?_; rintro e w5 ⟨rfl, hb5⟩; have HB5 := hide (HB1.out.drew.trans hb5); have c5 := (HCC.out w5 HB5.out).2.1; clear hb5)
          | (go_at_call 66; refine (HH.out _).mono ?_; rintro e w6 ⟨rfl, hw6⟩; obtain rfl := hw6.symm))
      all_goals
        go_wp2_with fail
        go_ret2
        exact ⟨rfl, HB5.out⟩
  · obtain ⟨gb, cap2, e, _⟩ := HR1.out.at (by have := HN.out; omega)
    simp only [Value.slice.injEq] at e
    obtain ⟨rfl, _, _⟩ := e
    go_wp2_with fail
    go_loopw [13] (fun i wr => ∃ k : Nat, k ≤ n ∧ i = .int .i64 k ∧ Hid (Blt w.heap.size w.heap.size (Lib.byteCells (M.markL (l.take k))) wr) ∧ Hid (RowOf (OwnT (w.heap.size + 1) wr) (w.heap.size + 1) wr (.slice (some ⟨gb, 0, none⟩) n cap) l) ∧ Hid (Below w.heap.size w wr)) (fun i _ => n - (intOf i).toNat)
    case atStart => exact ⟨0, Nat.zero_le _, rfl, HBL1, hide (by simpa using HR1.out), HB1⟩
    case round =>
      obtain ⟨k, hk, rfl, hblt, hrow, hbel⟩ := hrel
      obtain ⟨_, c3, cn⟩ := HCC.out wr hbel.out
      have hws := hbel.out.size
      have HSZ : Hid ((M.markL (l.take k)).length ≤ 1420) := hide (by
        have h1 := M.markL_len (L := l.take k) (fun t ht => HL.out.1 t (List.mem_of_mem_take ht))
        have h3 : (l.take k).length ≤ k := List.length_take_le _ _
        omega)
      by_cases hlt : k < n
      · have hkl : k < l.length := HN.out ▸ hlt
        have i1 : (k : Int) < (n : Int) := by omega
        have i0 : (0 : Int) ≤ (k : Int) := by omega
        obtain ⟨gb2, cap2, e, hat⟩ := hrow.out.at (by omega)
        simp only [Value.slice.injEq, Option.some.injEq, Addr.mk.injEq, and_true] at e
        obtain ⟨rfl, _, rfl⟩ := e
        obtain ⟨x, hx, hxo⟩ := hat k hkl
        obtain ⟨xa, xn, xc, rfl⟩ := hxo.vals.isSlice
        have hlk := M.tupF_like (HL.out.1 l[k] (List.getElem_mem hkl))
        have HPR : Hid (Calls Tryz.prog 65 #[.slice xa xn xc] wr fun e w' => e = .returned (.string (M.line l[k])) ∧ Below wr.heap.size wr w') := hide (cPrinted _ _ wr hxo.vals (HT.out wr (hbel.out.mono HC.out.base_le)) hlk)
        have HY := hide (M.line_small hlk)
        have HMT := hide (M.markL_take hkl)
        generalize M.line l[k] = y at *
        clear hat hxo hlk
        go_wp2_with fail
        refine (unhide HPR).mono ?_
        rintro e w2 ⟨rfl, hb2⟩
        have HBL2 := hide (hblt.out.stays hb2)
        have HR2 := hide ((Spare.below hb2).row hrow.out (fun _ _ ho => ho.solid (Solid.below hb2)))
        have HB2 := hide (hbel.out.trans (hb2.mono hbel.out.size))
        clear hb2
        go_wp2_with fail
        refine (writeK w.heap.size w.heap.size _ _ _ HBL2.out (by rw [Lib.byteCells_length]; have := HSZ.out; have := HY.out; omega) HB2.out.size).mono ?_
        rintro e w3 ⟨rfl, hbl3, hb3, hk3⟩
        have HBL3 : Hid (Blt w.heap.size w.heap.size (Lib.byteCells (M.markL (l.take k) ++ y.data.toList)) w3) := hide (by have := hbl3; rwa [cells_word] at this)
        have HR3 := hide (hk3.row HR2.out (fun _ _ ho => ho.solid hk3.solid))
        have HB3 := hide (HB2.out.trans hb3)
        clear hbl3 hb3 hk3
        go_wp2_with fail
        refine (writeK w.heap.size w.heap.size _ _ _ HBL3.out (by rw [Lib.byteCells_length, List.length_append]; have := HSZ.out; have := HY.out; have h9 : y.data.toList.length = y.size := Array.length_toList; show _ + 1 ≤ _; omega) HB3.out.size).mono ?_
        rintro e w4 ⟨rfl, hbl4, hb4, hk4⟩
        have HBL4 := hide hbl4
        have HR4 := hide (hk4.row HR3.out (fun _ _ ho => ho.solid hk4.solid))
        have HB4 := hide (HB3.out.trans hb4)
        clear hbl4 hb4 hk4
        go_wp2_with fail
        go_roundw
        case rel =>
          refine ⟨k + 1, by omega, by go_num, hide ?_, HR4, HB4⟩
          have := HBL4.out
          rw [cells_word, List.append_assoc] at this
          rw [HMT.out]
          exact this
        case measure => simp [intOf]; omega
      · have hkn : k = n := by omega
        have i1 : ¬ (k : Int) < (n : Int) := by omega
        have HBL : Hid (Blt w.heap.size w.heap.size (Lib.byteCells (M.markL l)) wr.drew) := hide (by
          have h1 := hblt.out
          rw [hkn, HN.out, List.take_length] at h1
          exact h1.stays ((Below.refl _ _).drew))
        have hsz : (M.markL l).length ≤ 1420 := by
          have h1 := HSZ.out
          rwa [hkn, HN.out, List.take_length] at h1
        obtain ⟨Z, hZ⟩ : ∃ Z, Z = M.mark l := ⟨_, rfl⟩
        have HZ := hide hZ
        have HH : Hid (∀ wx, Calls Tryz.prog 66 #[.string ⟨(M.markL l).toArray⟩] wx fun e w' => e = .returned (.int .i64 Z) ∧ w' = wx) := hide fun wx => by
          have h1 := number ⟨(M.markL l).toArray⟩ wx (by show (M.markL l).toArray.size ≤ _; unfold maxLen; rw [List.size_toArray]; omega)
          have e : M.hash ⟨(M.markL l).toArray⟩ = Z := by
            rw [hZ]; unfold M.hash M.mark; rw [str_bytes]
          rwa [e] at h1
        generalize M.markL l = q at *
        clear hZ hkn hsz
        go_wp2_with fail
        go_region_held3 (fun w' => w'.cell? ⟨C, 3, none⟩ = some (.int .i64 m)) (first | go_keep | assumption)
          (first
            | (go_at_call 67; refine (Tryz.Builder_String_any w.heap.size w.heap.size _ _ HBL.out hws).mono ?_; rintro e w5 ⟨rfl, hb5⟩; have HB5 := hide (hbel.out.drew.trans hb5); have c5 := (HCC.out w5 HB5.out).2.1; clear hb5)
            | (go_at_call 66; refine (HH.out _).mono ?_; rintro e w6 ⟨rfl, hw6⟩; obtain rfl := hw6.symm))
        all_goals
          go_wp2_with fail
          go_ret2
          exact ⟨by rw [← HZ.out]; rfl, HB5.out⟩
end

end Go.Proofs.YtlefhfmckimlaakGreatDoor

set_option linter.unusedVariables false
namespace Go.Proofs.YtlefhfmckimlaakGreatDoor
open Go.RowKit

theorem mNew_bad (av : Option Addr) (n cap : Nat) (L : List M.Rul) (w : World) (hn : n = L.length) (hm : n ≤ maxLen) (hl : AtR w av L) (hE : M.rulE L ≠ 0) :
    Calls Tryz.prog 24 #[.slice av n cap] w fun e w' => e = .returned (.tuple #[.pointer none, errV (M.rulE L)]) ∧ Below w.heap.size w w' := cNew_bad av n cap L w hn hm hl hE
theorem mNew_ok (base : Nat) (av : Option Addr) (n cap : Nat) (L : List M.Rul) (w : World) (hb : base ≤ w.heap.size) (hn : n = L.length) (hm : n ≤ maxLen) (hl : AtR w av L) (hE : M.rulE L = 0) :
    Calls Tryz.prog 24 #[.slice av n cap] w fun e w' => ∃ C F, e = .returned (.tuple #[.pointer (some ⟨C, 0, none⟩), .nilIface]) ∧ CpIs base w' F C M.Cop.new L ∧ (∀ i, F i → w.heap.size ≤ i) ∧ Below w.heap.size w w' := cNew_ok base av n cap L w hb hn hm hl hE
section
variable {base : Nat} {w : World} {F : Nat → Prop} {C : Nat} {c : M.Cop} {R : List M.Rul} {a : Option Addr} {n cp : Nat}
/-- Do, whatever comes in: the space's row alone may move -/
theorem mDoX {S B : Nat} {v rv : Value} (x : M.Ask) (hok : c.Ok) (hE : M.rulE R = 0) (hc : Cp base w C S B v rv c.l c.g c.n c.n R) (hv : IsVals w (.slice a n cp) x.t) (hn : c.n < 1000) (ht : TabFrom base w) :
    Calls Tryz.prog 28 #[.pointer (some ⟨C, 0, none⟩), aggA x.who x.seq x.deed a n cp] w fun e w' => e = .returned (.tuple #[.string (M.doR R c x).2.1, errV (M.doR R c x).1]) ∧ ∃ v', Cp base w' C S B v' rv (M.doR R c x).2.2.l (M.doR R c x).2.2.g (M.doR R c x).2.2.n (M.doR R c x).2.2.n R ∧ Tch (cpF C S B v rv) w w' ∧ Grows w (cpF C S B v rv) (cpF C S B v' rv) := by
  have HA : ∀ wx, Below w.heap.size w wx → Calls Tryz.prog 37 #[.pointer (some ⟨C, 0, none⟩), aggA x.who x.seq x.deed a n cp] wx fun e w' => e = .returned (.tuple #[.bool (M.agB c x), errV (M.doR R c x).1]) ∧ Below wx.heap.size wx w' := fun wx hw => cAgain c hok (hc.quiet hw) hE (by omega) x (hv.stays hw (Nat.le_refl _))
  have still : ∀ {s : ByteArray} {E : Value} {e : Ending} {w' : World}, e = .returned (.tuple #[.string s, E]) ∧ Below w.heap.size w w' → e = .returned (.tuple #[.string s, E]) ∧ ∃ v', Cp base w' C S B v' rv c.l c.g c.n c.n R ∧ Tch (cpF C S B v rv) w w' ∧ Grows w (cpF C S B v rv) (cpF C S B v' rv) := fun he => ⟨he.1, v, hc.quiet he.2, Tch.of_below he.2, Grows.refl _ _⟩
  obtain ⟨who, seq, deed, l⟩ := x
  simp only at hv HA ⊢
  rcases M.doR_ways R c ⟨who, seq, deed, l⟩ with h1 | ⟨h1, h2⟩ | ⟨h1, h2, h3⟩ | ⟨h1, h2, h3, h4⟩ | ⟨h1, h2, h3, h4⟩
  · rw [M.doR_bad h1] at HA ⊢
    exact (cDo_bad _ h1 _ HA).mono fun _ _ he => still he
  · rw [M.doR_again h1 h2, M.agB_ok h1, h2] at HA
    rw [M.doR_again h1 h2]
    exact (cDo_again hc (M.askF_ok h1).1 (hok.small who) HA).mono fun _ _ he => still he
  · rw [M.doR_state h1 h2 h3] at HA ⊢
    exact (cDo_bad 6 (by decide) _ HA).mono fun _ _ he => still he
  · rw [M.doR_did h1 h2 h3 h4, M.agB_ok h1, h2] at HA
    rw [M.doR_did h1 h2 h3 h4]
    have g0 := hok.lo who
    simp only at h3
    refine (cDo_did hc (M.askF_ok h1).1 l (M.deedS c.l ⟨who, seq, deed, l⟩) (M.deedL c.l ⟨who, seq, deed, l⟩) (by omega) (by omega) (by omega) (M.deedS_small hok.fine) (by omega) HA (fun wx hwx => ?_)).mono ?_
    · exact cAns (hc.quiet hwx) hok.fine hE ⟨who, seq, deed, l⟩ (hv.stays hwx (Nat.le_refl _)) h1 (ht.next (hwx.mono hc.base_le))
    · rintro e w' ⟨rfl, v', r1, r2, r3⟩
      exact ⟨rfl, v', r1, r2, r3⟩
  · rw [M.doR_denied h1 h2 h3 h4] at HA ⊢
    exact (cDo_bad 8 (by decide) _ HA).mono fun _ _ he => still he
theorem mDo (x : M.Ask) (h : CpIs base w F C c R) (hv : IsVals w (.slice a n cp) x.t) (hn : c.n < 1000) (ht : TabFrom base w) :
    Calls Tryz.prog 28 #[.pointer (some ⟨C, 0, none⟩), aggA x.who x.seq x.deed a n cp] w fun e w' => e = .returned (.tuple #[.string (M.doR R c x).2.1, errV (M.doR R c x).1]) ∧ ∃ F', CpIs base w' F' C (M.doR R c x).2.2 R ∧ Tch F w w' ∧ Grows w F F' := by
  obtain ⟨S, B, v, rv, rfl, hc⟩ := h.is
  refine (mDoX x h.ok h.fine hc hv hn ht).mono ?_
  rintro e w' ⟨rfl, v', r1, r2, r3⟩
  exact ⟨rfl, _, ⟨h.ok.next, h.fine, S, B, v', rv, rfl, r1⟩, r2, r3⟩
theorem mAgain (x : M.Ask) (h : CpIs base w F C c R) (hv : IsVals w (.slice a n cp) x.t) (hn : c.n ≤ 1000) :
    Calls Tryz.prog 37 #[.pointer (some ⟨C, 0, none⟩), aggA x.who x.seq x.deed a n cp] w fun e w' => e = .returned (.tuple #[.bool (M.agB c x), errV (M.doR R c x).1]) ∧ Below w.heap.size w w' := by
  obtain ⟨S, B, v, rv, rfl, hc⟩ := h.is
  exact cAgain c h.ok hc h.fine hn x hv
/-- a box of what is asked stays while a copy is written -/
theorem CpIs.box {w' : World} {N : Nat} {who seq deed : Int} (h : CpIs base w F C c R) (ht : Tch F w w') (hb : AskBox w N who seq deed a n cp) : AskBox w' N who seq deed a n cp := by
  obtain ⟨S, B, v, rv, rfl, hc⟩ := h.is
  exact (ht.block N (heap_lt hb) (hc.other hb (by decide) (by decide) (by decide) (by decide))).trans hb
theorem mMark (h : CpIs base w F C c R) (ht : TabFrom base w) :
    Calls Tryz.prog 30 #[.pointer (some ⟨C, 0, none⟩)] w fun e w' => e = .returned (.tuple #[.int .i64 c.n, .int .i64 (M.mark c.l)]) ∧ Below w.heap.size w w' := by
  obtain ⟨S, B, v, rv, rfl, hc⟩ := h.is
  exact cMark hc h.ok.fine ht
end

end Go.Proofs.YtlefhfmckimlaakGreatDoor

set_option linter.unusedVariables false
namespace Go.Proofs.YtlefhfmckimlaakGreatDoor
open Go.RowKit

/-- a text of bytes -/
abbrev bytesB (l : List UInt8) : ByteArray := ⟨l.toArray⟩
theorem bytesB_size (l : List UInt8) : (bytesB l).size = l.length := by simp [ByteArray.size]
theorem bytesB_list (l : List UInt8) : (bytesB l).data.toList = l := by simp
theorem bytesB_append (a b : List UInt8) : bytesB a ++ bytesB b = bytesB (a ++ b) := by
  apply WideShapes.bytes_inj
  simp [ByteArray.data_append]

theorem CpIs.other {base : Nat} {w : World} {F : Nat → Prop} {C : Nat} {c : M.Cop} {R : List M.Rul} (h : CpIs base w F C c R) {b : Nat} {cs : Array Value} {T : TypeId} {fr : Nat × Nat} (hb : w.heap[b]? = some (.cells cs T fr)) (h1 : T ≠ 119) (h2 : T ≠ 162) (h3 : T ≠ 32) (h4 : T ≠ 34) : ¬ F b := by
  obtain ⟨S, B, v, rv, rfl, hc⟩ := h.is
  exact hc.other hb h1 h2 h3 h4

/-- the struct -/
structure LgC (base : Nat) (w : World) (J C : Nat) (uv : Value) (K : ByteArray) (sf lf : Int) (st : Bool) (R : List M.Rul) : Prop where
  lo : base ≤ J
  heap : w.heap[J]? = some (.cells #[uv, .pointer (some ⟨C, 0, none⟩), .string K, .int .i64 sf, .int .i64 lf, .bool st] 86 (0, 0))
  rules : OwnR base w uv R
/-- its blocks -/
def lgF (J : Nat) (uv : Value) (F : Nat → Prop) (k : Nat) : Prop := k = J ∨ uv.ownBlock = some k ∨ F k
section
variable {base : Nat} {w w' : World} {J C C' : Nat} {uv : Value} {K K' : ByteArray} {sf lf sf' lf' : Int} {st st' : Bool} {R : List M.Rul} {F : Nat → Prop} {c : M.Cop}
theorem LgC.cells (h : LgC base w J C uv K sf lf st R) : w.cell? ⟨J, 0, none⟩ = some uv ∧ w.cell? ⟨J, 1, none⟩ = some (.pointer (some ⟨C, 0, none⟩)) ∧ w.cell? ⟨J, 2, none⟩ = some (.string K) ∧ w.cell? ⟨J, 3, none⟩ = some (.int .i64 sf) ∧ w.cell? ⟨J, 4, none⟩ = some (.int .i64 lf) ∧ w.cell? ⟨J, 5, none⟩ = some (.bool st) ∧ J < w.heap.size ∧ ∀ j, w.frozen? ⟨J, j, none⟩ = false := by
  refine ⟨?_, ?_, ?_, ?_, ?_, ?_, heap_lt h.heap, fun j => frozen_of_row w J j _ _ h.heap⟩
  · rw [cell_of_row w J 0 _ _ (0, 0) h.heap]; rfl
  · rw [cell_of_row w J 1 _ _ (0, 0) h.heap]; rfl
  · rw [cell_of_row w J 2 _ _ (0, 0) h.heap]; rfl
  · rw [cell_of_row w J 3 _ _ (0, 0) h.heap]; rfl
  · rw [cell_of_row w J 4 _ _ (0, 0) h.heap]; rfl
  · rw [cell_of_row w J 5 _ _ (0, 0) h.heap]; rfl
theorem LgC.row (h : LgC base w J C uv K sf lf st R) {b : Nat} (hb : uv.ownBlock = some b) : base ≤ b ∧ ∃ c fr, w.heap[b]? = some (.cells c 34 fr) := by
  obtain ⟨xs, h1, _⟩ := h.rules
  exact ownsRow_tag h1 hb
theorem LgC.base_le (h : LgC base w J C uv K sf lf st R) : base ≤ w.heap.size := Nat.le_trans h.lo (Nat.le_of_lt (heap_lt h.heap))
theorem LgC.kept (h : LgC base w J C uv K sf lf st R) (hJ : w'.heap[J]? = w.heap[J]?) (hu : ∀ k, uv.ownBlock = some k → w'.heap[k]? = w.heap[k]?) (hs : Solid w w') : LgC base w' J C uv K sf lf st R := by
  obtain ⟨xs, h1, h2⟩ := h.rules
  exact ⟨h.lo, hJ.trans h.heap, xs, ownsRow_at h1 hu, h2.solid hs⟩
theorem LgC.quiet (h : LgC base w J C uv K sf lf st R) (hb : Below w.heap.size w w') : LgC base w' J C uv K sf lf st R :=
  h.kept (hb.block J (heap_lt h.heap)) (fun k hk => by obtain ⟨_, c, fr, hh⟩ := h.row hk; exact hb.block k (heap_lt hh)) (Solid.below hb)
/-- behind a writing of one of its fields -/
theorem LgC.store (h : LgC base w J C uv K sf lf st R) (i : Nat) (x : Value) (hx : (#[uv, .pointer (some ⟨C, 0, none⟩), .string K, .int .i64 sf, .int .i64 lf, .bool st] : Array Value).setIfInBounds i x = #[uv, .pointer (some ⟨C', 0, none⟩), .string K', .int .i64 sf', .int .i64 lf', .bool st']) : LgC base (w.setCell ⟨J, i, none⟩ x) J C' uv K' sf' lf' st' R ∧ Tch (fun k => k = J) w (w.setCell ⟨J, i, none⟩ x) := by
  have hg := grownBy_setCell w ⟨J, i, none⟩ x
  have hb : ∀ k, k < w.heap.size → k ≠ J → (w.setCell ⟨J, i, none⟩ x).heap[k]? = w.heap[k]? := fun k hk hn => hg.block k hk (fun e => hn (by cases e; rfl))
  have hsol : Solid w (w.setCell ⟨J, i, none⟩ x) := fun b cur fr hh => (hb b (heap_lt hh) (fun e => by rw [e, h.heap] at hh; exact absurd (tag_eq hh) (by decide))).trans hh
  obtain ⟨xs, h1, h2⟩ := h.rules
  refine ⟨⟨h.lo, ?_, xs, ownsRow_at h1 (fun k hk => ?_), h2.solid hsol⟩, ⟨hg.os, hg.tape, hg.output, hg.size, fun k hk hn => hb k hk hn, hsol⟩⟩
  · rw [heap_setCell_same w J i _ _ _ h.heap, hx]
  · obtain ⟨_, c', fr, hh⟩ := h.row hk
    exact hb k (heap_lt hh) (fun e => by rw [e, h.heap] at hh; exact absurd (tag_eq hh) (by decide))
theorem LgC.tch (ht : Tch (fun k => k = J) w w') : Tch (lgF J uv F) w w' := ht.mono (fun k hk => Or.inl hk)
/-- the copy is another thing -/
theorem LgC.off (h : LgC base w J C uv K sf lf st R) (hc : CpIs base w F C' c R) : ¬ F J := hc.other h.heap (by decide) (by decide) (by decide) (by decide)
theorem CpIs.logged (hc : CpIs base w F C' c R) (h : LgC base w J C uv K sf lf st R) (ht : Tch (fun k => k = J) w w') : CpIs base w' F C' c R := hc.keep ht (fun k hk e => h.off hc (e ▸ hk))
/-- behind a call on the copy -/
theorem LgC.copied {F' : Nat → Prop} (h : LgC base w J C uv K sf lf st R) (hc : CpIs base w F C' c R) (hu : ∀ k, uv.ownBlock = some k → ¬ F k) (ht : Tch F w w') (hg : Grows w F F') : LgC base w' J C uv K sf lf st R ∧ Tch (lgF J uv F) w w' ∧ Grows w (lgF J uv F) (lgF J uv F') ∧ ∀ k, uv.ownBlock = some k → ¬ F' k := by
  refine ⟨h.kept (ht.block J (heap_lt h.heap) (h.off hc)) (fun k hk => ?_) ht.vals, ht.mono (fun k hk => Or.inr (Or.inr hk)), fun k hk => ?_, fun k hk hF => ?_⟩
  · obtain ⟨_, c', fr, hh⟩ := h.row hk
    exact ht.block k (heap_lt hh) (hu k hk)
  · rcases hk with rfl | hk | hk
    · exact Or.inl (Or.inl rfl)
    · exact Or.inl (Or.inr (Or.inl hk))
    · exact (hg k hk).imp (fun q => Or.inr (Or.inr q)) id
  · rcases hg k hF with q | q
    · exact hu k hk q
    · obtain ⟨_, c', fr, hh⟩ := h.row hk
      have := heap_lt hh
      omega
end

/-- a log that is g, by the rules R, in the blocks F -/
structure LgIs (base : Nat) (w : World) (F : Nat → Prop) (J : Nat) (g : M.Lg) (R : List M.Rul) : Prop where
  ok : g.Ok R
  fine : M.rulE R = 0
  left : g.left ≤ 9223372036854775807
  is : ∃ C uv Fc l half, F = lgF J uv Fc ∧ LgC base w J C uv (bytesB (M.keptL l ++ half)) g.safe g.left g.stop R ∧ CpIs base w Fc C g.cop R ∧ (∀ k, uv.ownBlock = some k → ¬ Fc k) ∧ M.Recs R g l half
section
variable {base : Nat} {w w' : World} {F G : Nat → Prop} {J : Nat} {g : M.Lg} {R : List M.Rul}
theorem LgIs.lows (h : LgIs base w F J g R) : ∀ i, F i → base ≤ i := by
  obtain ⟨C, uv, Fc, l, half, rfl, h1, h2, h3, h4⟩ := h.is
  intro i hi
  rcases hi with rfl | hi | hi
  · exact h1.lo
  · exact (h1.row hi).1
  · exact h2.lows i hi
theorem LgIs.highs (h : LgIs base w F J g R) : ∀ i, F i → i < w.heap.size := by
  obtain ⟨C, uv, Fc, l, half, rfl, h1, h2, h3, h4⟩ := h.is
  intro i hi
  rcases hi with rfl | hi | hi
  · exact heap_lt h1.heap
  · obtain ⟨_, c, fr, hh⟩ := h1.row hi
    exact heap_lt hh
  · exact h2.highs i hi
theorem LgIs.base_le (h : LgIs base w F J g R) : base ≤ w.heap.size := by
  obtain ⟨C, uv, Fc, l, half, rfl, h1, h2, h3, h4⟩ := h.is
  exact h1.base_le
theorem LgIs.quiet (h : LgIs base w F J g R) (hb : Below w.heap.size w w') : LgIs base w' F J g R := by
  obtain ⟨C, uv, Fc, l, half, rfl, h1, h2, h3, h4⟩ := h.is
  exact ⟨h.ok, h.fine, h.left, C, uv, Fc, l, half, rfl, h1.quiet hb, h2.quiet hb, h3, h4⟩
theorem LgIs.keep (h : LgIs base w F J g R) (ht : Tch G w w') (hd : Off F G) : LgIs base w' F J g R := by
  have hh := h.highs
  obtain ⟨C, uv, Fc, l, half, rfl, h1, h2, h3, h4⟩ := h.is
  exact ⟨h.ok, h.fine, h.left, C, uv, Fc, l, half, rfl, h1.kept (ht.block J (hh J (Or.inl rfl)) (hd J (Or.inl rfl))) (fun k hk => ht.block k (hh k (Or.inr (Or.inl hk))) (hd k (Or.inr (Or.inl hk)))) ht.vals, h2.keep ht (fun k hk => hd k (Or.inr (Or.inr hk))), h3, h4⟩
theorem LgIs.other (h : LgIs base w F J g R) {b : Nat} {cs : Array Value} {T : TypeId} {fr : Nat × Nat} (hb : w.heap[b]? = some (.cells cs T fr)) (h1 : T ≠ 119) (h2 : T ≠ 162) (h3 : T ≠ 32) (h4 : T ≠ 34) (h5 : T ≠ 86) : ¬ F b := by
  obtain ⟨C, uv, Fc, l, half, rfl, g1, g2, g3, g4⟩ := h.is
  rintro (rfl | hi | hi)
  · rw [g1.heap] at hb; exact h5 (tag_eq hb).symm
  · obtain ⟨_, c', fr', hh⟩ := g1.row hi
    rw [hh] at hb; exact h4 (tag_eq hb).symm
  · exact g2.other hb h1 h2 h3 h4 hi
end

end Go.Proofs.YtlefhfmckimlaakGreatDoor
