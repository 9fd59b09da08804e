/-
  What New of package mirror does, with Fresh of package rule and the library's copy that it calls: each as one law of its call.
-/
import Derived.Test.YtlefhfmckimlaakGreatDoorCopOwn
import Derived.Test.YtlefhfmckimlaakGreatDoorJSpace
import Derived.Test.YtlefhfmckimlaakGreatDoorJRule
set_option linter.unusedVariables false
namespace Go.Proofs.YtlefhfmckimlaakGreatDoor
open Go.RowKit

theorem cloneR_nil (cap : Nat) (w : World) : Calls Tryz.prog 78 #[.slice none 0 cap] w fun e w' => e = .returned (.slice none 0 0) ∧ w' = w := by
  have q : ∀ w : World, (binOp .eql 22 (.slice none 0 cap) (.slice none 0 0)).run Tryz.prog w = .ok (.bool true) w := fun w => Lib.run_eql_slice_nil w _ _ _ _ _ _ _ Tryz.underlying22
  go_enter Tryz.func78, Tryz.ntmps78
  go_wp2
  go_ret
  exact ⟨rfl, rfl⟩

set_option maxRecDepth 100000 in
theorem cloneR (ad : Addr) (n cap : Nat) (xs : List Value) (w : World) (hlen : xs.length = n * 4) (h8 : n ≤ 8) (h1 : ∀ u ∈ xs, u.oneCell' = true) (hl : ∀ j u, xs[j]? = some u → w.cell? (ad.add j) = some u) :
    Calls Tryz.prog 78 #[.slice (some ad) n cap] w fun e w' => ∃ v, e = .returned v ∧ w'.ownsRow w.heap.size 34 4 v n xs ∧ Below w.heap.size w w' := by
  obtain ⟨i0, hi, hz0, hz1, hz2⟩ := info_parts infoR
  have HI := hide (And.intro hi (And.intro hz0 (And.intro hz1 hz2)))
  have HFL := hide hlen
  have H1 := hide h1
  have HNW : Hid (∀ j u, xs[j]? = some u → (w.alloc (.cells #[] 34)).cell? (ad.add j) = some u) := hide fun j u hu => by
    have h2 := hl j u hu
    have hlt := World.block_lt_of_cell? w _ h2
    exact (((Below.refl w.heap.size w).alloc (Nat.le_refl _) (.cells #[] 34)).cell (p := ad.add j) hlt).trans h2
  have q : ∀ w : World, (binOp .eql 22 (.slice (some ad) n cap) (.slice none 0 0)).run Tryz.prog w = .ok (.bool false) w := fun w => Lib.run_eql_slice_nil w _ _ _ _ _ _ _ Tryz.underlying22
  clear hi hz0 hz1 hz2 hl hlen h1
  go_enter Tryz.func78, Tryz.ntmps78
  go_wp2_with (at_builtin; refine wpList_append_own _ rfl (.tmp 5) (.tmp 6) 22 rfl w.heap.size 34 i0 (.agg #[.int .i64 0, .int .i64 0, .slice none 0 0, .bool false]) 4 48 Tryz.underlying22 HI.out.1 HI.out.2.1 HI.out.2.2.1 HI.out.2.2.2 rfl (by decide) _ 0 [] rfl (World.ownsRow_made w #[] 0 (Nat.le_refl _) (Nat.zero_le _) (by simp)) ad n cap xs rfl HFL.out HNW.out H1.out (by unfold maxLen; omega) (by omega) (by simp) ?_)
  intro v w1 hown hgrow _
  have HO := hide hown
  have hb1 : Hid (Below w.heap.size w w1) := hide (((Below.refl _ _).alloc (Nat.le_refl _) _).grown hgrow (by simp) (by intro k hk; simp [Value.ownBlock] at hk; omega))
  clear hown hgrow
  go_wp2
  go_ret
  exact ⟨v, rfl, by simpa using HO.out, hb1.out⟩

/-- the cells of rules, of which the tuples of the first k are the call's own -/
structure MixR (base : Nat) (w0 w : World) (xs : List Value) (R : List M.Rul) (k : Nat) : Prop where
  len : xs.length = R.length * 4
  each : ∀ i (h : i < R.length), xs[i * 4]? = some (.int .i64 R[i].deed) ∧ xs[i * 4 + 1]? = some (.int .i64 R[i].who) ∧ (∃ v, xs[i * 4 + 2]? = some v ∧ ((i < k ∧ OwnT base w v R[i].like) ∨ (k ≤ i ∧ IsVals w0 v R[i].like))) ∧ xs[i * 4 + 3]? = some (.bool R[i].may)
section
variable {base : Nat} {w0 w w' : World} {xs : List Value} {R : List M.Rul} {k : Nat}
theorem MixR.start (h : RowR w0 xs R) : MixR base w0 w xs R 0 := ⟨h.len, fun i hi => by
  obtain ⟨h1, h2, ⟨v, h3, h4⟩, h5⟩ := h.get i hi
  exact ⟨h1, h2, ⟨v, h3, Or.inr ⟨Nat.zero_le _, h4⟩⟩, h5⟩⟩
theorem MixR.step (h : MixR base w0 w xs R k) (hk : k < R.length) (hs : Solid w w') {v : Value} (hv : OwnT base w' v R[k].like) : MixR base w0 w' (xs.set (k * 4 + 2) v) R (k + 1) := by
  refine ⟨by rw [List.length_set]; exact h.len, fun i hi => ?_⟩
  obtain ⟨h1, h2, ⟨u, h3, h4⟩, h5⟩ := h.each i hi
  have hl := h.len
  refine ⟨?_, ?_, ?_, ?_⟩
  · rw [List.getElem?_set_ne (by omega)]; exact h1
  · rw [List.getElem?_set_ne (by omega)]; exact h2
  · by_cases e : i = k
    · subst e
      exact ⟨v, by rw [List.getElem?_set_self (by omega)], Or.inl ⟨Nat.lt_succ_self _, hv⟩⟩
    · refine ⟨u, by rw [List.getElem?_set_ne (by omega)]; exact h3, ?_⟩
      rcases h4 with ⟨g1, g2⟩ | ⟨g1, g2⟩
      · exact Or.inl ⟨by omega, g2.solid hs⟩
      · exact Or.inr ⟨by omega, g2⟩
  · rw [List.getElem?_set_ne (by omega)]; exact h5
theorem rowO_of : ∀ (R : List M.Rul) (xs : List Value), xs.length = R.length * 4 → (∀ i (h : i < R.length), xs[i * 4]? = some (.int .i64 R[i].deed) ∧ xs[i * 4 + 1]? = some (.int .i64 R[i].who) ∧ (∃ v, xs[i * 4 + 2]? = some v ∧ OwnT base w v R[i].like) ∧ xs[i * 4 + 3]? = some (.bool R[i].may)) → RowO base w xs R
  | [], xs, hl, _ => List.length_eq_zero_iff.1 (by simpa using hl)
  | r :: R, xs, hl, h => by
    obtain ⟨h1, h2, ⟨v, h3, h4⟩, h5⟩ := h 0 (by simp)
    match xs, hl with
    | x0 :: x1 :: x2 :: x3 :: ys, hl =>
      simp at h1 h2 h3 h5
      subst h1 h2 h3 h5
      refine ⟨x2, ys, rfl, h4, rowO_of R ys (by simp at hl ⊢; omega) (fun i hi => ?_)⟩
      have := h (i + 1) (by simpa using hi)
      rw [show (i + 1) * 4 = i * 4 + 4 by omega] at this
      simpa using this
    | [], hl => simp at hl
    | [_], hl => simp at hl; omega
    | [_, _], hl => simp at hl; omega
    | [_, _, _], hl => simp at hl; omega
theorem MixR.done (h : MixR base w0 w xs R k) (hk : R.length ≤ k) : RowO base w xs R := rowO_of R xs h.len fun i hi => by
  obtain ⟨h1, h2, ⟨v, h3, h4⟩, h5⟩ := h.each i hi
  rcases h4 with ⟨_, g⟩ | ⟨g, _⟩
  · exact ⟨h1, h2, ⟨v, h3, g⟩, h5⟩
  · omega
end

theorem RowO.mono {base b2 : Nat} {w : World} (hb : b2 ≤ base) : ∀ {l : List M.Rul} {xs : List Value}, RowO base w xs l → RowO b2 w xs l
  | [], xs, h => h
  | r :: l, xs, h => by
    obtain ⟨v, ys, e, h1, h2⟩ := h
    exact ⟨v, ys, e, h1.mono hb, RowO.mono hb h2⟩
theorem OwnR.mono {base b2 : Nat} {w : World} {rv : Value} {R : List M.Rul} (h : OwnR base w rv R) (hb : b2 ≤ base) : OwnR b2 w rv R := by
  obtain ⟨xs, h1, h2⟩ := h
  refine ⟨xs, ⟨h1.1, ?_⟩, h2.mono hb⟩
  rcases h1.2 with q | ⟨g, cap, cur, hv, hg, hh, r⟩
  · exact Or.inl q
  · exact Or.inr ⟨g, cap, cur, hv, Nat.le_trans hb hg, hh, r⟩

/-- a copy that was made just now -/
theorem CpIs.made {base : Nat} {w0 w : World} {rv : Value} {R : List M.Rul} (hb : base ≤ w0.heap.size) (hw : Below w0.heap.size w0 w) (hE : M.rulE R = 0) (hr : OwnR w0.heap.size w rv R) :
    ∃ F, CpIs base (((w.alloc (.cells #[.slice none 0 0] 162)).alloc (.map #[] 0)).alloc (.cells #[rv, .pointer (some ⟨w.heap.size, 0, none⟩), .map (some (w.heap.size + 1)), .int .i64 0] 119)) F (w.heap.size + 2) M.Cop.new R ∧ ∀ i, F i → w0.heap.size ≤ i := by
  have e1 : base ≤ w.heap.size := Nat.le_trans hb hw.size
  have hB : Below w.heap.size w (((w.alloc (.cells #[.slice none 0 0] 162)).alloc (.map #[] 0)).alloc (.cells #[rv, .pointer (some ⟨w.heap.size, 0, none⟩), .map (some (w.heap.size + 1)), .int .i64 0] 119)) := (((Below.refl _ _).alloc (Nat.le_refl _) _).alloc (by simp) _).alloc (by simp; omega) _
  have h1 : Space base (w.alloc (.cells #[.slice none 0 0] 162)) w.heap.size (.slice none 0 0) [] := ⟨e1, heap_alloc_new w _, RowOf.nil _ _ _⟩
  obtain ⟨xs, g1, g2⟩ := hr
  have hr2 : OwnR base (((w.alloc (.cells #[.slice none 0 0] 162)).alloc (.map #[] 0)).alloc (.cells #[rv, .pointer (some ⟨w.heap.size, 0, none⟩), .map (some (w.heap.size + 1)), .int .i64 0] 119)) rv R := by
    have g3 := ownsRow_at g1 (w' := ((w.alloc (.cells #[.slice none 0 0] 162)).alloc (.map #[] 0)).alloc (.cells #[rv, .pointer (some ⟨w.heap.size, 0, none⟩), .map (some (w.heap.size + 1)), .int .i64 0] 119)) (fun i hi => by
      obtain ⟨_, c, fr, hh⟩ := ownsRow_tag g1 hi
      exact hB.block i (heap_lt hh))
    refine ⟨xs, ⟨g3.1, ?_⟩, ?_⟩
    · rcases g3.2 with q | ⟨g, cap, cur, hv, hg, hh, r⟩
      · exact Or.inl q
      · exact Or.inr ⟨g, cap, cur, hv, Nat.le_trans hb hg, hh, r⟩
    · have : ∀ {R : List M.Rul} {xs : List Value}, RowO w0.heap.size w xs R → RowO base (((w.alloc (.cells #[.slice none 0 0] 162)).alloc (.map #[] 0)).alloc (.cells #[rv, .pointer (some ⟨w.heap.size, 0, none⟩), .map (some (w.heap.size + 1)), .int .i64 0] 119)) xs R := by
        intro R
        induction R with
        | nil => intro xs h; exact h
        | cons r R ih =>
          intro xs h
          obtain ⟨v, ys, e, q1, q2⟩ := h
          exact ⟨v, ys, e, (q1.mono hb).solid (Solid.below hB), ih q2⟩
      exact this g2
  refine ⟨cpF (w.heap.size + 2) w.heap.size (w.heap.size + 1) (.slice none 0 0) rv, ⟨M.Cop.new_ok, hE, w.heap.size, w.heap.size + 1, .slice none 0 0, rv, rfl, by omega, by omega, ?_, ?_, ?_, hr2⟩, fun i hi => ?_⟩
  · have := heap_alloc_new ((w.alloc (.cells #[.slice none 0 0] 162)).alloc (.map #[] 0)) (.cells #[rv, .pointer (some ⟨w.heap.size, 0, none⟩), .map (some (w.heap.size + 1)), .int .i64 0] 119)
    rw [show ((w.alloc (.cells #[.slice none 0 0] 162)).alloc (.map #[] 0)).heap.size = w.heap.size + 2 by simp] at this
    exact this
  · exact Space.stays h1 (((Below.refl _ _).alloc (Nat.le_refl _) _).alloc (by simp) _)
  · refine ⟨.map [], ?_, says_none⟩
    have := (World.ownsMap_made (w.alloc (.cells #[.slice none 0 0] 162)) Tryz.prog 3 heldR).alloc (.cells #[rv, .pointer (some ⟨w.heap.size, 0, none⟩), .map (some (w.heap.size + 1)), .int .i64 0] 119)
    rw [show (w.alloc (.cells #[.slice none 0 0] 162)).heap.size = w.heap.size + 1 by simp] at this
    exact this
  · have := hw.size
    rcases hi with rfl | rfl | rfl | hi | hi
    · omega
    · omega
    · omega
    · cases hi
    · exact (ownsRow_tag g1 hi).1

theorem cNew_bad (av : Option Addr) (n cap : Nat) (L : List M.Rul) (w : World) (hn : n = L.length) (hm : n ≤ maxLen) (hl : AtR w av L) (hE : M.rulE L ≠ 0) :
    Calls Tryz.prog 24 #[.slice av n cap] w fun e w' => e = .returned (.tuple #[.pointer none, errV (M.rulE L)]) ∧ Below w.heap.size w w' := by
  have HC : Hid (Calls Tryz.prog 55 #[.slice av n cap] w fun e w' => e = .returned (.iface 87 (.int .i64 (M.rulE L))) ∧ Below w.heap.size w w') := hide (by have := rCheck av n cap L w hn hm hl; rwa [errV_bad hE] at this)
  rw [errV_bad hE]
  generalize M.rulE L = E at *
  clear hn hm hl hE
  go_enter Tryz.func24, Tryz.ntmps24
  go_wp2_with fail
  refine (unhide HC).mono ?_
  rintro e w1 ⟨rfl, hb1⟩
  go_wp2_with fail
  go_ret2
  exact ⟨rfl, hb1⟩

theorem rFresh_nil (cap : Nat) (w : World) : Calls Tryz.prog 36 #[.slice none 0 cap] w fun e w' => e = .returned (.slice none 0 0) ∧ w' = w := by
  go_enter Tryz.func36, Tryz.ntmps36
  go_wp2_with fail
  refine (cloneR_nil _ _).mono ?_
  rintro e w2 ⟨rfl, hw2⟩
  obtain rfl := hw2.symm
  go_wp2_with fail
  go_loopw [9] (fun i wr => i = .int .i64 0 ∧ wr = w) (fun _ _ => 0)
  case atStart => exact ⟨rfl, rfl⟩
  case round =>
    obtain ⟨rfl, rfl⟩ := hrel
    go_wp2_with fail
    go_ret
    exact ⟨rfl, rfl⟩

set_option maxHeartbeats 1000000 in
theorem rFresh_some (ad : Addr) (n cap : Nat) (xs : List Value) (L : List M.Rul) (w : World) (hn : n = L.length) (hE : M.rulE L = 0) (hr : RowR w xs L) (hl : ∀ j u, xs[j]? = some u → w.cell? (ad.add j) = some u) :
    Calls Tryz.prog 36 #[.slice (some ad) n cap] w fun e w' => ∃ va vn vc, e = .returned (.slice va vn vc) ∧ OwnR w.heap.size w' (.slice va vn vc) L ∧ Below w.heap.size w w' := by
  have h8 : n ≤ 8 := by have := (M.rulE_ok hE).1; omega
  have HCL : Hid (Calls Tryz.prog 78 #[.slice (some ad) n cap] w fun e w' => ∃ v, e = .returned v ∧ w'.ownsRow w.heap.size 34 4 v n xs ∧ Below w.heap.size w w') := hide (cloneR ad n cap xs w (by rw [hr.len, hn]) h8 hr.oneCell hl)
  have HLK := hide (M.rulE_like hE)
  have HRO := hide hr
  have HN := hide hn
  clear hn hE hr hl
  go_enter Tryz.func36, Tryz.ntmps36
  go_wp2_with fail
  refine (unhide HCL).mono ?_
  rintro e w2 ⟨v, rfl, hown, hb2⟩
  have HB2 := hide hb2
  have HO2 := hide hown
  clear hown hb2
  rcases Nat.eq_zero_or_pos n with h0 | h0
  · have hl0 : L = [] := List.length_eq_zero_iff.1 (by rw [← HN.out]; exact h0)
    subst hl0
    subst h0
    have hxs : xs = [] := HRO.out
    subst hxs
    obtain ⟨va, vn, vc, rfl⟩ : ∃ va vn vc, v = .slice va vn vc := by
      rcases HO2.out.2 with ⟨hv, _⟩ | ⟨g, cp, cur, hv, _⟩
      · exact ⟨_, _, _, hv⟩
      · exact ⟨_, _, _, hv⟩
    have hvn : vn = 0 := by
      rcases HO2.out.2 with ⟨hv, _⟩ | ⟨g, cp, cur, hv, _⟩
      · cases hv; rfl
      · cases hv; rfl
    subst hvn
    go_wp2_with fail
    go_loopw [9] (fun i wr => i = .int .i64 0 ∧ wr = w2) (fun _ _ => 0)
    case atStart => exact ⟨rfl, rfl⟩
    case round =>
      obtain ⟨rfl, rfl⟩ := hrel
      go_wp2_with fail
      go_ret
      exact ⟨va, 0, vc, rfl, ⟨[], HO2.out, rfl⟩, HB2.out⟩
  · obtain ⟨g, c, rfl, hg, hgl⟩ := HO2.out.form h0
    have HM2 : Hid (MixR w.heap.size w w2 xs L 0) := hide (MixR.start HRO.out)
    go_wp2_with fail
    go_loopw [9] (fun i wr => ∃ (k : Nat) (ys : List Value), k ≤ n ∧ i = .int .i64 k ∧ Hid (wr.ownsRow w.heap.size 34 4 (.slice (some ⟨g, 0, none⟩) n c) n ys) ∧ Hid (MixR w.heap.size w wr ys L k) ∧ Hid (Below w.heap.size w wr)) (fun i _ => n - (intOf i).toNat)
    case atStart => exact ⟨0, xs, Nat.zero_le _, rfl, HO2, HM2, HB2⟩
    case round =>
      obtain ⟨k, ys, hk, rfl, hO, hM, hbel⟩ := hrel
      by_cases hlt : k < n
      · have hkl : k < L.length := HN.out ▸ hlt
        obtain ⟨x, hx, hxv⟩ := (hM.out.each k hkl).2.2.1
        have hxv' : IsVals w x L[k].like := by
          rcases hxv with ⟨q, _⟩ | ⟨_, q⟩
          · omega
          · exact q
        obtain ⟨xa, xn, xc, rfl⟩ := hxv'.isSlice
        have i1 : (k : Int) < (n : Int) := by omega
        have i0 : (0 : Int) ≤ (k : Int) := by omega
        have c2 : wr.cell? ⟨g, k * 4 + 2, none⟩ = some (.slice xa xn xc) := by rw [hO.out.cellAt _ (by omega)]; exact hx
        have hgw : g < wr.heap.size := World.block_lt_of_cell? wr _ c2
        have fz : wr.frozen? ⟨g, k * 4 + 2, none⟩ = false := hO.out.frozenAt _
        have hlk := HLK.out L[k] (List.getElem_mem hkl)
        have HFR : Hid (Calls Tryz.prog 58 #[.slice xa xn xc] wr fun e w' => ∃ g' c', e = .returned (.slice (some ⟨g', 0, none⟩) L[k].like.length c') ∧ OwnT wr.heap.size w' (.slice (some ⟨g', 0, none⟩) L[k].like.length c') L[k].like ∧ Below wr.heap.size wr w') := hide (by
          refine (freshL _ _ wr (hxv'.stays hbel.out (Nat.le_refl _)) hlk).mono ?_
          rintro e w' ⟨v', rfl, q1, q2⟩
          obtain ⟨g', c', rfl, _⟩ := q1.1.form (likeF_len hlk).1
          exact ⟨g', c', rfl, q1, q2⟩)
        clear hxv hxv' hlk hx
        go_wp2_with fail
        refine (unhide HFR).mono ?_
        rintro e w3 ⟨g', c', rfl, hO3, hb3⟩
        obtain ⟨hc, hff⟩ := bcell hb3
        have HO3 := hide hO3
        have HB3 := hide hb3
        clear hO3 hb3
        go_wp2_with fail
        go_roundw
        case rel =>
          have o2 : w3.ownsRow w.heap.size 34 4 (.slice (some ⟨g, 0, none⟩) n c) n ys := ownsRow_at hO.out (fun i hi => by
            obtain ⟨_, cc, fr, hh⟩ := ownsRow_tag hO.out hi
            exact HB3.out.block i (heap_lt hh))
          have hgh : ∃ cc fr, w3.heap[g]? = some (.cells cc 34 fr) := (ownsRow_tag o2 (g := g) rfl).2
          obtain ⟨cc, fr, hh⟩ := hgh
          have hsol : Solid w3 (w3.setCell ⟨g, k * 4 + 2, none⟩ (.slice (some ⟨g', 0, none⟩) L[k].like.length c')) := fun b cur fr' hb => by
            refine (heap_setCell_other w3 ⟨g, k * 4 + 2, none⟩ b _ (fun e => ?_)).trans hb
            have e' : b = g := e
            rw [e', hh] at hb
            exact absurd (tag_eq hb) (by decide)
          refine ⟨k + 1, _, by omega, by go_num, hide (o2.stored (k * 4 + 2) (.slice (some ⟨g', 0, none⟩) L[k].like.length c')).1, hide (hM.out.step hkl ((Solid.below HB3.out).trans hsol) ((HO3.out.mono hbel.out.size).solid hsol)), hide ((hbel.out.trans (HB3.out.mono hbel.out.size)).setCell hg _)⟩
        case measure => simp [intOf]; omega
      · have i1 : ¬ (k : Int) < (n : Int) := by omega
        have HOR : Hid (OwnR w.heap.size wr (.slice (some ⟨g, 0, none⟩) n c) L) := hide ⟨ys, by rw [← HN.out]; exact hO.out, hM.out.done (by rw [← HN.out]; omega)⟩
        go_wp2_with fail
        go_ret
        exact ⟨_, _, _, rfl, HOR.out, hbel.out⟩

/-- Fresh of rules that have no fault -/
theorem rFresh (av : Option Addr) (n cap : Nat) (L : List M.Rul) (w : World) (hn : n = L.length) (hl : AtR w av L) (hE : M.rulE L = 0) :
    Calls Tryz.prog 36 #[.slice av n cap] w fun e w' => ∃ va vn vc, e = .returned (.slice va vn vc) ∧ OwnR w.heap.size w' (.slice va vn vc) L ∧ Below w.heap.size w w' := by
  rcases Nat.eq_zero_or_pos L.length with h0 | h0
  · have e := List.length_eq_zero_iff.1 h0
    subst e
    subst hn
    match av with
    | none =>
      refine (rFresh_nil cap w).mono ?_
      rintro e w' ⟨rfl, rfl⟩
      exact ⟨none, 0, 0, rfl, ⟨[], World.ownsRow_nil _ _ _ _, rfl⟩, Below.refl _ _⟩
    | some ad => exact rFresh_some ad 0 cap [] [] w rfl hE rfl (fun j u hu => by simp at hu)
  · obtain ⟨b, off, rfl, hlie⟩ := hl h0
    obtain ⟨xs, h1, h2⟩ := hlie.row
    exact rFresh_some ⟨b, off, none⟩ n cap xs L w hn hE h1 h2

theorem cNew_ok (base : Nat) (av : Option Addr) (n cap : Nat) (L : List M.Rul) (w : World) (hb : base ≤ w.heap.size) (hn : n = L.length) (hm : n ≤ maxLen) (hl : AtR w av L) (hE : M.rulE L = 0) :
    Calls Tryz.prog 24 #[.slice av n cap] w fun e w' => ∃ C F, e = .returned (.tuple #[.pointer (some ⟨C, 0, none⟩), .nilIface]) ∧ CpIs base w' F C M.Cop.new L ∧ (∀ i, F i → w.heap.size ≤ i) ∧ Below w.heap.size w w' := by
  have HC : Hid (Calls Tryz.prog 55 #[.slice av n cap] w fun e w' => e = .returned .nilIface ∧ Below w.heap.size w w') := hide (by have := rCheck av n cap L w hn hm hl; rwa [hE] at this)
  have HF : Hid (∀ wx, Below w.heap.size w wx → Calls Tryz.prog 36 #[.slice av n cap] wx fun e w' => ∃ va vn vc, e = .returned (.slice va vn vc) ∧ OwnR w.heap.size w' (.slice va vn vc) L ∧ Below wx.heap.size wx w') := hide fun wx hw => by
    refine (rFresh av n cap L wx hn (hl.stays hw (Nat.le_refl _)) hE).mono ?_
    rintro e w' ⟨va, vn, vc, rfl, ⟨xs, h1, h2⟩, h3⟩
    exact ⟨va, vn, vc, rfl, OwnR.mono ⟨xs, h1, h2⟩ hw.size, h3⟩
  have HMD : Hid (∀ wx rv, Below w.heap.size w wx → OwnR w.heap.size wx rv L → ∃ F, CpIs base (((wx.alloc (.cells #[.slice none 0 0] 162)).alloc (.map #[] 0)).alloc (.cells #[rv, .pointer (some ⟨wx.heap.size, 0, none⟩), .map (some (wx.heap.size + 1)), .int .i64 0] 119)) F (wx.heap.size + 2) M.Cop.new L ∧ ∀ i, F i → w.heap.size ≤ i) := hide fun wx rv hw h => CpIs.made hb hw hE h
  have hmm := @run_makeMap Tryz.prog
  clear hb hn hm hl hE
  go_enter Tryz.func24, Tryz.ntmps24
  go_wp2_with fail
  refine (unhide HC).mono ?_
  rintro e w1 ⟨rfl, hb1⟩
  have HB1 := hide hb1
  clear hb1
  go_wp2_with fail
  refine (HF.out _ HB1.out).mono ?_
  rintro e w2 ⟨va, vn, vc, rfl, hO2, hb2⟩
  have HO2 := hide hO2
  have HB2 := hide (HB1.out.trans (hb2.mono HB1.out.size))
  clear hO2 hb2
  go_wp2_with fail
  refine (new _).mono ?_
  rintro e w3 ⟨rfl, hw3⟩
  obtain rfl := hw3
  go_wp2_with fail
  go_ret2
  obtain ⟨F, h1, h2⟩ := HMD.out w2 _ HB2.out HO2.out
  exact ⟨_, F, rfl, h1, h2, HB2.out.trans (((((Below.refl _ _).alloc (Nat.le_refl _) _).alloc (by simp) _).alloc (by simp; omega) _).mono HB2.out.size)⟩

end Go.Proofs.YtlefhfmckimlaakGreatDoor
