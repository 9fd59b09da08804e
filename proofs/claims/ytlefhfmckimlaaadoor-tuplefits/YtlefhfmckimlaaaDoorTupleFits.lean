/-
  Proved: the Go function TupleFits returns true for every two tuples and number, and leaves them as they were: each fits itself and is read as it was, and what asks for less fits more. No condition beyond the laid variables.
-/
import Derived.Test.YtlefhfmckimlaaaDoorTupFits
import Derived.Test.YtlefhfmckimlaaaDoorTupPrint
import Derived.Test.YtlefhfmckimlaaaDoorTupParse
import Derived.Test.YtlefhfmckimlaaaDoorTupSame
import Derived.Deep.AppendLies
import Derived.Laws.OwnMore
namespace Go.Proofs.YtlefhfmckimlaaaDoor.tupleFits
open Go.RowKit

def anyV : M.Val := ⟨2, 0, ⟨#[]⟩⟩
theorem any_ok : anyV.fault = 0 := by decide

theorem fit_self (a : M.Val) : M.fit1 a a = true := by simp [M.fit1, M.Val.same, M.same]
theorem fitAll_self : ∀ l : List M.Val, M.fitAll l l = true
  | [] => rfl
  | a :: l => by unfold M.fitAll; rw [fitAll_self l, fit_self]; rfl
theorem both_t {l : List M.Val} (h : M.tupF l = 0) : M.both (M.likeF l) (M.tupF l) = 0 := by rw [(tupF_ok h).1, h]; rfl
theorem both_bad (x : Int) {y : Int} (h : y ≠ 0) : M.both x y ≠ 0 := by
  unfold M.both
  split
  · exact h
  · assumption
theorem self_ok {l : List M.Val} (h : M.tupF l = 0) : M.fitsB l l = true := by unfold M.fitsB; rw [both_t h, fitAll_self]; rfl
theorem fits_bad (a b : List M.Val) (h : M.both (M.likeF a) (M.tupF b) ≠ 0) : M.fitsB a b = false := by unfold M.fitsB; simp [h]

theorem likeF_set {l : List M.Val} {i : Nat} (h : M.likeF l = 0) : M.likeF (l.set i anyV) = 0 := by
  obtain ⟨h0, h5⟩ := likeF_len h
  have he := likeF_each h
  unfold M.likeF
  rw [List.length_set, if_neg (by omega), if_neg (by omega)]
  refine firstF_ok fun v hv => ?_
  rcases List.mem_or_eq_of_mem_set hv with hv | rfl
  · exact he v hv
  · exact any_ok
theorem fitAll_set : ∀ (l t : List M.Val) (i : Nat), M.fitAll l t = true → M.fitAll (l.set i anyV) t = true
  | [], t, i, h => by simpa using h
  | _ :: _, [], _, h => by simp [M.fitAll] at h
  | a :: l, b :: t, 0, h => by
    simp only [M.fitAll, Bool.and_eq_true, List.set_cons_zero] at h ⊢
    exact ⟨rfl, h.2⟩
  | a :: l, b :: t, i + 1, h => by
    simp only [M.fitAll, Bool.and_eq_true, List.set_cons_succ] at h ⊢
    exact ⟨h.1, fitAll_set l t i h.2⟩

/-- the two of the law's own fact -/
def f1 : List M.Val := [⟨2, 0, ⟨#[]⟩⟩, ⟨0, 3, ⟨#[]⟩⟩]
def f2 : List M.Val := [⟨1, 0, ⟨#[97]⟩⟩, ⟨0, 3, ⟨#[]⟩⟩]
def o1 : Obj := .cells #[.int .i64 2, .int .i64 0, .string ⟨#[]⟩, .int .i64 0, .int .i64 3, .string ⟨#[]⟩] 23
def o2 : Obj := .cells #[.int .i64 1, .int .i64 0, .string ⟨#[97]⟩, .int .i64 0, .int .i64 3, .string ⟨#[]⟩] 23
theorem is1 (w : World) : IsVals ((w.alloc o1).alloc o2) (.slice (some ⟨w.heap.size, 0, none⟩) 2 2) f1 :=
  Or.inr (Or.inr ⟨w.heap.size, 0, 2, by decide, rfl, by decide, by decide, lie_of_cells (by decide) (World.news_of_block (w := (w.alloc o1).alloc o2) ((Below.heap_alloc (w.alloc o1) o2 w.heap.size (by simp)).trans (heap_alloc_new w o1)))⟩)
theorem is2 (w : World) : IsVals ((w.alloc o1).alloc o2) (.slice (some ⟨w.heap.size + 1, 0, none⟩) 2 2) f2 := by
  have h := heap_alloc_new (w.alloc o1) o2
  rw [World.size_alloc] at h
  exact Or.inr (Or.inr ⟨w.heap.size + 1, 0, 2, by decide, rfl, by decide, by decide, lie_of_cells (by decide) (World.news_of_block h)⟩)
theorem fact (w : World) : Calls Tryd.prog 16 #[.slice (some ⟨w.heap.size, 0, none⟩) 2 2, .slice (some ⟨w.heap.size + 1, 0, none⟩) 2 2] ((w.alloc o1).alloc o2) fun e w' => e = .returned (.tuple #[.bool true, .nilIface]) ∧ Below w.heap.size w w' := by
  refine (tfits _ _ f1 f2 _ (is1 w) (is2 w)).mono ?_
  rintro e w' ⟨rfl, hb⟩
  refine ⟨?_, ?_⟩
  · have h1 : M.both (M.likeF f1) (M.tupF f2) = 0 := by decide
    have h2 : M.fitsB f1 f2 = true := by unfold M.fitsB; rw [h1]; simp [f1, f2, M.fitAll, M.fit1, M.Val.same, M.same]
    rw [h1, h2]; rfl
  · exact (((Below.refl _ _).alloc (Nat.le_refl _) _).alloc (by simp) _).trans (hb.mono (by simp; omega))

set_option maxRecDepth 100000 in
set_option maxHeartbeats 2000000 in
theorem walk_bad (v1 v2 : Value) (l1 l2 : List M.Val) (i : Int) (w : World) (h1 : IsVals w v1 l1) (h2 : IsVals w v2 l2) (hf : M.tupF l2 ≠ 0) :
    Calls Tryd.prog 5 #[v1, v2, .int .i64 i] w fun e w' => e = .returned (.bool true) ∧ Below w.heap.size w w' := by
  have c1 := both_bad (M.likeF l2) hf
  have c2 := both_bad (M.likeF l1) hf
  have HS : Hid (∀ w1, Below w.heap.size w w1 → Calls Tryd.prog 16 #[v2, v2] w1 fun e w' => e = .returned (.tuple #[.bool false, .iface 50 (.int .i64 (M.both (M.likeF l2) (M.tupF l2)))]) ∧ Below w1.heap.size w1 w') := hide fun w1 hb => by
    have := tfits v2 v2 l2 l2 w1 (h2.stays hb (Nat.le_refl _)) (h2.stays hb (Nat.le_refl _))
    rwa [errV_bad c1, fits_bad _ _ c1] at this
  have HL : Hid (∀ w1, Below w.heap.size w w1 → Calls Tryd.prog 16 #[v1, v2] w1 fun e w' => e = .returned (.tuple #[.bool false, .iface 50 (.int .i64 (M.both (M.likeF l1) (M.tupF l2)))]) ∧ Below w1.heap.size w1 w') := hide fun w1 hb => by
    have := tfits v1 v2 l1 l2 w1 (h1.stays hb (Nat.le_refl _)) (h2.stays hb (Nat.le_refl _))
    rwa [errV_bad c2, fits_bad _ _ c2] at this
  clear c1 c2 hf h1 h2
  go_enter Tryd.func5, Tryd.ntmps5
  go_wp2_with fail
  refine (fact w).mono ?_
  rintro e w1 ⟨rfl, b1⟩
  go_wp2_with fail
  refine (HS.out w1 b1).mono ?_
  rintro e w2 ⟨rfl, b2⟩
  have B2 := hide (b1.trans (b2.mono b1.size))
  clear b1 b2
  go_wp2_with fail
  refine (HL.out w2 B2.out).mono ?_
  rintro e w3 ⟨rfl, b3⟩
  go_wp2_with fail
  go_ret
  exact ⟨rfl, B2.out.trans (b3.mono B2.out.size)⟩

theorem sc_other (w : World) (g : Nat) {a b : Nat} (v : Value) (h : a ≠ b) : (w.setCell ⟨g, a, none⟩ v).cell? ⟨g, b, none⟩ = w.cell? ⟨g, b, none⟩ := by
  apply World.cell?_setCell_other
  intro e
  exact h (by cases e; rfl)
theorem sc_same (w : World) (g a : Nat) (v u : Value) (h : w.cell? ⟨g, a, none⟩ = some u) : (w.setCell ⟨g, a, none⟩ v).cell? ⟨g, a, none⟩ = some v :=
  World.cell?_setCell_same' _ _ _ (by rw [h]; rfl)
/-- a field put in another's place -/
theorem lie_set {w : World} {g i : Nat} {l : List M.Val} (h : Lie w g 0 l) (hi : i < l.length) (v : M.Val) (hs : v.s.size ≤ maxLen) :
    Lie (((w.setCell ⟨g, i * 3, none⟩ (.int .i64 v.k)).setCell ⟨g, i * 3 + 1, none⟩ (.int .i64 v.n)).setCell ⟨g, i * 3 + 2, none⟩ (.string v.s)) g 0 (l.set i v) := fun j hj => by
  rw [List.length_set] at hj
  obtain ⟨h1, h2, h3, h4⟩ := h j hj
  obtain ⟨p1, p2, p3, _⟩ := h i hi
  simp only [Nat.zero_add] at h1 h2 h3 p1 p2 p3 ⊢
  by_cases e : i = j
  · subst e
    rw [List.getElem_set_self]
    refine ⟨?_, ?_, ?_, hs⟩
    · rw [sc_other _ _ _ (by omega), sc_other _ _ _ (by omega), sc_same _ _ _ _ _ p1]
    · rw [sc_other _ _ _ (by omega), sc_same _ _ _ _ (.int .i64 l[i].n) (by rw [sc_other _ _ _ (by omega)]; exact p2)]
    · rw [sc_same _ _ _ _ (.string l[i].s) (by rw [sc_other _ _ _ (by omega), sc_other _ _ _ (by omega)]; exact p3)]
  · rw [List.getElem_set_ne e]
    refine ⟨?_, ?_, ?_, h4⟩
    · rw [sc_other _ _ _ (by omega), sc_other _ _ _ (by omega), sc_other _ _ _ (by omega)]; exact h1
    · rw [sc_other _ _ _ (by omega), sc_other _ _ _ (by omega), sc_other _ _ _ (by omega)]; exact h2
    · rw [sc_other _ _ _ (by omega), sc_other _ _ _ (by omega), sc_other _ _ _ (by omega)]; exact h3

/-- what is answered of the first two: their fault; or whether they fit -/
theorem fits_ok (v1 v2 : Value) (l1 l2 : List M.Val) (w : World) (h1 : IsVals w v1 l1) (h2 : IsVals w v2 l2) (hf1 : M.likeF l1 = 0) (hf2 : M.tupF l2 = 0) :
    Calls Tryd.prog 16 #[v1, v2] w fun e w' => e = .returned (.tuple #[.bool (M.fitAll l1 l2), .nilIface]) ∧ Below w.heap.size w w' := by
  have h := tfits v1 v2 l1 l2 w h1 h2
  have e1 : M.both (M.likeF l1) (M.tupF l2) = 0 := by rw [hf1, hf2]; rfl
  have e2 : M.fitsB l1 l2 = M.fitAll l1 l2 := by unfold M.fitsB; rw [e1]; rfl
  rw [e1, e2] at h
  exact h

set_option maxRecDepth 100000 in
set_option maxHeartbeats 4000000 in
theorem walk_good (b1 off1 n cap1 : Nat) (v2 : Value) (l1 l2 : List M.Val) (i : Int) (w : World) (v1 : Value) (h1 : IsVals w v1 l1) (h2 : IsVals w v2 l2) (hv1 : M.likeF l1 = 0 → v1 = .slice (some ⟨b1, off1, none⟩) n cap1 ∧ Lie w b1 off1 l1) (hn : n = l1.length) (hf : M.tupF l2 = 0) (ht : Tab w) :
    Calls Tryd.prog 5 #[v1, v2, .int .i64 i] w fun e w' => e = .returned (.bool true) ∧ Below w.heap.size w w' := by
  obtain ⟨hk, _⟩ := tupF_ok hf
  obtain ⟨r1, r2⟩ := M.read_line hk
  have HS : Hid (∀ w1, Below w.heap.size w w1 → Calls Tryd.prog 16 #[v2, v2] w1 fun e w' => e = .returned (.tuple #[.bool true, .nilIface]) ∧ Below w1.heap.size w1 w') := hide fun w1 hb => by
    have := fits_ok v2 v2 l2 l2 w1 (h2.stays hb (Nat.le_refl _)) (h2.stays hb (Nat.le_refl _)) hk hf
    rwa [fitAll_self] at this
  have HP : Hid (∀ w1, Below w.heap.size w w1 → Calls Tryd.prog 17 #[v2] w1 fun e w' => e = .returned (.tuple #[.string (M.line l2), .nilIface]) ∧ Below w1.heap.size w1 w') := hide fun w1 hb => by
    have := tprint v2 l2 w1 (h2.stays hb (Nat.le_refl _)) (ht.stays hb (Nat.le_refl _))
    rwa [if_pos hk, hk] at this
  have hsz : (M.line l2).size ≤ maxLen := by
    have h := words_len (likeF_each hk)
    have h5 := (likeF_len hk).2
    have : (M.line l2).size = (M.joinL (words l2)).length := by rw [line_eq]; simp [ByteArray.size]
    unfold maxLen; omega
  have HR : Hid (∀ w1, Calls Tryd.prog 18 #[.string (M.line l2)] w1 fun e w' => (∃ v, e = .returned (.tuple #[v, .nilIface]) ∧ IsVals w' v l2) ∧ Below w1.heap.size w1 w') := hide fun w1 => by
    have := tparse (M.line l2) w1 hsz
    rwa [r1, r2] at this
  have HT : Hid (∀ w1 x, Below w.heap.size w w1 → IsVals w1 x l2 → Calls Tryd.prog 19 #[x, v2] w1 fun e w' => e = .returned (.bool true) ∧ Below w1.heap.size w1 w') := hide fun w1 x hb hx => by
    have := tsame x v2 l2 l2 w1 hx (h2.stays hb (Nat.le_refl _))
    rwa [sameAll_self] at this
  have H1 := hide h1
  have H2 := hide h2
  have HF := hide hf
  have HV1 := hide hv1
  have HN := hide hn
  clear hk r1 r2 hsz hf h1 h2 ht hv1 hn
  go_enter Tryd.func5, Tryd.ntmps5
  go_wp2_with fail
  refine (fact w).mono ?_
  rintro e w1 ⟨rfl, b1'⟩
  go_wp2_with fail
  refine (HS.out w1 b1').mono ?_
  rintro e w2 ⟨rfl, b2'⟩
  have B2 := hide (b1'.trans (b2'.mono b1'.size))
  clear b1' b2'
  go_wp2_with fail
  refine (HP.out w2 B2.out).mono ?_
  rintro e w3 ⟨rfl, b3⟩
  have B3 := hide (B2.out.trans (b3.mono B2.out.size))
  clear b3
  go_wp2_with fail
  refine (HR.out w3).mono ?_
  rintro e w4 ⟨⟨x, rfl, hx⟩, b4⟩
  have HX := hide hx
  have B4 := hide (B3.out.trans (b4.mono B3.out.size))
  clear b4 hx
  go_wp2_with fail
  refine (HT.out w4 x B4.out HX.out).mono ?_
  rintro e w5 ⟨rfl, b5⟩
  have B5 := hide (B4.out.trans (b5.mono B4.out.size))
  clear b5 B2 B3 B4 HX HS HP HR HT
  by_cases hl : M.likeF l1 = 0
  · obtain ⟨e1, hlie⟩ := HV1.out hl
    subst e1
    have HLI := hide hlie
    have HLK := hide hl
    clear hlie hl HV1
    have HL : Hid (Calls Tryd.prog 16 #[.slice (some ⟨b1, off1, none⟩) n cap1, v2] w5 fun e w' => e = .returned (.tuple #[.bool (M.fitAll l1 l2), .nilIface]) ∧ Below w5.heap.size w5 w') := hide (fits_ok _ _ l1 l2 w5 (H1.out.stays B5.out (Nat.le_refl _)) (H2.out.stays B5.out (Nat.le_refl _)) HLK.out HF.out)
    have hn5 : n ≤ 5 := by have := (likeF_len HLK.out).2; have := HN.out; omega
    by_cases i0 : i < 0
    · go_wp2_with fail
      refine (unhide HL).mono ?_
      rintro e w6 ⟨rfl, b6⟩
      go_wp2_with fail
      go_ret
      exact ⟨rfl, B5.out.trans (b6.mono B5.out.size)⟩
    · by_cases i1 : (n : Int) ≤ i
      · go_wp2_with fail
        refine (unhide HL).mono ?_
        rintro e w6 ⟨rfl, b6⟩
        go_wp2_with fail
        go_ret
        exact ⟨rfl, B5.out.trans (b6.mono B5.out.size)⟩
      · obtain ⟨k, rfl⟩ : ∃ k : Nat, i = k := ⟨i.toNat, by omega⟩
        have hkn : k < n := by omega
        obtain ⟨i0', hi, hz0, hz1, hz2⟩ := info_parts infoV
        have HI := hide (And.intro hi (And.intro hz0 (And.intro hz1 hz2)))
        have hnz : 0 < n := by omega
        clear hi hz0 hz1 hz2
        go_wp2_with fail
        refine (unhide HL).mono ?_
        rintro e w6 ⟨rfl, b6⟩
        have B6 := hide (B5.out.trans (b6.mono B5.out.size))
        clear b6 B5
        have HNW : Hid (∀ j u, (flat l1)[j]? = some u → w6.cell? ((⟨b1, off1, none⟩ : Addr).add j) = some u) := hide (lie_news (HLI.out.stays (by have := HN.out; omega) B6.out (Nat.le_refl _)))
        have HFL : Hid ((flat l1).length = n * 3) := hide (by rw [flat_len, HN.out])
        go_wp2_with (at_builtin; refine wpList_append_lies _ rfl (.tmp 87) (.tmp 88) 43 rfl w6.heap.size 23 i0' (.agg #[.int .i64 0, .int .i64 0, .string ⟨#[]⟩]) 3 32 Tryd.underlying43 HI.out.1 HI.out.2.1 HI.out.2.2.1 HI.out.2.2.2 rfl (by decide) (.slice none 0 0) 0 [] rfl (World.ownsRow_nil _ _ _ _) ⟨b1, off1, none⟩ n cap1 (flat l1) rfl HFL.out HNW.out (flat_oneCell l1) hnz (by unfold maxLen; omega) (by omega) (Nat.le_refl _) w6.heap.size rfl ?_)
        intro g cap w7 hown hgrow hat hglt
        have hl7 : Lie w7 g 0 l1 := lie_of_cells (fun v hv => by obtain ⟨j, hj, rfl⟩ := List.mem_iff_getElem.1 hv; exact (HLI.out j hj).2.2.2) (hown.cells (g := g) rfl)
        have hkl : k < l1.length := HN.out ▸ hkn
        obtain ⟨c1, c2, c3, _⟩ := hl7 k hkl
        simp only [Nat.zero_add] at c1 c2 c3
        have z1 := hown.frozenAt (k * 3)
        have z2 := hown.frozenAt (k * 3 + 1)
        have z3 := hown.frozenAt (k * 3 + 2)
        have hbase : w6.heap.size ≤ g := (hown.lt g rfl).1
        have b7 : Below w6.heap.size w6 w7 := (Below.refl _ _).grown hgrow (Nat.le_refl _) (fun j hj => by cases hj)
        have hz6 := B6.out.size
        have B8 : Hid (Below w.heap.size w (((w7.setCell ⟨g, k * 3, none⟩ (.int .i64 anyV.k)).setCell ⟨g, k * 3 + 1, none⟩ (.int .i64 anyV.n)).setCell ⟨g, k * 3 + 2, none⟩ (.string anyV.s))) := hide (B6.out.trans ((b7.mono hz6).trans ((((Below.refl w.heap.size w7).setCell (p := ⟨g, k * 3, none⟩) (Nat.le_trans hz6 hbase) _).setCell (p := ⟨g, k * 3 + 1, none⟩) (Nat.le_trans hz6 hbase) _).setCell (p := ⟨g, k * 3 + 2, none⟩) (Nat.le_trans hz6 hbase) _)))
        have hcap : n ≤ cap ∧ cap ≤ maxLen := by
          rcases hown.2 with ⟨h', _⟩ | ⟨g', cap', cur, h', _, _, h1, h2, _⟩
          · simp at h'
          · simp only [Value.slice.injEq, Option.some.injEq, Addr.mk.injEq, and_true, true_and] at h'
            omega
        have HW : Hid (Calls Tryd.prog 16 #[.slice (some ⟨g, 0, none⟩) n cap, v2] (((w7.setCell ⟨g, k * 3, none⟩ (.int .i64 anyV.k)).setCell ⟨g, k * 3 + 1, none⟩ (.int .i64 anyV.n)).setCell ⟨g, k * 3 + 2, none⟩ (.string anyV.s)) fun e w' => e = .returned (.tuple #[.bool (M.fitAll (l1.set k anyV) l2), .nilIface]) ∧ Below w.heap.size w w') := hide (by
          have hlen : (l1.set k anyV).length = n := by rw [List.length_set, HN.out]
          refine (fits_ok (.slice (some ⟨g, 0, none⟩) n cap) v2 (l1.set k anyV) l2 _ (Or.inr (Or.inr ⟨g, 0, cap, by omega, by rw [hlen], by omega, hcap.2, lie_set hl7 hkl anyV (by decide)⟩)) (H2.out.stays B8.out (Nat.le_refl _)) (likeF_set HLK.out) HF.out).mono ?_
          rintro e w' ⟨he, hb⟩
          exact ⟨he, B8.out.trans (hb.mono B8.out.size)⟩)
        clear hown hgrow hat hl7 b7 hcap HNW HFL HI H1 H2 HLI
        cases hfit : M.fitAll l1 l2
        · rw [hfit] at HL
          clear HL
          go_wp2_with fail
          refine (unhide HW).mono ?_
          rintro e w8 ⟨rfl, b8⟩
          go_wp2_with fail
          go_ret
          exact ⟨rfl, b8⟩
        · have hset := fitAll_set l1 l2 k hfit
          rw [hset] at HW
          clear HL hset
          go_wp2_with fail
          refine (unhide HW).mono ?_
          rintro e w8 ⟨rfl, b8⟩
          go_wp2_with fail
          go_ret
          exact ⟨rfl, b8⟩
  · have hb := fits_bad l1 l2 (by unfold M.both; rw [if_neg hl]; exact hl)
    have HL : Hid (Calls Tryd.prog 16 #[v1, v2] w5 fun e w' => e = .returned (.tuple #[.bool false, .iface 50 (.int .i64 (M.likeF l1))]) ∧ Below w5.heap.size w5 w') := hide (by
      have := tfits v1 v2 l1 l2 w5 (H1.out.stays B5.out (Nat.le_refl _)) (H2.out.stays B5.out (Nat.le_refl _))
      have hbo : M.both (M.likeF l1) (M.tupF l2) = M.likeF l1 := by unfold M.both; rw [if_neg hl]
      rwa [hb, hbo, errV_bad hl] at this)
    clear hb hl HV1
    go_wp2_with fail
    refine (unhide HL).mono ?_
    rintro e w6 ⟨rfl, b6⟩
    go_wp2_with fail
    go_ret
    exact ⟨rfl, B5.out.trans (b6.mono B5.out.size)⟩
end Go.Proofs.YtlefhfmckimlaaaDoor.tupleFits
