/-
  Proved: the Go function TupleLong returns true for every tuple and value, and leaves them as they were: a tuple with one more field never fits. No condition.
-/
import Derived.Test.YtlefhfmckimlaabTupFits
import Derived.Deep.AppendLies
import Derived.Laws.AppendOwnNone
import Derived.ProofKit
import Derived.OpenShut
import Derived.Lib.SmallJoins
import Derived.Carry
import Derived.SizedLaws
namespace Go.Proofs.Ytlefhfmckimlaab.tupleLong
open Go.ChangeShapes Go.WideShapes Go.ChangeAt Go.RowKit Go.Joins

theorem info : (Try.prog.info? 24).map (fun i => (i.zero, i.size, i.bytes)) = some (some (.agg #[.int .i64 0, .int .i64 0, .string ⟨#[]⟩]), 3, 32) := by kernel_rfl

theorem firstF_more : ∀ (l : List M.Val) (v : M.Val), M.firstF l ≠ 0 → M.firstF (l ++ [v]) ≠ 0
  | [], _, h => absurd rfl h
  | a :: l, v, h => by
    simp only [List.cons_append, M.firstF] at h ⊢
    by_cases ha : a.fault ≠ 0
    · rw [if_pos ha]; exact ha
    · rw [if_neg ha] at h ⊢; exact firstF_more l v h
theorem likeF_more {l : List M.Val} {v : M.Val} (h : M.likeF l ≠ 0) (h0 : l.length ≠ 0) : M.likeF (l ++ [v]) ≠ 0 := by
  unfold M.likeF at h ⊢
  rw [if_neg h0] at h
  have hn : ¬ (l ++ [v]).length = 0 := by simp
  rw [if_neg hn]
  by_cases h5 : 5 < (l ++ [v]).length
  · rw [if_pos h5]; decide
  · rw [if_neg h5]
    rw [if_neg (by simp at h5; omega)] at h
    exact firstF_more l v h
theorem tupF_more {l : List M.Val} (h : M.likeF l ≠ 0) : M.tupF l ≠ 0 := by unfold M.tupF; rw [if_pos h]; exact h
theorem fits_more (l : List M.Val) (v : M.Val) : M.fitsB l (l ++ [v]) = false := by
  unfold M.fitsB; rw [fitAll_len (by simp)]; simp

/-- one of three: it does not fit; it is wrong; there was none -/
theorem three (l : List M.Val) (v : M.Val) : M.both (M.likeF l) (M.tupF (l ++ [v])) = 0 ∨ (M.both (M.likeF l) (M.tupF (l ++ [v])) ≠ 0 ∧ M.tupF (l ++ [v]) ≠ 0) ∨ (M.both (M.likeF l) (M.tupF (l ++ [v])) ≠ 0 ∧ M.tupF (l ++ [v]) = 0 ∧ l = []) := by
  by_cases h : M.both (M.likeF l) (M.tupF (l ++ [v])) = 0
  · exact Or.inl h
  · by_cases ht : M.tupF (l ++ [v]) = 0
    · refine Or.inr (Or.inr ⟨h, ht, ?_⟩)
      by_cases hl : M.likeF l = 0
      · exact absurd (by rw [hl, ht]; rfl) h
      · by_cases h0 : l.length = 0
        · exact List.length_eq_zero_iff.1 h0
        · exact absurd ht (tupF_more (likeF_more hl h0))
    · exact Or.inr (Or.inl ⟨h, ht⟩)

theorem like_nil (w : World) : Calls Try.prog 6 #[.slice none 0 0] w fun e w' => e = .returned (.iface 43 (.int .i64 5)) ∧ Below w.heap.size w w' := by
  have := like (.slice none 0 0) [] w (Or.inl ⟨rfl, rfl⟩)
  exact this

/-- the ends: what is answered behind the two appends -/
def Ends (t : Value) (n : Nat) (l : List M.Val) (v : M.Val) (w : World) : Prop :=
  (∀ w1 x, Below w.heap.size w w1 → IsVals w1 x (l ++ [v]) → Calls Try.prog 7 #[t, x] w1 fun e w' => e = .returned (.tuple #[.bool false, .nilIface]) ∧ Below w1.heap.size w1 w') ∨
  (∃ c, (∀ w1 x, Below w.heap.size w w1 → IsVals w1 x (l ++ [v]) → Calls Try.prog 7 #[t, x] w1 fun e w' => e = .returned (.tuple #[.bool false, .iface 43 (.int .i64 c)]) ∧ Below w1.heap.size w1 w') ∧
    ((∃ d, ∀ w1 x, IsVals w1 x (l ++ [v]) → Calls Try.prog 8 #[x] w1 fun e w' => e = .returned (.iface 43 (.int .i64 d)) ∧ Below w1.heap.size w1 w') ∨
     ((∀ w1 x, IsVals w1 x (l ++ [v]) → Calls Try.prog 8 #[x] w1 fun e w' => e = .returned .nilIface ∧ Below w1.heap.size w1 w') ∧ n = 0)))

theorem ends (t : Value) (l : List M.Val) (v : M.Val) (w : World) (h : IsVals w t l) : Ends t l.length l v w := by
  have key : ∀ w1 x, Below w.heap.size w w1 → IsVals w1 x (l ++ [v]) → Calls Try.prog 7 #[t, x] w1 fun e w' => e = .returned (.tuple #[.bool false, errV (M.both (M.likeF l) (M.tupF (l ++ [v])))]) ∧ Below w1.heap.size w1 w' := fun w1 x hb hx => by
    have := tfits t x l (l ++ [v]) w1 (h.stays hb (Nat.le_refl _)) hx
    rwa [fits_more] at this
  rcases three l v with h3 | ⟨h3, h4⟩ | ⟨h3, h4, h5⟩
  · rw [h3] at key; exact Or.inl key
  · rw [errV_bad h3] at key
    refine Or.inr ⟨_, key, Or.inl ⟨M.tupF (l ++ [v]), fun w1 x hx => ?_⟩⟩
    have := tcheck x _ w1 hx
    rwa [errV_bad h4] at this
  · rw [errV_bad h3] at key
    refine Or.inr ⟨_, key, Or.inr ⟨fun w1 x hx => ?_, by rw [h5]; rfl⟩⟩
    have := tcheck x _ w1 hx
    rwa [h4] at this

set_option maxHeartbeats 1000000 in
theorem walk_at (ad : Addr) (n cap : Nat) (l : List M.Val) (v : M.Val) (w : World) (hn : n = l.length) (hsz : n * 32 ≤ 140737488351232) (hnews : ∀ w1, Below w.heap.size w w1 → ∀ j u, (flat l)[j]? = some u → w1.cell? (ad.add j) = some u) (hss : ∀ x ∈ l ++ [v], x.s.size ≤ maxLen)
    (hE : Ends (.slice (some ad) n cap) n l v w) :
    Calls Try.prog 3 #[.slice (some ad) n cap, .agg #[.int .i64 v.k, .int .i64 v.n, .string v.s]] w fun e w' => e = .returned (.bool true) ∧ Below w.heap.size w w' := by
  obtain ⟨i0, hi, hz0, hz1, hz2⟩ := info_parts info
  have HNW := hide hnews
  have HSS := hide hss
  have HE := hide hE
  have HN := hide hn
  have HI := hide (And.intro hi (And.intro hz0 (And.intro hz1 hz2)))
  clear hnews hss hE hn hi hz0 hz1 hz2
  go_enter Try.func3, Try.ntmps3
  go_wp2_with fail
  refine (like_nil _).mono ?_
  rintro e w1 ⟨rfl, hb1⟩
  obtain ⟨hc, hf⟩ := bcell hb1
  have hw1 := hb1.size
  simp at hw1
  have hbw : Below w.heap.size w w1 := ((Below.refl _ _).alloc (Nat.le_refl _) _).trans (hb1.mono (by simp))
  have HW : Hid (Below w.heap.size w w1) := hide hbw
  clear hbw
  have hlen : (flat l).length = n * 3 := by rw [flat_len, HN.out]
  have HFL := hide hlen
  clear hlen
  go_wp2_with (at_builtin; refine wpList_append_own _ rfl (.tmp 12) (.tmp 13) 22 rfl w1.heap.size 24 i0 (.agg #[.int .i64 0, .int .i64 0, .string ⟨#[]⟩]) 3 32 Try.underlying22 HI.out.1 HI.out.2.1 HI.out.2.2.1 HI.out.2.2.2 rfl (by decide) (.slice none 0 0) 0 [] rfl (World.ownsRow_nil _ _ _ _) ad n cap (flat l) rfl HFL.out (unhide HNW _ HW.out) (flat_oneCell l) (by unfold maxLen; omega) (by omega) (Nat.le_refl _) ?_)
  intro v1 w2 hown hgrow _
  try simp only [Nat.zero_add, List.nil_append] at hown
  have hb2 : Below w1.heap.size w1 w2 := (Below.refl _ _).grown hgrow (Nat.le_refl _) (fun k hk => by cases hk)
  have hb := hb1.trans (hb2.mono hb1.size)
  have hw2 : w1.heap.size ≤ w2.heap.size := hb2.size
  obtain ⟨hc2, hf2⟩ := bcell hb
  have HB := hide hb
  have HO := hide hown
  clear hc hf hb hb2 hown hgrow hb1
  have hnew : Hid (∀ j u, [Value.int .i64 v.k, .int .i64 v.n, .string v.s][j]? = some u → (w2.alloc (.cells #[.int .i64 v.k, .int .i64 v.n, .string v.s] 24)).cell? ((⟨w2.heap.size, 0, none⟩ : Addr).add j) = some u) := hide (World.news_of_block (heap_alloc_new w2 _))
  go_wp2_with (at_builtin; refine wpList_append_own _ rfl (.tmp 15) (.tmp 17) 22 rfl w1.heap.size 24 i0 (.agg #[.int .i64 0, .int .i64 0, .string ⟨#[]⟩]) 3 32 Try.underlying22 HI.out.1 HI.out.2.1 HI.out.2.2.1 HI.out.2.2.2 rfl (by decide) v1 n (flat l) rfl (HO.out.alloc _) ⟨w2.heap.size, 0, none⟩ 1 1 [.int .i64 v.k, .int .i64 v.n, .string v.s] rfl rfl hnew.out (flat_oneCell [v]) (by unfold maxLen; omega) (by omega) (Nat.le_trans hw2 (by simp)) ?_)
  intro v2 w3 hown hgrow _
  have HV : Hid (IsVals w3 v2 (l ++ [v])) := hide (isVals_own (base := w1.heap.size) (e := 24) HSS.out (by
    have h := hown
    rw [flat_append, List.length_append, ← HN.out]
    exact h))
  have hb3 : Below w1.heap.size w2 w3 := ((Below.refl _ _).alloc hw2 _).grown hgrow (by simp; omega) (fun k hk => (HO.out.lt k hk).1)
  have hb4 : Hid (Below w.heap.size w w3) := hide (((Below.refl _ _).alloc (Nat.le_refl _) _).trans ((HB.out.trans (hb3.mono (by simp; omega))).mono (by simp)))
  clear hown hgrow hb3 HO hnew HNW HI HSS
  rcases HE.out with hE | ⟨c, hE, ⟨d, hD⟩ | ⟨hD, h0⟩⟩
  · have HF := hide hE
    clear hE HE
    go_wp2_with fail
    refine (unhide HF _ _ hb4.out HV.out).mono ?_
    rintro e w4 ⟨rfl, hb5⟩
    go_wp2_with fail
    go_ret
    exact ⟨rfl, hb4.out.trans (hb5.mono hb4.out.size)⟩
  · have HF := hide hE
    have HD := hide hD
    clear hE HE hD
    go_wp2_with fail
    refine (unhide HF _ _ hb4.out HV.out).mono ?_
    rintro e w4 ⟨rfl, hb5⟩
    have hV4 := hide (HV.out.stays hb5 (Nat.le_refl _))
    go_wp2_with fail
    refine (unhide HD _ _ hV4.out).mono ?_
    rintro e w5 ⟨rfl, hb6⟩
    go_wp2_with fail
    go_ret
    exact ⟨rfl, hb4.out.trans ((hb5.trans (hb6.mono hb5.size)).mono hb4.out.size)⟩
  · have HF := hide hE
    have HD := hide hD
    clear hE HE hD
    subst h0
    go_wp2_with fail
    refine (unhide HF _ _ hb4.out HV.out).mono ?_
    rintro e w4 ⟨rfl, hb5⟩
    have hV4 := hide (HV.out.stays hb5 (Nat.le_refl _))
    go_wp2_with fail
    refine (unhide HD _ _ hV4.out).mono ?_
    rintro e w5 ⟨rfl, hb6⟩
    go_wp2_with fail
    go_ret
    exact ⟨rfl, hb4.out.trans ((hb5.trans (hb6.mono hb5.size)).mono hb4.out.size)⟩
set_option maxHeartbeats 1000000 in
theorem walk_nil (v : M.Val) (w : World) (hss : ∀ x ∈ [] ++ [v], x.s.size ≤ maxLen)
    (hE : Ends (.slice none 0 0) 0 [] v w) :
    Calls Try.prog 3 #[.slice none 0 0, .agg #[.int .i64 v.k, .int .i64 v.n, .string v.s]] w fun e w' => e = .returned (.bool true) ∧ Below w.heap.size w w' := by
  obtain ⟨i0, hi, hz0, hz1, hz2⟩ := info_parts info
  have HSS := hide hss
  have HE := hide hE
  have HI := hide (And.intro hi (And.intro hz0 (And.intro hz1 hz2)))
  clear hss hE hi hz0 hz1 hz2
  go_enter Try.func3, Try.ntmps3
  go_wp2_with fail
  refine (like_nil _).mono ?_
  rintro e w1 ⟨rfl, hb1⟩
  obtain ⟨hc, hf⟩ := bcell hb1
  have hw1 := hb1.size
  simp at hw1
  have hbw : Below w.heap.size w w1 := ((Below.refl _ _).alloc (Nat.le_refl _) _).trans (hb1.mono (by simp))
  have HW : Hid (Below w.heap.size w w1) := hide hbw
  clear hbw
  obtain ⟨hc2, hf2⟩ := bcell hb1
  have HB := hide hb1
  clear hc hf hb1
  have hnew : Hid (∀ j u, [Value.int .i64 v.k, .int .i64 v.n, .string v.s][j]? = some u → (w1.alloc (.cells #[.int .i64 v.k, .int .i64 v.n, .string v.s] 24)).cell? ((⟨w1.heap.size, 0, none⟩ : Addr).add j) = some u) := hide (World.news_of_block (heap_alloc_new w1 _))
  go_wp2_with (first | (at_builtin; refine wpList_append_own_none rfl (.tmp 12) (.tmp 13) 22 rfl w1.heap.size 24 i0 3 Try.underlying22 HI.out.1 (.slice none 0 0) 0 [] rfl (World.ownsRow_nil _ _ _ _) rfl ?_) | (at_builtin; refine wpList_append_own _ rfl (.tmp 15) (.tmp 17) 22 rfl w1.heap.size 24 i0 (.agg #[.int .i64 0, .int .i64 0, .string ⟨#[]⟩]) 3 32 Try.underlying22 HI.out.1 HI.out.2.1 HI.out.2.2.1 HI.out.2.2.2 rfl (by decide) (.slice none 0 0) 0 [] rfl ((World.ownsRow_nil _ _ _ _).alloc _) ⟨w1.heap.size, 0, none⟩ 1 1 [.int .i64 v.k, .int .i64 v.n, .string v.s] rfl rfl hnew.out (flat_oneCell [v]) (by unfold maxLen; omega) (by omega) (by simp) ?_))
  intro v2 w3 hown hgrow _
  have HV : Hid (IsVals w3 v2 ([] ++ [v])) := hide (isVals_own (base := w1.heap.size) (e := 24) HSS.out (by
    have h := hown
    exact h))
  have hb3 : Below w1.heap.size w1 w3 := ((Below.refl _ _).alloc (Nat.le_refl _) _).grown hgrow (by simp) (fun k hk => by cases hk)
  have hb4 : Hid (Below w.heap.size w w3) := hide (((Below.refl _ _).alloc (Nat.le_refl _) _).trans ((HB.out.trans (hb3.mono (by simp; omega))).mono (by simp)))
  clear hown hgrow hb3 hnew HI HSS
  rcases HE.out with hE | ⟨c, hE, ⟨d, hD⟩ | ⟨hD, h0⟩⟩
  · have HF := hide hE
    clear hE HE
    go_wp2_with fail
    refine (unhide HF _ _ hb4.out HV.out).mono ?_
    rintro e w4 ⟨rfl, hb5⟩
    go_wp2_with fail
    go_ret
    exact ⟨rfl, hb4.out.trans (hb5.mono hb4.out.size)⟩
  · have HF := hide hE
    have HD := hide hD
    clear hE HE hD
    go_wp2_with fail
    refine (unhide HF _ _ hb4.out HV.out).mono ?_
    rintro e w4 ⟨rfl, hb5⟩
    have hV4 := hide (HV.out.stays hb5 (Nat.le_refl _))
    go_wp2_with fail
    refine (unhide HD _ _ hV4.out).mono ?_
    rintro e w5 ⟨rfl, hb6⟩
    go_wp2_with fail
    go_ret
    exact ⟨rfl, hb4.out.trans ((hb5.trans (hb6.mono hb5.size)).mono hb4.out.size)⟩
  · have HF := hide hE
    have HD := hide hD
    clear hE HE hD
    go_wp2_with fail
    refine (unhide HF _ _ hb4.out HV.out).mono ?_
    rintro e w4 ⟨rfl, hb5⟩
    have hV4 := hide (HV.out.stays hb5 (Nat.le_refl _))
    go_wp2_with fail
    refine (unhide HD _ _ hV4.out).mono ?_
    rintro e w5 ⟨rfl, hb6⟩
    go_wp2_with fail
    go_ret
    exact ⟨rfl, hb4.out.trans ((hb5.trans (hb6.mono hb5.size)).mono hb4.out.size)⟩

theorem walk (t : Value) (l : List M.Val) (v : M.Val) (w : World) (h : IsVals w t l) (hs : v.s.size ≤ maxLen) (hsz : l.length * 32 ≤ 140737488351232) :
    Calls Try.prog 3 #[t, .agg #[.int .i64 v.k, .int .i64 v.n, .string v.s]] w fun e w' => e = .returned (.bool true) ∧ Below w.heap.size w w' := by
  have hE := ends t l v w h
  rcases h with ⟨rfl, rfl⟩ | ⟨a, cap, rfl, rfl⟩ | ⟨b, off, cap, h1, rfl, h3, h4, h5⟩
  · exact walk_nil v w (fun x hx => by simp at hx; subst hx; exact hs) hE
  · exact walk_at a 0 cap [] v w rfl (by decide) (fun w1 _ j u hu => by simp [flat] at hu) (fun x hx => by simp at hx; subst hx; exact hs) hE
  · refine walk_at ⟨b, off, none⟩ l.length cap l v w rfl hsz (fun w1 hb => lie_news (h5.stays h1 hb (Nat.le_refl _))) (fun x hx => ?_) hE
    rcases List.mem_append.1 hx with hx | hx
    · obtain ⟨i, hi, rfl⟩ := List.mem_iff_getElem.1 hx
      exact (h5 i hi).2.2.2
    · simp at hx; subst hx; exact hs

theorem own : ownKnob Try.prog.godebug = none := by kernel_rfl
theorem laidOut : laidOutB Try.prog = true := by kernel_rfl
theorem cellsV : Try.prog.cellsOf 24 = 3 := by kernel_rfl
theorem bytesV : Try.prog.bytesOf 24 = 32 := by kernel_rfl

set_option maxRecDepth 100000 in
theorem lifted (os : Os) (started : os.Started) (H : Type) (enc : TypeId × Value → H) :
    ReturnsInHanded {} Try.checked os 3 .any (Rows.tupleLongSpec.pre6 enc Try.prog Try.f3 Rows.tupleLongRow.domain false) (Rows.tupleLongSpec.post enc Try.prog Try.f3 false true false false) := by
  refine returnsInHanded_of_change_sized (C := Try.checked) own started (by kernel_rfl) Try.func3
    (ChangeSpec.witness6 (enc := enc) (C := Try.checked) false ⟨#[], #[.slice none 0 0, .agg #[.int .i64 0, .int .i64 0, .string ⟨#[]⟩]], []⟩ 8 (by kernel_rfl) (by kernel_rfl) (by kernel_rfl) (by kernel_rfl)) ?_
  intro W base args ds gs before hval0 hW hcnd hsz0 _
  have hsz : (DataW.weightsEach Try.prog (Try.f3.params.toList ++ Rows.tupleLongSpec.plain.varTypes Try.prog) (ds ++ gs)).all (· ≤ reachBytes) = true := hsz0
  clear hsz0
  have hval : ∀ (j : Nat) t v, Try.f3.params[j]? = some t → args[j]? = some v → Value.okWide Try.prog W .any base t v := hval0
  have hW' := hW
  obtain ⟨p, q, hA0, hV, rfl, hfz, hnd⟩ := hW
  have hA : DataW.TrodAll enc Try.prog W 0 (fun _ => true) true Try.f3.params.toList args.toList ds p := hA0
  rw [Try.params3] at hA hval hsz
  obtain ⟨v0, v1, d0, d1, p0, p1, rfl, rfl, rfl, h0, h1⟩ := trodAll_two hA
  obtain ⟨rfl, rfl⟩ := trodVars_none hV
  have k0 := h0
  have k1 := h1
  have lt0 : ∀ x ∈ p0, x.block < W.heap.size := by obtain ⟨m, hm⟩ := k0; exact DataW.trod_lt m _ _ _ hm
  have lt1 : ∀ x ∈ p1, x.block < W.heap.size := by obtain ⟨m, hm⟩ := k1; exact DataW.trod_lt m _ _ _ hm
  obtain ⟨x0, len0, cap0, rfl⟩ := okWide_slice Try.underlying22 (hval 0 22 v0 rfl rfl)
  obtain ⟨l0, hl0, hd0⟩ := open_vals Try.underlying22 Try.underlying24 cellsV rfl rfl rfl Try.underlying3 Try.underlying3 Try.underlying9 (by kernel_rfl) (by kernel_rfl) (by kernel_rfl) h0
  have hz0 : l0.length * 32 ≤ 140737488351232 := by
    rcases hd0 with ⟨_, hn⟩ | ⟨D1, D2, hd, hn⟩
    · rw [hn]; decide
    · subst hd
      have := sized_slice hsz (j := 0) (t := 22) (e := 24) rfl rfl Try.underlying22
      rw [bytesV] at this
      unfold reachBytes at this
      omega
  obtain ⟨c0, c1, c2, y0, y1, y2, m, rfl, hd, hp, hy0, hy1, hy2⟩ := open_agg3 Try.underlying24 (by kernel_rfl) cellsV (hval 1 24 v1 rfl rfl) h1
  obtain ⟨a, e0, rfl, wa⟩ := DataW.trod_int Try.underlying3 hy0
  obtain ⟨b, e1, rfl, wb⟩ := DataW.trod_int Try.underlying3 hy1
  obtain ⟨s, e2, rfl, ws⟩ := DataW.trod_string Try.underlying9 hy2
  simp at e0 e1 e2
  subst e0 e1 e2
  clear hA0 hval0 hcnd
  simp only [List.append_nil] at hW'
  refine (walk _ l0 ⟨a, b, s⟩ W hl0 ws hz0).mono fun e W' ⟨he, bel⟩ => ?_
  subst he
  exact ⟨_, rfl, _, _, _, [], _, [], hW', trodAll_mk1 (shut_bool Try.underlying4 _), trodAll_mk2 (Below.trod laidOut (by kernel_rfl) (of_decide_eq_true (by kernel_rfl)) k0 bel lt0) (Below.trod laidOut (by kernel_rfl) (of_decide_eq_true (by kernel_rfl)) k1 bel lt1), rfl, bel.frame _, fun h => by cases h⟩

theorem over : Rows.tupleLongRow.holds Try.pinned (OpenSpec.ofChange Rows.tupleLongSpec) :=
  OpenClaim.holds_of_wide 3 Try.f3 rfl rfl rfl rfl rfl rfl rfl ⟨rfl, rfl, rfl, rfl, rfl⟩ rfl rfl rfl rfl rfl (by kernel_rfl) Try.func3 (by kernel_rfl)
    (of_decide_eq_true (by kernel_rfl)) (by unfold Func.isWrapper; first | (rw [if_pos (by decide +kernel)]; kernel_rfl) | (rw [if_neg (by decide +kernel)]; exact ⟨rfl, rfl⟩))
    (fun os started H enc _ => lifted os started H enc)

end Go.Proofs.Ytlefhfmckimlaab.tupleLong

namespace Go.Proofs.Ytlefhfmckimlaab
theorem tupleLong_holds : Rows.TupleLongSaid := tupleLong.over
#print axioms tupleLong_holds
end Go.Proofs.Ytlefhfmckimlaab
