/-
  A row of a call's own that is seen from some cell on (a list of which the first ones were cut off): what it is, that it stays, its rest behind the first one, and an append to it. For any program.
-/
import Derived.Deep.AppendSrc
import Derived.Deep.AppendLies
import Derived.Below
import Derived.RegionTactic
set_option linter.unusedVariables false
namespace Go.Proofs.YtlefhfmckimlaakGreatDoor
open Go.RowKit

/-- n elements of k cells each, the cells xs, in a block of the call's own, from some cell on -/
def winRow (w : World) (base : Nat) (e : TypeId) (k : Nat) (v : Value) (n : Nat) (xs : List Value) : Prop :=
  xs.length = n * k ∧ ((v = .slice none 0 0 ∧ n = 0) ∨ ∃ g o cap cur, v = .slice (some ⟨g, o, none⟩) n cap ∧ base ≤ g ∧ w.heap[g]? = some (.cells cur e (0, 0)) ∧ n ≤ cap ∧ cap ≤ maxLen ∧ o + cap * k ≤ cur.size ∧ ∀ j, j < n * k → cur[o + j]? = xs[j]?)

section
variable {w w' : World} {base : Nat} {e : TypeId} {k : Nat} {v : Value} {n : Nat} {xs : List Value}

theorem winRow_nil (w : World) (base : Nat) (e : TypeId) (k : Nat) : winRow w base e k (.slice none 0 0) 0 [] := ⟨by simp, Or.inl ⟨rfl, rfl⟩⟩
theorem winRow_own (h : w.ownsRow base e k v n xs) : winRow w base e k v n xs := by
  refine ⟨h.1, ?_⟩
  rcases h.2 with h2 | ⟨g, cap, cur, hv, hb, hg, hn, hm, hs, ht⟩
  · exact Or.inl h2
  · refine Or.inr ⟨g, 0, cap, cur, hv, hb, hg, hn, hm, by omega, fun j hj => ?_⟩
    rw [Nat.zero_add, ← ht, List.getElem?_take, if_pos hj, Array.getElem?_toList]
theorem winRow.heapLt {g : Nat} {o : Obj} (h : w.heap[g]? = some o) : g < w.heap.size := by
  rcases Nat.lt_or_ge g w.heap.size with q | q
  · exact q
  · rw [Array.getElem?_eq_none q] at h; cases h
theorem winRow.lt (h : winRow w base e k v n xs) : ∀ g, v.ownBlock = some g → base ≤ g ∧ g < w.heap.size := fun g hg => by
  rcases h.2 with ⟨hv, _⟩ | ⟨g', o, cap, cur, hv, hb, hh, _⟩
  · rw [hv] at hg; cases hg
  · rw [hv] at hg
    have : g' = g := by simpa [Value.ownBlock] using hg
    subst this
    exact ⟨hb, winRow.heapLt hh⟩
theorem winRow.kept {row : Option Nat} (h : winRow w base e k v n xs) (hg : w.grownBy w' row) (hne : ∀ g, v.ownBlock = some g → row ≠ some g) : winRow w' base e k v n xs := by
  refine ⟨h.1, ?_⟩
  rcases h.2 with h2 | ⟨g, o, cap, cur, hv, hb, hh, r⟩
  · exact Or.inl h2
  · exact Or.inr ⟨g, o, cap, cur, hv, hb, (hg.block g (winRow.heapLt hh) (fun e => hne g (by rw [hv]; rfl) e.symm)).trans hh, r⟩
theorem winRow.below (h : winRow w base e k v n xs) (hb : Below w.heap.size w w') : winRow w' base e k v n xs := by
  refine ⟨h.1, ?_⟩
  rcases h.2 with h2 | ⟨g, o, cap, cur, hv, hg, hh, r⟩
  · exact Or.inl h2
  · exact Or.inr ⟨g, o, cap, cur, hv, hg, (hb.block g (winRow.heapLt hh)).trans hh, r⟩
theorem winRow.shape (h : winRow w base e k v n xs) : ∃ a c, v = .slice a n c := by
  rcases h.2 with ⟨hv, hn⟩ | ⟨g, o, cap, cur, hv, _⟩
  · exact ⟨_, _, by rw [hv, hn]⟩
  · exact ⟨_, _, hv⟩
theorem winRow.form (h : winRow w base e k v n xs) (h0 : 0 < n) : ∃ g o cap, v = .slice (some ⟨g, o, none⟩) n cap ∧ base ≤ g ∧ g < w.heap.size ∧ n ≤ cap ∧ cap ≤ maxLen := by
  rcases h.2 with ⟨hv, hn⟩ | ⟨g, o, cap, cur, hv, hg, hh, hn, hm, _⟩
  · omega
  · exact ⟨g, o, cap, hv, hg, winRow.heapLt hh, hn, hm⟩
theorem winRow.cellAt {g o cap : Nat} (h : winRow w base e k (.slice (some ⟨g, o, none⟩) n cap) n xs) {j : Nat} (hj : j < n * k) : w.cell? ⟨g, o + j, none⟩ = xs[j]? := by
  rcases h.2 with ⟨hv, _⟩ | ⟨g', o', cap', cur, hv, hg, hh, hn, hm, hs, hx⟩
  · simp at hv
  · simp only [Value.slice.injEq, Option.some.injEq, Addr.mk.injEq, and_true, true_and] at hv
    obtain ⟨⟨rfl, rfl⟩, rfl⟩ := hv
    rw [cell_of_row w g (o + j) cur e (0, 0) hh]
    exact hx j hj
theorem winRow.frozenAt {g o cap : Nat} (h : winRow w base e k (.slice (some ⟨g, o, none⟩) n cap) n xs) (j : Nat) : w.frozen? ⟨g, j, none⟩ = false := by
  rcases h.2 with ⟨hv, _⟩ | ⟨g', o', cap', cur, hv, hg, hh, hn, hm, hs, hx⟩
  · simp at hv
  · simp only [Value.slice.injEq, Option.some.injEq, Addr.mk.injEq, and_true, true_and] at hv
    obtain ⟨⟨rfl, rfl⟩, rfl⟩ := hv
    exact frozen_of_row w g j cur e hh
theorem winRow.tag (h : winRow w base e k v n xs) {U : TypeId} {c : Array Value} {fr : Nat × Nat} {b : Nat} (hT : e ≠ U) (hb : w.heap[b]? = some (.cells c U fr)) : v.ownBlock ≠ some b := fun q => by
  rcases h.2 with ⟨hv, _⟩ | ⟨g, o, cap, c2, hv, _, hh, _⟩
  · rw [hv] at q; cases q
  · rw [hv] at q
    have : g = b := by simpa [Value.ownBlock] using q
    subst this
    rw [hh] at hb
    exact hT (by cases hb; rfl)
/-- it is no map's block -/
theorem winRow.map (h : winRow w base e k v n xs) {b : Nat} {es : Array MapEntry} {c : Nat} (hb : w.heap[b]? = some (.map es c)) : v.ownBlock ≠ some b := fun q => by
  rcases h.2 with ⟨hv, _⟩ | ⟨g, o, cap, c2, hv, _, hh, _⟩
  · rw [hv] at q; cases q
  · rw [hv] at q
    have : g = b := by simpa [Value.ownBlock] using q
    subst this
    rw [hh] at hb
    cases hb
/-- what is left behind the first one -/
theorem winRow.tail {g o cap : Nat} (h : winRow w base e k (.slice (some ⟨g, o, none⟩) (n + 1) cap) (n + 1) xs) : winRow w base e k (.slice (if cap = 1 then some ⟨g, o, none⟩ else some ⟨g, o + k, none⟩) n (cap - 1)) n (xs.drop k) := by
  have hl := h.1
  rw [Nat.add_mul, Nat.one_mul] at hl
  refine ⟨by rw [List.length_drop]; omega, ?_⟩
  rcases h.2 with ⟨hv, _⟩ | ⟨g', o', cap', cur, hv, hg, hh, hn, hm, hs, hx⟩
  · simp at hv
  · simp only [Value.slice.injEq, Option.some.injEq, Addr.mk.injEq, and_true, true_and] at hv
    obtain ⟨⟨rfl, rfl⟩, rfl⟩ := hv
    obtain ⟨c, rfl⟩ : ∃ c, cap = c + 1 := ⟨cap - 1, by omega⟩
    have hs' := hs
    rw [Nat.add_mul, Nat.one_mul] at hs'
    by_cases hc0 : c + 1 = 1
    · have hn0 : n = 0 := by omega
      have hc : c = 0 := by omega
      subst hn0
      subst hc
      rw [if_pos rfl]
      exact Or.inr ⟨g, o, 0, cur, rfl, hg, hh, by omega, by omega, by omega, fun j hj => absurd hj (by omega)⟩
    rw [if_neg hc0]
    refine Or.inr ⟨g, o + k, c, cur, rfl, hg, hh, by omega, by omega, by omega, fun j hj => ?_⟩
    have := hx (k + j) (by rw [Nat.add_mul]; omega)
    rw [List.getElem?_drop, ← this]
    congr 1
    omega
end

/-- cells written into a block that is known whole -/
theorem setCells_block {g : Nat} {e : TypeId} : ∀ (us : List Value) (o : Nat) {w : World} {cur : Array Value}, w.heap[g]? = some (.cells cur e (0, 0)) → o + us.length ≤ cur.size →
    ∃ cur', (w.setCells g o us).heap[g]? = some (.cells cur' e (0, 0)) ∧ cur'.size = cur.size ∧ (∀ j, j < us.length → cur'[o + j]? = us[j]?) ∧ (∀ j, j < o ∨ o + us.length ≤ j → cur'[j]? = cur[j]?) ∧ w.grownBy (w.setCells g o us) (some g)
  | [], o, w, cur, h, _ => ⟨cur, h, rfl, fun j hj => absurd hj (by simp), fun j _ => rfl, ⟨rfl, rfl, rfl, Nat.le_refl _, fun _ _ _ => rfl⟩⟩
  | u :: us, o, w, cur, h, hl => by
    simp only [List.length_cons] at hl
    obtain ⟨cur', h1, h2, h3, h4, h5⟩ := setCells_block us (o + 1) (heap_setCell_same w g o cur e u h) (by rw [Array.size_setIfInBounds]; omega)
    have hg : w.grownBy (w.setCell ⟨g, o, none⟩ u) (some g) := ⟨rfl, rfl, rfl, by simp, fun j _ hj => heap_setCell_other w ⟨g, o, none⟩ j u (fun q => hj (by rw [q]))⟩
    refine ⟨cur', h1, by rw [h2, Array.size_setIfInBounds], fun j hj => ?_, fun j hj => ?_, ⟨h5.os.trans hg.os, h5.tape.trans hg.tape, h5.output.trans hg.output, Nat.le_trans hg.size h5.size, fun i hi hne => (h5.block i (Nat.lt_of_lt_of_le hi hg.size) hne).trans (hg.block i hi hne)⟩⟩
    · match j with
      | 0 => rw [Nat.add_zero, h4 o (Or.inl (by omega)), Array.getElem?_setIfInBounds_self_of_lt (by omega)]; rfl
      | j + 1 =>
        have := h3 j (by simpa using hj)
        rw [show o + (j + 1) = o + 1 + j by omega, this]
        rfl
    · simp only [List.length_cons] at hj
      rw [h4 j (by omega), Array.getElem?_setIfInBounds_ne (by omega)]

section
variable {P : Program} (w : World)

/-- an append of something to such a row -/
theorem run_append_win (t ty : TypeId) (base : Nat) (e : TypeId) (i : TypeInfo) (z : Value) (size bytes : Nat) (ht : P.underlying t = some (.slice e)) (hi : P.info? e = some i) (hz : i.zero = some z)
    (hsize : i.size = size) (hby : i.bytes = bytes) (hzs : z.cells.size = size) (hsz : 0 < size)
    (v : Value) (n : Nat) (xs : List Value) (hown : winRow w base e size v n xs)
    (ad : Addr) (m c : Nat) (news : List Value) (hl : news.length = m * size) (hnews : ∀ j u, news[j]? = some u → w.cell? (ad.add j) = some u) (h1 : ∀ u ∈ news, u.oneCell' = true)
    (hm : 0 < m) (h63 : n + m ≤ maxLen) (hbytes : (n + m) * bytes ≤ 140737488355328) (hbase : base ≤ w.heap.size) (H : Nat) (hH : w.heap.size = H) :
    ∃ g o cap w', (Builtin.append_ #[t, t] ty #[v, .slice (some ad) m c]).run P w = .ok (.slice (some ⟨g, o, none⟩) (n + m) cap) w' ∧
      winRow w' base e size (.slice (some ⟨g, o, none⟩) (n + m) cap) (n + m) (xs ++ news) ∧ w.grownBy w' v.ownBlock ∧ (v.ownBlock = some g ∨ g = H) ∧ g < w'.heap.size := by
  rcases hown.2 with ⟨rfl, rfl⟩ | ⟨g, o, cap, cur, rfl, hbg, hg, hnc, hcm, hcs, hx⟩
  · have hx : xs = [] := List.eq_nil_of_length_eq_zero (by simpa using hown.1)
    subst hx
    obtain ⟨g, cap, w', hr, h2, h3, h4, h5⟩ := run_append_lies (P := P) w t ty base e i z size bytes ht hi hz hsize hby hzs hsz (.slice none 0 0) 0 [] (World.ownsRow_nil w base e size) ad m c news hl hnews h1 hm h63 hbytes hbase H hH
    exact ⟨g, 0, cap, w', hr, winRow_own h2, h3, h4, h5⟩
  · subst hsize
    subst hby
    have hs : Src P i.size t (.slice (some ad) m c) m news w := Src.ofSlice w ht ad m c news hl hnews h1
    have hlen : (xs ++ news).length = (n + m) * i.size := by rw [List.length_append, hown.1, hl, Nat.add_mul]
    have hxl := hown.1
    by_cases hroom : n + m ≤ cap
    · have hfit : o + n * i.size + news.length ≤ cur.size := by
        have := Nat.mul_le_mul_right i.size hroom
        rw [Nat.add_mul] at this
        rw [hl]; omega
      have hr := run_append_room_src (P := P) w t t ty e i ht hi g o n cap (.slice (some ad) m c) m news hs hroom (fun j hj => by
        rw [cell_of_row w g _ cur e (0, 0) hg, Array.getElem?_eq_getElem (by omega)]; rfl) (fun j _ => frozen_of_row w g _ cur e hg)
      obtain ⟨cur', k1, k2, k3, k4, k5⟩ := setCells_block news (o + n * i.size) hg (by omega)
      refine ⟨g, o, cap, _, hr, ⟨hlen, Or.inr ⟨g, o, cap, cur', rfl, hbg, k1, hroom, hcm, by rw [k2]; exact hcs, fun j hj => ?_⟩⟩, k5, Or.inl rfl, winRow.heapLt k1⟩
      by_cases hj2 : j < n * i.size
      · rw [k4 _ (Or.inl (by omega)), hx j hj2, List.getElem?_append_left (by omega)]
      · rw [Nat.add_mul] at hj
        have := k3 (j - n * i.size) (by omega)
        rw [List.getElem?_append_right (by omega), hxl, ← this]
        congr 1
        omega
    · have hold : ∀ w', w'.heap = w.heap → (Builtin.firstCells i.size n (.slice (some ⟨g, o, none⟩) n cap)).run P w' = .ok xs.toArray w' := fun w' hw' => by
        refine run_firstCells_some w' i.size n ⟨g, o, none⟩ n cap xs hxl (fun j u hu => ?_)
        have hj : j < n * i.size := by rw [← hxl]; exact (List.getElem?_eq_some_iff.1 hu).1
        rw [WideShapes.add_plain, cell_of_row w' g (o + j) cur e (0, 0) (by rw [hw']; exact hg), hx j hj, hu]
      have hsmall : n + m ≤ 9223372036854775807 := by simp only [maxLen] at h63; omega
      have hr := run_append_grow_src (P := P) w t t ty e i z ht hi hz (some ⟨g, o, none⟩) n cap xs (hold w.drew rfl) (.slice (some ad) m c) m news hs (by omega) (by omega) (growslice_fits (by omega) hbytes)
      have hge := grownCap_ge w (n + m) cap e
      have hgm := grownCap_le_maxLen w (n + m) cap e h63
      refine ⟨w.heap.size, 0, _, _, hr, ⟨hlen, Or.inr ⟨w.heap.size, 0, _, _, rfl, hbase, heap_alloc_new w.drew _, hge, hgm, ?_, fun j hj => ?_⟩⟩, ⟨rfl, rfl, rfl, by simp, fun q hq _ => heap_alloc_old w.drew _ q hq⟩, Or.inr hH, ?_⟩
      · refine Nat.le_of_eq ?_
        rw [Array.size_append, List.size_toArray, hlen, size_zeroCells, hzs, ← Nat.add_mul, Nat.zero_add]
        congr 1
        omega
      · rw [Nat.zero_add, Array.getElem?_append_left (by rw [List.size_toArray, hlen]; exact hj), List.getElem?_toArray]
      · simp

theorem wp_append_win {o : Oper} {a : Act} {K : Act → World → Prop} {Q : Exit → Act → World → Prop} (s x : Operand) (t : TypeId)
    (ho : o.op = .call { callee := .builtin .append, args := #[s, x], argTypes := #[t, t] })
    (base : Nat) (e : TypeId) (i : TypeInfo) (z : Value) (size bytes : Nat) (ht : P.underlying t = some (.slice e)) (hi : P.info? e = some i) (hz : i.zero = some z)
    (hsize : i.size = size) (hby : i.bytes = bytes) (hzs : z.cells.size = size) (hsz : 0 < size)
    (v : Value) (n : Nat) (xs : List Value) (hs : a.eval s = v) (hown : winRow w base e size v n xs)
    (ad : Addr) (m c : Nat) (news : List Value) (hx : a.eval x = .slice (some ad) m c) (hl : news.length = m * size) (hnews : ∀ j u, news[j]? = some u → w.cell? (ad.add j) = some u) (h1 : ∀ u ∈ news, u.oneCell' = true)
    (hm : 0 < m) (h63 : n + m ≤ maxLen) (hbytes : (n + m) * bytes ≤ 140737488355328) (hbase : base ≤ w.heap.size) (H : Nat) (hH : w.heap.size = H)
    (h : ∀ g off cap w', winRow w' base e size (.slice (some ⟨g, off, none⟩) (n + m) cap) (n + m) (xs ++ news) → w.grownBy w' v.ownBlock → (v.ownBlock = some g ∨ g = H) → g < w'.heap.size → K (a.put o.dst (.slice (some ⟨g, off, none⟩) (n + m) cap)) w') : o.wp P a w K Q := by
  obtain ⟨g, off, cap, w', hr, h2, h3, h4, h5⟩ := run_append_win (P := P) w t o.type base e i z size bytes ht hi hz hsize hby hzs hsz v n xs hown ad m c news hl hnews h1 hm h63 hbytes hbase H hH
  unfold Oper.wp execOp
  simp only [ho, resolve, invoke, builtin, Sem.run_bind, Sem.run_pure, Result.andThen_ok, List.map_toArray, List.map_cons, List.map_nil, hs, hx, hr]
  exact h g off cap w' h2 h3 h4 h5

theorem wpList_append_win {ops : Array Oper} {rest : List Oper} {o : Oper} {a : Act} {Q : Exit → Act → World → Prop} (hgd : o.guard = none) (s x : Operand) (t : TypeId)
    (ho : o.op = .call { callee := .builtin .append, args := #[s, x], argTypes := #[t, t] })
    (base : Nat) (e : TypeId) (i : TypeInfo) (z : Value) (size bytes : Nat) (ht : P.underlying t = some (.slice e)) (hi : P.info? e = some i) (hz : i.zero = some z)
    (hsize : i.size = size) (hby : i.bytes = bytes) (hzs : z.cells.size = size) (hsz : 0 < size)
    (v : Value) (n : Nat) (xs : List Value) (hs : a.eval s = v) (hown : winRow w base e size v n xs)
    (ad : Addr) (m c : Nat) (news : List Value) (hx : a.eval x = .slice (some ad) m c) (hl : news.length = m * size) (hnews : ∀ j u, news[j]? = some u → w.cell? (ad.add j) = some u) (h1 : ∀ u ∈ news, u.oneCell' = true)
    (hm : 0 < m) (h63 : n + m ≤ maxLen) (hbytes : (n + m) * bytes ≤ 140737488355328) (hbase : base ≤ w.heap.size) (H : Nat) (hH : w.heap.size = H)
    (h : ∀ g off cap w', winRow w' base e size (.slice (some ⟨g, off, none⟩) (n + m) cap) (n + m) (xs ++ news) → w.grownBy w' v.ownBlock → (v.ownBlock = some g ∨ g = H) → g < w'.heap.size → wpList P ops Q rest (a.put o.dst (.slice (some ⟨g, off, none⟩) (n + m) cap)) w') : wpList P ops Q (o :: rest) a w :=
  wpList_plain hgd fun _ hK => wp_append_win w s x t ho base e i z size bytes ht hi hz hsize hby hzs hsz v n xs hs hown ad m c news hx hl hnews h1 hm h63 hbytes hbase H hH fun g off cap w' h2 h3 h4 h5 => hK _ _ (h g off cap w' h2 h3 h4 h5)

theorem step_append_win {ops : Array Oper} {o : Oper} {a : Act} {K : Act → World → Prop} {Q : Exit → Act → World → Prop} {E : Prop} (hgd : o.guard = none) (s x : Operand) (t : TypeId)
    (ho : o.op = .call { callee := .builtin .append, args := #[s, x], argTypes := #[t, t] })
    (base : Nat) (e : TypeId) (i : TypeInfo) (z : Value) (size bytes : Nat) (ht : P.underlying t = some (.slice e)) (hi : P.info? e = some i) (hz : i.zero = some z)
    (hsize : i.size = size) (hby : i.bytes = bytes) (hzs : z.cells.size = size) (hsz : 0 < size)
    (v : Value) (n : Nat) (xs : List Value) (hs : a.eval s = v) (hown : winRow w base e size v n xs)
    (ad : Addr) (m c : Nat) (news : List Value) (hx : a.eval x = .slice (some ad) m c) (hl : news.length = m * size) (hnews : ∀ j u, news[j]? = some u → w.cell? (ad.add j) = some u) (h1 : ∀ u ∈ news, u.oneCell' = true)
    (hm : 0 < m) (h63 : n + m ≤ maxLen) (hbytes : (n + m) * bytes ≤ 140737488355328) (hbase : base ≤ w.heap.size) (H : Nat) (hH : w.heap.size = H)
    (h : ∀ g off cap w', winRow w' base e size (.slice (some ⟨g, off, none⟩) (n + m) cap) (n + m) (xs ++ news) → w.grownBy w' v.ownBlock → (v.ownBlock = some g ∨ g = H) → g < w'.heap.size → K (a.put o.dst (.slice (some ⟨g, off, none⟩) (n + m) cap)) w') :
    if Region.wanted o (yielded ops a.tmps) = true then Oper.wp P o a w K Q else E := by
  have hw : Region.wanted o (yielded ops a.tmps) = true := by simp [Region.wanted, hgd]
  rw [if_pos hw]
  exact wp_append_win w s x t ho base e i z size bytes ht hi hz hsize hby hzs hsz v n xs hs hown ad m c news hx hl hnews h1 hm h63 hbytes hbase H hH h
end

end Go.Proofs.YtlefhfmckimlaakGreatDoor
