/-
  What Read and Take of package space do, each as one law of its call.
  What Count and All of package space do, each as one law of its call.
-/
import Derived.Test.YtlefhfmckimlaajGreatDoorJ27A
import Derived.Shelf.SlicesE.Delete
namespace Go.Proofs.YtlefhfmckimlaajGreatDoor
open Go.RowKit

theorem OwnT.nil (base : Nat) (w : World) : OwnT base w (.slice none 0 0) [] := ⟨World.ownsRow_nil _ _ _ _, fun x hx => by simp at hx⟩

theorem del (base g n cap p : Nat) (ds : List (Option Addr × Nat × Nat)) (w : World) (h : w.ownsRow base 33 1 (.slice (some ⟨g, 0, none⟩) n cap) n (ds.map encS)) (hp : p < n) :
    Calls Tryz.prog 47 #[.slice (some ⟨g, 0, none⟩) n cap, .int .i64 p, .int .i64 ((p : Int) + 1)] w fun e w' => e = .returned (.slice (some ⟨g, 0, none⟩) (n - 1) cap) ∧ w'.ownsRow base 33 1 (.slice (some ⟨g, 0, none⟩) (n - 1) cap) (n - 1) ((ds.eraseIdx p).map encS) ∧ w.grownBy w' (some g) := by
  obtain ⟨i0, hi, _, hz1, _⟩ := info_parts infoT
  have hlen : ds.length = n := by have := h.1; simpa using this
  have hsz : ds.toArray.size = n := by simpa using hlen
  have hcap : n ≤ cap ∧ cap ≤ maxLen := by
    rcases h.2 with ⟨h', _⟩ | ⟨g', cap', cur, h', _, _, h1, h2, _⟩
    · simp at h'
    · simp only [Value.slice.injEq, Option.some.injEq, Addr.mk.injEq, and_true, true_and] at h'
      obtain ⟨_, rfl⟩ := h'
      exact ⟨h1, h2⟩
  have hD := AnyE.slices_Delete Tryz.laysDel encS (fun _ => rfl) (none, 0, 0) (fun w => Tryz.zeroValue33 w) i0 hi hz1 g 0 cap p (p + 1) ds.toArray w (ownsRow_holds h) (by rw [hsz]; exact hcap.1) (by have := hcap.2; unfold maxLen at this; omega) (by omega) (by rw [hsz]; omega)
  rw [hsz] at hD
  refine Calls.mono hD ?_
  rintro e w' ⟨rfl, q, hw⟩
  have e1 : p + 1 - p = 1 := by omega
  rw [e1] at hw ⊢
  exact ⟨rfl, row_delete (none, 0, 0) h hp hw⟩

theorem RowOf.erase {Q : Value → List M.Val → Prop} {base n p : Nat} {w' : World} {v' : Value} {L : List (List M.Val)} {xs : List Value} (hx2 : ∀ i (h1 : i < xs.length) (h2 : i < L.length), Q xs[i] L[i]) (hn : L.length = n) (hp : p < n) (h : w'.ownsRow base 33 1 v' (n - 1) (xs.eraseIdx p)) : RowOf Q base w' v' (L.eraseIdx p) := by
  refine ⟨xs.eraseIdx p, ?_, fun i h1 h2 => ?_⟩
  · rw [List.length_eraseIdx, if_pos (by omega), hn]; exact h
  · rw [List.getElem_eraseIdx, List.getElem_eraseIdx]
    split
    · exact hx2 _ _ _
    · exact hx2 _ _ _

theorem erase_map : ∀ (ds : List (Option Addr × Nat × Nat)) (p : Nat), (ds.eraseIdx p).map encS = (ds.map encS).eraseIdx p
  | [], _ => by simp
  | d :: ds, 0 => by simp
  | d :: ds, p + 1 => by simp [erase_map ds p]

/-- the parts of a space that has a tuple -/
theorem Space.parts {base S : Nat} {w : World} {v : Value} {L : List (List M.Val)} (h : Space base w S v L) (h0 : 0 < L.length) :
    ∃ g cap ds, v = .slice (some ⟨g, 0, none⟩) L.length cap ∧ w.ownsRow base 33 1 (.slice (some ⟨g, 0, none⟩) L.length cap) L.length (List.map encS ds) ∧ ds.length = L.length ∧ g < w.heap.size ∧ ∀ i (h1 : i < ds.length) (h2 : i < L.length), OwnT base w (encS ds[i]) L[i] := by
  obtain ⟨xs, hx1, hx2⟩ := h.row
  have hlen : xs.length = L.length := by have := hx1.1; omega
  obtain ⟨ds, rfl⟩ := encS_all (xs := xs) fun u hu => by
    obtain ⟨i, hi, rfl⟩ := List.mem_iff_getElem.1 hu
    exact ownsRow_slice (hx2 i hi (by omega)).1
  obtain ⟨g, cap, rfl, _, hg⟩ := hx1.form h0
  refine ⟨g, cap, ds, rfl, hx1, by simpa using hlen, hg, fun i h1 h2 => ?_⟩
  have := hx2 i (by simpa using h1) h2
  simpa using this

theorem read_bad (S : Nat) (v : Value) (w : World) (c : Int) (hc : c ≠ 0) (hO : Calls Tryz.prog 46 #[.pointer (some ⟨S, 0, none⟩), v] w fun e w' => e = .returned (.tuple #[.int .i64 0, errV c]) ∧ Below w.heap.size w w') :
    Calls Tryz.prog 96 #[.pointer (some ⟨S, 0, none⟩), v] w fun e w' => e = .returned (.tuple #[.slice none 0 0, errV c]) ∧ Below w.heap.size w w' := by
  rw [errV_bad hc] at hO ⊢
  have HO := hide hO
  clear hO hc
  go_enter Tryz.func96, Tryz.ntmps96
  go_wp2_with fail
  refine (unhide HO).mono ?_
  rintro e w1 ⟨rfl, hb1⟩
  go_wp2_with fail
  go_ret2
  exact ⟨rfl, hb1⟩

theorem take_bad (S : Nat) (v : Value) (w : World) (c : Int) (hc : c ≠ 0) (hO : Calls Tryz.prog 46 #[.pointer (some ⟨S, 0, none⟩), v] w fun e w' => e = .returned (.tuple #[.int .i64 0, errV c]) ∧ Below w.heap.size w w') :
    Calls Tryz.prog 22 #[.pointer (some ⟨S, 0, none⟩), v] w fun e w' => e = .returned (.tuple #[.slice none 0 0, errV c]) ∧ Below w.heap.size w w' := by
  rw [errV_bad hc] at hO ⊢
  have HO := hide hO
  clear hO hc
  go_enter Tryz.func22, Tryz.ntmps22
  go_wp2_with fail
  refine (unhide HO).mono ?_
  rintro e w1 ⟨rfl, hb1⟩
  go_wp2_with fail
  go_ret2
  exact ⟨rfl, hb1⟩

theorem read_hit (base S p : Nat) (u v : Value) (L : List (List M.Val)) (w : World) (hs : Space base w S u L) (hL : M.Fine L) (hp : p < L.length) (hO : Calls Tryz.prog 46 #[.pointer (some ⟨S, 0, none⟩), v] w fun e w' => e = .returned (.tuple #[.int .i64 p, .nilIface]) ∧ Below w.heap.size w w') :
    Calls Tryz.prog 96 #[.pointer (some ⟨S, 0, none⟩), v] w fun e w' => ∃ r, e = .returned (.tuple #[r, .nilIface]) ∧ OwnT w.heap.size w' r L[p] ∧ Below w.heap.size w w' := by
  have HS := hide hs
  have HO := hide hO
  have HF := hide (hL.1 L[p] (List.getElem_mem hp))
  obtain ⟨n, hn⟩ : ∃ n, n = L.length := ⟨_, rfl⟩
  have HN := hide hn
  have hp1 : (p : Int) < (n : Int) := by omega
  have hp0 : (0 : Int) ≤ (p : Int) := by omega
  have h20 : n ≤ 20 := by have := hL.2; omega
  clear hs hO hL hn
  go_enter Tryz.func96, Tryz.ntmps96
  go_wp2_with fail
  refine (unhide HO).mono ?_
  rintro e w1 ⟨rfl, hb1⟩
  have HS1 := hide (Space.stays HS.out hb1)
  obtain ⟨g, cap, ds, rfl, hrow, hdl, hg, hx⟩ := Space.parts HS1.out (by omega)
  have c1 := HS1.out.cell.1
  have c2 : w1.cell? ⟨g, p, none⟩ = some (encS ds[p]) := by rw [hrow.cellAt p (by omega), List.getElem?_map, List.getElem?_eq_getElem (by omega)]; rfl
  rw [← HN.out] at c1
  have HX := hide (hx p (by omega) hp)
  have HB1 := hide hb1
  clear hb1 hrow hx
  generalize encS ds[p] = x at *
  clear hdl
  go_wp2_with fail
  refine (fresh x _ _ HX.out.vals HF.out).mono ?_
  rintro e w2 ⟨r, rfl, hO2, hb2⟩
  have HO2 := hide hO2
  have HB2 := hide hb2
  clear hO2 hb2
  go_wp2_with fail
  go_ret2
  exact ⟨r, rfl, HO2.out.mono HB1.out.size, HB1.out.trans (HB2.out.mono HB1.out.size)⟩

theorem take_hit (base S p : Nat) (u v : Value) (L : List (List M.Val)) (w : World) (hs : Space base w S u L) (hL : M.Fine L) (hp : p < L.length) (hO : Calls Tryz.prog 46 #[.pointer (some ⟨S, 0, none⟩), v] w fun e w' => e = .returned (.tuple #[.int .i64 p, .nilIface]) ∧ Below w.heap.size w w') :
    Calls Tryz.prog 22 #[.pointer (some ⟨S, 0, none⟩), v] w fun e w' => ∃ r v', e = .returned (.tuple #[r, .nilIface]) ∧ OwnT base w' r L[p] ∧ Space base w' S v' (L.eraseIdx p) ∧ Touch S u w w' ∧ Near w u v' := by
  have HS := hide hs
  have HO := hide hO
  obtain ⟨n, hn⟩ : ∃ n, n = L.length := ⟨_, rfl⟩
  have HN := hide hn
  have hp1 : (p : Int) < (n : Int) := by omega
  have hp0 : (0 : Int) ≤ (p : Int) := by omega
  have h20 : n ≤ 20 := by have := hL.2; omega
  clear hs hO hL hn
  go_enter Tryz.func22, Tryz.ntmps22
  go_wp2_with fail
  refine (unhide HO).mono ?_
  rintro e w1 ⟨rfl, hb1⟩
  have HS1 := hide (Space.stays HS.out hb1)
  obtain ⟨g, cap, ds, rfl, hrow, hdl, hg, hx⟩ := Space.parts HS1.out (by omega)
  have c1 := HS1.out.cell.1
  have c2 : w1.cell? ⟨g, p, none⟩ = some (encS ds[p]) := by rw [hrow.cellAt p (by omega), List.getElem?_map, List.getElem?_eq_getElem (by omega)]; rfl
  have HD : Hid (Calls Tryz.prog 47 #[.slice (some ⟨g, 0, none⟩) n cap, .int .i64 p, .int .i64 ((p : Int) + 1)] w1 fun e w' => e = .returned (.slice (some ⟨g, 0, none⟩) (n - 1) cap) ∧ w'.ownsRow base 33 1 (.slice (some ⟨g, 0, none⟩) (n - 1) cap) (n - 1) ((ds.eraseIdx p).map encS) ∧ w1.grownBy w' (some g)) := hide (by
    rw [HN.out]; exact del base g L.length cap p ds w1 hrow hp)
  have hne := hide (HS1.out.row_ne (by decide))
  rw [← HN.out] at c1
  have HX := hide hx
  have HB1 := hide hb1
  have HDL := hide hdl
  have HXP := hide (hx p (by omega) hp)
  obtain ⟨x, hxe⟩ : ∃ x, x = encS ds[p] := ⟨_, rfl⟩
  rw [← hxe] at c2 HXP
  clear hb1 hrow hx hdl hxe
  go_wp2_with fail
  refine (unhide HD).mono ?_
  rintro e w2 ⟨rfl, ho2, hg2⟩
  have hSl := HS1.out.cell.2.2
  have c3 : w2.cell? ⟨S, 0, none⟩ = some (.slice (some ⟨g, 0, none⟩) L.length cap) := hg2.cell HS1.out.cell.1 (fun e => hne.out e.symm)
  have f3 : w2.frozen? ⟨S, 0, none⟩ = false := (World.frozen?_of_block (hg2.block S hSl (fun e => hne.out e.symm))).trans HS1.out.cell.2.1
  have HO2 := hide ho2
  have HG2 := hide hg2
  clear ho2 hg2
  go_wp2_with fail
  go_ret2
  have hr : RowOf (OwnT base w1) base w2 (.slice (some ⟨g, 0, none⟩) (n - 1) cap) (L.eraseIdx p) := RowOf.erase (xs := ds.map encS) (fun i h1 h2 => by
    have := HX.out i (by simpa using h1) h2
    simpa using this) HN.out.symm (by omega) (by rw [← erase_map]; exact HO2.out)
  obtain ⟨k1, k2⟩ := Sp.stored (by decide) HS1.out HG2.out hr (Or.inl rfl)
  have hsol := Sp.solid HS1.out (by decide) k2
  exact ⟨x, _, rfl, HXP.out.solid hsol, k1.mono (fun _ _ ho => ho.solid hsol), k2.after HB1.out, Or.inl rfl⟩

theorem oldest (base S : Nat) (u v : Value) (a : List M.Val) (L : List (List M.Val)) (w : World) (hs : Space base w S u L) (hL : M.Fine L) (hv : IsVals w v a) (ha : M.likeF a = 0) :
    Calls Tryz.prog 46 #[.pointer (some ⟨S, 0, none⟩), v] w fun e w' => e = .returned (if M.spot a L < L.length then .tuple #[.int .i64 (M.spot a L), .nilIface] else .tuple #[.int .i64 0, errV 5]) ∧ Below w.heap.size w w' := by
  obtain ⟨ao, cap, rfl, _⟩ := hs.shape
  obtain ⟨ao2, cap2, rfl, _⟩ : ∃ ao c, v = .slice ao a.length c ∧ True := by
    rcases hv with ⟨h1, h2⟩ | ⟨x, c, h1, h2⟩ | ⟨b, off, c, h1, h2, _⟩
    · subst h2; exact ⟨_, _, h1, trivial⟩
    · subst h2; exact ⟨_, _, h1, trivial⟩
    · exact ⟨_, _, h2, trivial⟩
  obtain ⟨c1, _, s1⟩ := hs.cell
  exact oldest_ok S L.length cap a.length cap2 ao ao2 a L w hv ha s1 c1 (hs.row.tups fun _ _ ho => ho.vals) hL

theorem read (base S : Nat) (u v : Value) (a : List M.Val) (L : List (List M.Val)) (w : World) (hs : Space base w S u L) (hL : M.Fine L) (hv : IsVals w v a) :
    Calls Tryz.prog 96 #[.pointer (some ⟨S, 0, none⟩), v] w fun e w' => ∃ r, e = .returned (.tuple #[r, errV (M.getF a L)]) ∧ OwnT w.heap.size w' r (M.getV a L) ∧ Below w.heap.size w w' := by
  by_cases ha : M.likeF a = 0
  · have hO := oldest base S u v a L w hs hL hv ha
    by_cases hp : M.spot a L < L.length
    · rw [if_pos hp] at hO
      rw [getF_hit ha hp, getV_hit ha hp]
      exact read_hit base S _ u v L w hs hL hp hO
    · rw [if_neg hp] at hO
      have e5 := getF_miss ha hp
      rw [getV_no (by rw [e5]; decide), e5]
      refine (read_bad S v w 5 (by decide) hO).mono ?_
      rintro e w' ⟨rfl, hb⟩
      exact ⟨_, rfl, OwnT.nil _ _, hb⟩
  · rw [getV_no (by rw [getF_bad ha]; exact ha), getF_bad ha]
    refine (read_bad S v w _ ha (oldest_bad S v a w hv ha)).mono ?_
    rintro e w' ⟨rfl, hb⟩
    exact ⟨_, rfl, OwnT.nil _ _, hb⟩

theorem take (base S : Nat) (u v : Value) (a : List M.Val) (L : List (List M.Val)) (w : World) (hs : Space base w S u L) (hL : M.Fine L) (hv : IsVals w v a) :
    Calls Tryz.prog 22 #[.pointer (some ⟨S, 0, none⟩), v] w fun e w' => ∃ r v', e = .returned (.tuple #[r, errV (M.getF a L)]) ∧ OwnT base w' r (M.getV a L) ∧ Space base w' S v' (M.lessL a L) ∧ Touch S u w w' ∧ Near w u v' := by
  by_cases ha : M.likeF a = 0
  · have hO := oldest base S u v a L w hs hL hv ha
    by_cases hp : M.spot a L < L.length
    · rw [if_pos hp] at hO
      rw [getF_hit ha hp, getV_hit ha hp, lessL_hit ha hp]
      exact take_hit base S _ u v L w hs hL hp hO
    · rw [if_neg hp] at hO
      have e5 := getF_miss ha hp
      rw [getV_no (by rw [e5]; decide), lessL_no (by rw [e5]; decide), e5]
      refine (take_bad S v w 5 (by decide) hO).mono ?_
      rintro e w' ⟨rfl, hb⟩
      exact ⟨_, _, rfl, OwnT.nil _ _, hs.stays hb, Touch.of_below hb, Near.refl _ _⟩
  · rw [getV_no (by rw [getF_bad ha]; exact ha), lessL_no (by rw [getF_bad ha]; exact ha), getF_bad ha]
    refine (take_bad S v w _ ha (oldest_bad S v a w hv ha)).mono ?_
    rintro e w' ⟨rfl, hb⟩
    exact ⟨_, _, rfl, OwnT.nil _ _, hs.stays hb, Touch.of_below hb, Near.refl _ _⟩

end Go.Proofs.YtlefhfmckimlaajGreatDoor

namespace Go.Proofs.YtlefhfmckimlaajGreatDoor
open Go.RowKit

/-- the number that Count answers -/
def M.cnt (a : List M.Val) (L : List (List M.Val)) : Nat := if M.likeF a = 0 then M.many a L else 0

theorem all_none (S cap : Nat) (ao : Option Addr) (w : World) (hc : w.cell? ⟨S, 0, none⟩ = some (.slice ao 0 cap)) :
    Calls Tryz.prog 72 #[.pointer (some ⟨S, 0, none⟩)] w fun e w' => e = .returned (.slice none 0 0) ∧ Below w.heap.size w w' := by
  go_enter Tryz.func72, Tryz.ntmps72
  go_wp2
  go_loopw [11, 3] (fun i c wr => i = .int .i64 0 ∧ c = .slice none 0 0 ∧ wr = w) (fun _ _ _ => 0)
  case atStart => exact ⟨rfl, rfl, rfl⟩
  case round =>
    obtain ⟨rfl, rfl, rfl⟩ := hrel
    go_wp2
    go_ret
    exact ⟨rfl, Below.refl _ _⟩

set_option maxHeartbeats 1000000 in
set_option maxRecDepth 100000 in
theorem all_many (S b off n cap : Nat) (L : List (List M.Val)) (w : World) (hn : n = L.length) (h0 : 0 < n) (hc : w.cell? ⟨S, 0, none⟩ = some (.slice (some ⟨b, off, none⟩) n cap)) (hl : LieT w b off L) (hL : M.Fine L) :
    Calls Tryz.prog 72 #[.pointer (some ⟨S, 0, none⟩)] w fun e w' => ∃ v, e = .returned v ∧ RowOf (OwnT w.heap.size w') w.heap.size w' v L ∧ Below w.heap.size w w' := by
  obtain ⟨i0, hi, hz0, hz1, hz2⟩ := info_parts infoT
  have HI := hide (And.intro hi (And.intro hz0 (And.intro hz1 hz2)))
  have HK : Hid (∀ wr, Below w.heap.size w wr → ∀ k (hk : k < L.length), ∃ x, wr.cell? ⟨b, off + k, none⟩ = some x ∧ Calls Tryz.prog 45 #[x] wr fun e w' => ∃ g c, e = .returned (.slice (some ⟨g, 0, none⟩) L[k].length c) ∧ OwnT wr.heap.size w' (.slice (some ⟨g, 0, none⟩) L[k].length c) L[k] ∧ Below wr.heap.size wr w') := hide fun wr hb k hk => by
    obtain ⟨x, hx, hxv⟩ := (hl.stays (by omega) hb (Nat.le_refl _)) k hk
    exact ⟨x, hx, freshAt x L[k] wr hxv (hL.1 _ (List.getElem_mem hk))⟩
  have h20 : n ≤ 20 := by have := hL.2; omega
  have HN := hide hn
  clear hl hL hn hi hz0 hz1 hz2
  go_enter Tryz.func72, Tryz.ntmps72
  go_wp2_with fail
  go_loopw [11, 3] (fun i c wr => ∃ j : Nat, ∃ v : Value, j ≤ n ∧ v = c ∧ i = .int .i64 j ∧ Hid (RowOf (OwnT w.heap.size wr) w.heap.size wr v (L.take j)) ∧ Hid (Below w.heap.size w wr)) (fun i _ _ => n - (intOf i).toNat)
  case atStart => exact ⟨0, _, Nat.zero_le _, rfl, rfl, hide (RowOf.nil _ _ _), hide (Below.refl _ _)⟩
  case round =>
    obtain ⟨j, v, hj, rfl, rfl, hr, hbel⟩ := hrel
    by_cases hlt : j < n
    · have hjl : j < L.length := HN.out ▸ hlt
      obtain ⟨x, hx, hC⟩ := (unhide HK) wr hbel.out j hjl
      have HC := hide hC
      have HJ : Hid ((L.take j).length = j) := hide (by rw [List.length_take]; omega)
      generalize hlj : L[j] = lj at HC
      have HLJ := hide hlj
      clear hC hlj
      go_wp2_with fail
      refine (unhide HC).mono ?_
      rintro e w2 ⟨g2, k2, rfl, hO2, hb2⟩
      have HB2 := hide (hbel.out.trans (hb2.mono hbel.out.size))
      have HO2 := hide hO2
      have HS2 := hide (Solid.below hb2)
      have HR2 := hide ((hr.out.below hb2).mono fun _ _ ho => ho.solid HS2.out)
      obtain ⟨xs, hx1, hx2⟩ := HR2.out
      rw [HJ.out] at hx1
      have HX := hide (hx1.alloc (.cells #[.slice (some ⟨g2, 0, none⟩) lj.length k2] 33))
      have HX2 := hide hx2
      have HLN : Hid (xs.length = (L.take j).length) := hide (by have := hx1.1; rw [HJ.out]; omega)
      have HNW : Hid (∀ j u, [Value.slice (some ⟨g2, 0, none⟩) lj.length k2][j]? = some u → (w2.alloc (.cells #[.slice (some ⟨g2, 0, none⟩) lj.length k2] 33)).cell? ((⟨w2.heap.size, 0, none⟩ : Addr).add j) = some u) := hide (World.news_of_block (heap_alloc_new w2 _))
      have HWS : Hid (w.heap.size ≤ (w2.alloc (.cells #[.slice (some ⟨g2, 0, none⟩) lj.length k2] 33)).heap.size) := hide (Nat.le_trans HB2.out.size (by simp))
      have HRO := hide hbel.out.size
      clear hx1 hx2 hO2 hb2 HK
      go_wp2_with (at_builtin; refine wpList_append_own _ rfl (.tmp 15) (.tmp 18) 22 rfl w.heap.size 33 i0 (.slice none 0 0) 1 24 Tryz.underlying22 HI.out.1 HI.out.2.1 HI.out.2.2.1 HI.out.2.2.2 rfl (by decide) v j xs rfl HX.out ⟨w2.heap.size, 0, none⟩ 1 1 [.slice (some ⟨g2, 0, none⟩) lj.length k2] rfl rfl HNW.out (by intro u hu; simp at hu; subst hu; rfl) (by unfold maxLen; omega) (by omega) HWS.out ?_)
      intro v3 w3 hown3 hgrow3 _
      have HO3 := hide hown3
      have HG3 := hide hgrow3
      clear hown3 hgrow3
      go_wp2
      go_roundw
      case rel =>
        have hsol : Solid w2 w3 := (Solid.below ((Below.refl _ _).alloc (Nat.le_refl _) _)).trans (solid_grown HX.out HG3.out)
        refine ⟨j + 1, v3, by omega, rfl, by go_num, hide ?_, hide (HB2.out.trans (((Below.refl _ _).alloc HB2.out.size _).grown HG3.out HWS.out (fun k hk => (HX.out.lt k hk).1)))⟩
        rw [List.take_succ_eq_append_getElem hjl, HLJ.out]
        exact RowOf.snoc (fun i h1 h2 => (HX2.out i h1 h2).solid hsol) HLN.out (by rw [HJ.out]; exact HO3.out) ((HO2.out.mono HRO.out).solid hsol)
      case measure => simp [intOf]; omega
    · have hfin : Hid (L.take j = L) := hide (List.take_of_length_le (by have := HN.out; omega))
      go_wp2
      go_ret
      exact ⟨v, rfl, by have := hr.out; rwa [hfin.out] at this, hbel.out⟩

theorem all (base S : Nat) (u : Value) (L : List (List M.Val)) (w : World) (hs : Space base w S u L) (hL : M.Fine L) :
    Calls Tryz.prog 72 #[.pointer (some ⟨S, 0, none⟩)] w fun e w' => ∃ ao cap, e = .returned (.slice ao L.length cap) ∧ IsTups w' (.slice ao L.length cap) L ∧ Below w.heap.size w w' := by
  obtain ⟨c1, _, s1⟩ := hs.cell
  have hu : IsTups w u L := hs.row.tups fun _ _ ho => ho.vals
  rcases Nat.eq_zero_or_pos L.length with h0 | h0
  · obtain ⟨ao, cap, rfl, _⟩ := hu.shape
    have hl := List.length_eq_zero_iff.1 h0
    subst hl
    refine (all_none S cap ao w c1).mono ?_
    rintro e w' ⟨rfl, hb⟩
    exact ⟨_, _, rfl, Or.inl ⟨rfl, rfl⟩, hb⟩
  · obtain ⟨b, off, cap, rfl, _, _, hl⟩ := hu.some h0
    refine (all_many S b off L.length cap L w rfl h0 c1 hl hL).mono ?_
    rintro e w' ⟨v, rfl, hr, hb⟩
    have ht := hr.tups fun _ _ ho => ho.vals
    obtain ⟨ao, c, rfl, _⟩ := ht.shape
    exact ⟨ao, c, rfl, ht, hb⟩

end Go.Proofs.YtlefhfmckimlaajGreatDoor
