/-
  What Count and All of package space do, each as one law of its call.
-/
import Derived.Test.YtlefhfmckimlaaiGreatDoorSpGet
namespace Go.Proofs.YtlefhfmckimlaaiGreatDoor
open Go.RowKit

/-- the number that Count answers -/
def M.cnt (a : List M.Val) (L : List (List M.Val)) : Nat := if M.likeF a = 0 then M.many a L else 0

theorem all_none (S cap : Nat) (ao : Option Addr) (w : World) (hc : w.cell? ⟨S, 0, none⟩ = some (.slice ao 0 cap)) :
    Calls Tryz.prog 34 #[.pointer (some ⟨S, 0, none⟩)] w fun e w' => e = .returned (.slice none 0 0) ∧ Below w.heap.size w w' := by
  go_enter Tryz.func34, Tryz.ntmps34
  go_wp2
  go_loopw [11, 3] (fun i c wr => i = .int .i64 0 ∧ c = .slice none 0 0 ∧ wr = w) (fun _ _ _ => 0)
  case atStart => exact ⟨rfl, rfl, rfl⟩
  case round =>
    obtain ⟨rfl, rfl, rfl⟩ := hrel
    go_wp2
    go_ret
    exact ⟨rfl, Below.refl _ _⟩

set_option maxHeartbeats 1000000 in
set_option maxRecDepth 100000 in
theorem all_many (S b off n cap : Nat) (L : List (List M.Val)) (w : World) (hn : n = L.length) (h0 : 0 < n) (hc : w.cell? ⟨S, 0, none⟩ = some (.slice (some ⟨b, off, none⟩) n cap)) (hl : LieT w b off L) (hL : M.Fine L) :
    Calls Tryz.prog 34 #[.pointer (some ⟨S, 0, none⟩)] w fun e w' => ∃ v, e = .returned v ∧ RowOf (OwnT w.heap.size w') w.heap.size w' v L ∧ Below w.heap.size w w' := by
  obtain ⟨i0, hi, hz0, hz1, hz2⟩ := info_parts infoT
  have HI := hide (And.intro hi (And.intro hz0 (And.intro hz1 hz2)))
  have HK : Hid (∀ wr, Below w.heap.size w wr → ∀ k (hk : k < L.length), ∃ x, wr.cell? ⟨b, off + k, none⟩ = some x ∧ Calls Tryz.prog 46 #[x] wr fun e w' => ∃ g c, e = .returned (.slice (some ⟨g, 0, none⟩) L[k].length c) ∧ OwnT wr.heap.size w' (.slice (some ⟨g, 0, none⟩) L[k].length c) L[k] ∧ Below wr.heap.size wr w') := hide fun wr hb k hk => by
    obtain ⟨x, hx, hxv⟩ := (hl.stays (by omega) hb (Nat.le_refl _)) k hk
    exact ⟨x, hx, freshAt x L[k] wr hxv (hL.1 _ (List.getElem_mem hk))⟩
  have h20 : n ≤ 20 := by have := hL.2; omega
  have HN := hide hn
  clear hl hL hn hi hz0 hz1 hz2
  go_enter Tryz.func34, Tryz.ntmps34
  go_wp2_with fail
  go_loopw [11, 3] (fun i c wr => ∃ j : Nat, ∃ v : Value, j ≤ n ∧ v = c ∧ i = .int .i64 j ∧ Hid (RowOf (OwnT w.heap.size wr) w.heap.size wr v (L.take j)) ∧ Hid (Below w.heap.size w wr)) (fun i _ _ => n - (intOf i).toNat)
  case atStart => exact ⟨0, _, Nat.zero_le _, rfl, rfl, hide (RowOf.nil _ _ _), hide (Below.refl _ _)⟩
  case round =>
    obtain ⟨j, v, hj, rfl, rfl, hr, hbel⟩ := hrel
    by_cases hlt : j < n
    · have hjl : j < L.length := HN.out ▸ hlt
      obtain ⟨x, hx, hC⟩ := (unhide HK) wr hbel.out j hjl
      have HC := hide hC
      have HJ : Hid ((L.take j).length = j) := hide (by rw [List.length_take]; omega)
      generalize hlj : L[j] = lj at HC
      have HLJ := hide hlj
      clear hC hlj
      go_wp2_with fail
      refine (unhide HC).mono ?_
      rintro e w2 ⟨g2, k2, rfl, hO2, hb2⟩
      have HB2 := hide (hbel.out.trans (hb2.mono hbel.out.size))
      have HO2 := hide hO2
      have HS2 := hide (Solid.below hb2)
      have HR2 := hide ((hr.out.below hb2).mono fun _ _ ho => ho.solid HS2.out)
      obtain ⟨xs, hx1, hx2⟩ := HR2.out
      rw [HJ.out] at hx1
      have HX := hide (hx1.alloc (.cells #[.slice (some ⟨g2, 0, none⟩) lj.length k2] 35))
      have HX2 := hide hx2
      have HLN : Hid (xs.length = (L.take j).length) := hide (by have := hx1.1; rw [HJ.out]; omega)
      have HNW : Hid (∀ j u, [Value.slice (some ⟨g2, 0, none⟩) lj.length k2][j]? = some u → (w2.alloc (.cells #[.slice (some ⟨g2, 0, none⟩) lj.length k2] 35)).cell? ((⟨w2.heap.size, 0, none⟩ : Addr).add j) = some u) := hide (World.news_of_block (heap_alloc_new w2 _))
      have HWS : Hid (w.heap.size ≤ (w2.alloc (.cells #[.slice (some ⟨g2, 0, none⟩) lj.length k2] 35)).heap.size) := hide (Nat.le_trans HB2.out.size (by simp))
      have HRO := hide hbel.out.size
      clear hx1 hx2 hO2 hb2 HK
      go_wp2_with (at_builtin; refine wpList_append_own _ rfl (.tmp 15) (.tmp 18) 43 rfl w.heap.size 35 i0 (.slice none 0 0) 1 24 Tryz.underlying43 HI.out.1 HI.out.2.1 HI.out.2.2.1 HI.out.2.2.2 rfl (by decide) v j xs rfl HX.out ⟨w2.heap.size, 0, none⟩ 1 1 [.slice (some ⟨g2, 0, none⟩) lj.length k2] rfl rfl HNW.out (by intro u hu; simp at hu; subst hu; rfl) (by unfold maxLen; omega) (by omega) HWS.out ?_)
      intro v3 w3 hown3 hgrow3 _
      have HO3 := hide hown3
      have HG3 := hide hgrow3
      clear hown3 hgrow3
      go_wp2
      go_roundw
      case rel =>
        have hsol : Solid w2 w3 := (Solid.below ((Below.refl _ _).alloc (Nat.le_refl _) _)).trans (solid_grown HX.out HG3.out)
        refine ⟨j + 1, v3, by omega, rfl, by go_num, hide ?_, hide (HB2.out.trans (((Below.refl _ _).alloc HB2.out.size _).grown HG3.out HWS.out (fun k hk => (HX.out.lt k hk).1)))⟩
        rw [List.take_succ_eq_append_getElem hjl, HLJ.out]
        exact RowOf.snoc (fun i h1 h2 => (HX2.out i h1 h2).solid hsol) HLN.out (by rw [HJ.out]; exact HO3.out) ((HO2.out.mono HRO.out).solid hsol)
      case measure => simp [intOf]; omega
    · have hfin : Hid (L.take j = L) := hide (List.take_of_length_le (by have := HN.out; omega))
      go_wp2
      go_ret
      exact ⟨v, rfl, by have := hr.out; rwa [hfin.out] at this, hbel.out⟩

theorem all (base S : Nat) (u : Value) (L : List (List M.Val)) (w : World) (hs : Space base w S u L) (hL : M.Fine L) :
    Calls Tryz.prog 34 #[.pointer (some ⟨S, 0, none⟩)] w fun e w' => ∃ ao cap, e = .returned (.slice ao L.length cap) ∧ IsTups w' (.slice ao L.length cap) L ∧ Below w.heap.size w w' := by
  obtain ⟨c1, _, s1⟩ := hs.cell
  have hu : IsTups w u L := hs.row.tups fun _ _ ho => ho.vals
  rcases Nat.eq_zero_or_pos L.length with h0 | h0
  · obtain ⟨ao, cap, rfl, _⟩ := hu.shape
    have hl := List.length_eq_zero_iff.1 h0
    subst hl
    refine (all_none S cap ao w c1).mono ?_
    rintro e w' ⟨rfl, hb⟩
    exact ⟨_, _, rfl, Or.inl ⟨rfl, rfl⟩, hb⟩
  · obtain ⟨b, off, cap, rfl, _, _, hl⟩ := hu.some h0
    refine (all_many S b off L.length cap L w rfl h0 c1 hl hL).mono ?_
    rintro e w' ⟨v, rfl, hr, hb⟩
    have ht := hr.tups fun _ _ ho => ho.vals
    obtain ⟨ao, c, rfl, _⟩ := ht.shape
    exact ⟨ao, c, rfl, ht, hb⟩

end Go.Proofs.YtlefhfmckimlaaiGreatDoor
