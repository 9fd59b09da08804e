/-
  What Fresh of package tuple and New of package space do, with the library's copies that they call: each as one law of its call.
-/
import Derived.Test.YtlefhfmckimlaajGreatDoorShelf
import Derived.Test.YtlefhfmckimlaajGreatDoorSpDel
import Derived.Test.YtlefhfmckimlaajGreatDoorJ9A
import Derived.Laws.OwnMore
import Derived.Lib.SliceRun
namespace Go.Proofs.YtlefhfmckimlaajGreatDoor
open Go.RowKit

theorem infoV : (Tryz.prog.info? 47).map (fun i => (i.zero, i.size, i.bytes)) = some (some (.agg #[.int .i64 0, .int .i64 0, .string ⟨#[]⟩]), 3, 32) := by kernel_rfl
theorem infoT : (Tryz.prog.info? 33).map (fun i => (i.zero, i.size, i.bytes)) = some (some (.slice none 0 0), 1, 24) := by kernel_rfl

theorem cloneS (s : ByteArray) (w : World) (hs : s.size ≤ 281474976710656) : Calls Tryz.prog 26 #[.string s] w fun e w' => e = .returned (.string s) ∧ Below w.heap.size w w' := by
  go_enter Tryz.func26, Tryz.ntmps26
  go_wp2_with fail
  refine (Tryz.stringslite_Clone s _ hs).mono ?_
  rintro e w1 ⟨rfl, hb⟩
  go_wp2_with fail
  go_ret
  exact ⟨rfl, hb⟩

set_option maxRecDepth 100000 in
theorem cloneV (b off n cap : Nat) (l : List M.Val) (w : World) (hn : n = l.length) (h5 : n ≤ 5) (hl : Lie w b off l) :
    Calls Tryz.prog 76 #[.slice (some ⟨b, off, none⟩) n cap] w fun e w' => ∃ v, e = .returned v ∧ w'.ownsRow w.heap.size 47 3 v n (flat l) ∧ Below w.heap.size w w' := by
  obtain ⟨i0, hi, hz0, hz1, hz2⟩ := info_parts infoV
  have HI := hide (And.intro hi (And.intro hz0 (And.intro hz1 hz2)))
  have hlen : (flat l).length = n * 3 := by rw [flat_len, hn]
  have HFL := hide hlen
  have HNW : Hid (∀ j u, (flat l)[j]? = some u → (w.alloc (.cells #[] 47)).cell? ((⟨b, off, none⟩ : Addr).add j) = some u) := hide fun j u hu => by
    have h0 : 0 < l.length := by
      rcases Nat.eq_zero_or_pos l.length with h | h
      · have := List.length_eq_zero_iff.1 h; subst this; simp [flat] at hu
      · exact h
    exact lie_news (hl.stays h0 ((Below.refl _ _).alloc (Nat.le_refl _) _) (Nat.le_refl _)) j u hu
  have q : ∀ w : World, (binOp .eql 33 (.slice (some ⟨b, off, none⟩) n cap) (.slice none 0 0)).run Tryz.prog w = .ok (.bool false) w := fun w => Lib.run_eql_slice_nil w _ _ _ _ _ _ _ Tryz.underlying33
  clear hi hz0 hz1 hz2 hl hn hlen
  go_enter Tryz.func76, Tryz.ntmps76
  go_wp2_with (at_builtin; refine wpList_append_own _ rfl (.tmp 5) (.tmp 6) 33 rfl w.heap.size 47 i0 (.agg #[.int .i64 0, .int .i64 0, .string ⟨#[]⟩]) 3 32 Tryz.underlying33 HI.out.1 HI.out.2.1 HI.out.2.2.1 HI.out.2.2.2 rfl (by decide) _ 0 [] rfl (World.ownsRow_made w #[] 0 (Nat.le_refl _) (Nat.zero_le _) (by simp)) ⟨b, off, none⟩ n cap (flat l) rfl HFL.out HNW.out (flat_oneCell l) (by unfold maxLen; omega) (by omega) (by simp) ?_)
  intro v w1 hown hgrow _
  have HO := hide hown
  have hb1 : Hid (Below w.heap.size w w1) := hide (((Below.refl _ _).alloc (Nat.le_refl _) _).grown hgrow (by simp) (by intro k hk; simp [Value.ownBlock] at hk; omega))
  clear hown hgrow
  go_wp2
  go_ret
  exact ⟨v, rfl, by simpa using HO.out, hb1.out⟩

/-- a store of what was there leaves a row as it was -/
theorem set_self {l : List Value} {j : Nat} {u : Value} (h : l[j]? = some u) : l.set j u = l := by
  apply List.ext_getElem?
  intro i
  rw [List.getElem?_set]
  split
  · rename_i e
    subst e
    split
    · exact h.symm
    · rw [List.getElem?_eq_none (by omega)]
  · rfl

theorem freshL (v : Value) (l : List M.Val) (w : World) (h : IsVals w v l) (hk : M.likeF l = 0) :
    Calls Tryz.prog 45 #[v] w fun e w' => ∃ v', e = .returned v' ∧ OwnT w.heap.size w' v' l ∧ Below w.heap.size w w' := by
  obtain ⟨h0, h5⟩ := likeF_len hk
  have HT : Hid (∀ x ∈ l, x.s.size ≤ 12) := hide fun x hx => text_small (likeF_each hk x hx)
  obtain ⟨b, off, cap, rfl, _, _, hl⟩ := h.some h0
  obtain ⟨n, hn⟩ : ∃ n, n = l.length := ⟨_, rfl⟩
  rw [← hn] at h0 h5 ⊢
  have HC := hide (cloneV b off n cap l w hn h5 hl)
  have HN := hide hn
  clear h hk hl hn
  go_enter Tryz.func45, Tryz.ntmps45
  go_wp2_with fail
  refine (unhide HC).mono ?_
  rintro e w1 ⟨v, rfl, hown, hb1⟩
  obtain ⟨g, c, rfl, hg, hgl⟩ := hown.form h0
  have HO := hide hown
  have HB := hide hb1
  clear hown hb1
  go_wp2_with fail
  go_loopw [9] (fun i wr => ∃ k : Nat, k ≤ n ∧ i = .int .i64 k ∧ Hid (wr.ownsRow w.heap.size 47 3 (.slice (some ⟨g, 0, none⟩) n c) n (flat l)) ∧ Hid (Below w.heap.size w wr)) (fun i _ => n - (intOf i).toNat)
  case atStart => exact ⟨0, Nat.zero_le _, rfl, HO, HB⟩
  case round =>
    obtain ⟨k, hk, rfl, hO, hbel⟩ := hrel
    by_cases hlt : k < n
    · have hkl : k < l.length := HN.out ▸ hlt
      have hat := hide ((flat_at l k hkl).2.2)
      have c3 : wr.cell? ⟨g, k * 3 + 2, none⟩ = some (.string l[k].s) := by rw [hO.out.cellAt _ (by omega)]; exact hat.out
      have hgw : g < wr.heap.size := by
        rcases Nat.lt_or_ge g wr.heap.size with q | q
        · exact q
        · simp [World.cell?, Array.getElem?_eq_none q] at c3
      have fz : wr.frozen? ⟨g, k * 3 + 2, none⟩ = false := hO.out.frozenAt _
      have hs12 := hide (HT.out _ (List.getElem_mem hkl))
      go_wp2_with fail
      refine (cloneS _ _ (Nat.le_trans hs12.out (by decide))).mono ?_
      rintro e w2 ⟨rfl, hb2⟩
      obtain ⟨hc, hff⟩ := bcell hb2
      have HB2 := hide hb2
      clear hb2
      go_wp2_with fail
      go_roundw
      case rel =>
        have o2 : w2.ownsRow w.heap.size 47 3 (.slice (some ⟨g, 0, none⟩) n c) n (flat l) := ownsRow_solid hO.out (Solid.below HB2.out)
        have o3 := (o2.stored (k * 3 + 2) (.string l[k].s)).1
        rw [set_self hat.out] at o3
        exact ⟨k + 1, by omega, by go_num, hide o3, hide ((hbel.out.trans (HB2.out.mono hbel.out.size)).setCell hg _)⟩
      case measure => simp [intOf]; omega
    · go_wp2
      go_ret
      exact ⟨_, rfl, ⟨by rw [← HN.out]; exact hO.out, fun x hx => Nat.le_trans (HT.out x hx) (by unfold maxLen; decide)⟩, hbel.out⟩

theorem fresh (v : Value) (l : List M.Val) (w : World) (h : IsVals w v l) (hf : M.tupF l = 0) :
    Calls Tryz.prog 45 #[v] w fun e w' => ∃ v', e = .returned v' ∧ OwnT w.heap.size w' v' l ∧ Below w.heap.size w w' := freshL v l w h (tupF_ok hf).1

theorem freshAt (v : Value) (l : List M.Val) (w : World) (h : IsVals w v l) (hf : M.tupF l = 0) :
    Calls Tryz.prog 45 #[v] w fun e w' => ∃ g c, e = .returned (.slice (some ⟨g, 0, none⟩) l.length c) ∧ OwnT w.heap.size w' (.slice (some ⟨g, 0, none⟩) l.length c) l ∧ Below w.heap.size w w' := by
  refine (fresh v l w h hf).mono ?_
  rintro e w1 ⟨v', rfl, h1, h2⟩
  obtain ⟨g, c, rfl, _⟩ := h1.1.form (likeF_len (tupF_ok hf).1).1
  exact ⟨g, c, rfl, h1, h2⟩

theorem new (w : World) : Calls Tryz.prog 20 #[] w fun e w' => e = .returned (.pointer (some ⟨w.heap.size, 0, none⟩)) ∧ w' = w.alloc (.cells #[.slice none 0 0] 99) := by
  go_enter Tryz.func20, Tryz.ntmps20
  go_wp2
  go_ret
  exact ⟨rfl, rfl⟩

end Go.Proofs.YtlefhfmckimlaajGreatDoor
