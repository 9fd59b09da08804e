/-
  What Put of package space does, as one law of its call.
-/
import Derived.Test.YtlefhfmckimlaagDoorSpFresh
import Derived.Test.YtlefhfmckimlaagDoorStep
import Derived.Deep.RegionHeld3
import Derived.Deep.RegionLaw
import Derived.Deep.DrawnRows
namespace Go.Proofs.YtlefhfmckimlaagDoor
open Go.RowKit
attribute [local go_sem ↓] Go.wp_at_zero Go.wp_at_succ

/-- a space of the call's own -/
abbrev Space (base : Nat) (w : World) (S : Nat) (v : Value) (L : List (List M.Val)) : Prop := Sp 68 (OwnT base w) base w S v L

theorem Space.stays {base S : Nat} {w w' : World} {v : Value} {L : List (List M.Val)} (h : Space base w S v L) (hb : Below w.heap.size w w') : Space base w' S v L := (Sp.quiet h hb).mono fun _ _ ho => ho.solid (Solid.below hb)
theorem Space.shape {base S : Nat} {w : World} {v : Value} {L : List (List M.Val)} (h : Space base w S v L) : ∃ ao cap, v = .slice ao L.length cap ∧ L.length ≤ maxLen := (h.row.tups fun _ _ ho => ho.vals).shape
theorem Sp.cell {T : TypeId} {Q : Value → List M.Val → Prop} {base S : Nat} {w : World} {v : Value} {L : List (List M.Val)} (h : Sp T Q base w S v L) : w.cell? ⟨S, 0, none⟩ = some v ∧ w.frozen? ⟨S, 0, none⟩ = false ∧ S < w.heap.size := by
  refine ⟨?_, ?_, heap_lt h.heap⟩
  · rw [cell_of_row w S 0 #[v] T (0, 0) h.heap]; rfl
  · exact frozen_of_row w S 0 #[v] T h.heap

/-- one tuple more in a space, in new memory -/
theorem Space.put {base S : Nat} {w w1 wA w3 : World} {v v' x : Value} {L : List (List M.Val)} {l : List M.Val} {xs : List Value} (hb : Below w.heap.size w w1) (hb2 : Below w1.heap.size w1 wA) (h : Space base wA S v L) (hx1 : wA.ownsRow base 22 1 v L.length xs) (hx2 : ∀ i (h1 : i < xs.length) (h2 : i < L.length), OwnT base wA xs[i] L[i])
    (hx : OwnT base wA x l) (hg : wA.grownBy w3 v.ownBlock) (ho : w3.ownsRow base 22 1 v' (L.length + 1) (xs ++ [x])) (hn : Near wA v v') :
    Space base (w3.setCell ⟨S, 0, none⟩ v') S v' (L ++ [l]) ∧ Touch S v w (w3.setCell ⟨S, 0, none⟩ v') ∧ Near w v v' := by
  have hlen : xs.length = L.length := by have := hx1.1; omega
  obtain ⟨h1, h2⟩ := Sp.stored (by decide) h hg (RowOf.snoc hx2 hlen ho hx) hn
  have hs := Sp.solid h (by decide) h2
  exact ⟨h1.mono fun _ _ ho => ho.solid hs, (h2.after hb2).after hb, hn.mono (Nat.le_trans hb.size hb2.size)⟩

theorem put_bad (S : Nat) (t : Value) (l : List M.Val) (w : World) (ht : IsVals w t l) (hf : M.tupF l ≠ 0) :
    Calls Tryd.prog 16 #[.pointer (some ⟨S, 0, none⟩), t] w fun e w' => e = .returned (errV (M.tupF l)) ∧ Below w.heap.size w w' := by
  have HC : Hid (Calls Tryd.prog 11 #[t] w fun e w' => e = .returned (.iface 64 (.int .i64 (M.tupF l))) ∧ Below w.heap.size w w') := hide (by rw [← errV_bad hf]; exact tcheck t l w ht)
  have HF := hide hf
  clear hf ht
  go_enter Tryd.func16, Tryd.ntmps16
  go_wp2_with fail
  refine (unhide HC).mono ?_
  rintro e w1 ⟨rfl, hb1⟩
  go_wp2_with fail
  go_ret
  exact ⟨by rw [errV_bad HF.out]; rfl, hb1⟩

theorem put_full (S n cap : Nat) (ao : Option Addr) (t : Value) (l : List M.Val) (w : World) (ht : IsVals w t l) (hf : M.tupF l = 0) (hS : S < w.heap.size) (hc : w.cell? ⟨S, 0, none⟩ = some (.slice ao n cap)) (hn : 20 ≤ n) (hm : n ≤ maxLen) :
    Calls Tryd.prog 16 #[.pointer (some ⟨S, 0, none⟩), t] w fun e w' => e = .returned (errV 4) ∧ Below w.heap.size w w' := by
  unfold maxLen at hm
  have HC : Hid (Calls Tryd.prog 11 #[t] w fun e w' => e = .returned .nilIface ∧ Below w.heap.size w w') := hide (by have := tcheck t l w ht; rwa [hf] at this)
  have h20 : (20 : Int) ≤ (n : Int) := by omega
  have HS := hide hS
  have HCe := hide hc
  clear hf ht hc
  go_enter Tryd.func16, Tryd.ntmps16
  go_wp2_with fail
  refine (unhide HC).mono ?_
  rintro e w1 ⟨rfl, hb1⟩
  have c1 : w1.cell? ⟨S, 0, none⟩ = some (.slice ao n cap) := (hb1.cell (p := ⟨S, 0, none⟩) HS.out).trans HCe.out
  go_wp2_with fail
  go_ret
  exact ⟨rfl, hb1⟩

set_option maxHeartbeats 1000000 in
set_option maxRecDepth 100000 in
theorem put_ok (base S n cap : Nat) (ao : Option Addr) (t : Value) (l : List M.Val) (L : List (List M.Val)) (w : World) (hs : Space base w S (.slice ao n cap) L) (ht : IsVals w t l) (hf : M.tupF l = 0) (hL : n = L.length) (hn : n < 20) :
    Calls Tryd.prog 16 #[.pointer (some ⟨S, 0, none⟩), t] w fun e w' => e = .returned .nilIface ∧ ∃ v', Space base w' S v' (L ++ [l]) ∧ Touch S (.slice ao n cap) w w' ∧ Near w (.slice ao n cap) v' := by
  obtain ⟨i0, hi, hz0, hz1, hz2⟩ := info_parts infoT
  have HI := hide (And.intro hi (And.intro hz0 (And.intro hz1 hz2)))
  have HC : Hid (Calls Tryd.prog 11 #[t] w fun e w' => e = .returned .nilIface ∧ Below w.heap.size w w') := hide (by have := tcheck t l w ht; rwa [hf] at this)
  have h20 : ¬ (20 : Int) ≤ (n : Int) := by omega
  obtain ⟨hc, hfz, hS⟩ := hs.cell
  have HS := hide hS
  have HP := hide hs
  have HT := hide ht
  have HF := hide hf
  have HL := hide hL
  clear hf ht hc hfz hs hL hi hz0 hz1 hz2
  go_enter Tryd.func16, Tryd.ntmps16
  go_wp2_with fail
  refine (unhide HC).mono ?_
  rintro e w1 ⟨rfl, hb1⟩
  have HP1 := hide (Space.stays HP.out hb1)
  have HT1 := hide (HT.out.stays hb1 (Nat.le_refl _))
  obtain ⟨c1, f1, s1⟩ := HP1.out.cell
  have HB1 := hide hb1
  clear hb1
  have HG : Hid (Calls Tryd.prog 34 #[t] w1.drew fun e w' => ∃ v', e = .returned v' ∧ ∃ g c, v' = .slice (some ⟨g, 0, none⟩) l.length c ∧ OwnT w1.drew.heap.size w' (.slice (some ⟨g, 0, none⟩) l.length c) l ∧ Below w1.drew.heap.size w1.drew w') := hide ((freshAt t l w1.drew HT1.out HF.out).mono fun e w' ⟨g, c, h1, h2⟩ => ⟨_, h1, g, c, rfl, h2⟩)
  have HE : Hid (Enters Tryd.prog 34) := hide (enters_of Tryd.func34 (by kernel_rfl) rfl)
  go_wp2_with fail
  go_region_law
    (first
      | (refine step_fn (by rfl) 34 #[.tmp 23] #[22] (by rfl) #[t] (by simp [Act.eval, Act.put]) HE.out _ HG.out ?_
         rintro v2 w2 ⟨g2, k2, rfl, hO2, hb2⟩
         have HB2 := hide ((Below.refl w1.heap.size w1).drew.trans hb2)
         have HP2 := hide (Space.stays HP1.out HB2.out)
         have HP3 := hide (Space.stays HP2.out ((Below.refl _ _).alloc (Nat.le_refl _) (.cells #[.slice (some ⟨g2, 0, none⟩) l.length k2] 22)))
         have hne := hide (HP2.out.row_ne (by decide))
         obtain ⟨xs, hx1, hx2⟩ := HP3.out.row
         rw [← HL.out] at hx1
         have HX := hide hx1
         have HX2 := hide hx2
         obtain ⟨c2, f2, s2⟩ := HP2.out.cell
         have HB := hide (Nat.le_trans HP3.out.lo (Nat.le_of_lt HP3.out.cell.2.2))
         have HNW : Hid (∀ j u, [Value.slice (some ⟨g2, 0, none⟩) l.length k2][j]? = some u → (w2.alloc (.cells #[.slice (some ⟨g2, 0, none⟩) l.length k2] 22)).cell? ((⟨w2.heap.size, 0, none⟩ : Addr).add j) = some u) := hide (World.news_of_block (heap_alloc_new w2 _))
         have HO2 := hide hO2
         clear hx1 hx2 hO2 hb2)
      | (refine step_append_lies _ (by rfl) (.tmp 22) (.tmp 25) 66 (by rfl) base 22 i0 (.slice none 0 0) 1 24 Tryd.underlying66 HI.out.1 HI.out.2.1 HI.out.2.2.1 HI.out.2.2.2 rfl (by decide) (.slice ao n cap) n xs (by simp [Act.eval]) HX.out ⟨w2.heap.size, 0, none⟩ 1 1 [.slice (some ⟨g2, 0, none⟩) l.length k2] (by simp [Act.eval]) rfl HNW.out (by intro u hu; simp at hu; subst hu; rfl) (by decide) (by unfold maxLen; omega) (by omega) HB.out (w2.heap.size + 1) (by simp) ?_
         intro g3 k3 w3 hown3 hgrow3 hat3 hlt3
         have c4 : w3.cell? ⟨S, 0, none⟩ = some (.slice ao n cap) := hgrow3.cell HP3.out.cell.1 (fun e => hne.out e.symm)
         have f4 : w3.frozen? ⟨S, 0, none⟩ = false := (World.frozen?_of_block (hgrow3.block S HP3.out.cell.2.2 (fun e => hne.out e.symm))).trans HP3.out.cell.2.1
         have HO3 := hide hown3
         have HG3 := hide hgrow3
         clear hown3 hgrow3))
  all_goals
    go_wp2_with fail
    go_ret
    refine ⟨rfl, _, Space.put (xs := xs) (x := .slice (some ⟨g2, 0, none⟩) l.length k2) HB1.out (HB2.out.alloc HB2.out.size _) HP3.out (HL.out ▸ HX.out) HX2.out ?_ HG3.out (HL.out ▸ HO3.out) ?_⟩
    · exact (HO2.out.mono (Nat.le_trans HP1.out.lo (Nat.le_of_lt s1))).solid (Solid.below ((Below.refl _ _).alloc (Nat.le_refl _) _))
    · rcases hat3 with h | h
      · exact Or.inl h.symm
      · refine Or.inr fun k hk => ?_
        have : g3 = k := by simpa [Value.ownBlock] using hk
        simp; omega

theorem put (base S : Nat) (v t : Value) (l : List M.Val) (L : List (List M.Val)) (w : World) (hs : Space base w S v L) (ht : IsVals w t l) :
    Calls Tryd.prog 16 #[.pointer (some ⟨S, 0, none⟩), t] w fun e w' => e = .returned (errV (M.putF L l)) ∧ ∃ v', Space base w' S v' (M.putL L l) ∧ Touch S v w w' ∧ Near w v v' := by
  by_cases hf : M.tupF l = 0
  · obtain ⟨ao, cap, rfl, hm⟩ := hs.shape
    obtain ⟨hc, _, hS⟩ := hs.cell
    by_cases hn : L.length < 20
    · rw [putF_ok hf hn, putL_yes (putF_ok hf hn)]
      exact put_ok base S L.length cap ao t l L w hs ht hf rfl hn
    · have e4 := putF_full (L := L) hf (by omega)
      rw [e4, putL_no (by rw [e4]; decide)]
      refine (put_full S L.length cap ao t l w ht hf hS hc (by omega) hm).mono ?_
      rintro e w' ⟨rfl, hb⟩
      exact ⟨rfl, _, hs.stays hb, Touch.of_below hb, Near.refl _ _⟩
  · rw [putF_bad hf, putL_no (by rw [putF_bad hf]; exact hf)]
    refine (put_bad S t l w ht hf).mono ?_
    rintro e w' ⟨rfl, hb⟩
    exact ⟨rfl, _, hs.stays hb, Touch.of_below hb, Near.refl _ _⟩

end Go.Proofs.YtlefhfmckimlaagDoor
