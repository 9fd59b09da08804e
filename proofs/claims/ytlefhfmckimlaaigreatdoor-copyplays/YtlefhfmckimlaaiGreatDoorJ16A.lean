/-
  What Fresh of package tuple and New of package space do, with the library's copies that they call: each as one law of its call.
  A call of a Go function as one step of a region that draws its order, by the function's contract. For any program.
  What Put of package space does, as one law of its call.
-/
import Derived.Test.YtlefhfmckimlaaiGreatDoorShelf
import Derived.Test.YtlefhfmckimlaaiGreatDoorJ15A
import Derived.Test.YtlefhfmckimlaaiGreatDoorJ11A
import Derived.Laws.OwnMore
import Derived.Lib.SliceRun
import Derived.Deep.RegionLaw
import Derived.WalkKit
import Derived.Shelf.Abstract
import Derived.Deep.RegionHeld3
import Derived.Deep.DrawnRows
namespace Go.Proofs.YtlefhfmckimlaaiGreatDoor
open Go.RowKit

theorem infoV : (Tryz.prog.info? 107).map (fun i => (i.zero, i.size, i.bytes)) = some (some (.agg #[.int .i64 0, .int .i64 0, .string ⟨#[]⟩]), 3, 32) := by kernel_rfl
theorem infoT : (Tryz.prog.info? 35).map (fun i => (i.zero, i.size, i.bytes)) = some (some (.slice none 0 0), 1, 24) := by kernel_rfl

theorem cloneS (s : ByteArray) (w : World) (hs : s.size ≤ 281474976710656) : Calls Tryz.prog 33 #[.string s] w fun e w' => e = .returned (.string s) ∧ Below w.heap.size w w' := by
  go_enter Tryz.func33, Tryz.ntmps33
  go_wp2_with fail
  refine (Tryz.stringslite_Clone s _ hs).mono ?_
  rintro e w1 ⟨rfl, hb⟩
  go_wp2_with fail
  go_ret
  exact ⟨rfl, hb⟩

set_option maxRecDepth 100000 in
theorem cloneV (b off n cap : Nat) (l : List M.Val) (w : World) (hn : n = l.length) (h5 : n ≤ 5) (hl : Lie w b off l) :
    Calls Tryz.prog 65 #[.slice (some ⟨b, off, none⟩) n cap] w fun e w' => ∃ v, e = .returned v ∧ w'.ownsRow w.heap.size 107 3 v n (flat l) ∧ Below w.heap.size w w' := by
  obtain ⟨i0, hi, hz0, hz1, hz2⟩ := info_parts infoV
  have HI := hide (And.intro hi (And.intro hz0 (And.intro hz1 hz2)))
  have hlen : (flat l).length = n * 3 := by rw [flat_len, hn]
  have HFL := hide hlen
  have HNW : Hid (∀ j u, (flat l)[j]? = some u → (w.alloc (.cells #[] 107)).cell? ((⟨b, off, none⟩ : Addr).add j) = some u) := hide fun j u hu => by
    have h0 : 0 < l.length := by
      rcases Nat.eq_zero_or_pos l.length with h | h
      · have := List.length_eq_zero_iff.1 h; subst this; simp [flat] at hu
      · exact h
    exact lie_news (hl.stays h0 ((Below.refl _ _).alloc (Nat.le_refl _) _) (Nat.le_refl _)) j u hu
  have q : ∀ w : World, (binOp .eql 35 (.slice (some ⟨b, off, none⟩) n cap) (.slice none 0 0)).run Tryz.prog w = .ok (.bool false) w := fun w => Lib.run_eql_slice_nil w _ _ _ _ _ _ _ Tryz.underlying35
  clear hi hz0 hz1 hz2 hl hn hlen
  go_enter Tryz.func65, Tryz.ntmps65
  go_wp2_with (at_builtin; refine wpList_append_own _ rfl (.tmp 5) (.tmp 6) 35 rfl w.heap.size 107 i0 (.agg #[.int .i64 0, .int .i64 0, .string ⟨#[]⟩]) 3 32 Tryz.underlying35 HI.out.1 HI.out.2.1 HI.out.2.2.1 HI.out.2.2.2 rfl (by decide) _ 0 [] rfl (World.ownsRow_made w #[] 0 (Nat.le_refl _) (Nat.zero_le _) (by simp)) ⟨b, off, none⟩ n cap (flat l) rfl HFL.out HNW.out (flat_oneCell l) (by unfold maxLen; omega) (by omega) (by simp) ?_)
  intro v w1 hown hgrow _
  have HO := hide hown
  have hb1 : Hid (Below w.heap.size w w1) := hide (((Below.refl _ _).alloc (Nat.le_refl _) _).grown hgrow (by simp) (by intro k hk; simp [Value.ownBlock] at hk; omega))
  clear hown hgrow
  go_wp2
  go_ret
  exact ⟨v, rfl, by simpa using HO.out, hb1.out⟩

/-- a store of what was there leaves a row as it was -/
theorem set_self {l : List Value} {j : Nat} {u : Value} (h : l[j]? = some u) : l.set j u = l := by
  apply List.ext_getElem?
  intro i
  rw [List.getElem?_set]
  split
  · rename_i e
    subst e
    split
    · exact h.symm
    · rw [List.getElem?_eq_none (by omega)]
  · rfl

theorem freshL (v : Value) (l : List M.Val) (w : World) (h : IsVals w v l) (hk : M.likeF l = 0) :
    Calls Tryz.prog 46 #[v] w fun e w' => ∃ v', e = .returned v' ∧ OwnT w.heap.size w' v' l ∧ Below w.heap.size w w' := by
  obtain ⟨h0, h5⟩ := likeF_len hk
  have HT : Hid (∀ x ∈ l, x.s.size ≤ 12) := hide fun x hx => text_small (likeF_each hk x hx)
  obtain ⟨b, off, cap, rfl, _, _, hl⟩ := h.some h0
  obtain ⟨n, hn⟩ : ∃ n, n = l.length := ⟨_, rfl⟩
  rw [← hn] at h0 h5 ⊢
  have HC := hide (cloneV b off n cap l w hn h5 hl)
  have HN := hide hn
  clear h hk hl hn
  go_enter Tryz.func46, Tryz.ntmps46
  go_wp2_with fail
  refine (unhide HC).mono ?_
  rintro e w1 ⟨v, rfl, hown, hb1⟩
  obtain ⟨g, c, rfl, hg, hgl⟩ := hown.form h0
  have HO := hide hown
  have HB := hide hb1
  clear hown hb1
  go_wp2_with fail
  go_loopw [9] (fun i wr => ∃ k : Nat, k ≤ n ∧ i = .int .i64 k ∧ Hid (wr.ownsRow w.heap.size 107 3 (.slice (some ⟨g, 0, none⟩) n c) n (flat l)) ∧ Hid (Below w.heap.size w wr)) (fun i _ => n - (intOf i).toNat)
  case atStart => exact ⟨0, Nat.zero_le _, rfl, HO, HB⟩
  case round =>
    obtain ⟨k, hk, rfl, hO, hbel⟩ := hrel
    by_cases hlt : k < n
    · have hkl : k < l.length := HN.out ▸ hlt
      have hat := hide ((flat_at l k hkl).2.2)
      have c3 : wr.cell? ⟨g, k * 3 + 2, none⟩ = some (.string l[k].s) := by rw [hO.out.cellAt _ (by omega)]; exact hat.out
      have hgw : g < wr.heap.size := by
        rcases Nat.lt_or_ge g wr.heap.size with q | q
        · exact q
        · simp [World.cell?, Array.getElem?_eq_none q] at c3
      have fz : wr.frozen? ⟨g, k * 3 + 2, none⟩ = false := hO.out.frozenAt _
      have hs12 := hide (HT.out _ (List.getElem_mem hkl))
      go_wp2_with fail
      refine (cloneS _ _ (Nat.le_trans hs12.out (by decide))).mono ?_
      rintro e w2 ⟨rfl, hb2⟩
      obtain ⟨hc, hff⟩ := bcell hb2
      have HB2 := hide hb2
      clear hb2
      go_wp2_with fail
      go_roundw
      case rel =>
        have o2 : w2.ownsRow w.heap.size 107 3 (.slice (some ⟨g, 0, none⟩) n c) n (flat l) := ownsRow_solid hO.out (Solid.below HB2.out)
        have o3 := (o2.stored (k * 3 + 2) (.string l[k].s)).1
        rw [set_self hat.out] at o3
        exact ⟨k + 1, by omega, by go_num, hide o3, hide ((hbel.out.trans (HB2.out.mono hbel.out.size)).setCell hg _)⟩
      case measure => simp [intOf]; omega
    · go_wp2
      go_ret
      exact ⟨_, rfl, ⟨by rw [← HN.out]; exact hO.out, fun x hx => Nat.le_trans (HT.out x hx) (by unfold maxLen; decide)⟩, hbel.out⟩

theorem fresh (v : Value) (l : List M.Val) (w : World) (h : IsVals w v l) (hf : M.tupF l = 0) :
    Calls Tryz.prog 46 #[v] w fun e w' => ∃ v', e = .returned v' ∧ OwnT w.heap.size w' v' l ∧ Below w.heap.size w w' := freshL v l w h (tupF_ok hf).1

theorem freshAt (v : Value) (l : List M.Val) (w : World) (h : IsVals w v l) (hf : M.tupF l = 0) :
    Calls Tryz.prog 46 #[v] w fun e w' => ∃ g c, e = .returned (.slice (some ⟨g, 0, none⟩) l.length c) ∧ OwnT w.heap.size w' (.slice (some ⟨g, 0, none⟩) l.length c) l ∧ Below w.heap.size w w' := by
  refine (fresh v l w h hf).mono ?_
  rintro e w1 ⟨v', rfl, h1, h2⟩
  obtain ⟨g, c, rfl, _⟩ := h1.1.form (likeF_len (tupF_ok hf).1).1
  exact ⟨g, c, rfl, h1, h2⟩

theorem new (w : World) : Calls Tryz.prog 23 #[] w fun e w' => e = .returned (.pointer (some ⟨w.heap.size, 0, none⟩)) ∧ w' = w.alloc (.cells #[.slice none 0 0] 111) := by
  go_enter Tryz.func23, Tryz.ntmps23
  go_wp2
  go_ret
  exact ⟨rfl, rfl⟩

end Go.Proofs.YtlefhfmckimlaaiGreatDoor

namespace Go.Proofs.YtlefhfmckimlaaiGreatDoor
open Go.RowKit

theorem step_fn {P : Program} {ops : Array Oper} {o : Oper} {a : Act} {w : World} {K : Act → World → Prop} {Q : Exit → Act → World → Prop} {E : Prop} (hgd : o.guard = none) (f : FuncId) (xs : Array Operand) (ts : Array TypeId)
    (ho : o.op = .call { callee := .value (.func f), args := xs, argTypes := ts }) (vs : Array Value) (hv : xs.map a.eval = vs) (hE : Enters P f) (R : Value → World → Prop)
    (hC : Calls P f vs w fun e w' => ∃ v, e = .returned v ∧ R v w') (h : ∀ v w', R v w' → K (a.put o.dst v) w') : if Region.wanted o (yielded ops a.tmps) = true then Oper.wp P o a w K Q else E := by
  have hw : Region.wanted o (yielded ops a.tmps) = true := by simp [Region.wanted, hgd]
  rw [if_pos hw]
  unfold Oper.wp execOp
  subst hv
  have he := hE (xs.map a.eval) w
  simp only [ho, resolve, invoke, Act.eval, Deferred.ofValue, Sem.run_bind, Sem.run_pure, Result.andThen_ok, Array.append_empty, Array.empty_append]
  rw [he, Oper.upon_enter]
  refine hC.mono ?_
  rintro e w' ⟨v, rfl, hr⟩
  exact h v w' hr

end Go.Proofs.YtlefhfmckimlaaiGreatDoor

namespace Go.Proofs.YtlefhfmckimlaaiGreatDoor
open Go.RowKit
attribute [local go_sem ↓] Go.wp_at_zero Go.wp_at_succ

/-- a space of the call's own -/
abbrev Space (base : Nat) (w : World) (S : Nat) (v : Value) (L : List (List M.Val)) : Prop := Sp 111 (OwnT base w) base w S v L

theorem Space.stays {base S : Nat} {w w' : World} {v : Value} {L : List (List M.Val)} (h : Space base w S v L) (hb : Below w.heap.size w w') : Space base w' S v L := (Sp.quiet h hb).mono fun _ _ ho => ho.solid (Solid.below hb)
theorem Space.shape {base S : Nat} {w : World} {v : Value} {L : List (List M.Val)} (h : Space base w S v L) : ∃ ao cap, v = .slice ao L.length cap ∧ L.length ≤ maxLen := (h.row.tups fun _ _ ho => ho.vals).shape
theorem Sp.cell {T : TypeId} {Q : Value → List M.Val → Prop} {base S : Nat} {w : World} {v : Value} {L : List (List M.Val)} (h : Sp T Q base w S v L) : w.cell? ⟨S, 0, none⟩ = some v ∧ w.frozen? ⟨S, 0, none⟩ = false ∧ S < w.heap.size := by
  refine ⟨?_, ?_, heap_lt h.heap⟩
  · rw [cell_of_row w S 0 #[v] T (0, 0) h.heap]; rfl
  · exact frozen_of_row w S 0 #[v] T h.heap

/-- one tuple more in a space, in new memory -/
theorem Space.put {base S : Nat} {w w1 wA w3 : World} {v v' x : Value} {L : List (List M.Val)} {l : List M.Val} {xs : List Value} (hb : Below w.heap.size w w1) (hb2 : Below w1.heap.size w1 wA) (h : Space base wA S v L) (hx1 : wA.ownsRow base 35 1 v L.length xs) (hx2 : ∀ i (h1 : i < xs.length) (h2 : i < L.length), OwnT base wA xs[i] L[i])
    (hx : OwnT base wA x l) (hg : wA.grownBy w3 v.ownBlock) (ho : w3.ownsRow base 35 1 v' (L.length + 1) (xs ++ [x])) (hn : Near wA v v') :
    Space base (w3.setCell ⟨S, 0, none⟩ v') S v' (L ++ [l]) ∧ Touch S v w (w3.setCell ⟨S, 0, none⟩ v') ∧ Near w v v' := by
  have hlen : xs.length = L.length := by have := hx1.1; omega
  obtain ⟨h1, h2⟩ := Sp.stored (by decide) h hg (RowOf.snoc hx2 hlen ho hx) hn
  have hs := Sp.solid h (by decide) h2
  exact ⟨h1.mono fun _ _ ho => ho.solid hs, (h2.after hb2).after hb, hn.mono (Nat.le_trans hb.size hb2.size)⟩

theorem put_bad (S : Nat) (t : Value) (l : List M.Val) (w : World) (ht : IsVals w t l) (hf : M.tupF l ≠ 0) :
    Calls Tryz.prog 54 #[.pointer (some ⟨S, 0, none⟩), t] w fun e w' => e = .returned (errV (M.tupF l)) ∧ Below w.heap.size w w' := by
  have HC : Hid (Calls Tryz.prog 72 #[t] w fun e w' => e = .returned (.iface 74 (.int .i64 (M.tupF l))) ∧ Below w.heap.size w w') := hide (by rw [← errV_bad hf]; exact tcheck t l w ht)
  have HF := hide hf
  clear hf ht
  go_enter Tryz.func54, Tryz.ntmps54
  go_wp2_with fail
  refine (unhide HC).mono ?_
  rintro e w1 ⟨rfl, hb1⟩
  go_wp2_with fail
  go_ret
  exact ⟨by rw [errV_bad HF.out]; rfl, hb1⟩

theorem put_full (S n cap : Nat) (ao : Option Addr) (t : Value) (l : List M.Val) (w : World) (ht : IsVals w t l) (hf : M.tupF l = 0) (hS : S < w.heap.size) (hc : w.cell? ⟨S, 0, none⟩ = some (.slice ao n cap)) (hn : 20 ≤ n) (hm : n ≤ maxLen) :
    Calls Tryz.prog 54 #[.pointer (some ⟨S, 0, none⟩), t] w fun e w' => e = .returned (errV 4) ∧ Below w.heap.size w w' := by
  unfold maxLen at hm
  have HC : Hid (Calls Tryz.prog 72 #[t] w fun e w' => e = .returned .nilIface ∧ Below w.heap.size w w') := hide (by have := tcheck t l w ht; rwa [hf] at this)
  have h20 : (20 : Int) ≤ (n : Int) := by omega
  have HS := hide hS
  have HCe := hide hc
  clear hf ht hc
  go_enter Tryz.func54, Tryz.ntmps54
  go_wp2_with fail
  refine (unhide HC).mono ?_
  rintro e w1 ⟨rfl, hb1⟩
  have c1 : w1.cell? ⟨S, 0, none⟩ = some (.slice ao n cap) := (hb1.cell (p := ⟨S, 0, none⟩) HS.out).trans HCe.out
  go_wp2_with fail
  go_ret
  exact ⟨rfl, hb1⟩

set_option maxHeartbeats 1000000 in
set_option maxRecDepth 100000 in
theorem put_ok (base S n cap : Nat) (ao : Option Addr) (t : Value) (l : List M.Val) (L : List (List M.Val)) (w : World) (hs : Space base w S (.slice ao n cap) L) (ht : IsVals w t l) (hf : M.tupF l = 0) (hL : n = L.length) (hn : n < 20) :
    Calls Tryz.prog 54 #[.pointer (some ⟨S, 0, none⟩), t] w fun e w' => e = .returned .nilIface ∧ ∃ v', Space base w' S v' (L ++ [l]) ∧ Touch S (.slice ao n cap) w w' ∧ Near w (.slice ao n cap) v' := by
  obtain ⟨i0, hi, hz0, hz1, hz2⟩ := info_parts infoT
  have HI := hide (And.intro hi (And.intro hz0 (And.intro hz1 hz2)))
  have HC : Hid (Calls Tryz.prog 72 #[t] w fun e w' => e = .returned .nilIface ∧ Below w.heap.size w w') := hide (by have := tcheck t l w ht; rwa [hf] at this)
  have h20 : ¬ (20 : Int) ≤ (n : Int) := by omega
  obtain ⟨hc, hfz, hS⟩ := hs.cell
  have HS := hide hS
  have HP := hide hs
  have HT := hide ht
  have HF := hide hf
  have HL := hide hL
  clear hf ht hc hfz hs hL hi hz0 hz1 hz2
  go_enter Tryz.func54, Tryz.ntmps54
  go_wp2_with fail
  refine (unhide HC).mono ?_
  rintro e w1 ⟨rfl, hb1⟩
  have HP1 := hide (Space.stays HP.out hb1)
  have HT1 := hide (HT.out.stays hb1 (Nat.le_refl _))
  obtain ⟨c1, f1, s1⟩ := HP1.out.cell
  have HB1 := hide hb1
  clear hb1
  have HG : Hid (Calls Tryz.prog 46 #[t] w1.drew fun e w' => ∃ v', e = .returned v' ∧ ∃ g c, v' = .slice (some ⟨g, 0, none⟩) l.length c ∧ OwnT w1.drew.heap.size w' (.slice (some ⟨g, 0, none⟩) l.length c) l ∧ Below w1.drew.heap.size w1.drew w') := hide ((freshAt t l w1.drew HT1.out HF.out).mono fun e w' ⟨g, c, h1, h2⟩ => ⟨_, h1, g, c, rfl, h2⟩)
  have HE : Hid (Enters Tryz.prog 46) := hide (enters_of Tryz.func46 (by kernel_rfl) rfl)
  go_wp2_with fail
  go_region_law
    (first
      | (refine step_fn (by rfl) 46 #[.tmp 23] #[35] (by rfl) #[t] (by simp [Act.eval, Act.put]) HE.out _ HG.out ?_
         rintro v2 w2 ⟨g2, k2, rfl, hO2, hb2⟩
         have HB2 := hide ((Below.refl w1.heap.size w1).drew.trans hb2)
         have HP2 := hide (Space.stays HP1.out HB2.out)
         have HP3 := hide (Space.stays HP2.out ((Below.refl _ _).alloc (Nat.le_refl _) (.cells #[.slice (some ⟨g2, 0, none⟩) l.length k2] 35)))
         have hne := hide (HP2.out.row_ne (by decide))
         obtain ⟨xs, hx1, hx2⟩ := HP3.out.row
         rw [← HL.out] at hx1
         have HX := hide hx1
         have HX2 := hide hx2
         obtain ⟨c2, f2, s2⟩ := HP2.out.cell
         have HB := hide (Nat.le_trans HP3.out.lo (Nat.le_of_lt HP3.out.cell.2.2))
         have HNW : Hid (∀ j u, [Value.slice (some ⟨g2, 0, none⟩) l.length k2][j]? = some u → (w2.alloc (.cells #[.slice (some ⟨g2, 0, none⟩) l.length k2] 35)).cell? ((⟨w2.heap.size, 0, none⟩ : Addr).add j) = some u) := hide (World.news_of_block (heap_alloc_new w2 _))
         have HO2 := hide hO2
         clear hx1 hx2 hO2 hb2)
      | (refine step_append_lies _ (by rfl) (.tmp 22) (.tmp 25) 43 (by rfl) base 35 i0 (.slice none 0 0) 1 24 Tryz.underlying43 HI.out.1 HI.out.2.1 HI.out.2.2.1 HI.out.2.2.2 rfl (by decide) (.slice ao n cap) n xs (by simp [Act.eval]) HX.out ⟨w2.heap.size, 0, none⟩ 1 1 [.slice (some ⟨g2, 0, none⟩) l.length k2] (by simp [Act.eval]) rfl HNW.out (by intro u hu; simp at hu; subst hu; rfl) (by decide) (by unfold maxLen; omega) (by omega) HB.out (w2.heap.size + 1) (by simp) ?_
         intro g3 k3 w3 hown3 hgrow3 hat3 hlt3
         have c4 : w3.cell? ⟨S, 0, none⟩ = some (.slice ao n cap) := hgrow3.cell HP3.out.cell.1 (fun e => hne.out e.symm)
         have f4 : w3.frozen? ⟨S, 0, none⟩ = false := (World.frozen?_of_block (hgrow3.block S HP3.out.cell.2.2 (fun e => hne.out e.symm))).trans HP3.out.cell.2.1
         have HO3 := hide hown3
         have HG3 := hide hgrow3
         clear hown3 hgrow3))
  all_goals
    go_wp2_with fail
    go_ret
    refine ⟨rfl, _, Space.put (xs := xs) (x := .slice (some ⟨g2, 0, none⟩) l.length k2) HB1.out (HB2.out.alloc HB2.out.size _) HP3.out (HL.out ▸ HX.out) HX2.out ?_ HG3.out (HL.out ▸ HO3.out) ?_⟩
    · exact (HO2.out.mono (Nat.le_trans HP1.out.lo (Nat.le_of_lt s1))).solid (Solid.below ((Below.refl _ _).alloc (Nat.le_refl _) _))
    · rcases hat3 with h | h
      · exact Or.inl h.symm
      · refine Or.inr fun k hk => ?_
        have : g3 = k := by simpa [Value.ownBlock] using hk
        simp; omega

theorem put (base S : Nat) (v t : Value) (l : List M.Val) (L : List (List M.Val)) (w : World) (hs : Space base w S v L) (ht : IsVals w t l) :
    Calls Tryz.prog 54 #[.pointer (some ⟨S, 0, none⟩), t] w fun e w' => e = .returned (errV (M.putF L l)) ∧ ∃ v', Space base w' S v' (M.putL L l) ∧ Touch S v w w' ∧ Near w v v' := by
  by_cases hf : M.tupF l = 0
  · obtain ⟨ao, cap, rfl, hm⟩ := hs.shape
    obtain ⟨hc, _, hS⟩ := hs.cell
    by_cases hn : L.length < 20
    · rw [putF_ok hf hn, putL_yes (putF_ok hf hn)]
      exact put_ok base S L.length cap ao t l L w hs ht hf rfl hn
    · have e4 := putF_full (L := L) hf (by omega)
      rw [e4, putL_no (by rw [e4]; decide)]
      refine (put_full S L.length cap ao t l w ht hf hS hc (by omega) hm).mono ?_
      rintro e w' ⟨rfl, hb⟩
      exact ⟨rfl, _, hs.stays hb, Touch.of_below hb, Near.refl _ _⟩
  · rw [putF_bad hf, putL_no (by rw [putF_bad hf]; exact hf)]
    refine (put_bad S t l w ht hf).mono ?_
    rintro e w' ⟨rfl, hb⟩
    exact ⟨rfl, _, hs.stays hb, Touch.of_below hb, Near.refl _ _⟩

end Go.Proofs.YtlefhfmckimlaaiGreatDoor
