/-
  What Fresh of package tuple and New of package space do, with the library's copies that they call: each as one law of its call.
  A call of a Go function as one step of a region that draws its order, by the function's contract. For any program.
  What Put of package space does, as one law of its call.
  What fitting and oldest of package space do, with the library's search that they call: each as one law of its call.
  What Read and Take of package space do, each as one law of its call.
  What Count and All of package space do, each as one law of its call.
  Tuples and lists of tuples that a law writes down itself; that two lists are the same.
  What is left of a list of tuples when all of it that fits is taken away, one behind the other; lists that a law puts together beside a space.
-/
import Derived.Test.YtlefhfmckimlaakGreatDoorShelf
import Derived.Test.YtlefhfmckimlaakGreatDoorJSp
import Derived.Laws.OwnMore
import Derived.Lib.SliceRun
import Derived.Deep.RegionLaw
import Derived.WalkKit
import Derived.Shelf.Abstract
import Derived.Deep.RegionHeld3
import Derived.Deep.DrawnRows
import Derived.Shelf.SlicesE.Delete
namespace Go.Proofs.YtlefhfmckimlaakGreatDoor
open Go.RowKit

theorem infoV : (Tryz.prog.info? 31).map (fun i => (i.zero, i.size, i.bytes)) = some (some (.agg #[.int .i64 0, .int .i64 0, .string ⟨#[]⟩]), 3, 32) := by kernel_rfl
theorem infoT : (Tryz.prog.info? 32).map (fun i => (i.zero, i.size, i.bytes)) = some (some (.slice none 0 0), 1, 24) := by kernel_rfl

theorem cloneS (s : ByteArray) (w : World) (hs : s.size ≤ 281474976710656) : Calls Tryz.prog 61 #[.string s] w fun e w' => e = .returned (.string s) ∧ Below w.heap.size w w' := by
  go_enter Tryz.func61, Tryz.ntmps61
  go_wp2_with fail
  refine (Tryz.stringslite_Clone s _ hs).mono ?_
  rintro e w1 ⟨rfl, hb⟩
  go_wp2_with fail
  go_ret
  exact ⟨rfl, hb⟩

set_option maxRecDepth 100000 in
theorem cloneV (b off n cap : Nat) (l : List M.Val) (w : World) (hn : n = l.length) (h5 : n ≤ 5) (hl : Lie w b off l) :
    Calls Tryz.prog 100 #[.slice (some ⟨b, off, none⟩) n cap] w fun e w' => ∃ v, e = .returned v ∧ w'.ownsRow w.heap.size 31 3 v n (flat l) ∧ Below w.heap.size w w' := by
  obtain ⟨i0, hi, hz0, hz1, hz2⟩ := info_parts infoV
  have HI := hide (And.intro hi (And.intro hz0 (And.intro hz1 hz2)))
  have hlen : (flat l).length = n * 3 := by rw [flat_len, hn]
  have HFL := hide hlen
  have HNW : Hid (∀ j u, (flat l)[j]? = some u → (w.alloc (.cells #[] 31)).cell? ((⟨b, off, none⟩ : Addr).add j) = some u) := hide fun j u hu => by
    have h0 : 0 < l.length := by
      rcases Nat.eq_zero_or_pos l.length with h | h
      · have := List.length_eq_zero_iff.1 h; subst this; simp [flat] at hu
      · exact h
    exact lie_news (hl.stays h0 ((Below.refl _ _).alloc (Nat.le_refl _) _) (Nat.le_refl _)) j u hu
  have q : ∀ w : World, (binOp .eql 32 (.slice (some ⟨b, off, none⟩) n cap) (.slice none 0 0)).run Tryz.prog w = .ok (.bool false) w := fun w => Lib.run_eql_slice_nil w _ _ _ _ _ _ _ Tryz.underlying32
  clear hi hz0 hz1 hz2 hl hn hlen
  go_enter Tryz.func100, Tryz.ntmps100
  go_wp2_with (at_builtin; refine wpList_append_own _ rfl (.tmp 5) (.tmp 6) 32 rfl w.heap.size 31 i0 (.agg #[.int .i64 0, .int .i64 0, .string ⟨#[]⟩]) 3 32 Tryz.underlying32 HI.out.1 HI.out.2.1 HI.out.2.2.1 HI.out.2.2.2 rfl (by decide) _ 0 [] rfl (World.ownsRow_made w #[] 0 (Nat.le_refl _) (Nat.zero_le _) (by simp)) ⟨b, off, none⟩ n cap (flat l) rfl HFL.out HNW.out (flat_oneCell l) (by unfold maxLen; omega) (by omega) (by simp) ?_)
  intro v w1 hown hgrow _
  have HO := hide hown
  have hb1 : Hid (Below w.heap.size w w1) := hide (((Below.refl _ _).alloc (Nat.le_refl _) _).grown hgrow (by simp) (by intro k hk; simp [Value.ownBlock] at hk; omega))
  clear hown hgrow
  go_wp2
  go_ret
  exact ⟨v, rfl, by simpa using HO.out, hb1.out⟩

/-- a store of what was there leaves a row as it was -/
theorem set_self {l : List Value} {j : Nat} {u : Value} (h : l[j]? = some u) : l.set j u = l := by
  apply List.ext_getElem?
  intro i
  rw [List.getElem?_set]
  split
  · rename_i e
    subst e
    split
    · exact h.symm
    · rw [List.getElem?_eq_none (by omega)]
  · rfl

theorem freshL (v : Value) (l : List M.Val) (w : World) (h : IsVals w v l) (hk : M.likeF l = 0) :
    Calls Tryz.prog 58 #[v] w fun e w' => ∃ v', e = .returned v' ∧ OwnT w.heap.size w' v' l ∧ Below w.heap.size w w' := by
  obtain ⟨h0, h5⟩ := likeF_len hk
  have HT : Hid (∀ x ∈ l, x.s.size ≤ 12) := hide fun x hx => text_small (likeF_each hk x hx)
  obtain ⟨b, off, cap, rfl, _, _, hl⟩ := h.some h0
  obtain ⟨n, hn⟩ : ∃ n, n = l.length := ⟨_, rfl⟩
  rw [← hn] at h0 h5 ⊢
  have HC := hide (cloneV b off n cap l w hn h5 hl)
  have HN := hide hn
  clear h hk hl hn
  go_enter Tryz.func58, Tryz.ntmps58
  go_wp2_with fail
  refine (unhide HC).mono ?_
  rintro e w1 ⟨v, rfl, hown, hb1⟩
  obtain ⟨g, c, rfl, hg, hgl⟩ := hown.form h0
  have HO := hide hown
  have HB := hide hb1
  clear hown hb1
  go_wp2_with fail
  go_loopw [9] (fun i wr => ∃ k : Nat, k ≤ n ∧ i = .int .i64 k ∧ Hid (wr.ownsRow w.heap.size 31 3 (.slice (some ⟨g, 0, none⟩) n c) n (flat l)) ∧ Hid (Below w.heap.size w wr)) (fun i _ => n - (intOf i).toNat)
  case atStart => exact ⟨0, Nat.zero_le _, rfl, HO, HB⟩
  case round =>
    obtain ⟨k, hk, rfl, hO, hbel⟩ := hrel
    by_cases hlt : k < n
    · have hkl : k < l.length := HN.out ▸ hlt
      have hat := hide ((flat_at l k hkl).2.2)
      have c3 : wr.cell? ⟨g, k * 3 + 2, none⟩ = some (.string l[k].s) := by rw [hO.out.cellAt _ (by omega)]; exact hat.out
      have hgw : g < wr.heap.size := by
        rcases Nat.lt_or_ge g wr.heap.size with q | q
        · exact q
        · simp [World.cell?, Array.getElem?_eq_none q] at c3
      have fz : wr.frozen? ⟨g, k * 3 + 2, none⟩ = false := hO.out.frozenAt _
      have hs12 := hide (HT.out _ (List.getElem_mem hkl))
      go_wp2_with fail
      refine (cloneS _ _ (Nat.le_trans hs12.out (by decide))).mono ?_
      rintro e w2 ⟨rfl, hb2⟩
      obtain ⟨hc, hff⟩ := bcell hb2
      have HB2 := hide hb2
      clear hb2
      go_wp2_with fail
      go_roundw
      case rel =>
        have o2 : w2.ownsRow w.heap.size 31 3 (.slice (some ⟨g, 0, none⟩) n c) n (flat l) := ownsRow_solid hO.out (Solid.below HB2.out)
        have o3 := (o2.stored (k * 3 + 2) (.string l[k].s)).1
        rw [set_self hat.out] at o3
        exact ⟨k + 1, by omega, by go_num, hide o3, hide ((hbel.out.trans (HB2.out.mono hbel.out.size)).setCell hg _)⟩
      case measure => simp [intOf]; omega
    · go_wp2
      go_ret
      exact ⟨_, rfl, ⟨by rw [← HN.out]; exact hO.out, fun x hx => Nat.le_trans (HT.out x hx) (by unfold maxLen; decide)⟩, hbel.out⟩

theorem fresh (v : Value) (l : List M.Val) (w : World) (h : IsVals w v l) (hf : M.tupF l = 0) :
    Calls Tryz.prog 58 #[v] w fun e w' => ∃ v', e = .returned v' ∧ OwnT w.heap.size w' v' l ∧ Below w.heap.size w w' := freshL v l w h (tupF_ok hf).1

theorem freshAt (v : Value) (l : List M.Val) (w : World) (h : IsVals w v l) (hf : M.tupF l = 0) :
    Calls Tryz.prog 58 #[v] w fun e w' => ∃ g c, e = .returned (.slice (some ⟨g, 0, none⟩) l.length c) ∧ OwnT w.heap.size w' (.slice (some ⟨g, 0, none⟩) l.length c) l ∧ Below w.heap.size w w' := by
  refine (fresh v l w h hf).mono ?_
  rintro e w1 ⟨v', rfl, h1, h2⟩
  obtain ⟨g, c, rfl, _⟩ := h1.1.form (likeF_len (tupF_ok hf).1).1
  exact ⟨g, c, rfl, h1, h2⟩

theorem new (w : World) : Calls Tryz.prog 52 #[] w fun e w' => e = .returned (.pointer (some ⟨w.heap.size, 0, none⟩)) ∧ w' = w.alloc (.cells #[.slice none 0 0] 162) := by
  go_enter Tryz.func52, Tryz.ntmps52
  go_wp2
  go_ret
  exact ⟨rfl, rfl⟩

end Go.Proofs.YtlefhfmckimlaakGreatDoor

namespace Go.Proofs.YtlefhfmckimlaakGreatDoor
open Go.RowKit

theorem step_fn {P : Program} {ops : Array Oper} {o : Oper} {a : Act} {w : World} {K : Act → World → Prop} {Q : Exit → Act → World → Prop} {E : Prop} (hgd : o.guard = none) (f : FuncId) (xs : Array Operand) (ts : Array TypeId)
    (ho : o.op = .call { callee := .value (.func f), args := xs, argTypes := ts }) (vs : Array Value) (hv : xs.map a.eval = vs) (hE : Enters P f) (R : Value → World → Prop)
    (hC : Calls P f vs w fun e w' => ∃ v, e = .returned v ∧ R v w') (h : ∀ v w', R v w' → K (a.put o.dst v) w') : if Region.wanted o (yielded ops a.tmps) = true then Oper.wp P o a w K Q else E := by
  have hw : Region.wanted o (yielded ops a.tmps) = true := by simp [Region.wanted, hgd]
  rw [if_pos hw]
  unfold Oper.wp execOp
  subst hv
  have he := hE (xs.map a.eval) w
  simp only [ho, resolve, invoke, Act.eval, Deferred.ofValue, Sem.run_bind, Sem.run_pure, Result.andThen_ok, Array.append_empty, Array.empty_append]
  rw [he, Oper.upon_enter]
  refine hC.mono ?_
  rintro e w' ⟨v, rfl, hr⟩
  exact h v w' hr

end Go.Proofs.YtlefhfmckimlaakGreatDoor

namespace Go.Proofs.YtlefhfmckimlaakGreatDoor
open Go.RowKit
attribute [local go_sem ↓] Go.wp_at_zero Go.wp_at_succ

/-- a space of the call's own -/
abbrev Space (base : Nat) (w : World) (S : Nat) (v : Value) (L : List (List M.Val)) : Prop := Sp 162 (OwnT base w) base w S v L

theorem Space.stays {base S : Nat} {w w' : World} {v : Value} {L : List (List M.Val)} (h : Space base w S v L) (hb : Below w.heap.size w w') : Space base w' S v L := (Sp.quiet h hb).mono fun _ _ ho => ho.solid (Solid.below hb)
theorem Space.shape {base S : Nat} {w : World} {v : Value} {L : List (List M.Val)} (h : Space base w S v L) : ∃ ao cap, v = .slice ao L.length cap ∧ L.length ≤ maxLen := (h.row.tups fun _ _ ho => ho.vals).shape
theorem Sp.cell {T : TypeId} {Q : Value → List M.Val → Prop} {base S : Nat} {w : World} {v : Value} {L : List (List M.Val)} (h : Sp T Q base w S v L) : w.cell? ⟨S, 0, none⟩ = some v ∧ w.frozen? ⟨S, 0, none⟩ = false ∧ S < w.heap.size := by
  refine ⟨?_, ?_, heap_lt h.heap⟩
  · rw [cell_of_row w S 0 #[v] T (0, 0) h.heap]; rfl
  · exact frozen_of_row w S 0 #[v] T h.heap

/-- one tuple more in a space, in new memory -/
theorem Space.put {base S : Nat} {w w1 wA w3 : World} {v v' x : Value} {L : List (List M.Val)} {l : List M.Val} {xs : List Value} (hb : Below w.heap.size w w1) (hb2 : Below w1.heap.size w1 wA) (h : Space base wA S v L) (hx1 : wA.ownsRow base 32 1 v L.length xs) (hx2 : ∀ i (h1 : i < xs.length) (h2 : i < L.length), OwnT base wA xs[i] L[i])
    (hx : OwnT base wA x l) (hg : wA.grownBy w3 v.ownBlock) (ho : w3.ownsRow base 32 1 v' (L.length + 1) (xs ++ [x])) (hn : Near wA v v') :
    Space base (w3.setCell ⟨S, 0, none⟩ v') S v' (L ++ [l]) ∧ Touch S v w (w3.setCell ⟨S, 0, none⟩ v') ∧ Near w v v' := by
  have hlen : xs.length = L.length := by have := hx1.1; omega
  obtain ⟨h1, h2⟩ := Sp.stored (by decide) h hg (RowOf.snoc hx2 hlen ho hx) hn
  have hs := Sp.solid h (by decide) h2
  exact ⟨h1.mono fun _ _ ho => ho.solid hs, (h2.after hb2).after hb, hn.mono (Nat.le_trans hb.size hb2.size)⟩

theorem put_bad (S : Nat) (t : Value) (l : List M.Val) (w : World) (ht : IsVals w t l) (hf : M.tupF l ≠ 0) :
    Calls Tryz.prog 53 #[.pointer (some ⟨S, 0, none⟩), t] w fun e w' => e = .returned (errV (M.tupF l)) ∧ Below w.heap.size w w' := by
  have HC : Hid (Calls Tryz.prog 92 #[t] w fun e w' => e = .returned (.iface 87 (.int .i64 (M.tupF l))) ∧ Below w.heap.size w w') := hide (by rw [← errV_bad hf]; exact tcheck t l w ht)
  have HF := hide hf
  clear hf ht
  go_enter Tryz.func53, Tryz.ntmps53
  go_wp2_with fail
  refine (unhide HC).mono ?_
  rintro e w1 ⟨rfl, hb1⟩
  go_wp2_with fail
  go_ret
  exact ⟨by rw [errV_bad HF.out]; rfl, hb1⟩

theorem put_full (S n cap : Nat) (ao : Option Addr) (t : Value) (l : List M.Val) (w : World) (ht : IsVals w t l) (hf : M.tupF l = 0) (hS : S < w.heap.size) (hc : w.cell? ⟨S, 0, none⟩ = some (.slice ao n cap)) (hn : 20 ≤ n) (hm : n ≤ maxLen) :
    Calls Tryz.prog 53 #[.pointer (some ⟨S, 0, none⟩), t] w fun e w' => e = .returned (errV 4) ∧ Below w.heap.size w w' := by
  unfold maxLen at hm
  have HC : Hid (Calls Tryz.prog 92 #[t] w fun e w' => e = .returned .nilIface ∧ Below w.heap.size w w') := hide (by have := tcheck t l w ht; rwa [hf] at this)
  have h20 : (20 : Int) ≤ (n : Int) := by omega
  have HS := hide hS
  have HCe := hide hc
  clear hf ht hc
  go_enter Tryz.func53, Tryz.ntmps53
  go_wp2_with fail
  refine (unhide HC).mono ?_
  rintro e w1 ⟨rfl, hb1⟩
  have c1 : w1.cell? ⟨S, 0, none⟩ = some (.slice ao n cap) := (hb1.cell (p := ⟨S, 0, none⟩) HS.out).trans HCe.out
  go_wp2_with fail
  go_ret
  exact ⟨rfl, hb1⟩

set_option maxHeartbeats 1000000 in
set_option maxRecDepth 100000 in
theorem put_ok (base S n cap : Nat) (ao : Option Addr) (t : Value) (l : List M.Val) (L : List (List M.Val)) (w : World) (hs : Space base w S (.slice ao n cap) L) (ht : IsVals w t l) (hf : M.tupF l = 0) (hL : n = L.length) (hn : n < 20) :
    Calls Tryz.prog 53 #[.pointer (some ⟨S, 0, none⟩), t] w fun e w' => e = .returned .nilIface ∧ ∃ v', Space base w' S v' (L ++ [l]) ∧ Touch S (.slice ao n cap) w w' ∧ Near w (.slice ao n cap) v' := by
  obtain ⟨i0, hi, hz0, hz1, hz2⟩ := info_parts infoT
  have HI := hide (And.intro hi (And.intro hz0 (And.intro hz1 hz2)))
  have HC : Hid (Calls Tryz.prog 92 #[t] w fun e w' => e = .returned .nilIface ∧ Below w.heap.size w w') := hide (by have := tcheck t l w ht; rwa [hf] at this)
  have h20 : ¬ (20 : Int) ≤ (n : Int) := by omega
  obtain ⟨hc, hfz, hS⟩ := hs.cell
  have HS := hide hS
  have HP := hide hs
  have HT := hide ht
  have HF := hide hf
  have HL := hide hL
  clear hf ht hc hfz hs hL hi hz0 hz1 hz2
  go_enter Tryz.func53, Tryz.ntmps53
  go_wp2_with fail
  refine (unhide HC).mono ?_
  rintro e w1 ⟨rfl, hb1⟩
  have HP1 := hide (Space.stays HP.out hb1)
  have HT1 := hide (HT.out.stays hb1 (Nat.le_refl _))
  obtain ⟨c1, f1, s1⟩ := HP1.out.cell
  have HB1 := hide hb1
  clear hb1
  have HG : Hid (Calls Tryz.prog 58 #[t] w1.drew fun e w' => ∃ v', e = .returned v' ∧ ∃ g c, v' = .slice (some ⟨g, 0, none⟩) l.length c ∧ OwnT w1.drew.heap.size w' (.slice (some ⟨g, 0, none⟩) l.length c) l ∧ Below w1.drew.heap.size w1.drew w') := hide ((freshAt t l w1.drew HT1.out HF.out).mono fun e w' ⟨g, c, h1, h2⟩ => ⟨_, h1, g, c, rfl, h2⟩)
  have HE : Hid (Enters Tryz.prog 58) := hide (enters_of Tryz.func58 (by kernel_rfl) rfl)
  go_wp2_with fail
  go_region_law
    (first
      | (refine step_fn (by rfl) 58 #[.tmp 23] #[32] (by rfl) #[t] (by simp [Act.eval, Act.put]) HE.out _ HG.out ?_
         rintro v2 w2 ⟨g2, k2, rfl, hO2, hb2⟩
         have HB2 := hide ((Below.refl w1.heap.size w1).drew.trans hb2)
         have HP2 := hide (Space.stays HP1.out HB2.out)
         have HP3 := hide (Space.stays HP2.out ((Below.refl _ _).alloc (Nat.le_refl _) (.cells #[.slice (some ⟨g2, 0, none⟩) l.length k2] 32)))
         have hne := hide (HP2.out.row_ne (by decide))
         obtain ⟨xs, hx1, hx2⟩ := HP3.out.row
         rw [← HL.out] at hx1
         have HX := hide hx1
         have HX2 := hide hx2
         obtain ⟨c2, f2, s2⟩ := HP2.out.cell
         have HB := hide (Nat.le_trans HP3.out.lo (Nat.le_of_lt HP3.out.cell.2.2))
         have HNW : Hid (∀ j u, [Value.slice (some ⟨g2, 0, none⟩) l.length k2][j]? = some u → (w2.alloc (.cells #[.slice (some ⟨g2, 0, none⟩) l.length k2] 32)).cell? ((⟨w2.heap.size, 0, none⟩ : Addr).add j) = some u) := hide (World.news_of_block (heap_alloc_new w2 _))
         have HO2 := hide hO2
         clear hx1 hx2 hO2 hb2)
      | (refine step_append_lies _ (by rfl) (.tmp 22) (.tmp 25) 76 (by rfl) base 32 i0 (.slice none 0 0) 1 24 Tryz.underlying76 HI.out.1 HI.out.2.1 HI.out.2.2.1 HI.out.2.2.2 rfl (by decide) (.slice ao n cap) n xs (by simp [Act.eval]) HX.out ⟨w2.heap.size, 0, none⟩ 1 1 [.slice (some ⟨g2, 0, none⟩) l.length k2] (by simp [Act.eval]) rfl HNW.out (by intro u hu; simp at hu; subst hu; rfl) (by decide) (by unfold maxLen; omega) (by omega) HB.out (w2.heap.size + 1) (by simp) ?_
         intro g3 k3 w3 hown3 hgrow3 hat3 hlt3
         have c4 : w3.cell? ⟨S, 0, none⟩ = some (.slice ao n cap) := hgrow3.cell HP3.out.cell.1 (fun e => hne.out e.symm)
         have f4 : w3.frozen? ⟨S, 0, none⟩ = false := (World.frozen?_of_block (hgrow3.block S HP3.out.cell.2.2 (fun e => hne.out e.symm))).trans HP3.out.cell.2.1
         have HO3 := hide hown3
         have HG3 := hide hgrow3
         clear hown3 hgrow3))
  all_goals
    go_wp2_with fail
    go_ret
    refine ⟨rfl, _, Space.put (xs := xs) (x := .slice (some ⟨g2, 0, none⟩) l.length k2) HB1.out (HB2.out.alloc HB2.out.size _) HP3.out (HL.out ▸ HX.out) HX2.out ?_ HG3.out (HL.out ▸ HO3.out) ?_⟩
    · exact (HO2.out.mono (Nat.le_trans HP1.out.lo (Nat.le_of_lt s1))).solid (Solid.below ((Below.refl _ _).alloc (Nat.le_refl _) _))
    · rcases hat3 with h | h
      · exact Or.inl h.symm
      · refine Or.inr fun k hk => ?_
        have : g3 = k := by simpa [Value.ownBlock] using hk
        simp; omega

theorem put (base S : Nat) (v t : Value) (l : List M.Val) (L : List (List M.Val)) (w : World) (hs : Space base w S v L) (ht : IsVals w t l) :
    Calls Tryz.prog 53 #[.pointer (some ⟨S, 0, none⟩), t] w fun e w' => e = .returned (errV (M.putF L l)) ∧ ∃ v', Space base w' S v' (M.putL L l) ∧ Touch S v w w' ∧ Near w v v' := by
  by_cases hf : M.tupF l = 0
  · obtain ⟨ao, cap, rfl, hm⟩ := hs.shape
    obtain ⟨hc, _, hS⟩ := hs.cell
    by_cases hn : L.length < 20
    · rw [putF_ok hf hn, putL_yes (putF_ok hf hn)]
      exact put_ok base S L.length cap ao t l L w hs ht hf rfl hn
    · have e4 := putF_full (L := L) hf (by omega)
      rw [e4, putL_no (by rw [e4]; decide)]
      refine (put_full S L.length cap ao t l w ht hf hS hc (by omega) hm).mono ?_
      rintro e w' ⟨rfl, hb⟩
      exact ⟨rfl, _, hs.stays hb, Touch.of_below hb, Near.refl _ _⟩
  · rw [putF_bad hf, putL_no (by rw [putF_bad hf]; exact hf)]
    refine (put_bad S t l w ht hf).mono ?_
    rintro e w' ⟨rfl, hb⟩
    exact ⟨rfl, _, hs.stays hb, Touch.of_below hb, Near.refl _ _⟩

end Go.Proofs.YtlefhfmckimlaakGreatDoor

namespace Go.Proofs.YtlefhfmckimlaakGreatDoor
open Go.RowKit
attribute [local go_sem ↓] Go.wp_at_zero Go.wp_at_succ

/-- the answer of the search: where, or -1 -/
def M.place (a : List M.Val) (L : List (List M.Val)) : Int := if M.spot a L < L.length then M.spot a L else -1

theorem fitsOk (v1 v2 : Value) (a l : List M.Val) (w : World) (h1 : IsVals w v1 a) (h2 : IsVals w v2 l) (ha : M.likeF a = 0) (hl : M.tupF l = 0) :
    Calls Tryz.prog 165 #[v1, v2] w fun e w' => e = .returned (.tuple #[.bool (M.fitAll a l), .nilIface]) ∧ Below w.heap.size w w' := by
  have := tfits v1 v2 a l w h1 h2
  have e1 : M.both (M.likeF a) (M.tupF l) = 0 := by rw [ha, hl]; rfl
  have e2 : M.fitsB a l = M.fitAll a l := by unfold M.fitsB; rw [e1]; rfl
  rwa [e1, e2] at this

theorem asks (B : Nat) (v t : Value) (a l : List M.Val) (w : World) (hB : w.cell? ⟨B, 0, none⟩ = some v) (hv : IsVals w v a) (ht : IsVals w t l) (ha : M.likeF a = 0) (hl : M.tupF l = 0) :
    Calls Tryz.prog 164 #[t, .pointer (some ⟨B, 0, none⟩)] w fun e w' => e = .returned (.bool (M.fitAll a l)) ∧ Below w.heap.size w w' := by
  have HF := hide (fitsOk v t a l w hv ht ha hl)
  clear hv ht ha hl
  cases hb : M.fitAll a l
  all_goals
    rw [hb] at HF
    clear hb
    go_enter Tryz.func164, Tryz.ntmps164
    go_wp2_with fail
    refine (unhide HF).mono ?_
    rintro e w1 ⟨rfl, hb1⟩
    go_wp2_with fail
    go_ret
    exact ⟨rfl, hb1⟩

theorem fitting (ao : Option Addr) (n cap : Nat) (w : World) : Calls Tryz.prog 138 #[.slice ao n cap] w fun e w' => e = .returned (.func (.func 164) #[] #[.pointer (some ⟨w.heap.size, 0, none⟩)]) ∧ w' = w.alloc (.cells #[.slice ao n cap] 32) := by
  go_enter Tryz.func138, Tryz.ntmps138
  go_wp2
  go_ret
  exact ⟨rfl, rfl⟩

theorem index_nil (ao : Option Addr) (cap : Nat) (f : Value) (w : World) :
    Calls Tryz.prog 137 #[.slice ao 0 cap, f] w fun e w' => e = .returned (.int .i64 (-1)) ∧ Below w.heap.size w w' := by
  go_enter Tryz.func137, Tryz.ntmps137
  go_wp2
  go_loopw [8] (fun i wr => i = .int .i64 0 ∧ wr = w) (fun _ _ => 0)
  case atStart => exact ⟨rfl, rfl⟩
  case round =>
    obtain ⟨rfl, rfl⟩ := hrel
    go_wp2
    go_ret
    exact ⟨rfl, Below.refl _ _⟩

theorem index_many (b off cap B : Nat) (v : Value) (a : List M.Val) (L : List (List M.Val)) (w : World) (h0 : 0 < L.length) (h20 : L.length ≤ 20) (hB : w.cell? ⟨B, 0, none⟩ = some v) (hBl : B < w.heap.size) (hv : IsVals w v a) (ha : M.likeF a = 0) (hl : LieT w b off L) (hL : ∀ t ∈ L, M.tupF t = 0) :
    Calls Tryz.prog 137 #[.slice (some ⟨b, off, none⟩) L.length cap, .func (.func 164) #[] #[.pointer (some ⟨B, 0, none⟩)]] w fun e w' => e = .returned (.int .i64 (M.place a L)) ∧ Below w.heap.size w w' := by
  have HK : Hid (∀ wr, Below w.heap.size w wr → ∀ k (hk : k < L.length), ∃ x, wr.cell? ⟨b, off + k, none⟩ = some x ∧ Calls Tryz.prog 164 #[x, .pointer (some ⟨B, 0, none⟩)] wr fun e w' => e = .returned (.bool (M.fitAll a L[k])) ∧ Below wr.heap.size wr w') := hide fun wr hb k hk => by
    obtain ⟨x, hx, hxv⟩ := (hl.stays h0 hb (Nat.le_refl _)) k hk
    exact ⟨x, hx, asks B v x a L[k] wr ((hb.cell (p := ⟨B, 0, none⟩) hBl).trans hB) (hv.stays hb (Nat.le_refl _)) hxv ha (hL _ (List.getElem_mem hk))⟩
  clear hB hBl hv ha hl hL
  obtain ⟨n, hn⟩ : ∃ n, n = L.length := ⟨_, rfl⟩
  rw [← hn] at h0 h20 ⊢
  have HN := hide hn
  clear hn
  go_enter Tryz.func137, Tryz.ntmps137
  go_wp2
  go_loopw [8] (fun i wr => ∃ k : Nat, k ≤ n ∧ i = .int .i64 k ∧ Hid (∀ j (hj : j < k) (hjl : j < L.length), M.fitAll a L[j] = false) ∧ Below w.heap.size w wr) (fun i _ => n - (intOf i).toNat)
  case atStart => exact ⟨0, Nat.zero_le _, rfl, hide (fun j hj => by omega), Below.refl _ _⟩
  case round =>
    obtain ⟨k, hk, rfl, hno, hbel⟩ := hrel
    by_cases hlt : k < n
    · have hkl : k < L.length := HN.out ▸ hlt
      obtain ⟨x, hx, hC⟩ := (unhide HK) wr hbel k hkl
      cases hb : M.fitAll a L[k]
      · rw [hb] at hC
        have HB := hide hb
        have HC := hide hC
        clear hb hC
        go_wp2_with fail
        refine (unhide HC).mono ?_
        rintro e w1 ⟨rfl, hb1⟩
        go_wp2_with fail
        go_roundw
        case rel =>
          refine ⟨k + 1, by omega, by go_num, hide (fun j hj hjl => ?_), hbel.trans (hb1.mono hbel.size)⟩
          rcases Nat.lt_succ_iff_lt_or_eq.1 hj with h | h
          · exact hno.out j h hjl
          · subst h; exact HB.out
        case measure => simp [intOf]; omega
      · rw [hb] at hC
        have HB := hide hb
        have HC := hide hC
        have hsp : M.spot a L = k := spot_hit hkl (fun j hj => hno.out j hj (by omega)) hb
        have hfin : Hid (M.place a L = (k : Int)) := hide (by unfold M.place; rw [hsp, if_pos hkl])
        clear hb hC hsp
        go_wp2_with fail
        refine (unhide HC).mono ?_
        rintro e w1 ⟨rfl, hb1⟩
        go_wp2_with fail
        go_ret
        exact ⟨by rw [hfin.out]; rfl, hbel.trans (hb1.mono hbel.size)⟩
    · have hsp : M.spot a L = L.length := spot_none (fun j hj => hno.out j (by have := HN.out; omega) hj)
      have hfin : Hid (M.place a L = -1) := hide (by unfold M.place; rw [hsp, if_neg (Nat.lt_irrefl _)])
      clear hsp
      go_wp2
      go_ret
      exact ⟨by rw [hfin.out]; rfl, hbel⟩

theorem index (B : Nat) (u v : Value) (a : List M.Val) (L : List (List M.Val)) (w : World) (hu : IsTups w u L) (h20 : L.length ≤ 20) (hB : w.cell? ⟨B, 0, none⟩ = some v) (hBl : B < w.heap.size) (hv : IsVals w v a) (ha : M.likeF a = 0) (hL : ∀ t ∈ L, M.tupF t = 0) :
    Calls Tryz.prog 137 #[u, .func (.func 164) #[] #[.pointer (some ⟨B, 0, none⟩)]] w fun e w' => e = .returned (.int .i64 (M.place a L)) ∧ Below w.heap.size w w' := by
  rcases Nat.eq_zero_or_pos L.length with h0 | h0
  · obtain ⟨ao, cap, rfl, _⟩ := hu.shape
    have hl := List.length_eq_zero_iff.1 h0
    subst hl
    exact index_nil ao cap _ w
  · obtain ⟨b, off, cap, rfl, _, _, hl⟩ := hu.some h0
    exact index_many b off cap B v a L w h0 h20 hB hBl hv ha hl hL

theorem oldest_bad (S : Nat) (v : Value) (a : List M.Val) (w : World) (hv : IsVals w v a) (ha : M.likeF a ≠ 0) :
    Calls Tryz.prog 93 #[.pointer (some ⟨S, 0, none⟩), v] w fun e w' => e = .returned (.tuple #[.int .i64 0, errV (M.likeF a)]) ∧ Below w.heap.size w w' := by
  have HC : Hid (Calls Tryz.prog 99 #[v] w fun e w' => e = .returned (.iface 87 (.int .i64 (M.likeF a))) ∧ Below w.heap.size w w') := hide (by rw [← errV_bad ha]; exact like v a w hv)
  have HF := hide ha
  clear ha hv
  go_enter Tryz.func93, Tryz.ntmps93
  go_wp2_with fail
  refine (unhide HC).mono ?_
  rintro e w1 ⟨rfl, hb1⟩
  go_wp2_with fail
  go_ret2
  exact ⟨by rw [errV_bad HF.out]; rfl, hb1⟩

set_option maxRecDepth 100000 in
theorem oldest_ok (S n cap m k : Nat) (ao ao2 : Option Addr) (a : List M.Val) (L : List (List M.Val)) (w : World) (hv : IsVals w (.slice ao2 m k) a) (ha : M.likeF a = 0) (hS : S < w.heap.size) (hc : w.cell? ⟨S, 0, none⟩ = some (.slice ao n cap)) (hu : IsTups w (.slice ao n cap) L) (hL : M.Fine L) :
    Calls Tryz.prog 93 #[.pointer (some ⟨S, 0, none⟩), .slice ao2 m k] w fun e w' => e = .returned (if M.spot a L < L.length then .tuple #[.int .i64 (M.spot a L), .nilIface] else .tuple #[.int .i64 0, errV 5]) ∧ Below w.heap.size w w' := by
  have HC : Hid (Calls Tryz.prog 99 #[.slice ao2 m k] w fun e w' => e = .returned .nilIface ∧ Below w.heap.size w w') := hide (by have := like _ a w hv; rwa [ha] at this)
  have HI : Hid (∀ w1 B, Below w.heap.size w w1 → w1.cell? ⟨B, 0, none⟩ = some (.slice ao2 m k) → B < w1.heap.size → Calls Tryz.prog 137 #[.slice ao n cap, .func (.func 164) #[] #[.pointer (some ⟨B, 0, none⟩)]] w1 fun e w' => e = .returned (.int .i64 (M.place a L)) ∧ Below w1.heap.size w1 w') := hide fun w1 B hb h1 h2 =>
    index B _ _ a L w1 (hu.stays hb (Nat.le_refl _)) hL.2 h1 h2 (hv.stays hb (Nat.le_refl _)) ha hL.1
  have HS := hide hS
  have HCe := hide hc
  clear hv ha hc hu hL
  by_cases hsp : M.spot a L < L.length
  · rw [if_pos hsp]
    have hp : M.place a L = (M.spot a L : Int) := by unfold M.place; rw [if_pos hsp]
    rw [hp] at HI
    generalize M.spot a L = p at *
    have hn0 : ¬ (p : Int) < 0 := by omega
    clear hp hsp
    go_enter Tryz.func93, Tryz.ntmps93
    go_wp2_with fail
    refine (unhide HC).mono ?_
    rintro e w1 ⟨rfl, hb1⟩
    have c1 : w1.cell? ⟨S, 0, none⟩ = some (.slice ao n cap) := (hb1.cell (p := ⟨S, 0, none⟩) HS.out).trans HCe.out
    have s1 : S < w1.heap.size := Nat.lt_of_lt_of_le HS.out hb1.size
    have s2 : S < w1.heap.size + 1 := Nat.lt_succ_of_lt s1
    have HB1 := hide hb1
    have HW1 : Hid (Below w.heap.size w (w1.drew.alloc (.cells #[.slice ao2 m k] 32))) := hide (hb1.drew.alloc hb1.size _)
    have HW2 : Hid ((w1.drew.alloc (.cells #[.slice ao2 m k] 32)).cell? ⟨w1.heap.size, 0, none⟩ = some (.slice ao2 m k)) := hide ((cell_of_row (w1.drew.alloc (.cells #[.slice ao2 m k] 32)) w1.drew.heap.size 0 #[.slice ao2 m k] 32 (0, 0) (heap_alloc_new w1.drew _)).trans rfl)
    have HW3 : Hid (w1.heap.size < (w1.drew.alloc (.cells #[.slice ao2 m k] 32)).heap.size) := hide (heap_lt (heap_alloc_new w1.drew _))
    clear hb1
    go_wp2_with fail
    go_region_held3 (fun w' => w'.cell? ⟨S, 0, none⟩ = some (.slice ao n cap)) (go_keep)
      (first
        | (go_at_call 138; refine (fitting _ _ _ _).mono ?_; rintro e w2 ⟨rfl, rfl⟩)
        | (go_at_call 137; refine (unhide HI (w1.drew.alloc (.cells #[.slice ao2 m k] 32)) w1.heap.size HW1.out HW2.out HW3.out).mono ?_; rintro e w3 ⟨rfl, hb3⟩; obtain ⟨hc, hff⟩ := bcell hb3))
    go_wp2_with fail
    go_ret2
    exact ⟨rfl, HW1.out.trans (hb3.mono HW1.out.size)⟩
  · rw [if_neg hsp]
    have hp : M.place a L = -1 := by unfold M.place; rw [if_neg hsp]
    rw [hp] at HI
    clear hp hsp
    go_enter Tryz.func93, Tryz.ntmps93
    go_wp2_with fail
    refine (unhide HC).mono ?_
    rintro e w1 ⟨rfl, hb1⟩
    have c1 : w1.cell? ⟨S, 0, none⟩ = some (.slice ao n cap) := (hb1.cell (p := ⟨S, 0, none⟩) HS.out).trans HCe.out
    have s1 : S < w1.heap.size := Nat.lt_of_lt_of_le HS.out hb1.size
    have s2 : S < w1.heap.size + 1 := Nat.lt_succ_of_lt s1
    have HB1 := hide hb1
    have HW1 : Hid (Below w.heap.size w (w1.drew.alloc (.cells #[.slice ao2 m k] 32))) := hide (hb1.drew.alloc hb1.size _)
    have HW2 : Hid ((w1.drew.alloc (.cells #[.slice ao2 m k] 32)).cell? ⟨w1.heap.size, 0, none⟩ = some (.slice ao2 m k)) := hide ((cell_of_row (w1.drew.alloc (.cells #[.slice ao2 m k] 32)) w1.drew.heap.size 0 #[.slice ao2 m k] 32 (0, 0) (heap_alloc_new w1.drew _)).trans rfl)
    have HW3 : Hid (w1.heap.size < (w1.drew.alloc (.cells #[.slice ao2 m k] 32)).heap.size) := hide (heap_lt (heap_alloc_new w1.drew _))
    clear hb1
    go_wp2_with fail
    go_region_held3 (fun w' => w'.cell? ⟨S, 0, none⟩ = some (.slice ao n cap)) (go_keep)
      (first
        | (go_at_call 138; refine (fitting _ _ _ _).mono ?_; rintro e w2 ⟨rfl, rfl⟩)
        | (go_at_call 137; refine (unhide HI (w1.drew.alloc (.cells #[.slice ao2 m k] 32)) w1.heap.size HW1.out HW2.out HW3.out).mono ?_; rintro e w3 ⟨rfl, hb3⟩; obtain ⟨hc, hff⟩ := bcell hb3))
    go_wp2_with fail
    go_ret2
    exact ⟨rfl, HW1.out.trans (hb3.mono HW1.out.size)⟩

end Go.Proofs.YtlefhfmckimlaakGreatDoor

namespace Go.Proofs.YtlefhfmckimlaakGreatDoor
open Go.RowKit

theorem OwnT.nil (base : Nat) (w : World) : OwnT base w (.slice none 0 0) [] := ⟨World.ownsRow_nil _ _ _ _, fun x hx => by simp at hx⟩

theorem del (base g n cap p : Nat) (ds : List (Option Addr × Nat × Nat)) (w : World) (h : w.ownsRow base 32 1 (.slice (some ⟨g, 0, none⟩) n cap) n (ds.map encS)) (hp : p < n) :
    Calls Tryz.prog 94 #[.slice (some ⟨g, 0, none⟩) n cap, .int .i64 p, .int .i64 ((p : Int) + 1)] w fun e w' => e = .returned (.slice (some ⟨g, 0, none⟩) (n - 1) cap) ∧ w'.ownsRow base 32 1 (.slice (some ⟨g, 0, none⟩) (n - 1) cap) (n - 1) ((ds.eraseIdx p).map encS) ∧ w.grownBy w' (some g) := by
  obtain ⟨i0, hi, _, hz1, _⟩ := info_parts infoT
  have hlen : ds.length = n := by have := h.1; simpa using this
  have hsz : ds.toArray.size = n := by simpa using hlen
  have hcap : n ≤ cap ∧ cap ≤ maxLen := by
    rcases h.2 with ⟨h', _⟩ | ⟨g', cap', cur, h', _, _, h1, h2, _⟩
    · simp at h'
    · simp only [Value.slice.injEq, Option.some.injEq, Addr.mk.injEq, and_true, true_and] at h'
      obtain ⟨_, rfl⟩ := h'
      exact ⟨h1, h2⟩
  have hD := AnyE.slices_Delete Tryz.laysDel encS (fun _ => rfl) (none, 0, 0) (fun w => Tryz.zeroValue32 w) i0 hi hz1 g 0 cap p (p + 1) ds.toArray w (ownsRow_holds h) (by rw [hsz]; exact hcap.1) (by have := hcap.2; unfold maxLen at this; omega) (by omega) (by rw [hsz]; omega)
  rw [hsz] at hD
  refine Calls.mono hD ?_
  rintro e w' ⟨rfl, q, hw⟩
  have e1 : p + 1 - p = 1 := by omega
  rw [e1] at hw ⊢
  exact ⟨rfl, row_delete (none, 0, 0) h hp hw⟩

theorem RowOf.erase {Q : Value → List M.Val → Prop} {base n p : Nat} {w' : World} {v' : Value} {L : List (List M.Val)} {xs : List Value} (hx2 : ∀ i (h1 : i < xs.length) (h2 : i < L.length), Q xs[i] L[i]) (hn : L.length = n) (hp : p < n) (h : w'.ownsRow base 32 1 v' (n - 1) (xs.eraseIdx p)) : RowOf Q base w' v' (L.eraseIdx p) := by
  refine ⟨xs.eraseIdx p, ?_, fun i h1 h2 => ?_⟩
  · rw [List.length_eraseIdx, if_pos (by omega), hn]; exact h
  · rw [List.getElem_eraseIdx, List.getElem_eraseIdx]
    split
    · exact hx2 _ _ _
    · exact hx2 _ _ _

theorem erase_map : ∀ (ds : List (Option Addr × Nat × Nat)) (p : Nat), (ds.eraseIdx p).map encS = (ds.map encS).eraseIdx p
  | [], _ => by simp
  | d :: ds, 0 => by simp
  | d :: ds, p + 1 => by simp [erase_map ds p]

/-- the parts of a space that has a tuple -/
theorem Space.parts {base S : Nat} {w : World} {v : Value} {L : List (List M.Val)} (h : Space base w S v L) (h0 : 0 < L.length) :
    ∃ g cap ds, v = .slice (some ⟨g, 0, none⟩) L.length cap ∧ w.ownsRow base 32 1 (.slice (some ⟨g, 0, none⟩) L.length cap) L.length (List.map encS ds) ∧ ds.length = L.length ∧ g < w.heap.size ∧ ∀ i (h1 : i < ds.length) (h2 : i < L.length), OwnT base w (encS ds[i]) L[i] := by
  obtain ⟨xs, hx1, hx2⟩ := h.row
  have hlen : xs.length = L.length := by have := hx1.1; omega
  obtain ⟨ds, rfl⟩ := encS_all (xs := xs) fun u hu => by
    obtain ⟨i, hi, rfl⟩ := List.mem_iff_getElem.1 hu
    exact ownsRow_slice (hx2 i hi (by omega)).1
  obtain ⟨g, cap, rfl, _, hg⟩ := hx1.form h0
  refine ⟨g, cap, ds, rfl, hx1, by simpa using hlen, hg, fun i h1 h2 => ?_⟩
  have := hx2 i (by simpa using h1) h2
  simpa using this

theorem read_bad (S : Nat) (v : Value) (w : World) (c : Int) (hc : c ≠ 0) (hO : Calls Tryz.prog 93 #[.pointer (some ⟨S, 0, none⟩), v] w fun e w' => e = .returned (.tuple #[.int .i64 0, errV c]) ∧ Below w.heap.size w w') :
    Calls Tryz.prog 102 #[.pointer (some ⟨S, 0, none⟩), v] w fun e w' => e = .returned (.tuple #[.slice none 0 0, errV c]) ∧ Below w.heap.size w w' := by
  rw [errV_bad hc] at hO ⊢
  have HO := hide hO
  clear hO hc
  go_enter Tryz.func102, Tryz.ntmps102
  go_wp2_with fail
  refine (unhide HO).mono ?_
  rintro e w1 ⟨rfl, hb1⟩
  go_wp2_with fail
  go_ret2
  exact ⟨rfl, hb1⟩

theorem take_bad (S : Nat) (v : Value) (w : World) (c : Int) (hc : c ≠ 0) (hO : Calls Tryz.prog 93 #[.pointer (some ⟨S, 0, none⟩), v] w fun e w' => e = .returned (.tuple #[.int .i64 0, errV c]) ∧ Below w.heap.size w w') :
    Calls Tryz.prog 54 #[.pointer (some ⟨S, 0, none⟩), v] w fun e w' => e = .returned (.tuple #[.slice none 0 0, errV c]) ∧ Below w.heap.size w w' := by
  rw [errV_bad hc] at hO ⊢
  have HO := hide hO
  clear hO hc
  go_enter Tryz.func54, Tryz.ntmps54
  go_wp2_with fail
  refine (unhide HO).mono ?_
  rintro e w1 ⟨rfl, hb1⟩
  go_wp2_with fail
  go_ret2
  exact ⟨rfl, hb1⟩

theorem read_hit (base S p : Nat) (u v : Value) (L : List (List M.Val)) (w : World) (hs : Space base w S u L) (hL : M.Fine L) (hp : p < L.length) (hO : Calls Tryz.prog 93 #[.pointer (some ⟨S, 0, none⟩), v] w fun e w' => e = .returned (.tuple #[.int .i64 p, .nilIface]) ∧ Below w.heap.size w w') :
    Calls Tryz.prog 102 #[.pointer (some ⟨S, 0, none⟩), v] w fun e w' => ∃ r, e = .returned (.tuple #[r, .nilIface]) ∧ OwnT w.heap.size w' r L[p] ∧ Below w.heap.size w w' := by
  have HS := hide hs
  have HO := hide hO
  have HF := hide (hL.1 L[p] (List.getElem_mem hp))
  obtain ⟨n, hn⟩ : ∃ n, n = L.length := ⟨_, rfl⟩
  have HN := hide hn
  have hp1 : (p : Int) < (n : Int) := by omega
  have hp0 : (0 : Int) ≤ (p : Int) := by omega
  have h20 : n ≤ 20 := by have := hL.2; omega
  clear hs hO hL hn
  go_enter Tryz.func102, Tryz.ntmps102
  go_wp2_with fail
  refine (unhide HO).mono ?_
  rintro e w1 ⟨rfl, hb1⟩
  have HS1 := hide (Space.stays HS.out hb1)
  obtain ⟨g, cap, ds, rfl, hrow, hdl, hg, hx⟩ := Space.parts HS1.out (by omega)
  have c1 := HS1.out.cell.1
  have c2 : w1.cell? ⟨g, p, none⟩ = some (encS ds[p]) := by rw [hrow.cellAt p (by omega), List.getElem?_map, List.getElem?_eq_getElem (by omega)]; rfl
  rw [← HN.out] at c1
  have HX := hide (hx p (by omega) hp)
  have HB1 := hide hb1
  clear hb1 hrow hx
  generalize encS ds[p] = x at *
  clear hdl
  go_wp2_with fail
  refine (fresh x _ _ HX.out.vals HF.out).mono ?_
  rintro e w2 ⟨r, rfl, hO2, hb2⟩
  have HO2 := hide hO2
  have HB2 := hide hb2
  clear hO2 hb2
  go_wp2_with fail
  go_ret2
  exact ⟨r, rfl, HO2.out.mono HB1.out.size, HB1.out.trans (HB2.out.mono HB1.out.size)⟩

theorem take_hit (base S p : Nat) (u v : Value) (L : List (List M.Val)) (w : World) (hs : Space base w S u L) (hL : M.Fine L) (hp : p < L.length) (hO : Calls Tryz.prog 93 #[.pointer (some ⟨S, 0, none⟩), v] w fun e w' => e = .returned (.tuple #[.int .i64 p, .nilIface]) ∧ Below w.heap.size w w') :
    Calls Tryz.prog 54 #[.pointer (some ⟨S, 0, none⟩), v] w fun e w' => ∃ r v', e = .returned (.tuple #[r, .nilIface]) ∧ OwnT base w' r L[p] ∧ Space base w' S v' (L.eraseIdx p) ∧ Touch S u w w' ∧ Near w u v' := by
  have HS := hide hs
  have HO := hide hO
  obtain ⟨n, hn⟩ : ∃ n, n = L.length := ⟨_, rfl⟩
  have HN := hide hn
  have hp1 : (p : Int) < (n : Int) := by omega
  have hp0 : (0 : Int) ≤ (p : Int) := by omega
  have h20 : n ≤ 20 := by have := hL.2; omega
  clear hs hO hL hn
  go_enter Tryz.func54, Tryz.ntmps54
  go_wp2_with fail
  refine (unhide HO).mono ?_
  rintro e w1 ⟨rfl, hb1⟩
  have HS1 := hide (Space.stays HS.out hb1)
  obtain ⟨g, cap, ds, rfl, hrow, hdl, hg, hx⟩ := Space.parts HS1.out (by omega)
  have c1 := HS1.out.cell.1
  have c2 : w1.cell? ⟨g, p, none⟩ = some (encS ds[p]) := by rw [hrow.cellAt p (by omega), List.getElem?_map, List.getElem?_eq_getElem (by omega)]; rfl
  have HD : Hid (Calls Tryz.prog 94 #[.slice (some ⟨g, 0, none⟩) n cap, .int .i64 p, .int .i64 ((p : Int) + 1)] w1 fun e w' => e = .returned (.slice (some ⟨g, 0, none⟩) (n - 1) cap) ∧ w'.ownsRow base 32 1 (.slice (some ⟨g, 0, none⟩) (n - 1) cap) (n - 1) ((ds.eraseIdx p).map encS) ∧ w1.grownBy w' (some g)) := hide (by
    rw [HN.out]; exact del base g L.length cap p ds w1 hrow hp)
  have hne := hide (HS1.out.row_ne (by decide))
  rw [← HN.out] at c1
  have HX := hide hx
  have HB1 := hide hb1
  have HDL := hide hdl
  have HXP := hide (hx p (by omega) hp)
  obtain ⟨x, hxe⟩ : ∃ x, x = encS ds[p] := ⟨_, rfl⟩
  rw [← hxe] at c2 HXP
  clear hb1 hrow hx hdl hxe
  go_wp2_with fail
  refine (unhide HD).mono ?_
  rintro e w2 ⟨rfl, ho2, hg2⟩
  have hSl := HS1.out.cell.2.2
  have c3 : w2.cell? ⟨S, 0, none⟩ = some (.slice (some ⟨g, 0, none⟩) L.length cap) := hg2.cell HS1.out.cell.1 (fun e => hne.out e.symm)
  have f3 : w2.frozen? ⟨S, 0, none⟩ = false := (World.frozen?_of_block (hg2.block S hSl (fun e => hne.out e.symm))).trans HS1.out.cell.2.1
  have HO2 := hide ho2
  have HG2 := hide hg2
  clear ho2 hg2
  go_wp2_with fail
  go_ret2
  have hr : RowOf (OwnT base w1) base w2 (.slice (some ⟨g, 0, none⟩) (n - 1) cap) (L.eraseIdx p) := RowOf.erase (xs := ds.map encS) (fun i h1 h2 => by
    have := HX.out i (by simpa using h1) h2
    simpa using this) HN.out.symm (by omega) (by rw [← erase_map]; exact HO2.out)
  obtain ⟨k1, k2⟩ := Sp.stored (by decide) HS1.out HG2.out hr (Or.inl rfl)
  have hsol := Sp.solid HS1.out (by decide) k2
  exact ⟨x, _, rfl, HXP.out.solid hsol, k1.mono (fun _ _ ho => ho.solid hsol), k2.after HB1.out, Or.inl rfl⟩

theorem oldest (base S : Nat) (u v : Value) (a : List M.Val) (L : List (List M.Val)) (w : World) (hs : Space base w S u L) (hL : M.Fine L) (hv : IsVals w v a) (ha : M.likeF a = 0) :
    Calls Tryz.prog 93 #[.pointer (some ⟨S, 0, none⟩), v] w fun e w' => e = .returned (if M.spot a L < L.length then .tuple #[.int .i64 (M.spot a L), .nilIface] else .tuple #[.int .i64 0, errV 5]) ∧ Below w.heap.size w w' := by
  obtain ⟨ao, cap, rfl, _⟩ := hs.shape
  obtain ⟨ao2, cap2, rfl, _⟩ : ∃ ao c, v = .slice ao a.length c ∧ True := by
    rcases hv with ⟨h1, h2⟩ | ⟨x, c, h1, h2⟩ | ⟨b, off, c, h1, h2, _⟩
    · subst h2; exact ⟨_, _, h1, trivial⟩
    · subst h2; exact ⟨_, _, h1, trivial⟩
    · exact ⟨_, _, h2, trivial⟩
  obtain ⟨c1, _, s1⟩ := hs.cell
  exact oldest_ok S L.length cap a.length cap2 ao ao2 a L w hv ha s1 c1 (hs.row.tups fun _ _ ho => ho.vals) hL

theorem read (base S : Nat) (u v : Value) (a : List M.Val) (L : List (List M.Val)) (w : World) (hs : Space base w S u L) (hL : M.Fine L) (hv : IsVals w v a) :
    Calls Tryz.prog 102 #[.pointer (some ⟨S, 0, none⟩), v] w fun e w' => ∃ r, e = .returned (.tuple #[r, errV (M.getF a L)]) ∧ OwnT w.heap.size w' r (M.getV a L) ∧ Below w.heap.size w w' := by
  by_cases ha : M.likeF a = 0
  · have hO := oldest base S u v a L w hs hL hv ha
    by_cases hp : M.spot a L < L.length
    · rw [if_pos hp] at hO
      rw [getF_hit ha hp, getV_hit ha hp]
      exact read_hit base S _ u v L w hs hL hp hO
    · rw [if_neg hp] at hO
      have e5 := getF_miss ha hp
      rw [getV_no (by rw [e5]; decide), e5]
      refine (read_bad S v w 5 (by decide) hO).mono ?_
      rintro e w' ⟨rfl, hb⟩
      exact ⟨_, rfl, OwnT.nil _ _, hb⟩
  · rw [getV_no (by rw [getF_bad ha]; exact ha), getF_bad ha]
    refine (read_bad S v w _ ha (oldest_bad S v a w hv ha)).mono ?_
    rintro e w' ⟨rfl, hb⟩
    exact ⟨_, rfl, OwnT.nil _ _, hb⟩

theorem take (base S : Nat) (u v : Value) (a : List M.Val) (L : List (List M.Val)) (w : World) (hs : Space base w S u L) (hL : M.Fine L) (hv : IsVals w v a) :
    Calls Tryz.prog 54 #[.pointer (some ⟨S, 0, none⟩), v] w fun e w' => ∃ r v', e = .returned (.tuple #[r, errV (M.getF a L)]) ∧ OwnT base w' r (M.getV a L) ∧ Space base w' S v' (M.lessL a L) ∧ Touch S u w w' ∧ Near w u v' := by
  by_cases ha : M.likeF a = 0
  · have hO := oldest base S u v a L w hs hL hv ha
    by_cases hp : M.spot a L < L.length
    · rw [if_pos hp] at hO
      rw [getF_hit ha hp, getV_hit ha hp, lessL_hit ha hp]
      exact take_hit base S _ u v L w hs hL hp hO
    · rw [if_neg hp] at hO
      have e5 := getF_miss ha hp
      rw [getV_no (by rw [e5]; decide), lessL_no (by rw [e5]; decide), e5]
      refine (take_bad S v w 5 (by decide) hO).mono ?_
      rintro e w' ⟨rfl, hb⟩
      exact ⟨_, _, rfl, OwnT.nil _ _, hs.stays hb, Touch.of_below hb, Near.refl _ _⟩
  · rw [getV_no (by rw [getF_bad ha]; exact ha), lessL_no (by rw [getF_bad ha]; exact ha), getF_bad ha]
    refine (take_bad S v w _ ha (oldest_bad S v a w hv ha)).mono ?_
    rintro e w' ⟨rfl, hb⟩
    exact ⟨_, _, rfl, OwnT.nil _ _, hs.stays hb, Touch.of_below hb, Near.refl _ _⟩

end Go.Proofs.YtlefhfmckimlaakGreatDoor

namespace Go.Proofs.YtlefhfmckimlaakGreatDoor
open Go.RowKit

theorem count_bad (S : Nat) (v : Value) (a : List M.Val) (w : World) (hv : IsVals w v a) (ha : M.likeF a ≠ 0) :
    Calls Tryz.prog 145 #[.pointer (some ⟨S, 0, none⟩), v] w fun e w' => e = .returned (.tuple #[.int .i64 0, errV (M.likeF a)]) ∧ Below w.heap.size w w' := by
  have HC : Hid (Calls Tryz.prog 99 #[v] w fun e w' => e = .returned (.iface 87 (.int .i64 (M.likeF a))) ∧ Below w.heap.size w w') := hide (by rw [← errV_bad ha]; exact like v a w hv)
  have HF := hide ha
  clear ha hv
  go_enter Tryz.func145, Tryz.ntmps145
  go_wp2_with fail
  refine (unhide HC).mono ?_
  rintro e w1 ⟨rfl, hb1⟩
  go_wp2_with fail
  go_ret2
  exact ⟨by rw [errV_bad HF.out]; rfl, hb1⟩

theorem count_none (S cap m k : Nat) (ao ao2 : Option Addr) (a : List M.Val) (w : World) (hv : IsVals w (.slice ao2 m k) a) (ha : M.likeF a = 0) (hS : S < w.heap.size) (hc : w.cell? ⟨S, 0, none⟩ = some (.slice ao 0 cap)) :
    Calls Tryz.prog 145 #[.pointer (some ⟨S, 0, none⟩), .slice ao2 m k] w fun e w' => e = .returned (.tuple #[.int .i64 0, .nilIface]) ∧ Below w.heap.size w w' := by
  have HC : Hid (Calls Tryz.prog 99 #[.slice ao2 m k] w fun e w' => e = .returned .nilIface ∧ Below w.heap.size w w') := hide (by have := like _ a w hv; rwa [ha] at this)
  have HS := hide hS
  have HCe := hide hc
  clear hv ha hc
  go_enter Tryz.func145, Tryz.ntmps145
  go_wp2_with fail
  refine (unhide HC).mono ?_
  rintro e w1 ⟨rfl, hb1⟩
  have c1 : w1.cell? ⟨S, 0, none⟩ = some (.slice ao 0 cap) := (hb1.cell (p := ⟨S, 0, none⟩) HS.out).trans HCe.out
  have s1 : S < w1.heap.size := Nat.lt_of_lt_of_le HS.out hb1.size
  have HB1 := hide hb1
  clear hb1
  go_wp2_with fail
  refine (fitting _ _ _ _).mono ?_
  rintro e w2 ⟨rfl, rfl⟩
  have HW1 : Hid (Below w.heap.size w (w1.alloc (.cells #[.slice ao2 m k] 32))) := hide (HB1.out.alloc HB1.out.size _)
  go_wp2_with fail
  go_loopw [23, 8] (fun i c wr => i = .int .i64 0 ∧ c = .int .i64 0 ∧ Hid (Below w.heap.size w wr)) (fun _ _ _ => 0)
  case atStart => exact ⟨rfl, rfl, HW1⟩
  case round =>
    obtain ⟨rfl, rfl, hbel⟩ := hrel
    go_wp2
    go_ret2
    exact ⟨rfl, hbel.out⟩

set_option maxRecDepth 100000 in
theorem count_many (S b off n cap m k : Nat) (ao2 : Option Addr) (a : List M.Val) (L : List (List M.Val)) (w : World) (hv : IsVals w (.slice ao2 m k) a) (ha : M.likeF a = 0) (hS : S < w.heap.size) (hn : n = L.length) (h0 : 0 < n) (hc : w.cell? ⟨S, 0, none⟩ = some (.slice (some ⟨b, off, none⟩) n cap)) (hl : LieT w b off L) (hL : M.Fine L) :
    Calls Tryz.prog 145 #[.pointer (some ⟨S, 0, none⟩), .slice ao2 m k] w fun e w' => e = .returned (.tuple #[.int .i64 (M.many a L), .nilIface]) ∧ Below w.heap.size w w' := by
  have HC : Hid (Calls Tryz.prog 99 #[.slice ao2 m k] w fun e w' => e = .returned .nilIface ∧ Below w.heap.size w w') := hide (by have := like _ a w hv; rwa [ha] at this)
  have HK : Hid (∀ wr B, Below w.heap.size w wr → wr.cell? ⟨B, 0, none⟩ = some (.slice ao2 m k) → ∀ k (hk : k < L.length), ∃ x, wr.cell? ⟨b, off + k, none⟩ = some x ∧ Calls Tryz.prog 164 #[x, .pointer (some ⟨B, 0, none⟩)] wr fun e w' => e = .returned (.bool (M.fitAll a L[k])) ∧ Below wr.heap.size wr w') := hide fun wr B hb hB k hk => by
    obtain ⟨x, hx, hxv⟩ := (hl.stays (by omega) hb (Nat.le_refl _)) k hk
    exact ⟨x, hx, asks B _ x a L[k] wr hB (hv.stays hb (Nat.le_refl _)) hxv ha (hL.1 _ (List.getElem_mem hk))⟩
  have HS := hide hS
  have HCe := hide hc
  have h20 : n ≤ 20 := by have := hL.2; omega
  have HN := hide hn
  clear hv ha hc hl hL hn
  go_enter Tryz.func145, Tryz.ntmps145
  go_wp2_with fail
  refine (unhide HC).mono ?_
  rintro e w1 ⟨rfl, hb1⟩
  have c1 : w1.cell? ⟨S, 0, none⟩ = some (.slice (some ⟨b, off, none⟩) n cap) := (hb1.cell (p := ⟨S, 0, none⟩) HS.out).trans HCe.out
  have s1 : S < w1.heap.size := Nat.lt_of_lt_of_le HS.out hb1.size
  have HB1 := hide hb1
  clear hb1
  go_wp2_with fail
  refine (fitting _ _ _ _).mono ?_
  rintro e w2 ⟨rfl, rfl⟩
  have HW1 : Hid (Below w.heap.size w (w1.alloc (.cells #[.slice ao2 m k] 32))) := hide (HB1.out.alloc HB1.out.size _)
  have HW2 : Hid ((w1.alloc (.cells #[.slice ao2 m k] 32)).cell? ⟨w1.heap.size, 0, none⟩ = some (.slice ao2 m k)) := hide ((cell_of_row (w1.alloc (.cells #[.slice ao2 m k] 32)) w1.heap.size 0 #[.slice ao2 m k] 32 (0, 0) (heap_alloc_new w1 _)).trans rfl)
  go_wp2_with fail
  go_loopw [23, 8] (fun i c wr => ∃ j q : Nat, j ≤ n ∧ q ≤ j ∧ i = .int .i64 j ∧ c = .int .i64 q ∧ Hid (q = M.many a (L.take j)) ∧ Hid (Below w.heap.size w wr) ∧ Hid (wr.cell? ⟨w1.heap.size, 0, none⟩ = some (.slice ao2 m k))) (fun i _ _ => n - (intOf i).toNat)
  case atStart => exact ⟨0, 0, Nat.zero_le _, Nat.le_refl _, rfl, rfl, hide rfl, HW1, HW2⟩
  case round =>
    obtain ⟨j, q, hj, hqj, rfl, rfl, hq, hbel, hcell⟩ := hrel
    by_cases hlt : j < n
    · have hjl : j < L.length := HN.out ▸ hlt
      obtain ⟨x, hx, hC⟩ := (unhide HK) wr w1.heap.size hbel.out hcell.out j hjl
      have hms := hide (many_snoc (a := a) hjl)
      cases hb : M.fitAll a L[j]
      · rw [hb] at hC hms
        have HC := hide hC
        clear hb hC
        go_wp2_with fail
        refine (unhide HC).mono ?_
        rintro e w2 ⟨rfl, hb2⟩
        go_wp2_with fail
        go_roundw
        case rel => exact ⟨j + 1, q, by omega, by omega, by go_num, rfl, hide (by rw [hms.out]; exact hq.out), hide (hbel.out.trans (hb2.mono hbel.out.size)), hide ((hb2.cell (p := ⟨w1.heap.size, 0, none⟩) (World.block_lt_of_cell? wr _ hcell.out)).trans hcell.out)⟩
        case measure => simp [intOf]; omega
      · rw [hb] at hC hms
        have HC := hide hC
        clear hb hC
        go_wp2_with fail
        refine (unhide HC).mono ?_
        rintro e w2 ⟨rfl, hb2⟩
        go_wp2_with fail
        go_roundw
        case rel => exact ⟨j + 1, q + 1, by omega, by omega, by go_num, by go_num, hide (by rw [hms.out]; have := hq.out; simp; omega), hide (hbel.out.trans (hb2.mono hbel.out.size)), hide ((hb2.cell (p := ⟨w1.heap.size, 0, none⟩) (World.block_lt_of_cell? wr _ hcell.out)).trans hcell.out)⟩
        case measure => simp [intOf]; omega
    · have hfin : Hid (q = M.many a L) := hide (by have := hq.out; rwa [List.take_of_length_le (by have := HN.out; omega)] at this)
      go_wp2
      go_ret2
      exact ⟨by rw [← hfin.out]; rfl, hbel.out⟩

/-- the number that Count answers -/
def M.cnt (a : List M.Val) (L : List (List M.Val)) : Nat := if M.likeF a = 0 then M.many a L else 0

theorem count (base S : Nat) (u v : Value) (a : List M.Val) (L : List (List M.Val)) (w : World) (hs : Space base w S u L) (hL : M.Fine L) (hv : IsVals w v a) :
    Calls Tryz.prog 145 #[.pointer (some ⟨S, 0, none⟩), v] w fun e w' => e = .returned (.tuple #[.int .i64 (M.cnt a L), errV (M.likeF a)]) ∧ Below w.heap.size w w' := by
  unfold M.cnt
  by_cases ha : M.likeF a = 0
  · rw [if_pos ha, ha]
    obtain ⟨ao2, cap2, rfl, _⟩ : ∃ ao c, v = .slice ao a.length c ∧ True := by
      rcases hv with ⟨h1, h2⟩ | ⟨x, c, h1, h2⟩ | ⟨b, off, c, h1, h2, _⟩
      · subst h2; exact ⟨_, _, h1, trivial⟩
      · subst h2; exact ⟨_, _, h1, trivial⟩
      · exact ⟨_, _, h2, trivial⟩
    obtain ⟨c1, _, s1⟩ := hs.cell
    have hu : IsTups w u L := hs.row.tups fun _ _ ho => ho.vals
    rcases Nat.eq_zero_or_pos L.length with h0 | h0
    · obtain ⟨ao, cap, rfl, _⟩ := hu.shape
      have hl := List.length_eq_zero_iff.1 h0
      subst hl
      exact count_none S cap _ _ ao ao2 a w hv ha s1 c1
    · obtain ⟨b, off, cap, rfl, _, _, hl⟩ := hu.some h0
      exact count_many S b off L.length cap _ _ ao2 a L w hv ha s1 rfl h0 c1 hl hL
  · rw [if_neg ha]
    exact count_bad S v a w hv ha

theorem all_none (S cap : Nat) (ao : Option Addr) (w : World) (hc : w.cell? ⟨S, 0, none⟩ = some (.slice ao 0 cap)) :
    Calls Tryz.prog 63 #[.pointer (some ⟨S, 0, none⟩)] w fun e w' => e = .returned (.slice none 0 0) ∧ Below w.heap.size w w' := by
  go_enter Tryz.func63, Tryz.ntmps63
  go_wp2
  go_loopw [11, 3] (fun i c wr => i = .int .i64 0 ∧ c = .slice none 0 0 ∧ wr = w) (fun _ _ _ => 0)
  case atStart => exact ⟨rfl, rfl, rfl⟩
  case round =>
    obtain ⟨rfl, rfl, rfl⟩ := hrel
    go_wp2
    go_ret
    exact ⟨rfl, Below.refl _ _⟩

set_option maxHeartbeats 1000000 in
set_option maxRecDepth 100000 in
theorem all_many (S b off n cap : Nat) (L : List (List M.Val)) (w : World) (hn : n = L.length) (h0 : 0 < n) (hc : w.cell? ⟨S, 0, none⟩ = some (.slice (some ⟨b, off, none⟩) n cap)) (hl : LieT w b off L) (hL : M.Fine L) :
    Calls Tryz.prog 63 #[.pointer (some ⟨S, 0, none⟩)] w fun e w' => ∃ v, e = .returned v ∧ RowOf (OwnT w.heap.size w') w.heap.size w' v L ∧ Below w.heap.size w w' := by
  obtain ⟨i0, hi, hz0, hz1, hz2⟩ := info_parts infoT
  have HI := hide (And.intro hi (And.intro hz0 (And.intro hz1 hz2)))
  have HK : Hid (∀ wr, Below w.heap.size w wr → ∀ k (hk : k < L.length), ∃ x, wr.cell? ⟨b, off + k, none⟩ = some x ∧ Calls Tryz.prog 58 #[x] wr fun e w' => ∃ g c, e = .returned (.slice (some ⟨g, 0, none⟩) L[k].length c) ∧ OwnT wr.heap.size w' (.slice (some ⟨g, 0, none⟩) L[k].length c) L[k] ∧ Below wr.heap.size wr w') := hide fun wr hb k hk => by
    obtain ⟨x, hx, hxv⟩ := (hl.stays (by omega) hb (Nat.le_refl _)) k hk
    exact ⟨x, hx, freshAt x L[k] wr hxv (hL.1 _ (List.getElem_mem hk))⟩
  have h20 : n ≤ 20 := by have := hL.2; omega
  have HN := hide hn
  clear hl hL hn hi hz0 hz1 hz2
  go_enter Tryz.func63, Tryz.ntmps63
  go_wp2_with fail
  go_loopw [11, 3] (fun i c wr => ∃ j : Nat, ∃ v : Value, j ≤ n ∧ v = c ∧ i = .int .i64 j ∧ Hid (RowOf (OwnT w.heap.size wr) w.heap.size wr v (L.take j)) ∧ Hid (Below w.heap.size w wr)) (fun i _ _ => n - (intOf i).toNat)
  case atStart => exact ⟨0, _, Nat.zero_le _, rfl, rfl, hide (RowOf.nil _ _ _), hide (Below.refl _ _)⟩
  case round =>
    obtain ⟨j, v, hj, rfl, rfl, hr, hbel⟩ := hrel
    by_cases hlt : j < n
    · have hjl : j < L.length := HN.out ▸ hlt
      obtain ⟨x, hx, hC⟩ := (unhide HK) wr hbel.out j hjl
      have HC := hide hC
      have HJ : Hid ((L.take j).length = j) := hide (by rw [List.length_take]; omega)
      generalize hlj : L[j] = lj at HC
      have HLJ := hide hlj
      clear hC hlj
      go_wp2_with fail
      refine (unhide HC).mono ?_
      rintro e w2 ⟨g2, k2, rfl, hO2, hb2⟩
      have HB2 := hide (hbel.out.trans (hb2.mono hbel.out.size))
      have HO2 := hide hO2
      have HS2 := hide (Solid.below hb2)
      have HR2 := hide ((hr.out.below hb2).mono fun _ _ ho => ho.solid HS2.out)
      obtain ⟨xs, hx1, hx2⟩ := HR2.out
      rw [HJ.out] at hx1
      have HX := hide (hx1.alloc (.cells #[.slice (some ⟨g2, 0, none⟩) lj.length k2] 32))
      have HX2 := hide hx2
      have HLN : Hid (xs.length = (L.take j).length) := hide (by have := hx1.1; rw [HJ.out]; omega)
      have HNW : Hid (∀ j u, [Value.slice (some ⟨g2, 0, none⟩) lj.length k2][j]? = some u → (w2.alloc (.cells #[.slice (some ⟨g2, 0, none⟩) lj.length k2] 32)).cell? ((⟨w2.heap.size, 0, none⟩ : Addr).add j) = some u) := hide (World.news_of_block (heap_alloc_new w2 _))
      have HWS : Hid (w.heap.size ≤ (w2.alloc (.cells #[.slice (some ⟨g2, 0, none⟩) lj.length k2] 32)).heap.size) := hide (Nat.le_trans HB2.out.size (by simp))
      have HRO := hide hbel.out.size
      clear hx1 hx2 hO2 hb2 HK
      go_wp2_with (at_builtin; refine wpList_append_own _ rfl (.tmp 15) (.tmp 18) 76 rfl w.heap.size 32 i0 (.slice none 0 0) 1 24 Tryz.underlying76 HI.out.1 HI.out.2.1 HI.out.2.2.1 HI.out.2.2.2 rfl (by decide) v j xs rfl HX.out ⟨w2.heap.size, 0, none⟩ 1 1 [.slice (some ⟨g2, 0, none⟩) lj.length k2] rfl rfl HNW.out (by intro u hu; simp at hu; subst hu; rfl) (by unfold maxLen; omega) (by omega) HWS.out ?_)
      intro v3 w3 hown3 hgrow3 _
      have HO3 := hide hown3
      have HG3 := hide hgrow3
      clear hown3 hgrow3
      go_wp2
      go_roundw
      case rel =>
        have hsol : Solid w2 w3 := (Solid.below ((Below.refl _ _).alloc (Nat.le_refl _) _)).trans (solid_grown HX.out HG3.out)
        refine ⟨j + 1, v3, by omega, rfl, by go_num, hide ?_, hide (HB2.out.trans (((Below.refl _ _).alloc HB2.out.size _).grown HG3.out HWS.out (fun k hk => (HX.out.lt k hk).1)))⟩
        rw [List.take_succ_eq_append_getElem hjl, HLJ.out]
        exact RowOf.snoc (fun i h1 h2 => (HX2.out i h1 h2).solid hsol) HLN.out (by rw [HJ.out]; exact HO3.out) ((HO2.out.mono HRO.out).solid hsol)
      case measure => simp [intOf]; omega
    · have hfin : Hid (L.take j = L) := hide (List.take_of_length_le (by have := HN.out; omega))
      go_wp2
      go_ret
      exact ⟨v, rfl, by have := hr.out; rwa [hfin.out] at this, hbel.out⟩

theorem all (base S : Nat) (u : Value) (L : List (List M.Val)) (w : World) (hs : Space base w S u L) (hL : M.Fine L) :
    Calls Tryz.prog 63 #[.pointer (some ⟨S, 0, none⟩)] w fun e w' => ∃ ao cap, e = .returned (.slice ao L.length cap) ∧ IsTups w' (.slice ao L.length cap) L ∧ Below w.heap.size w w' := by
  obtain ⟨c1, _, s1⟩ := hs.cell
  have hu : IsTups w u L := hs.row.tups fun _ _ ho => ho.vals
  rcases Nat.eq_zero_or_pos L.length with h0 | h0
  · obtain ⟨ao, cap, rfl, _⟩ := hu.shape
    have hl := List.length_eq_zero_iff.1 h0
    subst hl
    refine (all_none S cap ao w c1).mono ?_
    rintro e w' ⟨rfl, hb⟩
    exact ⟨_, _, rfl, Or.inl ⟨rfl, rfl⟩, hb⟩
  · obtain ⟨b, off, cap, rfl, _, _, hl⟩ := hu.some h0
    refine (all_many S b off L.length cap L w rfl h0 c1 hl hL).mono ?_
    rintro e w' ⟨v, rfl, hr, hb⟩
    have ht := hr.tups fun _ _ ho => ho.vals
    obtain ⟨ao, c, rfl, _⟩ := ht.shape
    exact ⟨ao, c, rfl, ht, hb⟩

end Go.Proofs.YtlefhfmckimlaakGreatDoor

namespace Go.Proofs.YtlefhfmckimlaakGreatDoor
open Go.RowKit
attribute [local go_sem ↓] Go.wp_at_zero Go.wp_at_succ

theorem lit_vals (w : World) (v : M.Val) (hs : v.s.size ≤ maxLen) : IsVals (w.alloc (.cells #[.int .i64 v.k, .int .i64 v.n, .string v.s] 31)) (.slice (some ⟨w.heap.size, 0, none⟩) 1 1) [v] := by
  refine Or.inr (Or.inr ⟨w.heap.size, 0, 1, by simp, rfl, by simp, by unfold maxLen; decide, lie_of_cells (fun x hx => by simp at hx; subst hx; exact hs) fun j u hu => ?_⟩)
  exact World.news_of_block (heap_alloc_new w _) j u hu

end Go.Proofs.YtlefhfmckimlaakGreatDoor

namespace Go.Proofs.YtlefhfmckimlaakGreatDoor
open Go.RowKit

def M.keepL (a : List M.Val) (X : List (List M.Val)) : List (List M.Val) := X.filter fun t => !M.fitAll a t
/-- the space when j of those that were put have been asked for -/
def M.mid (a : List M.Val) (L : List (List M.Val)) (j : Nat) : List (List M.Val) := M.keepL a (L.take j) ++ L.drop j

theorem keep_no {a : List M.Val} {L : List (List M.Val)} {j : Nat} (hj : j < L.length) (h : M.fitAll a L[j] = false) : M.keepL a (L.take (j + 1)) = M.keepL a (L.take j) ++ [L[j]] := by
  unfold M.keepL
  rw [List.take_succ_eq_append_getElem hj, List.filter_append, List.filter_cons, h]; simp
theorem keep_yes {a : List M.Val} {L : List (List M.Val)} {j : Nat} (hj : j < L.length) (h : M.fitAll a L[j] = true) : M.keepL a (L.take (j + 1)) = M.keepL a (L.take j) := by
  unfold M.keepL
  rw [List.take_succ_eq_append_getElem hj, List.filter_append, List.filter_cons, h]; simp
theorem mid_zero (a : List M.Val) (L : List (List M.Val)) : M.mid a L 0 = L := by simp [M.mid, M.keepL]
theorem mid_no {a : List M.Val} {L : List (List M.Val)} {j : Nat} (hj : j < L.length) (h : M.fitAll a L[j] = false) : M.mid a L (j + 1) = M.mid a L j := by
  unfold M.mid
  rw [keep_no hj h, List.drop_eq_getElem_cons hj, List.append_assoc]; rfl
theorem mid_end (a : List M.Val) (L : List (List M.Val)) : M.mid a L L.length = M.keepL a L := by simp [M.mid]
theorem keep_all {a : List M.Val} {X : List (List M.Val)} {j : Nat} (hj : j < (M.keepL a X).length) : M.fitAll a (M.keepL a X)[j] = false := by
  have h := (List.mem_filter.1 (show (M.keepL a X)[j] ∈ X.filter (fun t => !M.fitAll a t) from List.getElem_mem hj)).2
  simpa using h
theorem spot_keep (a : List M.Val) (X : List (List M.Val)) : M.spot a (M.keepL a X) = (M.keepL a X).length := spot_none fun _ hj => keep_all hj
/-- the first that fits, behind some that do not -/
theorem get_app {a x : List M.Val} {K D : List (List M.Val)} (ha : M.likeF a = 0) (hK : ∀ j (hj : j < K.length), M.fitAll a K[j] = false) (hx : M.fitAll a x = true) : M.getF a (K ++ x :: D) = 0 ∧ M.getV a (K ++ x :: D) = x ∧ M.lessL a (K ++ x :: D) = K ++ D := by
  have hlt : K.length < (K ++ x :: D).length := by simp
  have h1 : M.spot a (K ++ x :: D) = K.length := spot_hit hlt (fun i hi => by rw [List.getElem_append_left hi]; exact hK i hi) (by rw [List.getElem_append_right (Nat.le_refl _)]; simpa using hx)
  have h0 : M.getF a (K ++ x :: D) = 0 := getF_hit ha (by rw [h1]; exact hlt)
  refine ⟨h0, ?_, ?_⟩
  · unfold M.getV
    rw [if_pos h0, h1, List.getD_eq_getElem?_getD, List.getElem?_append_right (Nat.le_refl _)]
    simp
  · unfold M.lessL
    rw [if_pos h0, h1, List.eraseIdx_append_of_length_le (Nat.le_refl _)]
    simp
theorem mid_get {a : List M.Val} {L : List (List M.Val)} {j : Nat} (ha : M.likeF a = 0) (hj : j < L.length) (h : M.fitAll a L[j] = true) : M.getF a (M.mid a L j) = 0 ∧ M.getV a (M.mid a L j) = L[j] ∧ M.lessL a (M.mid a L j) = M.mid a L (j + 1) := by
  have e : M.mid a L j = M.keepL a (L.take j) ++ L[j] :: L.drop (j + 1) := by unfold M.mid; rw [List.drop_eq_getElem_cons hj]
  have e2 : M.mid a L (j + 1) = M.keepL a (L.take j) ++ L.drop (j + 1) := by unfold M.mid; rw [keep_yes hj h]
  rw [e, e2]
  exact get_app ha (fun i hi => keep_all hi) h
theorem mid_last {a : List M.Val} {L : List (List M.Val)} (ha : M.likeF a = 0) : M.getF a (M.mid a L L.length) = 5 := by
  rw [mid_end]
  exact getF_miss ha (by rw [spot_keep]; exact Nat.lt_irrefl _)
theorem mid_fine {a : List M.Val} {L : List (List M.Val)} (j : Nat) (h : M.Fine L) : M.Fine (M.mid a L j) := by
  constructor
  · intro t ht
    unfold M.mid M.keepL at ht
    rcases List.mem_append.1 ht with ht | ht
    · exact h.1 t (List.mem_of_mem_take (List.mem_filter.1 ht).1)
    · exact h.1 t (List.mem_of_mem_drop ht)
  · have h1 : (M.keepL a (L.take j)).length ≤ (L.take j).length := List.length_filter_le _ _
    have h2 : (M.mid a L j).length = (M.keepL a (L.take j)).length + (L.drop j).length := by unfold M.mid; rw [List.length_append]
    rw [List.length_take] at h1
    rw [List.length_drop] at h2
    have := h.2
    omega
theorem many_drop {a : List M.Val} {L : List (List M.Val)} {j : Nat} (hj : j < L.length) : M.many a (L.drop j) = M.many a (L.drop (j + 1)) + (if M.fitAll a L[j] then 1 else 0) := by
  unfold M.many
  rw [List.drop_eq_getElem_cons hj, List.countP_cons]

/-- a struct's list stays while another list's row is appended to -/
theorem Sp.grown {T : TypeId} {Q : Value → List M.Val → Prop} {base S m : Nat} {w w' : World} {u v : Value} {L : List (List M.Val)} {xs : List Value} (h : Sp T Q base w S v L) (hT : T ≠ 32) (hx : w.ownsRow base 32 1 u m xs) (ha : Apart v u) (hg : w.grownBy w' u.ownBlock) : Sp T Q base w' S v L := by
  have hS : some S ≠ u.ownBlock := fun e => by
    rcases hx.2 with ⟨hv, _⟩ | ⟨g, cap, c2, hv, _, hh, _⟩
    · rw [hv] at e; cases e
    · rw [hv] at e
      have : S = g := by simpa [Value.ownBlock] using e
      subst this
      rw [h.heap] at hh
      exact hT (tag_eq hh)
  refine ⟨h.lo, (hg.block S (heap_lt h.heap) hS).trans h.heap, ?_⟩
  obtain ⟨ys, h1, h2⟩ := h.row
  refine ⟨ys, h1.kept hg ?_, h2⟩
  cases hv : v.ownBlock with
  | none => exact Or.inl rfl
  | some k => exact Or.inr (fun e => ha k hv e.symm)
theorem Space.grown {base S m : Nat} {w w' : World} {u v : Value} {L : List (List M.Val)} {xs : List Value} (h : Space base w S v L) (hx : w.ownsRow base 32 1 u m xs) (ha : Apart v u) (hg : w.grownBy w' u.ownBlock) : Space base w' S v L :=
  (Sp.grown h (by decide) hx ha hg).mono fun _ _ ho => ho.solid (solid_grown hx hg)
theorem RowOf.grown {Q : Value → List M.Val → Prop} {base : Nat} {w w' : World} {u v : Value} {L : List (List M.Val)} (h : RowOf Q base w v L) (ha : Apart v u) (hg : w.grownBy w' u.ownBlock) : RowOf Q base w' v L := by
  obtain ⟨ys, h1, h2⟩ := h
  refine ⟨ys, h1.kept hg ?_, h2⟩
  cases hv : v.ownBlock with
  | none => exact Or.inl rfl
  | some k => exact Or.inr (fun e => ha k hv e.symm)
/-- the cells of a list's row -/
theorem RowOf.at {Q : Value → List M.Val → Prop} {base : Nat} {w : World} {u : Value} {L : List (List M.Val)} (h : RowOf Q base w u L) (h0 : 0 < L.length) : ∃ g cap, u = .slice (some ⟨g, 0, none⟩) L.length cap ∧ ∀ j (hj : j < L.length), ∃ x, w.cell? ⟨g, j, none⟩ = some x ∧ Q x L[j] := by
  obtain ⟨xs, h1, h2⟩ := h
  have hlen : xs.length = L.length := by have := h1.1; omega
  obtain ⟨g, cap, rfl, _⟩ := h1.form h0
  refine ⟨g, cap, rfl, fun j hj => ⟨xs[j], ?_, h2 j (by omega) hj⟩⟩
  rw [h1.cellAt j (by omega), List.getElem?_eq_getElem (by omega)]
theorem RowOf.shape {Q : Value → List M.Val → Prop} {base : Nat} {w : World} {u : Value} {L : List (List M.Val)} (h : RowOf Q base w u L) : ∃ ao cap, u = .slice ao L.length cap := by
  obtain ⟨xs, h1, _⟩ := h
  rcases h1.2 with ⟨hv, hn⟩ | ⟨g, cap, cur, hv, _⟩
  · exact ⟨none, 0, by rw [hv, hn]⟩
  · exact ⟨_, _, hv⟩
/-- a list of argument tuples, one more appended -/
theorem RowOf.more {Q : Value → List M.Val → Prop} {base : Nat} {w w' : World} {u u' x : Value} {L : List (List M.Val)} {l : List M.Val} {xs : List Value} (hx1 : w.ownsRow base 32 1 u L.length xs) (hx2 : ∀ i (h1 : i < xs.length) (h2 : i < L.length), Q xs[i] L[i]) (ho : w'.ownsRow base 32 1 u' (L.length + 1) (xs ++ [x])) (hq : Q x l) : RowOf Q base w' u' (L ++ [l]) :=
  RowOf.snoc hx2 (by have := hx1.1; omega) ho hq
theorem near_lies {H g : Nat} {w : World} {u : Value} {n c : Nat} (h : u.ownBlock = some g ∨ g = H) (hw : w.heap.size ≤ H) : Near w u (.slice (some ⟨g, 0, none⟩) n c) := by
  rcases h with h | h
  · exact Or.inl h.symm
  · refine Or.inr fun k hk => ?_
    have : g = k := by simpa [Value.ownBlock] using hk
    omega

end Go.Proofs.YtlefhfmckimlaakGreatDoor
