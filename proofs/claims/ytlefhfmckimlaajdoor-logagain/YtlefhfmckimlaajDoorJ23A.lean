/-
  A call of a Go function as one step of a region that draws its order, by the function's contract. For any program.
  What Put of package space does, as one law of its call.
  A map of a call's own that holds the last number of each: its datum, and what one more makes of it. For any program.
-/
import Derived.Deep.RegionLaw
import Derived.WalkKit
import Derived.Shelf.Abstract
import Derived.Test.YtlefhfmckimlaajDoorSpFresh
import Derived.Deep.RegionHeld3
import Derived.Deep.DrawnRows
import Derived.Test.YtlefhfmckimlaajDoorJ1A
import Derived.Maps.Views
import Derived.Maps.Own
import Derived.Maps.OwnOps
namespace Go.Proofs.YtlefhfmckimlaajDoor
open Go.RowKit

theorem step_fn {P : Program} {ops : Array Oper} {o : Oper} {a : Act} {w : World} {K : Act → World → Prop} {Q : Exit → Act → World → Prop} {E : Prop} (hgd : o.guard = none) (f : FuncId) (xs : Array Operand) (ts : Array TypeId)
    (ho : o.op = .call { callee := .value (.func f), args := xs, argTypes := ts }) (vs : Array Value) (hv : xs.map a.eval = vs) (hE : Enters P f) (R : Value → World → Prop)
    (hC : Calls P f vs w fun e w' => ∃ v, e = .returned v ∧ R v w') (h : ∀ v w', R v w' → K (a.put o.dst v) w') : if Region.wanted o (yielded ops a.tmps) = true then Oper.wp P o a w K Q else E := by
  have hw : Region.wanted o (yielded ops a.tmps) = true := by simp [Region.wanted, hgd]
  rw [if_pos hw]
  unfold Oper.wp execOp
  subst hv
  have he := hE (xs.map a.eval) w
  simp only [ho, resolve, invoke, Act.eval, Deferred.ofValue, Sem.run_bind, Sem.run_pure, Result.andThen_ok, Array.append_empty, Array.empty_append]
  rw [he, Oper.upon_enter]
  refine hC.mono ?_
  rintro e w' ⟨v, rfl, hr⟩
  exact h v w' hr

end Go.Proofs.YtlefhfmckimlaajDoor

namespace Go.Proofs.YtlefhfmckimlaajDoor
open Go.RowKit
attribute [local go_sem ↓] Go.wp_at_zero Go.wp_at_succ

/-- a space of the call's own -/
abbrev Space (base : Nat) (w : World) (S : Nat) (v : Value) (L : List (List M.Val)) : Prop := Sp 144 (OwnT base w) base w S v L

theorem Space.stays {base S : Nat} {w w' : World} {v : Value} {L : List (List M.Val)} (h : Space base w S v L) (hb : Below w.heap.size w w') : Space base w' S v L := (Sp.quiet h hb).mono fun _ _ ho => ho.solid (Solid.below hb)
theorem Space.shape {base S : Nat} {w : World} {v : Value} {L : List (List M.Val)} (h : Space base w S v L) : ∃ ao cap, v = .slice ao L.length cap ∧ L.length ≤ maxLen := (h.row.tups fun _ _ ho => ho.vals).shape
theorem Sp.cell {T : TypeId} {Q : Value → List M.Val → Prop} {base S : Nat} {w : World} {v : Value} {L : List (List M.Val)} (h : Sp T Q base w S v L) : w.cell? ⟨S, 0, none⟩ = some v ∧ w.frozen? ⟨S, 0, none⟩ = false ∧ S < w.heap.size := by
  refine ⟨?_, ?_, heap_lt h.heap⟩
  · rw [cell_of_row w S 0 #[v] T (0, 0) h.heap]; rfl
  · exact frozen_of_row w S 0 #[v] T h.heap

/-- one tuple more in a space, in new memory -/
theorem Space.put {base S : Nat} {w w1 wA w3 : World} {v v' x : Value} {L : List (List M.Val)} {l : List M.Val} {xs : List Value} (hb : Below w.heap.size w w1) (hb2 : Below w1.heap.size w1 wA) (h : Space base wA S v L) (hx1 : wA.ownsRow base 59 1 v L.length xs) (hx2 : ∀ i (h1 : i < xs.length) (h2 : i < L.length), OwnT base wA xs[i] L[i])
    (hx : OwnT base wA x l) (hg : wA.grownBy w3 v.ownBlock) (ho : w3.ownsRow base 59 1 v' (L.length + 1) (xs ++ [x])) (hn : Near wA v v') :
    Space base (w3.setCell ⟨S, 0, none⟩ v') S v' (L ++ [l]) ∧ Touch S v w (w3.setCell ⟨S, 0, none⟩ v') ∧ Near w v v' := by
  have hlen : xs.length = L.length := by have := hx1.1; omega
  obtain ⟨h1, h2⟩ := Sp.stored (by decide) h hg (RowOf.snoc hx2 hlen ho hx) hn
  have hs := Sp.solid h (by decide) h2
  exact ⟨h1.mono fun _ _ ho => ho.solid hs, (h2.after hb2).after hb, hn.mono (Nat.le_trans hb.size hb2.size)⟩

theorem put_bad (S : Nat) (t : Value) (l : List M.Val) (w : World) (ht : IsVals w t l) (hf : M.tupF l ≠ 0) :
    Calls Tryd.prog 91 #[.pointer (some ⟨S, 0, none⟩), t] w fun e w' => e = .returned (errV (M.tupF l)) ∧ Below w.heap.size w w' := by
  have HC : Hid (Calls Tryd.prog 80 #[t] w fun e w' => e = .returned (.iface 66 (.int .i64 (M.tupF l))) ∧ Below w.heap.size w w') := hide (by rw [← errV_bad hf]; exact tcheck t l w ht)
  have HF := hide hf
  clear hf ht
  go_enter Tryd.func91, Tryd.ntmps91
  go_wp2_with fail
  refine (unhide HC).mono ?_
  rintro e w1 ⟨rfl, hb1⟩
  go_wp2_with fail
  go_ret
  exact ⟨by rw [errV_bad HF.out]; rfl, hb1⟩

theorem put_full (S n cap : Nat) (ao : Option Addr) (t : Value) (l : List M.Val) (w : World) (ht : IsVals w t l) (hf : M.tupF l = 0) (hS : S < w.heap.size) (hc : w.cell? ⟨S, 0, none⟩ = some (.slice ao n cap)) (hn : 20 ≤ n) (hm : n ≤ maxLen) :
    Calls Tryd.prog 91 #[.pointer (some ⟨S, 0, none⟩), t] w fun e w' => e = .returned (errV 4) ∧ Below w.heap.size w w' := by
  unfold maxLen at hm
  have HC : Hid (Calls Tryd.prog 80 #[t] w fun e w' => e = .returned .nilIface ∧ Below w.heap.size w w') := hide (by have := tcheck t l w ht; rwa [hf] at this)
  have h20 : (20 : Int) ≤ (n : Int) := by omega
  have HS := hide hS
  have HCe := hide hc
  clear hf ht hc
  go_enter Tryd.func91, Tryd.ntmps91
  go_wp2_with fail
  refine (unhide HC).mono ?_
  rintro e w1 ⟨rfl, hb1⟩
  have c1 : w1.cell? ⟨S, 0, none⟩ = some (.slice ao n cap) := (hb1.cell (p := ⟨S, 0, none⟩) HS.out).trans HCe.out
  go_wp2_with fail
  go_ret
  exact ⟨rfl, hb1⟩

set_option maxHeartbeats 1000000 in
set_option maxRecDepth 100000 in
theorem put_ok (base S n cap : Nat) (ao : Option Addr) (t : Value) (l : List M.Val) (L : List (List M.Val)) (w : World) (hs : Space base w S (.slice ao n cap) L) (ht : IsVals w t l) (hf : M.tupF l = 0) (hL : n = L.length) (hn : n < 20) :
    Calls Tryd.prog 91 #[.pointer (some ⟨S, 0, none⟩), t] w fun e w' => e = .returned .nilIface ∧ ∃ v', Space base w' S v' (L ++ [l]) ∧ Touch S (.slice ao n cap) w w' ∧ Near w (.slice ao n cap) v' := by
  obtain ⟨i0, hi, hz0, hz1, hz2⟩ := info_parts infoT
  have HI := hide (And.intro hi (And.intro hz0 (And.intro hz1 hz2)))
  have HC : Hid (Calls Tryd.prog 80 #[t] w fun e w' => e = .returned .nilIface ∧ Below w.heap.size w w') := hide (by have := tcheck t l w ht; rwa [hf] at this)
  have h20 : ¬ (20 : Int) ≤ (n : Int) := by omega
  obtain ⟨hc, hfz, hS⟩ := hs.cell
  have HS := hide hS
  have HP := hide hs
  have HT := hide ht
  have HF := hide hf
  have HL := hide hL
  clear hf ht hc hfz hs hL hi hz0 hz1 hz2
  go_enter Tryd.func91, Tryd.ntmps91
  go_wp2_with fail
  refine (unhide HC).mono ?_
  rintro e w1 ⟨rfl, hb1⟩
  have HP1 := hide (Space.stays HP.out hb1)
  have HT1 := hide (HT.out.stays hb1 (Nat.le_refl _))
  obtain ⟨c1, f1, s1⟩ := HP1.out.cell
  have HB1 := hide hb1
  clear hb1
  have HG : Hid (Calls Tryd.prog 56 #[t] w1.drew fun e w' => ∃ v', e = .returned v' ∧ ∃ g c, v' = .slice (some ⟨g, 0, none⟩) l.length c ∧ OwnT w1.drew.heap.size w' (.slice (some ⟨g, 0, none⟩) l.length c) l ∧ Below w1.drew.heap.size w1.drew w') := hide ((freshAt t l w1.drew HT1.out HF.out).mono fun e w' ⟨g, c, h1, h2⟩ => ⟨_, h1, g, c, rfl, h2⟩)
  have HE : Hid (Enters Tryd.prog 56) := hide (enters_of Tryd.func56 (by kernel_rfl) rfl)
  go_wp2_with fail
  go_region_law
    (first
      | (refine step_fn (by rfl) 56 #[.tmp 23] #[59] (by rfl) #[t] (by simp [Act.eval, Act.put]) HE.out _ HG.out ?_
         rintro v2 w2 ⟨g2, k2, rfl, hO2, hb2⟩
         have HB2 := hide ((Below.refl w1.heap.size w1).drew.trans hb2)
         have HP2 := hide (Space.stays HP1.out HB2.out)
         have HP3 := hide (Space.stays HP2.out ((Below.refl _ _).alloc (Nat.le_refl _) (.cells #[.slice (some ⟨g2, 0, none⟩) l.length k2] 59)))
         have hne := hide (HP2.out.row_ne (by decide))
         obtain ⟨xs, hx1, hx2⟩ := HP3.out.row
         rw [← HL.out] at hx1
         have HX := hide hx1
         have HX2 := hide hx2
         obtain ⟨c2, f2, s2⟩ := HP2.out.cell
         have HB := hide (Nat.le_trans HP3.out.lo (Nat.le_of_lt HP3.out.cell.2.2))
         have HNW : Hid (∀ j u, [Value.slice (some ⟨g2, 0, none⟩) l.length k2][j]? = some u → (w2.alloc (.cells #[.slice (some ⟨g2, 0, none⟩) l.length k2] 59)).cell? ((⟨w2.heap.size, 0, none⟩ : Addr).add j) = some u) := hide (World.news_of_block (heap_alloc_new w2 _))
         have HO2 := hide hO2
         clear hx1 hx2 hO2 hb2)
      | (refine step_append_lies _ (by rfl) (.tmp 22) (.tmp 25) 142 (by rfl) base 59 i0 (.slice none 0 0) 1 24 Tryd.underlying142 HI.out.1 HI.out.2.1 HI.out.2.2.1 HI.out.2.2.2 rfl (by decide) (.slice ao n cap) n xs (by simp [Act.eval]) HX.out ⟨w2.heap.size, 0, none⟩ 1 1 [.slice (some ⟨g2, 0, none⟩) l.length k2] (by simp [Act.eval]) rfl HNW.out (by intro u hu; simp at hu; subst hu; rfl) (by decide) (by unfold maxLen; omega) (by omega) HB.out (w2.heap.size + 1) (by simp) ?_
         intro g3 k3 w3 hown3 hgrow3 hat3 hlt3
         have c4 : w3.cell? ⟨S, 0, none⟩ = some (.slice ao n cap) := hgrow3.cell HP3.out.cell.1 (fun e => hne.out e.symm)
         have f4 : w3.frozen? ⟨S, 0, none⟩ = false := (World.frozen?_of_block (hgrow3.block S HP3.out.cell.2.2 (fun e => hne.out e.symm))).trans HP3.out.cell.2.1
         have HO3 := hide hown3
         have HG3 := hide hgrow3
         clear hown3 hgrow3))
  all_goals
    go_wp2_with fail
    go_ret
    refine ⟨rfl, _, Space.put (xs := xs) (x := .slice (some ⟨g2, 0, none⟩) l.length k2) HB1.out (HB2.out.alloc HB2.out.size _) HP3.out (HL.out ▸ HX.out) HX2.out ?_ HG3.out (HL.out ▸ HO3.out) ?_⟩
    · exact (HO2.out.mono (Nat.le_trans HP1.out.lo (Nat.le_of_lt s1))).solid (Solid.below ((Below.refl _ _).alloc (Nat.le_refl _) _))
    · rcases hat3 with h | h
      · exact Or.inl h.symm
      · refine Or.inr fun k hk => ?_
        have : g3 = k := by simpa [Value.ownBlock] using hk
        simp; omega

theorem put (base S : Nat) (v t : Value) (l : List M.Val) (L : List (List M.Val)) (w : World) (hs : Space base w S v L) (ht : IsVals w t l) :
    Calls Tryd.prog 91 #[.pointer (some ⟨S, 0, none⟩), t] w fun e w' => e = .returned (errV (M.putF L l)) ∧ ∃ v', Space base w' S v' (M.putL L l) ∧ Touch S v w w' ∧ Near w v v' := by
  by_cases hf : M.tupF l = 0
  · obtain ⟨ao, cap, rfl, hm⟩ := hs.shape
    obtain ⟨hc, _, hS⟩ := hs.cell
    by_cases hn : L.length < 20
    · rw [putF_ok hf hn, putL_yes (putF_ok hf hn)]
      exact put_ok base S L.length cap ao t l L w hs ht hf rfl hn
    · have e4 := putF_full (L := L) hf (by omega)
      rw [e4, putL_no (by rw [e4]; decide)]
      refine (put_full S L.length cap ao t l w ht hf hS hc (by omega) hm).mono ?_
      rintro e w' ⟨rfl, hb⟩
      exact ⟨rfl, _, hs.stays hb, Touch.of_below hb, Near.refl _ _⟩
  · rw [putF_bad hf, putL_no (by rw [putF_bad hf]; exact hf)]
    refine (put_bad S t l w ht hf).mono ?_
    rintro e w' ⟨rfl, hb⟩
    exact ⟨rfl, _, hs.stays hb, Touch.of_below hb, Near.refl _ _⟩

end Go.Proofs.YtlefhfmckimlaajDoor

set_option linter.unusedVariables false
namespace Go.Proofs.YtlefhfmckimlaajDoor
open Go.RowKit Go.WideMaps Go.Maps

/-- a number as a key -/
def keyI (k : Int) : Lit := .int .i64 k
/-- the map says the last one of each -/
def Lasts (D : DataW Unit) (f : Int → Int) : Prop := IsMap D ∧ ∀ k, D.atKey (keyI k) (.lit (.int .i64 0)) = .lit (.int .i64 (f k))
theorem lasts_none : Lasts (.map []) (fun _ => 0) := ⟨isMap_empty, fun s => rfl⟩
theorem Lasts.said {D : DataW Unit} {f : Int → Int} (h : Lasts D f) {k c : Int} (hc : D.atKey (keyI k) (.lit (.int .i64 0)) = .lit (.int .i64 c)) : c = f k := by
  rw [h.2 k] at hc
  simpa using hc.symm
theorem Lasts.up {D : DataW Unit} {f : Int → Int} (h : Lasts D f) (a : M.Ask) : Lasts (D.put (keyI a.who) (.lit (.int .i64 a.seq))) (M.upF f a) := by
  refine ⟨h.1.put _ _, fun k => ?_⟩
  by_cases e : k = a.who
  · subst e
    rw [atKey_put_same h.1 (by simp [keyI, WideAt.IsKeyLit]), M.upF_same]
  · rw [atKey_put_other (fun g => e (by simpa [keyI] using g)), M.upF_other e, h.2 k]

end Go.Proofs.YtlefhfmckimlaajDoor
