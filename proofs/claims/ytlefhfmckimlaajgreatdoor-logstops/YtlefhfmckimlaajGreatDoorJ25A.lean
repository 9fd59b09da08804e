/-
  A call of a Go function as one step of a region that draws its order, by the function's contract. For any program.
  What Put of package space does, as one law of its call.
  A map of a call's own that holds the last number of each: its datum, and what one more makes of it. For any program.
  A copy in memory of a call's own: a struct that leads to a space, to rules and to a map of the last that was done of each; what a call on it leaves as it was.
-/
import Derived.Deep.RegionLaw
import Derived.WalkKit
import Derived.Shelf.Abstract
import Derived.Test.YtlefhfmckimlaajGreatDoorSpFresh
import Derived.Deep.RegionHeld3
import Derived.Deep.DrawnRows
import Derived.Test.YtlefhfmckimlaajGreatDoorJ1A
import Derived.Maps.Views
import Derived.Maps.Own
import Derived.Maps.OwnOps
import Derived.Test.YtlefhfmckimlaajGreatDoorJ21A
import Derived.Test.YtlefhfmckimlaajGreatDoorJ22A
import Derived.Test.YtlefhfmckimlaajGreatDoorCopMath
import Derived.Maps.OwnSet
namespace Go.Proofs.YtlefhfmckimlaajGreatDoor
open Go.RowKit

theorem step_fn {P : Program} {ops : Array Oper} {o : Oper} {a : Act} {w : World} {K : Act → World → Prop} {Q : Exit → Act → World → Prop} {E : Prop} (hgd : o.guard = none) (f : FuncId) (xs : Array Operand) (ts : Array TypeId)
    (ho : o.op = .call { callee := .value (.func f), args := xs, argTypes := ts }) (vs : Array Value) (hv : xs.map a.eval = vs) (hE : Enters P f) (R : Value → World → Prop)
    (hC : Calls P f vs w fun e w' => ∃ v, e = .returned v ∧ R v w') (h : ∀ v w', R v w' → K (a.put o.dst v) w') : if Region.wanted o (yielded ops a.tmps) = true then Oper.wp P o a w K Q else E := by
  have hw : Region.wanted o (yielded ops a.tmps) = true := by simp [Region.wanted, hgd]
  rw [if_pos hw]
  unfold Oper.wp execOp
  subst hv
  have he := hE (xs.map a.eval) w
  simp only [ho, resolve, invoke, Act.eval, Deferred.ofValue, Sem.run_bind, Sem.run_pure, Result.andThen_ok, Array.append_empty, Array.empty_append]
  rw [he, Oper.upon_enter]
  refine hC.mono ?_
  rintro e w' ⟨v, rfl, hr⟩
  exact h v w' hr

end Go.Proofs.YtlefhfmckimlaajGreatDoor

namespace Go.Proofs.YtlefhfmckimlaajGreatDoor
open Go.RowKit
attribute [local go_sem ↓] Go.wp_at_zero Go.wp_at_succ

/-- a space of the call's own -/
abbrev Space (base : Nat) (w : World) (S : Nat) (v : Value) (L : List (List M.Val)) : Prop := Sp 99 (OwnT base w) base w S v L

theorem Space.stays {base S : Nat} {w w' : World} {v : Value} {L : List (List M.Val)} (h : Space base w S v L) (hb : Below w.heap.size w w') : Space base w' S v L := (Sp.quiet h hb).mono fun _ _ ho => ho.solid (Solid.below hb)
theorem Space.shape {base S : Nat} {w : World} {v : Value} {L : List (List M.Val)} (h : Space base w S v L) : ∃ ao cap, v = .slice ao L.length cap ∧ L.length ≤ maxLen := (h.row.tups fun _ _ ho => ho.vals).shape
theorem Sp.cell {T : TypeId} {Q : Value → List M.Val → Prop} {base S : Nat} {w : World} {v : Value} {L : List (List M.Val)} (h : Sp T Q base w S v L) : w.cell? ⟨S, 0, none⟩ = some v ∧ w.frozen? ⟨S, 0, none⟩ = false ∧ S < w.heap.size := by
  refine ⟨?_, ?_, heap_lt h.heap⟩
  · rw [cell_of_row w S 0 #[v] T (0, 0) h.heap]; rfl
  · exact frozen_of_row w S 0 #[v] T h.heap

/-- one tuple more in a space, in new memory -/
theorem Space.put {base S : Nat} {w w1 wA w3 : World} {v v' x : Value} {L : List (List M.Val)} {l : List M.Val} {xs : List Value} (hb : Below w.heap.size w w1) (hb2 : Below w1.heap.size w1 wA) (h : Space base wA S v L) (hx1 : wA.ownsRow base 33 1 v L.length xs) (hx2 : ∀ i (h1 : i < xs.length) (h2 : i < L.length), OwnT base wA xs[i] L[i])
    (hx : OwnT base wA x l) (hg : wA.grownBy w3 v.ownBlock) (ho : w3.ownsRow base 33 1 v' (L.length + 1) (xs ++ [x])) (hn : Near wA v v') :
    Space base (w3.setCell ⟨S, 0, none⟩ v') S v' (L ++ [l]) ∧ Touch S v w (w3.setCell ⟨S, 0, none⟩ v') ∧ Near w v v' := by
  have hlen : xs.length = L.length := by have := hx1.1; omega
  obtain ⟨h1, h2⟩ := Sp.stored (by decide) h hg (RowOf.snoc hx2 hlen ho hx) hn
  have hs := Sp.solid h (by decide) h2
  exact ⟨h1.mono fun _ _ ho => ho.solid hs, (h2.after hb2).after hb, hn.mono (Nat.le_trans hb.size hb2.size)⟩

theorem put_bad (S : Nat) (t : Value) (l : List M.Val) (w : World) (ht : IsVals w t l) (hf : M.tupF l ≠ 0) :
    Calls Tryz.prog 21 #[.pointer (some ⟨S, 0, none⟩), t] w fun e w' => e = .returned (errV (M.tupF l)) ∧ Below w.heap.size w w' := by
  have HC : Hid (Calls Tryz.prog 44 #[t] w fun e w' => e = .returned (.iface 66 (.int .i64 (M.tupF l))) ∧ Below w.heap.size w w') := hide (by rw [← errV_bad hf]; exact tcheck t l w ht)
  have HF := hide hf
  clear hf ht
  go_enter Tryz.func21, Tryz.ntmps21
  go_wp2_with fail
  refine (unhide HC).mono ?_
  rintro e w1 ⟨rfl, hb1⟩
  go_wp2_with fail
  go_ret
  exact ⟨by rw [errV_bad HF.out]; rfl, hb1⟩

theorem put_full (S n cap : Nat) (ao : Option Addr) (t : Value) (l : List M.Val) (w : World) (ht : IsVals w t l) (hf : M.tupF l = 0) (hS : S < w.heap.size) (hc : w.cell? ⟨S, 0, none⟩ = some (.slice ao n cap)) (hn : 20 ≤ n) (hm : n ≤ maxLen) :
    Calls Tryz.prog 21 #[.pointer (some ⟨S, 0, none⟩), t] w fun e w' => e = .returned (errV 4) ∧ Below w.heap.size w w' := by
  unfold maxLen at hm
  have HC : Hid (Calls Tryz.prog 44 #[t] w fun e w' => e = .returned .nilIface ∧ Below w.heap.size w w') := hide (by have := tcheck t l w ht; rwa [hf] at this)
  have h20 : (20 : Int) ≤ (n : Int) := by omega
  have HS := hide hS
  have HCe := hide hc
  clear hf ht hc
  go_enter Tryz.func21, Tryz.ntmps21
  go_wp2_with fail
  refine (unhide HC).mono ?_
  rintro e w1 ⟨rfl, hb1⟩
  have c1 : w1.cell? ⟨S, 0, none⟩ = some (.slice ao n cap) := (hb1.cell (p := ⟨S, 0, none⟩) HS.out).trans HCe.out
  go_wp2_with fail
  go_ret
  exact ⟨rfl, hb1⟩

set_option maxHeartbeats 1000000 in
set_option maxRecDepth 100000 in
theorem put_ok (base S n cap : Nat) (ao : Option Addr) (t : Value) (l : List M.Val) (L : List (List M.Val)) (w : World) (hs : Space base w S (.slice ao n cap) L) (ht : IsVals w t l) (hf : M.tupF l = 0) (hL : n = L.length) (hn : n < 20) :
    Calls Tryz.prog 21 #[.pointer (some ⟨S, 0, none⟩), t] w fun e w' => e = .returned .nilIface ∧ ∃ v', Space base w' S v' (L ++ [l]) ∧ Touch S (.slice ao n cap) w w' ∧ Near w (.slice ao n cap) v' := by
  obtain ⟨i0, hi, hz0, hz1, hz2⟩ := info_parts infoT
  have HI := hide (And.intro hi (And.intro hz0 (And.intro hz1 hz2)))
  have HC : Hid (Calls Tryz.prog 44 #[t] w fun e w' => e = .returned .nilIface ∧ Below w.heap.size w w') := hide (by have := tcheck t l w ht; rwa [hf] at this)
  have h20 : ¬ (20 : Int) ≤ (n : Int) := by omega
  obtain ⟨hc, hfz, hS⟩ := hs.cell
  have HS := hide hS
  have HP := hide hs
  have HT := hide ht
  have HF := hide hf
  have HL := hide hL
  clear hf ht hc hfz hs hL hi hz0 hz1 hz2
  go_enter Tryz.func21, Tryz.ntmps21
  go_wp2_with fail
  refine (unhide HC).mono ?_
  rintro e w1 ⟨rfl, hb1⟩
  have HP1 := hide (Space.stays HP.out hb1)
  have HT1 := hide (HT.out.stays hb1 (Nat.le_refl _))
  obtain ⟨c1, f1, s1⟩ := HP1.out.cell
  have HB1 := hide hb1
  clear hb1
  have HG : Hid (Calls Tryz.prog 45 #[t] w1.drew fun e w' => ∃ v', e = .returned v' ∧ ∃ g c, v' = .slice (some ⟨g, 0, none⟩) l.length c ∧ OwnT w1.drew.heap.size w' (.slice (some ⟨g, 0, none⟩) l.length c) l ∧ Below w1.drew.heap.size w1.drew w') := hide ((freshAt t l w1.drew HT1.out HF.out).mono fun e w' ⟨g, c, h1, h2⟩ => ⟨_, h1, g, c, rfl, h2⟩)
  have HE : Hid (Enters Tryz.prog 45) := hide (enters_of Tryz.func45 (by kernel_rfl) rfl)
  go_wp2_with fail
  go_region_law
    (first
      | (refine step_fn (by rfl) 45 #[.tmp 23] #[33] (by rfl) #[t] (by simp [Act.eval, Act.put]) HE.out _ HG.out ?_
         rintro v2 w2 ⟨g2, k2, rfl, hO2, hb2⟩
         have HB2 := hide ((Below.refl w1.heap.size w1).drew.trans hb2)
         have HP2 := hide (Space.stays HP1.out HB2.out)
         have HP3 := hide (Space.stays HP2.out ((Below.refl _ _).alloc (Nat.le_refl _) (.cells #[.slice (some ⟨g2, 0, none⟩) l.length k2] 33)))
         have hne := hide (HP2.out.row_ne (by decide))
         obtain ⟨xs, hx1, hx2⟩ := HP3.out.row
         rw [← HL.out] at hx1
         have HX := hide hx1
         have HX2 := hide hx2
         obtain ⟨c2, f2, s2⟩ := HP2.out.cell
         have HB := hide (Nat.le_trans HP3.out.lo (Nat.le_of_lt HP3.out.cell.2.2))
         have HNW : Hid (∀ j u, [Value.slice (some ⟨g2, 0, none⟩) l.length k2][j]? = some u → (w2.alloc (.cells #[.slice (some ⟨g2, 0, none⟩) l.length k2] 33)).cell? ((⟨w2.heap.size, 0, none⟩ : Addr).add j) = some u) := hide (World.news_of_block (heap_alloc_new w2 _))
         have HO2 := hide hO2
         clear hx1 hx2 hO2 hb2)
      | (refine step_append_lies _ (by rfl) (.tmp 22) (.tmp 25) 22 (by rfl) base 33 i0 (.slice none 0 0) 1 24 Tryz.underlying22 HI.out.1 HI.out.2.1 HI.out.2.2.1 HI.out.2.2.2 rfl (by decide) (.slice ao n cap) n xs (by simp [Act.eval]) HX.out ⟨w2.heap.size, 0, none⟩ 1 1 [.slice (some ⟨g2, 0, none⟩) l.length k2] (by simp [Act.eval]) rfl HNW.out (by intro u hu; simp at hu; subst hu; rfl) (by decide) (by unfold maxLen; omega) (by omega) HB.out (w2.heap.size + 1) (by simp) ?_
         intro g3 k3 w3 hown3 hgrow3 hat3 hlt3
         have c4 : w3.cell? ⟨S, 0, none⟩ = some (.slice ao n cap) := hgrow3.cell HP3.out.cell.1 (fun e => hne.out e.symm)
         have f4 : w3.frozen? ⟨S, 0, none⟩ = false := (World.frozen?_of_block (hgrow3.block S HP3.out.cell.2.2 (fun e => hne.out e.symm))).trans HP3.out.cell.2.1
         have HO3 := hide hown3
         have HG3 := hide hgrow3
         clear hown3 hgrow3))
  all_goals
    go_wp2_with fail
    go_ret
    refine ⟨rfl, _, Space.put (xs := xs) (x := .slice (some ⟨g2, 0, none⟩) l.length k2) HB1.out (HB2.out.alloc HB2.out.size _) HP3.out (HL.out ▸ HX.out) HX2.out ?_ HG3.out (HL.out ▸ HO3.out) ?_⟩
    · exact (HO2.out.mono (Nat.le_trans HP1.out.lo (Nat.le_of_lt s1))).solid (Solid.below ((Below.refl _ _).alloc (Nat.le_refl _) _))
    · rcases hat3 with h | h
      · exact Or.inl h.symm
      · refine Or.inr fun k hk => ?_
        have : g3 = k := by simpa [Value.ownBlock] using hk
        simp; omega

theorem put (base S : Nat) (v t : Value) (l : List M.Val) (L : List (List M.Val)) (w : World) (hs : Space base w S v L) (ht : IsVals w t l) :
    Calls Tryz.prog 21 #[.pointer (some ⟨S, 0, none⟩), t] w fun e w' => e = .returned (errV (M.putF L l)) ∧ ∃ v', Space base w' S v' (M.putL L l) ∧ Touch S v w w' ∧ Near w v v' := by
  by_cases hf : M.tupF l = 0
  · obtain ⟨ao, cap, rfl, hm⟩ := hs.shape
    obtain ⟨hc, _, hS⟩ := hs.cell
    by_cases hn : L.length < 20
    · rw [putF_ok hf hn, putL_yes (putF_ok hf hn)]
      exact put_ok base S L.length cap ao t l L w hs ht hf rfl hn
    · have e4 := putF_full (L := L) hf (by omega)
      rw [e4, putL_no (by rw [e4]; decide)]
      refine (put_full S L.length cap ao t l w ht hf hS hc (by omega) hm).mono ?_
      rintro e w' ⟨rfl, hb⟩
      exact ⟨rfl, _, hs.stays hb, Touch.of_below hb, Near.refl _ _⟩
  · rw [putF_bad hf, putL_no (by rw [putF_bad hf]; exact hf)]
    refine (put_bad S t l w ht hf).mono ?_
    rintro e w' ⟨rfl, hb⟩
    exact ⟨rfl, _, hs.stays hb, Touch.of_below hb, Near.refl _ _⟩

end Go.Proofs.YtlefhfmckimlaajGreatDoor

set_option linter.unusedVariables false
namespace Go.Proofs.YtlefhfmckimlaajGreatDoor
open Go.RowKit Go.WideMaps Go.Maps

/-- a number as a key -/
def keyI (k : Int) : Lit := .int .i64 k
/-- the map says the last one of each -/
def Lasts (D : DataW Unit) (f : Int → Int) : Prop := IsMap D ∧ ∀ k, D.atKey (keyI k) (.lit (.int .i64 0)) = .lit (.int .i64 (f k))
theorem lasts_none : Lasts (.map []) (fun _ => 0) := ⟨isMap_empty, fun s => rfl⟩
theorem Lasts.said {D : DataW Unit} {f : Int → Int} (h : Lasts D f) {k c : Int} (hc : D.atKey (keyI k) (.lit (.int .i64 0)) = .lit (.int .i64 c)) : c = f k := by
  rw [h.2 k] at hc
  simpa using hc.symm
theorem Lasts.up {D : DataW Unit} {f : Int → Int} (h : Lasts D f) (a : M.Ask) : Lasts (D.put (keyI a.who) (.lit (.int .i64 a.seq))) (M.upF f a) := by
  refine ⟨h.1.put _ _, fun k => ?_⟩
  by_cases e : k = a.who
  · subst e
    rw [atKey_put_same h.1 (by simp [keyI, WideAt.IsKeyLit]), M.upF_same]
  · rw [atKey_put_other (fun g => e (by simpa [keyI] using g)), M.upF_other e, h.2 k]

end Go.Proofs.YtlefhfmckimlaajGreatDoor

set_option linter.unusedVariables false
namespace Go.Proofs.YtlefhfmckimlaajGreatDoor
open Go.RowKit Go.WideMaps Go.Maps

/-- how an element of whatever type reads: as itself -/
def heldR (v : Value) : Option (DataW Value × List MemPlace) := some (.held v, [])
/-- the last that was done, with its answer -/
abbrev aggD (s : Int) (a : ByteArray) : Value := .agg #[.int .i64 s, .string a]
/-- the map says the last of each -/
def Says (D : DataW Value) (g : Int → Int × ByteArray) : Prop := IsMap D ∧ (∀ k, D.atKey (keyI k) (.held (aggD 0 M.sNo)) = .held (aggD (g k).1 (g k).2)) ∧ ∀ k, Maps.has D (keyI k) = decide (0 < (g k).1)
theorem says_none : Says (.map []) (fun _ => (0, M.sNo)) := ⟨isMap_empty, fun s => rfl, fun s => rfl⟩
theorem Says.up {D : DataW Value} {g : Int → Int × ByteArray} (h : Says D g) (a : M.Ask) (s : ByteArray) (hp : 0 < a.seq) : Says (D.put (keyI a.who) (.held (aggD a.seq s))) (M.upG g a s) := by
  refine ⟨h.1.put _ _, fun k => ?_, fun k => ?_⟩
  · by_cases e : k = a.who
    · subst e
      rw [atKey_put_same h.1 (by simp [keyI, WideAt.IsKeyLit]), M.upG_same]
    · rw [atKey_put_other (fun g => e (by simpa [keyI] using g)), M.upG_other e, h.2.1 k]
  · by_cases e : k = a.who
    · subst e
      rw [has_put_same h.1 (by simp [keyI, WideAt.IsKeyLit]), M.upG_same]
      exact (decide_eq_true hp).symm
    · rw [has_put_other (fun g => e (by simpa [keyI] using g)), M.upG_other e, h.2.2 k]
theorem keyed_int : Keyed Tryz.prog 3 := int_keyed Tryz.underlying3
theorem zero_done (w : World) : (zeroValue 125).run Tryz.prog w = .ok (aggD 0 M.sNo) w := by kernel_rfl
theorem keyI_mk {k : Int} (h1 : -1000001 ≤ k) (h2 : k ≤ 1000001) : keyOf Tryz.prog 3 (.int .i64 k) = some (keyI k) := keyOf_int_mk Tryz.underlying3 (WalkArith.wf_i64 (by omega))
theorem Says.look {w : World} {B n : Nat} {D : DataW Value} {g : Int → Int × ByteArray} (h : w.ownsMap Tryz.prog 3 heldR B n D) (hs : Says D g) {k : Int} (h1 : -1000001 ≤ k) (h2 : k ≤ 1000001) : (Instr.lookup 120 (.map (some B)) (.int .i64 k) true).run Tryz.prog w = .ok (.tuple #[aggD (g k).1 (g k).2, .bool (decide (0 < (g k).1))]) w := by
  obtain ⟨v, ps, hr, hv⟩ := h.look_ok keyed_int Tryz.underlying120 (zero_done w) (zd := .held (aggD 0 M.sNo)) (zp := []) rfl (keyI_mk h1 h2)
  rw [hs.2.1 k] at hv
  have e : v = aggD (g k).1 (g k).2 := by
    unfold heldR at hv
    simp only [Option.some.injEq, Prod.mk.injEq, DataW.held.injEq] at hv
    exact hv.1
  rw [e, hs.2.2 k] at hr
  exact hr

/-- the cells of rules whose tuples are the call's own -/
def RowO (base : Nat) (w : World) : List Value → List M.Rul → Prop
  | xs, [] => xs = []
  | xs, r :: l => ∃ v ys, xs = .int .i64 r.deed :: .int .i64 r.who :: v :: .bool r.may :: ys ∧ OwnT base w v r.like ∧ RowO base w ys l
theorem RowO.row {base : Nat} {w : World} : ∀ {l : List M.Rul} {xs : List Value}, RowO base w xs l → RowR w xs l
  | [], xs, h => h
  | r :: l, xs, h => by
    obtain ⟨v, ys, e, h1, h2⟩ := h
    exact ⟨v, ys, e, h1.vals, RowO.row h2⟩
theorem RowO.solid {base : Nat} {w w' : World} (hs : Solid w w') : ∀ {l : List M.Rul} {xs : List Value}, RowO base w xs l → RowO base w' xs l
  | [], xs, h => h
  | r :: l, xs, h => by
    obtain ⟨v, ys, e, h1, h2⟩ := h
    exact ⟨v, ys, e, h1.solid hs, RowO.solid hs h2⟩
/-- rules of the call's own -/
def OwnR (base : Nat) (w : World) (rv : Value) (R : List M.Rul) : Prop := ∃ xs, w.ownsRow base 49 4 rv R.length xs ∧ RowO base w xs R
theorem OwnR.at {base : Nat} {w : World} {rv : Value} {R : List M.Rul} (h : OwnR base w rv R) : ∃ a cap, rv = .slice a R.length cap ∧ AtR w a R := by
  obtain ⟨xs, h1, h2⟩ := h
  exact atR_own rfl h2.row h1

/-- a copy -/
structure Cp (base : Nat) (w : World) (C S B : Nat) (v rv : Value) (l : List (List M.Val)) (g : Int → Int × ByteArray) (m : Int) (k : Nat) (R : List M.Rul) : Prop where
  lo : base ≤ C
  lob : base ≤ B
  heap : w.heap[C]? = some (.cells #[rv, .pointer (some ⟨S, 0, none⟩), .map (some B), .int .i64 m] 122 (0, 0))
  sp : Space base w S v l
  map : ∃ D, w.ownsMap Tryz.prog 3 heldR B k D ∧ Says D g
  rules : OwnR base w rv R
/-- its blocks -/
def cpF (C S B : Nat) (v rv : Value) (k : Nat) : Prop := k = C ∨ k = S ∨ k = B ∨ v.ownBlock = some k ∨ rv.ownBlock = some k
section
variable {base : Nat} {w w' : World} {C S B : Nat} {v v' rv : Value} {l l' : List (List M.Val)} {g g' : Int → Int × ByteArray} {m m' : Int} {k : Nat} {R : List M.Rul}
theorem Cp.cells (h : Cp base w C S B v rv l g m k R) : w.cell? ⟨C, 0, none⟩ = some rv ∧ w.cell? ⟨C, 1, none⟩ = some (.pointer (some ⟨S, 0, none⟩)) ∧ w.cell? ⟨C, 2, none⟩ = some (.map (some B)) ∧ w.cell? ⟨C, 3, none⟩ = some (.int .i64 m) ∧ C < w.heap.size ∧ ∀ j, w.frozen? ⟨C, j, none⟩ = false := by
  refine ⟨?_, ?_, ?_, ?_, heap_lt h.heap, fun j => frozen_of_row w C j _ _ h.heap⟩
  · rw [cell_of_row w C 0 _ _ (0, 0) h.heap]; rfl
  · rw [cell_of_row w C 1 _ _ (0, 0) h.heap]; rfl
  · rw [cell_of_row w C 2 _ _ (0, 0) h.heap]; rfl
  · rw [cell_of_row w C 3 _ _ (0, 0) h.heap]; rfl
theorem Cp.mapHeap (h : Cp base w C S B v rv l g m k R) : ∃ es c, w.heap[B]? = some (.map es c) := by
  obtain ⟨D, ⟨es, c, hb, _⟩, _⟩ := h.map
  exact ⟨es, c, hb⟩
theorem Cp.rowR (h : Cp base w C S B v rv l g m k R) {b : Nat} (hb : rv.ownBlock = some b) : base ≤ b ∧ ∃ c fr, w.heap[b]? = some (.cells c 49 fr) := by
  obtain ⟨xs, h1, _⟩ := h.rules
  exact ownsRow_tag h1 hb
theorem Cp.rowV (h : Cp base w C S B v rv l g m k R) {b : Nat} (hb : v.ownBlock = some b) : base ≤ b ∧ ∃ c fr, w.heap[b]? = some (.cells c 33 fr) := by
  obtain ⟨xs, h1, _⟩ := h.sp.row
  exact ownsRow_tag h1 hb
theorem Cp.lows (h : Cp base w C S B v rv l g m k R) : ∀ i, cpF C S B v rv i → base ≤ i := fun i hi => by
  rcases hi with rfl | rfl | rfl | hi | hi
  · exact h.lo
  · exact h.sp.lo
  · exact h.lob
  · exact (h.rowV hi).1
  · exact (h.rowR hi).1
theorem Cp.highs (h : Cp base w C S B v rv l g m k R) : ∀ i, cpF C S B v rv i → i < w.heap.size := fun i hi => by
  rcases hi with rfl | rfl | rfl | hi | hi
  · exact heap_lt h.heap
  · exact heap_lt h.sp.heap
  · obtain ⟨es, c, hb⟩ := h.mapHeap
    exact heap_lt hb
  · obtain ⟨_, c, fr, hh⟩ := h.rowV hi
    exact heap_lt hh
  · obtain ⟨_, c, fr, hh⟩ := h.rowR hi
    exact heap_lt hh
theorem Cp.base_le (h : Cp base w C S B v rv l g m k R) : base ≤ w.heap.size := Nat.le_trans h.lo (Nat.le_of_lt (heap_lt h.heap))
theorem Cp.kept (h : Cp base w C S B v rv l g m k R) (hk : ∀ i, cpF C S B v rv i → w'.heap[i]? = w.heap[i]?) (hs : Solid w w') : Cp base w' C S B v rv l g m k R := by
  obtain ⟨D, ⟨es, c, hb, r⟩, hg⟩ := h.map
  obtain ⟨xs, h1, h2⟩ := h.rules
  exact ⟨h.lo, h.lob, (hk C (Or.inl rfl)).trans h.heap, (h.sp.at (hk S (Or.inr (Or.inl rfl))) (fun i hi => hk i (Or.inr (Or.inr (Or.inr (Or.inl hi)))))).mono (fun _ _ ho => ho.solid hs), ⟨D, ⟨es, c, (hk B (Or.inr (Or.inr (Or.inl rfl)))).trans hb, r⟩, hg⟩, xs, ownsRow_at h1 (fun i hi => hk i (Or.inr (Or.inr (Or.inr (Or.inr hi))))), h2.solid hs⟩
theorem Cp.quiet (h : Cp base w C S B v rv l g m k R) (hb : Below w.heap.size w w') : Cp base w' C S B v rv l g m k R := h.kept (fun i hi => hb.block i (h.highs i hi)) (Solid.below hb)
/-- a block of another type is none of its own -/
theorem Cp.other (h : Cp base w C S B v rv l g m k R) {b : Nat} {c : Array Value} {T : TypeId} {fr : Nat × Nat} (hb : w.heap[b]? = some (.cells c T fr)) (h1 : T ≠ 122) (h2 : T ≠ 99) (h3 : T ≠ 33) (h4 : T ≠ 49) : ¬ cpF C S B v rv b := fun hi => by
  rcases hi with rfl | rfl | rfl | hi | hi
  · rw [h.heap] at hb; exact h1 (tag_eq hb).symm
  · rw [h.sp.heap] at hb; exact h2 (tag_eq hb).symm
  · obtain ⟨es, c', hm⟩ := h.mapHeap
    rw [hm] at hb; cases hb
  · obtain ⟨_, c', fr', hh⟩ := h.rowV hi
    rw [hh] at hb; exact h3 (tag_eq hb).symm
  · obtain ⟨_, c', fr', hh⟩ := h.rowR hi
    rw [hh] at hb; exact h4 (tag_eq hb).symm
/-- behind a writing of its own blocks alone the values stay -/
theorem Cp.solid (h : Cp base w C S B v rv l g m k R) (hb : ∀ i, i < w.heap.size → ¬ cpF C S B v rv i → w'.heap[i]? = w.heap[i]?) : Solid w w' := fun b cur fr hh => (hb b (heap_lt hh) (h.other hh (by decide) (by decide) (by decide) (by decide))).trans hh
/-- behind a call on its space -/
theorem Cp.space (h : Cp base w C S B v rv l g m k R) (hs : Space base w' S v' l') (ht : Touch S v w w') (hn : Near w v v') : Cp base w' C S B v' rv l' g m k R ∧ Tch (cpF C S B v rv) w w' ∧ Grows w (cpF C S B v rv) (cpF C S B v' rv) := by
  obtain ⟨c1, c2⟩ := h.sp.other h.heap (by decide) (by decide)
  have hsol := Sp.solid h.sp (by decide) ht
  obtain ⟨D, ⟨es, c, hb, r⟩, hg⟩ := h.map
  obtain ⟨xs, h1, h2⟩ := h.rules
  have hB : w'.heap[B]? = w.heap[B]? := ht.block B (heap_lt hb) (fun e => by rw [e, h.sp.heap] at hb; cases hb) (fun e => by
    obtain ⟨_, c', fr', hh⟩ := h.rowV e
    rw [hh] at hb; cases hb)
  refine ⟨⟨h.lo, h.lob, (ht.block C (heap_lt h.heap) c1 c2).trans h.heap, hs, ⟨D, ⟨es, c, hB.trans hb, r⟩, hg⟩, xs, ownsRow_at h1 (fun i hi => ?_), h2.solid hsol⟩, (h.sp.tch (by decide) ht).mono (fun i hi => ?_), fun i hi => ?_⟩
  · obtain ⟨_, c', fr, hh⟩ := h.rowR hi
    obtain ⟨d1, d2⟩ := h.sp.other hh (by decide) (by decide)
    exact ht.block i (heap_lt hh) d1 d2
  · rcases hi with rfl | hi
    · exact Or.inr (Or.inl rfl)
    · exact Or.inr (Or.inr (Or.inr (Or.inl hi)))
  · rcases hi with rfl | rfl | rfl | hi | hi
    · exact Or.inl (Or.inl rfl)
    · exact Or.inl (Or.inr (Or.inl rfl))
    · exact Or.inl (Or.inr (Or.inr (Or.inl rfl)))
    · rcases hn.grows hi with q | q
      · exact Or.inl (Or.inr (Or.inr (Or.inr (Or.inl q))))
      · exact Or.inr q
    · exact Or.inl (Or.inr (Or.inr (Or.inr (Or.inr hi))))
/-- behind a writing of its map -/
theorem Cp.mapped {w3 : World} {D : DataW Value} {k' : Nat} (h : Cp base w C S B v rv l g m k R) (hg : w.grownBy w3 (some B)) (hD : w3.ownsMap Tryz.prog 3 heldR B k' D) (hs : Says D g') : Cp base w3 C S B v rv l g' m k' R ∧ Tch (cpF C S B v rv) w w3 := by
  have hb : ∀ i, i < w.heap.size → i ≠ B → w3.heap[i]? = w.heap[i]? := fun i hi hn => hg.block i hi (fun e => hn (by cases e; rfl))
  obtain ⟨es, c, hB⟩ := h.mapHeap
  have hsol : Solid w w3 := h.solid (fun i hi hn => hb i hi (fun e => hn (Or.inr (Or.inr (Or.inl e)))))
  have hne : ∀ {i : Nat} {c : Array Value} {T : TypeId} {fr : Nat × Nat}, w.heap[i]? = some (.cells c T fr) → w3.heap[i]? = w.heap[i]? := fun hh => hb _ (heap_lt hh) (fun e => by rw [e, hB] at hh; cases hh)
  obtain ⟨xs, h1, h2⟩ := h.rules
  refine ⟨⟨h.lo, h.lob, (hne h.heap).trans h.heap, (h.sp.at (hne h.sp.heap) (fun i hi => ?_)).mono (fun _ _ ho => ho.solid hsol), ⟨D, hD, hs⟩, xs, ownsRow_at h1 (fun i hi => ?_), h2.solid hsol⟩, ⟨hg.os, hg.tape, hg.output, hg.size, fun i hi hn => hb i hi (fun e => hn (Or.inr (Or.inr (Or.inl e)))), hsol⟩⟩
  · obtain ⟨_, c', fr, hh⟩ := h.rowV hi
    exact hne hh
  · obtain ⟨_, c', fr, hh⟩ := h.rowR hi
    exact hne hh
/-- behind a writing of its number -/
theorem Cp.many (h : Cp base w C S B v rv l g m k R) : Cp base (w.setCell ⟨C, 3, none⟩ (.int .i64 m')) C S B v rv l g m' k R ∧ Tch (cpF C S B v rv) w (w.setCell ⟨C, 3, none⟩ (.int .i64 m')) := by
  have hg := grownBy_setCell w ⟨C, 3, none⟩ (.int .i64 m')
  have hb : ∀ i, i < w.heap.size → i ≠ C → (w.setCell ⟨C, 3, none⟩ (.int .i64 m')).heap[i]? = w.heap[i]? := fun i hi hc => hg.block i hi (fun e => hc (by cases e; rfl))
  have hsol : Solid w (w.setCell ⟨C, 3, none⟩ (.int .i64 m')) := h.solid (fun i hi hn => hb i hi (fun e => hn (Or.inl e)))
  obtain ⟨c1, c2⟩ := h.sp.other h.heap (by decide) (by decide)
  obtain ⟨D, ⟨es, c, hB, r⟩, hs⟩ := h.map
  obtain ⟨xs, h1, h2⟩ := h.rules
  refine ⟨⟨h.lo, h.lob, ?_, (h.sp.at (hb S (heap_lt h.sp.heap) c1.symm) (fun i hi => ?_)).mono (fun _ _ ho => ho.solid hsol), ⟨D, ⟨es, c, (hb B (heap_lt hB) (fun e => ?_)).trans hB, r⟩, hs⟩, xs, ownsRow_at h1 (fun i hi => ?_), h2.solid hsol⟩, ⟨hg.os, hg.tape, hg.output, hg.size, fun i hi hn => hb i hi (fun e => hn (Or.inl e)), hsol⟩⟩
  · rw [heap_setCell_same w C 3 _ _ _ h.heap]; rfl
  · exact hb i (h.highs i (Or.inr (Or.inr (Or.inr (Or.inl hi))))) (fun e => c2 (e ▸ hi))
  · rw [e, h.heap] at hB; cases hB
  · obtain ⟨_, c', fr, hh⟩ := h.rowR hi
    exact hb i (heap_lt hh) (fun e => by rw [e, h.heap] at hh; exact absurd (tag_eq hh) (by decide))
end

/-- a copy that is c, by the rules R, in the blocks F -/
structure CpIs (base : Nat) (w : World) (F : Nat → Prop) (C : Nat) (c : M.Cop) (R : List M.Rul) : Prop where
  ok : c.Ok
  fine : M.rulE R = 0
  is : ∃ S B v rv, F = cpF C S B v rv ∧ Cp base w C S B v rv c.l c.g c.n c.n R
section
variable {base : Nat} {w w' : World} {F G : Nat → Prop} {C : Nat} {c : M.Cop} {R : List M.Rul}
theorem CpIs.lows (h : CpIs base w F C c R) : ∀ i, F i → base ≤ i := by
  obtain ⟨S, B, v, rv, rfl, hc⟩ := h.is
  exact hc.lows
theorem CpIs.highs (h : CpIs base w F C c R) : ∀ i, F i → i < w.heap.size := by
  obtain ⟨S, B, v, rv, rfl, hc⟩ := h.is
  exact hc.highs
theorem CpIs.base_le (h : CpIs base w F C c R) : base ≤ w.heap.size := by
  obtain ⟨S, B, v, rv, rfl, hc⟩ := h.is
  exact hc.base_le
theorem CpIs.quiet (h : CpIs base w F C c R) (hb : Below w.heap.size w w') : CpIs base w' F C c R := by
  obtain ⟨S, B, v, rv, rfl, hc⟩ := h.is
  exact ⟨h.ok, h.fine, S, B, v, rv, rfl, hc.quiet hb⟩
theorem CpIs.keep (h : CpIs base w F C c R) (ht : Tch G w w') (hd : Off F G) : CpIs base w' F C c R := by
  obtain ⟨S, B, v, rv, rfl, hc⟩ := h.is
  exact ⟨h.ok, h.fine, S, B, v, rv, rfl, hc.kept (fun i hi => ht.block i (hc.highs i hi) (hd i hi)) ht.vals⟩
end

end Go.Proofs.YtlefhfmckimlaajGreatDoor
