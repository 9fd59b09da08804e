/-
  Plain facts on rules: what is wrong with some, which one goes, whether it may be done; that rules behind the one that goes change nothing, and that one ahead that goes decides. No program is walked here.
  Rules that lie in memory behind a slice: what a walk is told of some that came in, and that they stay while only new memory is written. For any program.
  What Check of package rule does, with what it asks of one rule: each as one law of its call.
  What First and May of package rule do, with the library's search that they call: each as one law of its call.
  A row of rules that a call puts together itself.
-/
import Derived.Test.YtlefhfmckimlaakGreatDoorJTup
import Derived.Test.YtlefhfmckimlaakGreatDoorJPoly
import Derived.Lib.SmallJoins
import Derived.Deep.RegionHeld3
import Derived.Laws.OwnMore
import Derived.OwnWalk
namespace Go.Proofs.YtlefhfmckimlaakGreatDoor.M

/-- a rule: of a deed, of somebody (below 0: of anybody), what a tuple has to fit, and what it says -/
structure Rul where
  deed : Int
  who : Int
  like : List Val
  may : Bool

/-- what is wrong with one -/
def rulF (r : Rul) : Int := if r.deed < 0 ∨ 2 < r.deed ∨ r.who < -1 ∨ 1000000 < r.who then 1 else likeF r.like
theorem rulF_range {r : Rul} (h : r.deed < 0 ∨ 2 < r.deed ∨ r.who < -1 ∨ 1000000 < r.who) : rulF r = 1 := by unfold rulF; rw [if_pos h]
theorem rulF_like {r : Rul} (h : ¬ (r.deed < 0 ∨ 2 < r.deed ∨ r.who < -1 ∨ 1000000 < r.who)) : rulF r = likeF r.like := by unfold rulF; rw [if_neg h]
theorem rulF_ok {r : Rul} (h : rulF r = 0) : (0 ≤ r.deed ∧ r.deed ≤ 2) ∧ (-1 ≤ r.who ∧ r.who ≤ 1000000) ∧ likeF r.like = 0 := by
  by_cases hr : r.deed < 0 ∨ 2 < r.deed ∨ r.who < -1 ∨ 1000000 < r.who
  · rw [rulF_range hr] at h; exact absurd h (by decide)
  · rw [rulF_like hr] at h; exact ⟨by omega, by omega, h⟩
/-- what is wrong with the one at a place -/
def rulA (l : List Rul) (i : Nat) : Int := if h : i < l.length then rulF l[i] else 0
theorem rulA_at {l : List Rul} {i : Nat} (h : i < l.length) : rulA l i = rulF l[i] := by unfold rulA; rw [dif_pos h]
/-- what is wrong with some -/
def rulE (l : List Rul) : Int := if 8 < l.length then 4 else first (rulA l) l.length
theorem rulE_many {l : List Rul} (h : 8 < l.length) : rulE l = 4 := by unfold rulE; rw [if_pos h]
theorem rulE_some {l : List Rul} (h : ¬ 8 < l.length) : rulE l = first (rulA l) l.length := by unfold rulE; rw [if_neg h]
theorem rulE_nil : rulE [] = 0 := rfl
theorem rulE_ok {l : List Rul} (h : rulE l = 0) : l.length ≤ 8 ∧ ∀ i (hi : i < l.length), rulF l[i] = 0 := by
  by_cases h8 : 8 < l.length
  · rw [rulE_many h8] at h; exact absurd h (by decide)
  · rw [rulE_some h8] at h
    exact ⟨by omega, fun i hi => by rw [← rulA_at hi]; exact first_all h i hi⟩
theorem rulE_like {l : List Rul} (h : rulE l = 0) : ∀ r ∈ l, likeF r.like = 0 := fun r hr => by
  obtain ⟨i, hi, rfl⟩ := List.getElem_of_mem hr
  exact (rulF_ok ((rulE_ok h).2 i hi)).2.2

/-- who asks, and for which deed, may be -/
def askB (who deed : Int) : Bool := decide (0 ≤ who ∧ who ≤ 1000000 ∧ 0 ≤ deed ∧ deed ≤ 2)
theorem askB_yes {who deed : Int} (h : askB who deed = true) : 0 ≤ who ∧ who ≤ 1000000 ∧ 0 ≤ deed ∧ deed ≤ 2 := of_decide_eq_true h
theorem askB_no {who deed : Int} (h : askB who deed = false) : who < 0 ∨ 1000000 < who ∨ deed < 0 ∨ 2 < deed := by have := of_decide_eq_false h; omega
/-- what is wrong with asking whether it may be done -/
def mayE (l : List Rul) (who deed : Int) (t : List Val) : Int := if rulE l ≠ 0 then rulE l else if askB who deed = true then tupF t else 1
theorem mayE_rul {l : List Rul} {who deed : Int} {t : List Val} (h : rulE l ≠ 0) : mayE l who deed t = rulE l := by unfold mayE; rw [if_pos h]
theorem mayE_ask {l : List Rul} {who deed : Int} {t : List Val} (h : rulE l = 0) (ha : askB who deed = false) : mayE l who deed t = 1 := by unfold mayE; rw [if_neg (by simpa using h), ha]; rfl
theorem mayE_tup {l : List Rul} {who deed : Int} {t : List Val} (h : rulE l = 0) (ha : askB who deed = true) : mayE l who deed t = tupF t := by unfold mayE; rw [if_neg (by simpa using h), if_pos ha]
theorem mayE_ok {l : List Rul} {who deed : Int} {t : List Val} (h : mayE l who deed t = 0) : rulE l = 0 ∧ askB who deed = true ∧ tupF t = 0 := by
  by_cases h1 : rulE l = 0
  · cases ha : askB who deed
    · rw [mayE_ask h1 ha] at h; exact absurd h (by decide)
    · rw [mayE_tup h1 ha] at h; exact ⟨h1, rfl, h⟩
  · rw [mayE_rul h1] at h; exact absurd h h1
/-- does a rule go -/
def goes (who deed : Int) (t : List Val) (r : Rul) : Bool := fitAll r.like t && (r.deed == deed) && (r.who == -1 || r.who == who)
/-- the place of the first that goes (as many as there are: none does) -/
def spotR (l : List Rul) (who deed : Int) (t : List Val) : Nat := l.findIdx (goes who deed t)
theorem spotR_hit {l : List Rul} {who deed : Int} {t : List Val} {k : Nat} (hk : k < l.length) (h : ∀ j (hj : j < k), goes who deed t (l[j]'(by omega)) = false) (h1 : goes who deed t l[k] = true) : spotR l who deed t = k := by
  unfold spotR
  rw [List.findIdx_eq hk]
  exact ⟨h1, fun j hj => by simpa using h j hj⟩
theorem spotR_none {l : List Rul} {who deed : Int} {t : List Val} (h : ∀ j (hj : j < l.length), goes who deed t l[j] = false) : spotR l who deed t = l.length := by
  unfold spotR
  rw [List.findIdx_eq_length]
  intro x hx
  obtain ⟨i, hi, rfl⟩ := List.mem_iff_getElem.1 hx
  simpa using h i hi
theorem spotR_le (l : List Rul) (who deed : Int) (t : List Val) : spotR l who deed t ≤ l.length := List.findIdx_le_length
theorem spotR_ahead {l : List Rul} {who deed : Int} {t : List Val} {j : Nat} (h : j < spotR l who deed t) : goes who deed t (l[j]'(Nat.lt_of_lt_of_le h (spotR_le ..))) = false := by
  have := List.not_of_lt_findIdx h
  simpa using this
theorem spotR_goes {l : List Rul} {who deed : Int} {t : List Val} (h : spotR l who deed t < l.length) : goes who deed t l[spotR l who deed t] = true := List.findIdx_getElem (w := h)
/-- what First, and May, answer -/
def firE (l : List Rul) (who deed : Int) (t : List Val) : Int := if mayE l who deed t ≠ 0 then mayE l who deed t else if spotR l who deed t < l.length then 0 else 5
def firR (l : List Rul) (who deed : Int) (t : List Val) : Int := if firE l who deed t = 0 then spotR l who deed t else 0
def mayR (l : List Rul) (who deed : Int) (t : List Val) : Bool := if mayE l who deed t = 0 then (if h : spotR l who deed t < l.length then l[spotR l who deed t].may else false) else false
theorem firE_bad {l : List Rul} {who deed : Int} {t : List Val} (h : mayE l who deed t ≠ 0) : firE l who deed t = mayE l who deed t := by unfold firE; rw [if_pos h]
theorem firE_hit {l : List Rul} {who deed : Int} {t : List Val} (h : mayE l who deed t = 0) (hs : spotR l who deed t < l.length) : firE l who deed t = 0 := by unfold firE; rw [if_neg (by simpa using h), if_pos hs]
theorem firE_none {l : List Rul} {who deed : Int} {t : List Val} (h : mayE l who deed t = 0) (hs : ¬ spotR l who deed t < l.length) : firE l who deed t = 5 := by unfold firE; rw [if_neg (by simpa using h), if_neg hs]
theorem firE_ok {l : List Rul} {who deed : Int} {t : List Val} (h : firE l who deed t = 0) : mayE l who deed t = 0 ∧ spotR l who deed t < l.length := by
  by_cases h1 : mayE l who deed t = 0
  · by_cases h2 : spotR l who deed t < l.length
    · exact ⟨h1, h2⟩
    · rw [firE_none h1 h2] at h; exact absurd h (by decide)
  · rw [firE_bad h1] at h; exact absurd h h1
theorem firR_hit {l : List Rul} {who deed : Int} {t : List Val} (h : firE l who deed t = 0) : firR l who deed t = spotR l who deed t := by unfold firR; rw [if_pos h]
theorem firR_bad {l : List Rul} {who deed : Int} {t : List Val} (h : firE l who deed t ≠ 0) : firR l who deed t = 0 := by unfold firR; rw [if_neg h]
theorem mayR_bad {l : List Rul} {who deed : Int} {t : List Val} (h : mayE l who deed t ≠ 0) : mayR l who deed t = false := by unfold mayR; rw [if_neg h]
theorem mayR_hit {l : List Rul} {who deed : Int} {t : List Val} (h : mayE l who deed t = 0) (hs : spotR l who deed t < l.length) : mayR l who deed t = l[spotR l who deed t].may := by unfold mayR; rw [if_pos h, dif_pos hs]
theorem mayR_none {l : List Rul} {who deed : Int} {t : List Val} (h : mayE l who deed t = 0) (hs : ¬ spotR l who deed t < l.length) : mayR l who deed t = false := by unfold mayR; rw [if_pos h, dif_neg hs]
/-- without a rule nothing may be done -/
theorem none_may (who deed : Int) (t : List Val) : mayR [] who deed t = false := by
  by_cases h : mayE [] who deed t = 0
  · exact mayR_none h (by simp)
  · exact mayR_bad h
theorem none_first {who deed : Int} {t : List Val} (h : mayE [] who deed t = 0) : firE [] who deed t = 5 := firE_none h (by simp)
/-- rules behind the one that goes change nothing -/
theorem spotR_more {l : List Rul} (m : List Rul) {who deed : Int} {t : List Val} (h : spotR l who deed t < l.length) : spotR (l ++ m) who deed t = spotR l who deed t := by
  refine spotR_hit (by rw [List.length_append]; omega) (fun j hj => ?_) ?_
  · rw [List.getElem_append_left (by omega)]; exact spotR_ahead hj
  · rw [List.getElem_append_left h]; exact spotR_goes h
theorem may_more {l m : List Rul} {who deed : Int} {t : List Val} (h : firE l who deed t = 0) (hm : mayE (l ++ m) who deed t = 0) : mayR (l ++ m) who deed t = mayR l who deed t := by
  obtain ⟨h1, h2⟩ := firE_ok h
  have e := spotR_more m h2
  have hs : spotR (l ++ m) who deed t < (l ++ m).length := by rw [e, List.length_append]; omega
  rw [mayR_hit hm hs, mayR_hit h1 h2]
  have : (l ++ m)[spotR (l ++ m) who deed t] = (l ++ m)[spotR l who deed t]'(by rw [List.length_append]; omega) := by simp only [e]
  rw [this, List.getElem_append_left h2]
/-- each fits itself -/
theorem val_self (v : Val) : v.same v = true := by simp [Val.same, same]
theorem fit_own : ∀ l : List Val, fitAll l l = true
  | [] => rfl
  | v :: l => by unfold fitAll; rw [fit_own l]; simp [fit1, val_self]
/-- one ahead that goes decides -/
theorem may_ahead {l : List Rul} {who deed : Int} {t : List Val} {b : Bool} (hm : mayE (⟨deed, who, t, b⟩ :: l) who deed t = 0) : mayR (⟨deed, who, t, b⟩ :: l) who deed t = b := by
  have hg : goes who deed t ⟨deed, who, t, b⟩ = true := by unfold goes; rw [fit_own]; simp
  have e : spotR (⟨deed, who, t, b⟩ :: l) who deed t = 0 := spotR_hit (by simp) (fun j hj => absurd hj (by omega)) hg
  have hs : spotR (⟨deed, who, t, b⟩ :: l) who deed t < (⟨deed, who, t, b⟩ :: l : List Rul).length := by rw [e]; simp
  rw [mayR_hit hm hs]
  simp only [e, List.getElem_cons_zero]

end Go.Proofs.YtlefhfmckimlaakGreatDoor.M

namespace Go.Proofs.YtlefhfmckimlaakGreatDoor
open Go.RowKit Go.Deep

/-- the rules l lie in w, four cells each, from cell off of block b on -/
def LieR (w : World) (b off : Nat) (l : List M.Rul) : Prop :=
  ∀ i (h : i < l.length), w.cell? ⟨b, off + i * 4, none⟩ = some (.int .i64 l[i].deed) ∧ w.cell? ⟨b, off + i * 4 + 1, none⟩ = some (.int .i64 l[i].who) ∧ (∃ v, w.cell? ⟨b, off + i * 4 + 2, none⟩ = some v ∧ IsVals w v l[i].like) ∧ w.cell? ⟨b, off + i * 4 + 3, none⟩ = some (.bool l[i].may)
/-- where a slice has its rules: nowhere, if there are none -/
def AtR (w : World) (a : Option Addr) (l : List M.Rul) : Prop := 0 < l.length → ∃ b off, a = some ⟨b, off, none⟩ ∧ LieR w b off l

theorem LieR.stays {w w' : World} {b off B : Nat} {l : List M.Rul} (h : LieR w b off l) (hb : Below B w w') (hB : w.heap.size ≤ B) : LieR w' b off l := fun i hi => by
  obtain ⟨h1, h2, ⟨v, h3, h4⟩, h5⟩ := h i hi
  have hlt := Nat.lt_of_lt_of_le (World.block_lt_of_cell? w _ h1) hB
  exact ⟨(hb.cell (p := ⟨b, off + i * 4, none⟩) hlt).trans h1, (hb.cell (p := ⟨b, off + i * 4 + 1, none⟩) hlt).trans h2, ⟨v, (hb.cell (p := ⟨b, off + i * 4 + 2, none⟩) hlt).trans h3, h4.stays hb hB⟩, (hb.cell (p := ⟨b, off + i * 4 + 3, none⟩) hlt).trans h5⟩
theorem AtR.stays {w w' : World} {a : Option Addr} {B : Nat} {l : List M.Rul} (h : AtR w a l) (hb : Below B w w') (hB : w.heap.size ≤ B) : AtR w' a l := fun h0 => by
  obtain ⟨b, off, e, g⟩ := h h0
  exact ⟨b, off, e, g.stays hb hB⟩

/-- an argument of type []api.Rule -/
theorem open_rules {H : Type} {enc : TypeId × Value → H} {P : Program} {w : World} {t e ev : TypeId} {f0 f1 f2 f3 g0 g1 g2 : Field} {a : Option Addr} {len cap : Nat} {d : DataW H} {p : List MemPlace}
    (ht : P.underlying t = some (.slice e)) (he : P.underlying e = some (.struct #[f0, f1, f2, f3])) (ce : P.cellsOf e = 4) (o0 : f0.offset = 0) (o1 : f1.offset = 1) (o2 : f2.offset = 2) (o3 : f3.offset = 3)
    (u0 : P.underlying f0.type = some (.int .i64)) (u1 : P.underlying f1.type = some (.int .i64)) (u2 : P.underlying f2.type = some (.slice ev)) (u3 : P.underlying f3.type = some .bool) (c0 : P.cellsOf f0.type = 1) (c1 : P.cellsOf f1.type = 1) (c2 : P.cellsOf f2.type = 1) (c3 : P.cellsOf f3.type = 1)
    (hv : P.underlying ev = some (.struct #[g0, g1, g2])) (cv : P.cellsOf ev = 3) (q0 : g0.offset = 0) (q1 : g1.offset = 1) (q2 : g2.offset = 2) (r0 : P.underlying g0.type = some (.int .i64)) (r1 : P.underlying g1.type = some (.int .i64)) (r2 : P.underlying g2.type = some .string) (k0 : P.cellsOf g0.type = 1) (k1 : P.cellsOf g1.type = 1) (k2 : P.cellsOf g2.type = 1)
    (h : DataW.Trod enc P w 0 (fun _ => true) true t (.slice a len cap) d p) : ∃ l : List M.Rul, len = l.length ∧ len ≤ cap ∧ cap ≤ maxLen ∧ AtR w a l ∧ ((d = .nil ∧ l = []) ∨ ∃ D1 D2, d = .slice D1 D2 ∧ D1.length = l.length) ∧ (a = none → len = 0 ∧ cap = 0) := by
  obtain ⟨fuel, hf⟩ := h
  rcases open_slice ht hf with ⟨hcs, hd⟩ | ⟨x, len', cap', m, n, D, Pl, hcs, _, hl, hm, hmm, hd, hx⟩
  · simp [Value.cells] at hcs
    obtain ⟨rfl, rfl, rfl⟩ := hcs
    exact ⟨[], rfl, Nat.zero_le _, Nat.zero_le _, fun h => absurd h (by decide), Or.inl ⟨(Prod.mk.inj hd).1, rfl⟩, fun _ => ⟨rfl, rfl⟩⟩
  · simp [Value.cells] at hcs
    obtain ⟨rfl, rfl, rfl⟩ := hcs
    have hmc : m = cap := by rw [hmm]; simp
    have each : ∀ i, i < len → ∃ r : M.Rul, w.cell? (x.add (i * 4)) = some (.int .i64 r.deed) ∧ w.cell? (x.add (i * 4 + 1)) = some (.int .i64 r.who) ∧ (∃ v, w.cell? (x.add (i * 4 + 2)) = some v ∧ IsVals w v r.like) ∧ w.cell? (x.add (i * 4 + 3)) = some (.bool r.may) := by
      intro i hi
      obtain ⟨cs', h1, h2⟩ := hx i (by omega)
      rw [ce] at h1
      obtain ⟨_, hlen, hcell⟩ := World.cells?_some h1
      obtain ⟨y0, y1, y2, y3, k, _, _, t0, t1, t2, t3⟩ := Joins.trod_struct4 he h2
      match cs', hlen with
      | [v0, v1, v2, v3], _ =>
        rw [o0, c0] at t0
        rw [o1, c1] at t1
        rw [o2, c2] at t2
        rw [o3, c3] at t3
        obtain ⟨z0, s0, _, _⟩ := DataW.trod_int u0 t0
        obtain ⟨z1, s1, _, _⟩ := DataW.trod_int u1 t1
        obtain ⟨z3, s3, _⟩ := DataW.trod_bool u3 t3
        simp at s0 s1 s3
        have t2' : DataW.trod enc P w 0 (fun _ => true) true k f2.type [v2] = some y2 := by simpa using t2
        have hV : ∃ a' len' cap', v2 = .slice a' len' cap' := by
          rcases open_slice u2 t2' with ⟨hc, _⟩ | ⟨x', l', c', _, _, _, _, hc, _⟩
          · exact ⟨none, 0, 0, by simpa using hc⟩
          · exact ⟨some x', l', c', by simpa using hc⟩
        obtain ⟨a', l', c', hve⟩ := hV
        subst hve
        obtain ⟨ll, hll, _⟩ := open_vals (d := y2.1) (p := y2.2) u2 hv cv q0 q1 q2 r0 r1 r2 k0 k1 k2 ⟨k, by simpa [Value.cells] using t2'⟩
        have e0 := hcell 0 (by omega)
        have e1 := hcell 1 (by omega)
        have e2 := hcell 2 (by omega)
        have e3 := hcell 3 (by omega)
        refine ⟨⟨z0, z1, ll, z3⟩, ?_, ?_, ⟨_, ?_, hll⟩, ?_⟩
        · simpa [add_add, s0] using e0
        · simpa [add_add, s1] using e1
        · simpa [add_add] using e2
        · simpa [add_add, s3] using e3
    rcases Nat.eq_zero_or_pos len with h0 | h0
    · subst h0; exact ⟨[], rfl, hl, hm, fun h => absurd h (by simp), Or.inr ⟨_, _, (Prod.mk.inj hd).1, by simp⟩, fun e => by cases e⟩
    haveI : Inhabited M.Rul := ⟨⟨0, 0, [], false⟩⟩
    obtain ⟨f, hfe⟩ := choose_lt each
    obtain ⟨b, off, spot⟩ := x
    have hspot : spot = none := by simpa [Addr.add] using World.cell?_spot (hfe 0 h0).1
    subst hspot
    have hll : ((List.range len).map f).length = len := by simp
    refine ⟨(List.range len).map f, hll.symm, hl, hm, fun _ => ⟨b, off, rfl, fun i hi => ?_⟩, Or.inr ⟨_, _, (Prod.mk.inj hd).1, by simp⟩, fun e => by cases e⟩
    have hi' : i < len := by rw [hll] at hi; exact hi
    have e : ((List.range len).map f)[i] = f i := by simp
    rw [e]
    have g := hfe i hi'
    simp only [WideShapes.add_plain] at g
    exact g

end Go.Proofs.YtlefhfmckimlaakGreatDoor

set_option linter.unusedVariables false
namespace Go.Proofs.YtlefhfmckimlaakGreatDoor
open Go.RowKit

def M.whoB (x : Int) : Bool := decide (0 ≤ x) && decide (x ≤ 1000000)
def M.deedB (x : Int) : Bool := decide (0 ≤ x) && decide (x ≤ 2)
theorem whoB_iff (x : Int) : M.whoB x = true ↔ 0 ≤ x ∧ x ≤ 1000000 := by unfold M.whoB; simp
theorem deedB_iff (x : Int) : M.deedB x = true ↔ 0 ≤ x ∧ x ≤ 2 := by unfold M.deedB; simp
theorem whoB_no {x : Int} (h : M.whoB x = false) : x < 0 ∨ 1000000 < x := by unfold M.whoB at h; simp at h; omega
theorem deedB_no {x : Int} (h : M.deedB x = false) : x < 0 ∨ 2 < x := by unfold M.deedB at h; simp at h; omega
theorem askB_split (who deed : Int) : M.askB who deed = (M.whoB who && M.deedB deed) := by
  unfold M.askB M.whoB M.deedB
  by_cases h1 : 0 ≤ who <;> by_cases h2 : who ≤ 1000000 <;> by_cases h3 : 0 ≤ deed <;> by_cases h4 : deed ≤ 2 <;> simp [h1, h2, h3, h4]

theorem isWho (x : Int) (w : World) : Calls Tryz.prog 97 #[.int .i64 x] w fun e w' => e = .returned (.bool (M.whoB x)) ∧ w' = w := by
  by_cases h0 : 0 ≤ x
  · have HS : Hid (M.whoB x = decide (x ≤ 1000000)) := hide (by unfold M.whoB; simp [h0])
    go_enter Tryz.func97, Tryz.ntmps97
    go_wp2
    go_ret
    exact ⟨by rw [HS.out]; rfl, rfl⟩
  · have HS : Hid (M.whoB x = false) := hide (by unfold M.whoB; simp [h0])
    go_enter Tryz.func97, Tryz.ntmps97
    go_wp2
    go_ret
    exact ⟨by rw [HS.out]; rfl, rfl⟩

theorem isDeed (x : Int) (w : World) : Calls Tryz.prog 98 #[.int .i64 x] w fun e w' => e = .returned (.bool (M.deedB x)) ∧ w' = w := by
  by_cases h0 : 0 ≤ x
  · have HS : Hid (M.deedB x = decide (x ≤ 2)) := hide (by unfold M.deedB; simp [h0])
    go_enter Tryz.func98, Tryz.ntmps98
    go_wp2
    go_ret
    exact ⟨by rw [HS.out]; rfl, rfl⟩
  · have HS : Hid (M.deedB x = false) := hide (by unfold M.deedB; simp [h0])
    go_enter Tryz.func98, Tryz.ntmps98
    go_wp2
    go_ret
    exact ⟨by rw [HS.out]; rfl, rfl⟩

/-- a rule as it is handed on -/
abbrev aggR (d x : Int) (a : Option Addr) (n c : Nat) (m : Bool) : Value := .agg #[.int .i64 d, .int .i64 x, .slice a n c, .bool m]

/-- what is wrong with one -/
theorem checkOne (d x : Int) (a : Option Addr) (n c : Nat) (m : Bool) (l : List M.Val) (w : World) (hv : IsVals w (.slice a n c) l) :
    Calls Tryz.prog 95 #[aggR d x a n c m] w fun e w' => e = .returned (errV (M.rulF ⟨d, x, l, m⟩)) ∧ Below w.heap.size w w' := by
  have HA : Hid (∀ o, Below w.heap.size w (w.alloc o)) := hide fun o => (Below.refl _ _).alloc (Nat.le_refl _) o
  have HL : Hid (∀ wx, Below w.heap.size w wx → Calls Tryz.prog 99 #[.slice a n c] wx fun e w' => e = .returned (errV (M.likeF l)) ∧ Below wx.heap.size wx w') := hide fun wx hb => like _ l wx (hv.stays hb (Nat.le_refl _))
  clear hv
  cases hd : M.deedB d
  · have hq := deedB_no hd
    have HE : Hid (M.rulF ⟨d, x, l, m⟩ = 1) := hide (M.rulF_range (r := ⟨d, x, l, m⟩) (by show d < 0 ∨ 2 < d ∨ _; omega))
    have HD : Hid (∀ wx, Calls Tryz.prog 98 #[.int .i64 d] wx fun e w' => e = .returned (.bool false) ∧ w' = wx) := hide fun wx => by have := isDeed d wx; rwa [hd] at this
    rw [HE.out]
    clear hq hd HE HL
    go_enter Tryz.func95, Tryz.ntmps95
    go_wp2_with fail
    refine (HD.out _).mono ?_
    rintro e w1 ⟨rfl, rfl⟩
    go_wp2_with fail
    go_ret
    exact ⟨rfl, HA.out _⟩
  · have hq := (deedB_iff d).1 hd
    have HD : Hid (∀ wx, Calls Tryz.prog 98 #[.int .i64 d] wx fun e w' => e = .returned (.bool true) ∧ w' = wx) := hide fun wx => by have := isDeed d wx; rwa [hd] at this
    clear hd
    by_cases hx : x = -1
    · have HE : Hid (M.rulF ⟨d, x, l, m⟩ = M.likeF l) := hide (M.rulF_like (r := ⟨d, x, l, m⟩) (by show ¬ (d < 0 ∨ 2 < d ∨ x < -1 ∨ 1000000 < x); omega))
      rw [HE.out]
      generalize errV (M.likeF l) = E at HL ⊢
      clear hq HE
      subst hx
      go_enter Tryz.func95, Tryz.ntmps95
      go_wp2_with fail
      refine (HD.out _).mono ?_
      rintro e w1 ⟨rfl, rfl⟩
      go_wp2_with fail
      refine (HL.out _ (HA.out _)).mono ?_
      rintro e w2 ⟨rfl, hb2⟩
      go_wp2_with fail
      go_ret
      exact ⟨rfl, (HA.out _).trans (hb2.mono (by simp))⟩
    · have hxb : (x != -1) = true := by simpa using hx
      cases hw : M.whoB x
      · have hr := whoB_no hw
        have HE : Hid (M.rulF ⟨d, x, l, m⟩ = 1) := hide (M.rulF_range (r := ⟨d, x, l, m⟩) (by show d < 0 ∨ 2 < d ∨ x < -1 ∨ 1000000 < x; omega))
        have HW : Hid (∀ wx, Calls Tryz.prog 97 #[.int .i64 x] wx fun e w' => e = .returned (.bool false) ∧ w' = wx) := hide fun wx => by have := isWho x wx; rwa [hw] at this
        rw [HE.out]
        clear hq hw hr hx HE HL
        go_enter Tryz.func95, Tryz.ntmps95
        go_wp2_with fail
        refine (HD.out _).mono ?_
        rintro e w1 ⟨rfl, rfl⟩
        go_wp2_with fail
        refine (HW.out _).mono ?_
        rintro e w1 ⟨rfl, rfl⟩
        go_wp2_with fail
        go_ret
        exact ⟨rfl, HA.out _⟩
      · have hr := (whoB_iff x).1 hw
        have HE : Hid (M.rulF ⟨d, x, l, m⟩ = M.likeF l) := hide (M.rulF_like (r := ⟨d, x, l, m⟩) (by show ¬ (d < 0 ∨ 2 < d ∨ x < -1 ∨ 1000000 < x); omega))
        have HW : Hid (∀ wx, Calls Tryz.prog 97 #[.int .i64 x] wx fun e w' => e = .returned (.bool true) ∧ w' = wx) := hide fun wx => by have := isWho x wx; rwa [hw] at this
        rw [HE.out]
        generalize errV (M.likeF l) = E at HL ⊢
        clear hq hw hr hx HE
        go_enter Tryz.func95, Tryz.ntmps95
        go_wp2_with fail
        refine (HD.out _).mono ?_
        rintro e w1 ⟨rfl, rfl⟩
        go_wp2_with fail
        refine (HW.out _).mono ?_
        rintro e w1 ⟨rfl, rfl⟩
        go_wp2_with fail
        refine (HL.out _ (HA.out _)).mono ?_
        rintro e w2 ⟨rfl, hb2⟩
        go_wp2_with fail
        go_ret
        exact ⟨rfl, (HA.out _).trans (hb2.mono (by simp))⟩

theorem IsVals.isSlice {w : World} {v : Value} {l : List M.Val} (h : IsVals w v l) : ∃ a n c, v = .slice a n c := by
  rcases h with ⟨h, _⟩ | ⟨a, c, h, _⟩ | ⟨b, off, c, _, h, _⟩
  · exact ⟨_, _, _, h⟩
  · exact ⟨_, _, _, h⟩
  · exact ⟨_, _, _, h⟩
/-- rules at their places, with their slices -/
theorem LieR.get {w : World} {b off : Nat} {l : List M.Rul} (h : LieR w b off l) {k : Nat} (hk : k < l.length) : ∃ a n c, w.cell? ⟨b, off + k * 4, none⟩ = some (.int .i64 l[k].deed) ∧ w.cell? ⟨b, off + k * 4 + 1, none⟩ = some (.int .i64 l[k].who) ∧ w.cell? ⟨b, off + k * 4 + 2, none⟩ = some (.slice a n c) ∧ w.cell? ⟨b, off + k * 4 + 3, none⟩ = some (.bool l[k].may) ∧ IsVals w (.slice a n c) l[k].like := by
  obtain ⟨h1, h2, ⟨v, h3, h4⟩, h5⟩ := h k hk
  obtain ⟨a, n, c, rfl⟩ := h4.isSlice
  exact ⟨a, n, c, h1, h2, h3, h5, h4⟩

theorem rCheck_many (a : Option Addr) (n cap : Nat) (w : World) (h : 8 < n) (hn : n ≤ maxLen) :
    Calls Tryz.prog 55 #[.slice a n cap] w fun e w' => e = .returned (errV 4) ∧ Below w.heap.size w w' := by
  unfold maxLen at hn
  have h8 : (8 : Int) < n := by omega
  go_enter Tryz.func55, Tryz.ntmps55
  go_wp2
  go_ret
  exact ⟨rfl, Below.refl _ _⟩

theorem rCheck_some (a : Option Addr) (n cap : Nat) (l : List M.Rul) (w : World) (hn : n = l.length) (h : n ≤ 8) (hl : AtR w a l) :
    Calls Tryz.prog 55 #[.slice a n cap] w fun e w' => e = .returned (errV (M.first (M.rulA l) n)) ∧ Below w.heap.size w w' := by
  have HL := hide hl
  have HN := hide hn
  have h8 : ¬ (8 : Int) < n := by omega
  clear hl hn
  go_enter Tryz.func55, Tryz.ntmps55
  go_wp2
  go_loopw [12] (fun i wr => ∃ k : Nat, k ≤ n ∧ i = .int .i64 k ∧ Hid (M.first (M.rulA l) k = 0) ∧ Hid (Below w.heap.size w wr)) (fun i _ => n - (intOf i).toNat)
  case atStart => exact ⟨0, Nat.zero_le _, rfl, hide rfl, hide (Below.refl _ _)⟩
  case round =>
    obtain ⟨k, hk, rfl, hno, hbel⟩ := hrel
    by_cases hlt : k < n
    · have hkl : k < l.length := HN.out ▸ hlt
      obtain ⟨b, off, rfl, hlie⟩ := HL.out (by omega)
      obtain ⟨a, m, c, c1, c2, c3, c4, hv⟩ := (hlie.stays hbel.out (Nat.le_refl _)).get hkl
      have hbl : b < wr.heap.size := World.block_lt_of_cell? wr _ c1
      have HF := hide (M.rulA_at hkl)
      generalize l[k] = r at *
      obtain ⟨d, x, lk, my⟩ := r
      have HC : Hid (∀ wx, Below wr.heap.size wr wx → Calls Tryz.prog 95 #[aggR d x a m c my] wx fun e w' => e = .returned (errV (M.rulF ⟨d, x, lk, my⟩)) ∧ Below wx.heap.size wx w') := hide fun wx hb => checkOne d x a m c my lk wx (hv.stays hb (Nat.le_refl _))
      have HA : Hid (∀ o, Below wr.heap.size wr (wr.alloc o)) := hide fun o => (Below.refl _ _).alloc (Nat.le_refl _) o
      clear hv hlie
      by_cases hb : M.rulF ⟨d, x, lk, my⟩ = 0
      · have HS : Hid (M.first (M.rulA l) (k + 1) = 0) := hide (by rw [M.first_next hno.out, HF.out, hb])
        rw [hb] at HC
        have HC2 : Hid (∀ wx, Below wr.heap.size wr wx → Calls Tryz.prog 95 #[aggR d x a m c my] wx fun e w' => e = .returned .nilIface ∧ Below wx.heap.size wx w') := HC
        clear hb HC HF
        go_wp2_with fail
        refine (HC2.out _ (HA.out _)).mono ?_
        rintro e w1 ⟨rfl, hb1⟩
        have HB1 := hide (hbel.out.trans (((HA.out _).trans (hb1.mono (by simp))).mono hbel.out.size))
        clear hb1
        go_wp2_with fail
        go_roundw
        case rel => exact ⟨k + 1, by omega, by go_num, HS, HB1⟩
        case measure => simp [intOf]; omega
      · rw [errV_bad hb] at HC
        have HS : Hid (M.first (M.rulA l) n = M.rulF ⟨d, x, lk, my⟩) := hide (by rw [M.first_bad hlt hno.out (by rw [HF.out]; exact hb), HF.out])
        have HB := hide hb
        clear hb HF
        generalize M.rulF ⟨d, x, lk, my⟩ = E at *
        go_wp2_with fail
        refine (HC.out _ (HA.out _)).mono ?_
        rintro e w1 ⟨rfl, hb1⟩
        have HB1 := hide (hbel.out.trans (((HA.out _).trans (hb1.mono (by simp))).mono hbel.out.size))
        clear hb1
        go_wp2_with fail
        go_ret
        exact ⟨by rw [HS.out, errV_bad HB.out]; rfl, HB1.out⟩
    · have HS : Hid (M.first (M.rulA l) n = 0) := hide (by have := hno.out; rwa [show k = n by omega] at this)
      go_wp2
      go_ret
      exact ⟨by rw [HS.out]; rfl, hbel.out⟩

/-- what is wrong with rules -/
theorem rCheck (a : Option Addr) (n cap : Nat) (l : List M.Rul) (w : World) (hn : n = l.length) (hm : n ≤ maxLen) (hl : AtR w a l) :
    Calls Tryz.prog 55 #[.slice a n cap] w fun e w' => e = .returned (errV (M.rulE l)) ∧ Below w.heap.size w w' := by
  by_cases h : 8 < n
  · rw [M.rulE_many (hn ▸ h)]; exact rCheck_many a n cap w h hm
  · rw [M.rulE_some (hn ▸ h), ← hn]; exact rCheck_some a n cap l w hn (by omega) hl

/-- what is wrong with asking -/
theorem checkAll (a : Option Addr) (n cap : Nat) (l : List M.Rul) (who deed : Int) (tv : Value) (t : List M.Val) (w : World) (hn : n = l.length) (hm : n ≤ maxLen) (hl : AtR w a l) (ht : IsVals w tv t) :
    Calls Tryz.prog 152 #[.slice a n cap, .int .i64 who, .int .i64 deed, tv] w fun e w' => e = .returned (errV (M.mayE l who deed t)) ∧ Below w.heap.size w w' := by
  have hC := rCheck a n cap l w hn hm hl
  clear hn hm
  by_cases h1 : M.rulE l = 0
  · rw [h1] at hC
    have HC : Hid (Calls Tryz.prog 55 #[.slice a n cap] w fun e w' => e = .returned .nilIface ∧ Below w.heap.size w w') := hide hC
    clear hC
    cases hw : M.whoB who
    · have HE : Hid (M.mayE l who deed t = 1) := hide (M.mayE_ask h1 (by rw [askB_split, hw]; rfl))
      have HW : Hid (∀ wx, Calls Tryz.prog 97 #[.int .i64 who] wx fun e w' => e = .returned (.bool false) ∧ w' = wx) := hide fun wx => by have := isWho who wx; rwa [hw] at this
      rw [HE.out]
      clear hl ht hw HE h1
      go_enter Tryz.func152, Tryz.ntmps152
      go_wp2_with fail
      refine (unhide HC).mono ?_
      rintro e w1 ⟨rfl, hb1⟩
      go_wp2_with fail
      refine (HW.out _).mono ?_
      rintro e w2 ⟨rfl, rfl⟩
      go_wp2_with fail
      go_ret
      exact ⟨rfl, hb1⟩
    · have HW : Hid (∀ wx, Calls Tryz.prog 97 #[.int .i64 who] wx fun e w' => e = .returned (.bool true) ∧ w' = wx) := hide fun wx => by have := isWho who wx; rwa [hw] at this
      cases hd : M.deedB deed
      · have HE : Hid (M.mayE l who deed t = 1) := hide (M.mayE_ask h1 (by rw [askB_split, hw, hd]; rfl))
        have HD : Hid (∀ wx, Calls Tryz.prog 98 #[.int .i64 deed] wx fun e w' => e = .returned (.bool false) ∧ w' = wx) := hide fun wx => by have := isDeed deed wx; rwa [hd] at this
        rw [HE.out]
        clear hl ht hw hd HE h1
        go_enter Tryz.func152, Tryz.ntmps152
        go_wp2_with fail
        refine (unhide HC).mono ?_
        rintro e w1 ⟨rfl, hb1⟩
        go_wp2_with fail
        refine (HW.out _).mono ?_
        rintro e w2 ⟨rfl, rfl⟩
        go_wp2_with fail
        refine (HD.out _).mono ?_
        rintro e w2 ⟨rfl, rfl⟩
        go_wp2_with fail
        go_ret
        exact ⟨rfl, hb1⟩
      · have HE : Hid (M.mayE l who deed t = M.tupF t) := hide (M.mayE_tup h1 (by rw [askB_split, hw, hd]; rfl))
        have HD : Hid (∀ wx, Calls Tryz.prog 98 #[.int .i64 deed] wx fun e w' => e = .returned (.bool true) ∧ w' = wx) := hide fun wx => by have := isDeed deed wx; rwa [hd] at this
        have HT : Hid (∀ wx, Below w.heap.size w wx → Calls Tryz.prog 92 #[tv] wx fun e w' => e = .returned (errV (M.tupF t)) ∧ Below wx.heap.size wx w') := hide fun wx hb => tcheck _ t wx (ht.stays hb (Nat.le_refl _))
        rw [HE.out]
        generalize errV (M.tupF t) = E at HT ⊢
        clear hl ht hw hd HE h1
        go_enter Tryz.func152, Tryz.ntmps152
        go_wp2_with fail
        refine (unhide HC).mono ?_
        rintro e w1 ⟨rfl, hb1⟩
        have HB1 := hide hb1
        clear hb1
        go_wp2_with fail
        refine (HW.out _).mono ?_
        rintro e w2 ⟨rfl, rfl⟩
        go_wp2_with fail
        refine (HD.out _).mono ?_
        rintro e w2 ⟨rfl, rfl⟩
        go_wp2_with fail
        refine (HT.out _ HB1.out).mono ?_
        rintro e w2 ⟨rfl, hb2⟩
        go_wp2_with fail
        go_ret
        exact ⟨rfl, HB1.out.trans (hb2.mono HB1.out.size)⟩
  · have HE : Hid (M.mayE l who deed t = M.rulE l) := hide (M.mayE_rul h1)
    rw [errV_bad h1] at hC
    rw [HE.out, errV_bad h1]
    have HC := hide hC
    clear hl ht HE h1 hC
    generalize M.rulE l = E at *
    go_enter Tryz.func152, Tryz.ntmps152
    go_wp2_with fail
    refine (unhide HC).mono ?_
    rintro e w1 ⟨rfl, hb1⟩
    go_wp2_with fail
    go_ret
    exact ⟨rfl, hb1⟩

end Go.Proofs.YtlefhfmckimlaakGreatDoor

set_option linter.unusedVariables false
namespace Go.Proofs.YtlefhfmckimlaakGreatDoor
open Go.RowKit

theorem ruleFits (v1 v2 : Value) (a l : List M.Val) (w : World) (h1 : IsVals w v1 a) (h2 : IsVals w v2 l) (ha : M.likeF a = 0) (hl : M.tupF l = 0) :
    Calls Tryz.prog 165 #[v1, v2] w fun e w' => e = .returned (.tuple #[.bool (M.fitAll a l), .nilIface]) ∧ Below w.heap.size w w' := by
  have := tfits v1 v2 a l w h1 h2
  have e1 : M.both (M.likeF a) (M.tupF l) = 0 := by rw [ha, hl]; rfl
  have e2 : M.fitsB a l = M.fitAll a l := by unfold M.fitsB; rw [e1]; rfl
  rwa [e1, e2] at this

/-- the question that is asked of each rule -/
theorem asksR (d x deed who : Int) (a : Option Addr) (n c : Nat) (m : Bool) (B1 B2 B3 : Nat) (ta : Option Addr) (tn tc : Nat) (l t : List M.Val) (w : World)
    (h1 : w.cell? ⟨B1, 0, none⟩ = some (.int .i64 deed)) (h2 : w.cell? ⟨B2, 0, none⟩ = some (.int .i64 who)) (h3 : w.cell? ⟨B3, 0, none⟩ = some (.slice ta tn tc)) (hv : IsVals w (.slice a n c) l) (ht : IsVals w (.slice ta tn tc) t) (hl : M.likeF l = 0) (htf : M.tupF t = 0) :
    Calls Tryz.prog 175 #[aggR d x a n c m, .pointer (some ⟨B1, 0, none⟩), .pointer (some ⟨B2, 0, none⟩), .pointer (some ⟨B3, 0, none⟩)] w fun e w' => e = .returned (.bool (M.goes who deed t ⟨d, x, l, m⟩)) ∧ Below w.heap.size w w' := by
  have HA : Hid (∀ o, Below w.heap.size w (w.alloc o)) := hide fun o => (Below.refl _ _).alloc (Nat.le_refl _) o
  have HF : Hid (∀ wx, Below w.heap.size w wx → Calls Tryz.prog 165 #[.slice a n c, .slice ta tn tc] wx fun e w' => e = .returned (.tuple #[.bool (M.fitAll l t), .nilIface]) ∧ Below wx.heap.size wx w') := hide fun wx hb => ruleFits _ _ l t wx (hv.stays hb (Nat.le_refl _)) (ht.stays hb (Nat.le_refl _)) hl htf
  have b1 := World.block_lt_of_cell? w _ h1
  have b2 := World.block_lt_of_cell? w _ h2
  have b3 := World.block_lt_of_cell? w _ h3
  have q1 : ¬ B1 = w.heap.size := by simp at b1; omega
  have q2 : ¬ B2 = w.heap.size := by simp at b2; omega
  have q3 : ¬ B3 = w.heap.size := by simp at b3; omega
  clear hv ht hl htf
  by_cases hd : d = deed
  · have hdb : (d != deed) = false := by simpa using hd
    by_cases hx : x = -1
    · have HG : Hid (M.goes who deed t ⟨d, x, l, m⟩ = M.fitAll l t) := hide (by unfold M.goes; simp [hd, hx])
      rw [HG.out]
      generalize M.fitAll l t = f at *
      clear HG hd
      have hxb : (x != -1) = false := by simpa using hx
      clear hx
      go_enter Tryz.func175, Tryz.ntmps175
      go_wp2_with fail
      refine (HF.out _ (HA.out _)).mono ?_
      rintro e w1 ⟨rfl, hb1⟩
      have HB1 := hide ((HA.out _).trans (hb1.mono (by simp)))
      clear hb1
      go_wp2_with fail
      go_ret
      exact ⟨rfl, HB1.out⟩
    · have hxb : (x != -1) = true := by simpa using hx
      by_cases hw : x = who
      · have HG : Hid (M.goes who deed t ⟨d, x, l, m⟩ = M.fitAll l t) := hide (by unfold M.goes; simp [hd, hw])
        have hwb : (x != who) = false := by simpa using hw
        rw [HG.out]
        generalize M.fitAll l t = f at *
        clear HG hd hx hw
        go_enter Tryz.func175, Tryz.ntmps175
        go_wp2_with fail
        refine (HF.out _ (HA.out _)).mono ?_
        rintro e w1 ⟨rfl, hb1⟩
        have HB1 := hide ((HA.out _).trans (hb1.mono (by simp)))
        clear hb1
        go_wp2_with fail
        go_ret
        exact ⟨rfl, HB1.out⟩
      · have HG : Hid (M.goes who deed t ⟨d, x, l, m⟩ = false) := hide (by unfold M.goes; simp [hx, hw])
        have hwb : (x != who) = true := by simpa using hw
        rw [HG.out]
        clear HG hd hx hw HF
        go_enter Tryz.func175, Tryz.ntmps175
        go_wp2_with fail
        go_ret
        exact ⟨rfl, HA.out _⟩
  · have HG : Hid (M.goes who deed t ⟨d, x, l, m⟩ = false) := hide (by unfold M.goes; simp [hd])
    have hdb : (d != deed) = true := by simpa using hd
    rw [HG.out]
    clear HG hd HF
    go_enter Tryz.func175, Tryz.ntmps175
    go_wp2_with fail
    go_ret
    exact ⟨rfl, HA.out _⟩

/-- the answer of the search: where, or -1 -/
def M.placeR (l : List M.Rul) (who deed : Int) (t : List M.Val) : Int := if M.spotR l who deed t < l.length then M.spotR l who deed t else -1

theorem indexR (av : Option Addr) (n cap : Nat) (L : List M.Rul) (deed who : Int) (B1 B2 B3 : Nat) (ta : Option Addr) (tn tc : Nat) (t : List M.Val) (w : World) (hn : n = L.length) (h8 : n ≤ 8) (hl : AtR w av L) (hL : ∀ r ∈ L, M.likeF r.like = 0)
    (h1 : w.cell? ⟨B1, 0, none⟩ = some (.int .i64 deed)) (h2 : w.cell? ⟨B2, 0, none⟩ = some (.int .i64 who)) (h3 : w.cell? ⟨B3, 0, none⟩ = some (.slice ta tn tc)) (ht : IsVals w (.slice ta tn tc) t) (htf : M.tupF t = 0) :
    Calls Tryz.prog 174 #[.slice av n cap, .func (.func 175) #[] #[.pointer (some ⟨B1, 0, none⟩), .pointer (some ⟨B2, 0, none⟩), .pointer (some ⟨B3, 0, none⟩)]] w fun e w' => e = .returned (.int .i64 (M.placeR L who deed t)) ∧ Below w.heap.size w w' := by
  have HK : Hid (∀ wr, Below w.heap.size w wr → ∀ k (hk : k < L.length), ∃ b off a m c, av = some ⟨b, off, none⟩ ∧ wr.cell? ⟨b, off + k * 4, none⟩ = some (.int .i64 L[k].deed) ∧ wr.cell? ⟨b, off + k * 4 + 1, none⟩ = some (.int .i64 L[k].who) ∧ wr.cell? ⟨b, off + k * 4 + 2, none⟩ = some (.slice a m c) ∧ wr.cell? ⟨b, off + k * 4 + 3, none⟩ = some (.bool L[k].may) ∧ Calls Tryz.prog 175 #[aggR L[k].deed L[k].who a m c L[k].may, .pointer (some ⟨B1, 0, none⟩), .pointer (some ⟨B2, 0, none⟩), .pointer (some ⟨B3, 0, none⟩)] wr fun e w' => e = .returned (.bool (M.goes who deed t L[k])) ∧ Below wr.heap.size wr w') := hide fun wr hb k hk => by
    obtain ⟨b, off, e, hlie⟩ := hl (by omega)
    obtain ⟨a, m, c, c1, c2, c3, c4, hv⟩ := (hlie.stays hb (Nat.le_refl _)).get hk
    exact ⟨b, off, a, m, c, e, c1, c2, c3, c4, asksR _ _ deed who a m c _ B1 B2 B3 ta tn tc L[k].like t wr ((hb.cell (p := ⟨B1, 0, none⟩) (World.block_lt_of_cell? w _ h1)).trans h1) ((hb.cell (p := ⟨B2, 0, none⟩) (World.block_lt_of_cell? w _ h2)).trans h2) ((hb.cell (p := ⟨B3, 0, none⟩) (World.block_lt_of_cell? w _ h3)).trans h3) hv (ht.stays hb (Nat.le_refl _)) (hL _ (List.getElem_mem hk)) htf⟩
  have HN := hide hn
  clear hn hl hL h1 h2 h3 ht htf
  go_enter Tryz.func174, Tryz.ntmps174
  go_wp2
  go_loopw [8] (fun i wr => ∃ k : Nat, k ≤ n ∧ i = .int .i64 k ∧ Hid (∀ j (hj : j < k) (hjl : j < L.length), M.goes who deed t L[j] = false) ∧ Hid (Below w.heap.size w wr)) (fun i _ => n - (intOf i).toNat)
  case atStart => exact ⟨0, Nat.zero_le _, rfl, hide (fun j hj => by omega), hide (Below.refl _ _)⟩
  case round =>
    obtain ⟨k, hk, rfl, hno, hbel⟩ := hrel
    by_cases hlt : k < n
    · have hkl : k < L.length := HN.out ▸ hlt
      obtain ⟨b, off, a, m, c, rfl, c1, c2, c3, c4, hC⟩ := (unhide HK) wr hbel.out k hkl
      have hbl : b < wr.heap.size := World.block_lt_of_cell? wr _ c1
      cases hb : M.goes who deed t L[k]
      · rw [hb] at hC
        have HB := hide hb
        have HC := hide hC
        clear hb hC
        generalize L[k].deed = xd at *
        generalize L[k].who = xw at *
        generalize L[k].may = xm at *
        go_wp2_with fail
        refine (unhide HC).mono ?_
        rintro e w1 ⟨rfl, hb1⟩
        have HB1 := hide (hbel.out.trans (hb1.mono hbel.out.size))
        clear hb1
        go_wp2_with fail
        go_roundw
        case rel =>
          refine ⟨k + 1, by omega, by go_num, hide (fun j hj hjl => ?_), HB1⟩
          rcases Nat.lt_succ_iff_lt_or_eq.1 hj with h | h
          · exact hno.out j h hjl
          · subst h; exact HB.out
        case measure => simp [intOf]; omega
      · rw [hb] at hC
        have HC := hide hC
        have hsp : M.spotR L who deed t = k := M.spotR_hit hkl (fun j hj => hno.out j hj (by omega)) hb
        have hfin : Hid (M.placeR L who deed t = (k : Int)) := hide (by unfold M.placeR; rw [hsp, if_pos hkl])
        clear hb hC hsp
        generalize L[k].deed = xd at *
        generalize L[k].who = xw at *
        generalize L[k].may = xm at *
        go_wp2_with fail
        refine (unhide HC).mono ?_
        rintro e w1 ⟨rfl, hb1⟩
        have HB1 := hide (hbel.out.trans (hb1.mono hbel.out.size))
        clear hb1
        go_wp2_with fail
        go_ret
        exact ⟨by rw [hfin.out]; rfl, HB1.out⟩
    · have hsp : M.spotR L who deed t = L.length := M.spotR_none (fun j hj => hno.out j (by have := HN.out; omega) hj)
      have hfin : Hid (M.placeR L who deed t = -1) := hide (by unfold M.placeR; rw [hsp, if_neg (Nat.lt_irrefl _)])
      clear hsp
      go_wp2
      go_ret
      exact ⟨by rw [hfin.out]; rfl, hbel.out⟩

/-- the place of the first that goes -/
theorem findR (av : Option Addr) (n cap : Nat) (L : List M.Rul) (who deed : Int) (ta : Option Addr) (tn tc : Nat) (t : List M.Val) (w : World) (hn : n = L.length) (h8 : n ≤ 8) (hl : AtR w av L) (hL : ∀ r ∈ L, M.likeF r.like = 0) (ht : IsVals w (.slice ta tn tc) t) (htf : M.tupF t = 0) :
    Calls Tryz.prog 153 #[.slice av n cap, .int .i64 who, .int .i64 deed, .slice ta tn tc] w fun e w' => e = .returned (.int .i64 (M.placeR L who deed t)) ∧ Below w.heap.size w w' := by
  obtain ⟨W, hW⟩ : ∃ W, W = ((w.alloc (.cells #[.int .i64 who] 3)).alloc (.cells #[.int .i64 deed] 3)).alloc (.cells #[.slice ta tn tc] 32) := ⟨_, rfl⟩
  have hb : Below w.heap.size w W := by rw [hW]; exact (((Below.refl _ _).alloc (Nat.le_refl _) _).alloc (by simp) _).alloc (by simp; omega) _
  have HI : Hid (Calls Tryz.prog 174 #[.slice av n cap, .func (.func 175) #[] #[.pointer (some ⟨w.heap.size + 1, 0, none⟩), .pointer (some ⟨w.heap.size, 0, none⟩), .pointer (some ⟨w.heap.size + 1 + 1, 0, none⟩)]] W fun e w' => e = .returned (.int .i64 (M.placeR L who deed t)) ∧ Below W.heap.size W w') := hide
    (indexR av n cap L deed who _ _ _ ta tn tc t W hn h8 (hl.stays hb (Nat.le_refl _)) hL (by rw [hW]; simp [go_sem]) (by rw [hW]; simp [go_sem]) (by rw [hW]; simp [go_sem]) (ht.stays hb (Nat.le_refl _)) htf)
  have HB := hide hb
  have HW := hide hW
  clear hn h8 hl hL ht htf hb hW
  go_enter Tryz.func153, Tryz.ntmps153
  go_wp2_with fail
  rw [← HW.out]
  refine (unhide HI).mono ?_
  rintro e w1 ⟨rfl, hb1⟩
  have HB1 := hide (HB.out.trans (hb1.mono HB.out.size))
  clear hb1
  go_wp2_with fail
  go_ret
  exact ⟨rfl, HB1.out⟩

/-- May, whatever comes in -/
theorem rMay (av : Option Addr) (n cap : Nat) (L : List M.Rul) (who deed : Int) (tv : Value) (t : List M.Val) (w : World) (hn : n = L.length) (hm : n ≤ maxLen) (hl : AtR w av L) (ht : IsVals w tv t) :
    Calls Tryz.prog 121 #[.slice av n cap, .int .i64 who, .int .i64 deed, tv] w fun e w' => e = .returned (.tuple #[.bool (M.mayR L who deed t), errV (M.mayE L who deed t)]) ∧ Below w.heap.size w w' := by
  have hC := checkAll av n cap L who deed tv t w hn hm hl ht
  by_cases hE : M.mayE L who deed t = 0
  · rw [hE] at hC ⊢
    have HC : Hid (Calls Tryz.prog 152 #[.slice av n cap, .int .i64 who, .int .i64 deed, tv] w fun e w' => e = .returned .nilIface ∧ Below w.heap.size w w') := hide hC
    show Calls Tryz.prog 121 #[.slice av n cap, .int .i64 who, .int .i64 deed, tv] w fun e w' => e = .returned (.tuple #[.bool (M.mayR L who deed t), .nilIface]) ∧ Below w.heap.size w w'
    obtain ⟨e1, e2, e3⟩ := M.mayE_ok hE
    have h8 : n ≤ 8 := by rw [hn]; exact (M.rulE_ok e1).1
    have hF : ∀ wx, Below w.heap.size w wx → Calls Tryz.prog 153 #[.slice av n cap, .int .i64 who, .int .i64 deed, tv] wx fun e w' => e = .returned (.int .i64 (M.placeR L who deed t)) ∧ Below wx.heap.size wx w' := fun wx hb => by
      obtain ⟨ta, tn, tc, rfl⟩ := ht.isSlice
      exact findR av n cap L who deed ta tn tc t wx hn h8 (hl.stays hb (Nat.le_refl _)) (M.rulE_like e1) (ht.stays hb (Nat.le_refl _)) e3
    clear hC ht
    by_cases hs : M.spotR L who deed t < L.length
    · have hp : M.placeR L who deed t = (M.spotR L who deed t : Int) := by unfold M.placeR; rw [if_pos hs]
      rw [hp] at hF
      have hR := M.mayR_hit hE hs
      rw [hR]
      obtain ⟨b, off, rfl, hlie⟩ := hl (by omega)
      have hc : ∀ wx, Below w.heap.size w wx → wx.cell? ⟨b, off + M.spotR L who deed t * 4 + 3, none⟩ = some (.bool L[M.spotR L who deed t].may) := fun wx hb => ((hlie.stays hb (Nat.le_refl _)) _ hs).2.2.2
      have hsn : M.spotR L who deed t < n := by omega
      generalize L[M.spotR L who deed t].may = my at *
      generalize M.spotR L who deed t = p at *
      have HF := hide hF
      have HCE := hide hc
      have p0 : (0 : Int) ≤ (p : Int) := by omega
      have pn : (p : Int) < (n : Int) := by omega
      clear hF hc hlie hR hp hs hE e1 e2 e3 hl hn hm
      go_enter Tryz.func121, Tryz.ntmps121
      go_wp2_with fail
      refine (unhide HC).mono ?_
      rintro e w1 ⟨rfl, hb1⟩
      have HB1 := hide hb1
      clear hb1
      go_wp2_with fail
      refine (HF.out _ HB1.out).mono ?_
      rintro e w2 ⟨rfl, hb2⟩
      have hb := HB1.out.trans (hb2.mono HB1.out.size)
      have c1 := HCE.out _ hb
      have HB2 := hide hb
      clear hb hb2
      go_wp2_with fail
      go_ret2
      exact ⟨rfl, HB2.out⟩
    · have hp : M.placeR L who deed t = -1 := by unfold M.placeR; rw [if_neg hs]
      rw [hp] at hF
      rw [M.mayR_none hE hs]
      have HF := hide hF
      clear hF hp hs hE e1 e2 e3 hl hn hm
      go_enter Tryz.func121, Tryz.ntmps121
      go_wp2_with fail
      refine (unhide HC).mono ?_
      rintro e w1 ⟨rfl, hb1⟩
      have HB1 := hide hb1
      clear hb1
      go_wp2_with fail
      refine (HF.out _ HB1.out).mono ?_
      rintro e w2 ⟨rfl, hb2⟩
      have HB2 := hide (HB1.out.trans (hb2.mono HB1.out.size))
      clear hb2
      go_wp2_with fail
      go_ret2
      exact ⟨rfl, HB2.out⟩
  · rw [M.mayR_bad hE, errV_bad hE]
    rw [errV_bad hE] at hC
    have HC := hide hC
    clear hC hE hl ht hn hm
    generalize M.mayE L who deed t = E at *
    go_enter Tryz.func121, Tryz.ntmps121
    go_wp2_with fail
    refine (unhide HC).mono ?_
    rintro e w1 ⟨rfl, hb1⟩
    go_wp2_with fail
    go_ret2
    exact ⟨rfl, hb1⟩


end Go.Proofs.YtlefhfmckimlaakGreatDoor

set_option linter.unusedVariables false
namespace Go.Proofs.YtlefhfmckimlaakGreatDoor
open Go.RowKit

/-- the cells of some rules, in a row -/
def RowR (w : World) : List Value → List M.Rul → Prop
  | xs, [] => xs = []
  | xs, r :: l => ∃ v ys, xs = .int .i64 r.deed :: .int .i64 r.who :: v :: .bool r.may :: ys ∧ IsVals w v r.like ∧ RowR w ys l

theorem RowR.len {w : World} : ∀ {l : List M.Rul} {xs : List Value}, RowR w xs l → xs.length = l.length * 4
  | [], xs, h => by have h' : xs = [] := h; subst h'; rfl
  | r :: l, xs, h => by
    obtain ⟨v, ys, rfl, _, h2⟩ := h
    have := RowR.len h2
    simp only [List.length_cons]
    omega
theorem RowR.stays {w w' : World} {B : Nat} (hb : Below B w w') (hB : w.heap.size ≤ B) : ∀ {l : List M.Rul} {xs : List Value}, RowR w xs l → RowR w' xs l
  | [], xs, h => h
  | r :: l, xs, h => by
    obtain ⟨v, ys, e, h1, h2⟩ := h
    exact ⟨v, ys, e, h1.stays hb hB, RowR.stays hb hB h2⟩
theorem RowR.append {w : World} {m : List M.Rul} {zs : List Value} (hm : RowR w zs m) : ∀ {l : List M.Rul} {xs : List Value}, RowR w xs l → RowR w (xs ++ zs) (l ++ m)
  | [], xs, h => by have h' : xs = [] := h; subst h'; exact hm
  | r :: l, xs, h => by
    obtain ⟨v, ys, rfl, h1, h2⟩ := h
    exact ⟨v, ys ++ zs, rfl, h1, RowR.append hm h2⟩
theorem RowR.oneCell {w : World} : ∀ {l : List M.Rul} {xs : List Value}, RowR w xs l → ∀ u ∈ xs, u.oneCell' = true
  | [], xs, h, u, hu => by have h' : xs = [] := h; subst h'; cases hu
  | r :: l, xs, h, u, hu => by
    obtain ⟨v, ys, rfl, h1, h2⟩ := h
    obtain ⟨a, n, c, rfl⟩ := h1.isSlice
    simp only [List.mem_cons] at hu
    rcases hu with rfl | rfl | rfl | rfl | hu
    · rfl
    · rfl
    · rfl
    · rfl
    · exact RowR.oneCell h2 u hu
theorem RowR.get {w : World} : ∀ {l : List M.Rul} {xs : List Value}, RowR w xs l → ∀ i (hi : i < l.length), xs[i * 4]? = some (.int .i64 l[i].deed) ∧ xs[i * 4 + 1]? = some (.int .i64 l[i].who) ∧ (∃ v, xs[i * 4 + 2]? = some v ∧ IsVals w v l[i].like) ∧ xs[i * 4 + 3]? = some (.bool l[i].may)
  | [], _, _, i, hi => absurd hi (by simp)
  | r :: l, xs, h, 0, _ => by
    obtain ⟨v, ys, rfl, h1, _⟩ := h
    exact ⟨rfl, rfl, ⟨v, rfl, h1⟩, rfl⟩
  | r :: l, xs, h, i + 1, hi => by
    obtain ⟨v, ys, rfl, _, h2⟩ := h
    have := RowR.get h2 i (by simpa using hi)
    have e : (i + 1) * 4 = i * 4 + 4 := by omega
    rw [e]
    exact this

theorem LieR.tail {w : World} {b off : Nat} {r : M.Rul} {l : List M.Rul} (h : LieR w b off (r :: l)) : LieR w b (off + 4) l := fun i hi => by
  have := h (i + 1) (by simpa using hi)
  simp only [List.getElem_cons_succ] at this
  rw [show off + (i + 1) * 4 = off + 4 + i * 4 by omega] at this
  exact this
/-- the cells of rules that lie somewhere -/
theorem LieR.row {w : World} {b : Nat} : ∀ {l : List M.Rul} {off : Nat}, LieR w b off l → ∃ xs, RowR w xs l ∧ ∀ j u, xs[j]? = some u → w.cell? ((⟨b, off, none⟩ : Addr).add j) = some u
  | [], off, _ => ⟨[], rfl, fun j u hu => by simp at hu⟩
  | r :: l, off, h => by
    obtain ⟨ys, h1, h2⟩ := LieR.row h.tail
    obtain ⟨g1, g2, ⟨v, g3, gv⟩, g4⟩ := h 0 (by simp)
    refine ⟨.int .i64 r.deed :: .int .i64 r.who :: v :: .bool r.may :: ys, ⟨v, ys, rfl, gv, h1⟩, fun j u hu => ?_⟩
    rw [WideShapes.add_plain]
    simp only [List.getElem_cons_zero, Nat.zero_mul, Nat.add_zero] at g1 g2 g3 g4
    match j with
    | 0 => simp at hu; subst hu; exact g1
    | 1 => simp at hu; subst hu; exact g2
    | 2 => simp at hu; subst hu; exact g3
    | 3 => simp at hu; subst hu; exact g4
    | j + 4 =>
      have := h2 j u (by simpa using hu)
      rw [WideShapes.add_plain] at this
      rw [show off + (j + 4) = off + 4 + j by omega]
      exact this
theorem AtR.row {w : World} {a : Option Addr} {l : List M.Rul} (h : AtR w a l) : ∃ xs, RowR w xs l ∧ ∀ ad, a = some ad → ∀ j u, xs[j]? = some u → w.cell? (ad.add j) = some u := by
  rcases Nat.eq_zero_or_pos l.length with h0 | h0
  · have hl := List.length_eq_zero_iff.1 h0
    subst hl
    exact ⟨[], rfl, fun _ _ j u hu => by simp at hu⟩
  · obtain ⟨b, off, e, hl⟩ := h h0
    obtain ⟨xs, h1, h2⟩ := hl.row
    refine ⟨xs, h1, fun ad he => ?_⟩
    rw [e] at he
    cases he
    exact h2
/-- rules that a call has put together itself -/
theorem atR_own {w : World} {base : Nat} {e : TypeId} {v : Value} {m : Nat} {xs : List Value} {l : List M.Rul} (hm : m = l.length) (hr : RowR w xs l) (h : w.ownsRow base e 4 v m xs) : ∃ a cap, v = .slice a m cap ∧ AtR w a l := by
  have hc := h
  rcases h.2 with ⟨hv, hn⟩ | ⟨g, cap, cur, hv, _, _, hn, hcm, _⟩
  · exact ⟨none, 0, by rw [hv, hn], fun h0 => by omega⟩
  · refine ⟨some ⟨g, 0, none⟩, cap, hv, fun _ => ⟨g, 0, rfl, fun i hi => ?_⟩⟩
    obtain ⟨g1, g2, ⟨x, g3, gv⟩, g4⟩ := hr.get i hi
    have c1 := hc.cells (g := g) (by rw [hv]; rfl) _ _ g1
    have c2 := hc.cells (g := g) (by rw [hv]; rfl) _ _ g2
    have c3 := hc.cells (g := g) (by rw [hv]; rfl) _ _ g3
    have c4 := hc.cells (g := g) (by rw [hv]; rfl) _ _ g4
    rw [WideShapes.add_plain] at c1 c2 c3 c4
    exact ⟨c1, by rw [Nat.add_assoc]; exact c2, ⟨x, by rw [Nat.add_assoc]; exact c3, gv⟩, by rw [Nat.add_assoc]; exact c4⟩
theorem infoR : (Tryz.prog.info? 34).map (fun i => (i.zero, i.size, i.bytes)) = some (some (.agg #[.int .i64 0, .int .i64 0, .slice none 0 0, .bool false]), 4, 48) := by kernel_rfl
/-- one rule written down -/
theorem rowR_one {w : World} (r : M.Rul) {v : Value} (h : IsVals w v r.like) : RowR w [.int .i64 r.deed, .int .i64 r.who, v, .bool r.may] [r] := ⟨v, [], rfl, h, rfl⟩

end Go.Proofs.YtlefhfmckimlaakGreatDoor
