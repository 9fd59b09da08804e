/-
  Plain facts on rules: what is wrong with some, which one goes, whether it may be done; that rules behind the one that goes change nothing, and that one ahead that goes decides. No program is walked here.
  Rules that lie in memory behind a slice: what a walk is told of some that came in, and that they stay while only new memory is written. For any program.
-/
import Derived.Test.YtlefhfmckimlaaiGreatDoorJ0A
import Derived.Test.YtlefhfmckimlaaiGreatDoorPolyMath2
import Derived.Lib.SmallJoins
namespace Go.Proofs.YtlefhfmckimlaaiGreatDoor.M

/-- a rule: of a deed, of somebody (below 0: of anybody), what a tuple has to fit, and what it says -/
structure Rul where
  deed : Int
  who : Int
  like : List Val
  may : Bool

/-- what is wrong with one -/
def rulF (r : Rul) : Int := if r.deed < 0 ∨ 2 < r.deed ∨ r.who < -1 ∨ 1000000 < r.who then 1 else likeF r.like
theorem rulF_range {r : Rul} (h : r.deed < 0 ∨ 2 < r.deed ∨ r.who < -1 ∨ 1000000 < r.who) : rulF r = 1 := by unfold rulF; rw [if_pos h]
theorem rulF_like {r : Rul} (h : ¬ (r.deed < 0 ∨ 2 < r.deed ∨ r.who < -1 ∨ 1000000 < r.who)) : rulF r = likeF r.like := by unfold rulF; rw [if_neg h]
theorem rulF_ok {r : Rul} (h : rulF r = 0) : (0 ≤ r.deed ∧ r.deed ≤ 2) ∧ (-1 ≤ r.who ∧ r.who ≤ 1000000) ∧ likeF r.like = 0 := by
  by_cases hr : r.deed < 0 ∨ 2 < r.deed ∨ r.who < -1 ∨ 1000000 < r.who
  · rw [rulF_range hr] at h; exact absurd h (by decide)
  · rw [rulF_like hr] at h; exact ⟨by omega, by omega, h⟩
/-- what is wrong with the one at a place -/
def rulA (l : List Rul) (i : Nat) : Int := if h : i < l.length then rulF l[i] else 0
theorem rulA_at {l : List Rul} {i : Nat} (h : i < l.length) : rulA l i = rulF l[i] := by unfold rulA; rw [dif_pos h]
/-- what is wrong with some -/
def rulE (l : List Rul) : Int := if 8 < l.length then 4 else first (rulA l) l.length
theorem rulE_many {l : List Rul} (h : 8 < l.length) : rulE l = 4 := by unfold rulE; rw [if_pos h]
theorem rulE_some {l : List Rul} (h : ¬ 8 < l.length) : rulE l = first (rulA l) l.length := by unfold rulE; rw [if_neg h]
theorem rulE_nil : rulE [] = 0 := rfl
theorem rulE_ok {l : List Rul} (h : rulE l = 0) : l.length ≤ 8 ∧ ∀ i (hi : i < l.length), rulF l[i] = 0 := by
  by_cases h8 : 8 < l.length
  · rw [rulE_many h8] at h; exact absurd h (by decide)
  · rw [rulE_some h8] at h
    exact ⟨by omega, fun i hi => by rw [← rulA_at hi]; exact first_all h i hi⟩
theorem rulE_like {l : List Rul} (h : rulE l = 0) : ∀ r ∈ l, likeF r.like = 0 := fun r hr => by
  obtain ⟨i, hi, rfl⟩ := List.getElem_of_mem hr
  exact (rulF_ok ((rulE_ok h).2 i hi)).2.2

/-- who asks, and for which deed, may be -/
def askB (who deed : Int) : Bool := decide (0 ≤ who ∧ who ≤ 1000000 ∧ 0 ≤ deed ∧ deed ≤ 2)
theorem askB_yes {who deed : Int} (h : askB who deed = true) : 0 ≤ who ∧ who ≤ 1000000 ∧ 0 ≤ deed ∧ deed ≤ 2 := of_decide_eq_true h
theorem askB_no {who deed : Int} (h : askB who deed = false) : who < 0 ∨ 1000000 < who ∨ deed < 0 ∨ 2 < deed := by have := of_decide_eq_false h; omega
/-- what is wrong with asking whether it may be done -/
def mayE (l : List Rul) (who deed : Int) (t : List Val) : Int := if rulE l ≠ 0 then rulE l else if askB who deed = true then tupF t else 1
theorem mayE_rul {l : List Rul} {who deed : Int} {t : List Val} (h : rulE l ≠ 0) : mayE l who deed t = rulE l := by unfold mayE; rw [if_pos h]
theorem mayE_ask {l : List Rul} {who deed : Int} {t : List Val} (h : rulE l = 0) (ha : askB who deed = false) : mayE l who deed t = 1 := by unfold mayE; rw [if_neg (by simpa using h), ha]; rfl
theorem mayE_tup {l : List Rul} {who deed : Int} {t : List Val} (h : rulE l = 0) (ha : askB who deed = true) : mayE l who deed t = tupF t := by unfold mayE; rw [if_neg (by simpa using h), if_pos ha]
theorem mayE_ok {l : List Rul} {who deed : Int} {t : List Val} (h : mayE l who deed t = 0) : rulE l = 0 ∧ askB who deed = true ∧ tupF t = 0 := by
  by_cases h1 : rulE l = 0
  · cases ha : askB who deed
    · rw [mayE_ask h1 ha] at h; exact absurd h (by decide)
    · rw [mayE_tup h1 ha] at h; exact ⟨h1, rfl, h⟩
  · rw [mayE_rul h1] at h; exact absurd h h1
/-- does a rule go -/
def goes (who deed : Int) (t : List Val) (r : Rul) : Bool := fitAll r.like t && (r.deed == deed) && (r.who == -1 || r.who == who)
/-- the place of the first that goes (as many as there are: none does) -/
def spotR (l : List Rul) (who deed : Int) (t : List Val) : Nat := l.findIdx (goes who deed t)
theorem spotR_hit {l : List Rul} {who deed : Int} {t : List Val} {k : Nat} (hk : k < l.length) (h : ∀ j (hj : j < k), goes who deed t (l[j]'(by omega)) = false) (h1 : goes who deed t l[k] = true) : spotR l who deed t = k := by
  unfold spotR
  rw [List.findIdx_eq hk]
  exact ⟨h1, fun j hj => by simpa using h j hj⟩
theorem spotR_none {l : List Rul} {who deed : Int} {t : List Val} (h : ∀ j (hj : j < l.length), goes who deed t l[j] = false) : spotR l who deed t = l.length := by
  unfold spotR
  rw [List.findIdx_eq_length]
  intro x hx
  obtain ⟨i, hi, rfl⟩ := List.mem_iff_getElem.1 hx
  simpa using h i hi
theorem spotR_le (l : List Rul) (who deed : Int) (t : List Val) : spotR l who deed t ≤ l.length := List.findIdx_le_length
theorem spotR_ahead {l : List Rul} {who deed : Int} {t : List Val} {j : Nat} (h : j < spotR l who deed t) : goes who deed t (l[j]'(Nat.lt_of_lt_of_le h (spotR_le ..))) = false := by
  have := List.not_of_lt_findIdx h
  simpa using this
theorem spotR_goes {l : List Rul} {who deed : Int} {t : List Val} (h : spotR l who deed t < l.length) : goes who deed t l[spotR l who deed t] = true := List.findIdx_getElem (w := h)
/-- what First, and May, answer -/
def firE (l : List Rul) (who deed : Int) (t : List Val) : Int := if mayE l who deed t ≠ 0 then mayE l who deed t else if spotR l who deed t < l.length then 0 else 5
def firR (l : List Rul) (who deed : Int) (t : List Val) : Int := if firE l who deed t = 0 then spotR l who deed t else 0
def mayR (l : List Rul) (who deed : Int) (t : List Val) : Bool := if mayE l who deed t = 0 then (if h : spotR l who deed t < l.length then l[spotR l who deed t].may else false) else false
theorem firE_bad {l : List Rul} {who deed : Int} {t : List Val} (h : mayE l who deed t ≠ 0) : firE l who deed t = mayE l who deed t := by unfold firE; rw [if_pos h]
theorem firE_hit {l : List Rul} {who deed : Int} {t : List Val} (h : mayE l who deed t = 0) (hs : spotR l who deed t < l.length) : firE l who deed t = 0 := by unfold firE; rw [if_neg (by simpa using h), if_pos hs]
theorem firE_none {l : List Rul} {who deed : Int} {t : List Val} (h : mayE l who deed t = 0) (hs : ¬ spotR l who deed t < l.length) : firE l who deed t = 5 := by unfold firE; rw [if_neg (by simpa using h), if_neg hs]
theorem firE_ok {l : List Rul} {who deed : Int} {t : List Val} (h : firE l who deed t = 0) : mayE l who deed t = 0 ∧ spotR l who deed t < l.length := by
  by_cases h1 : mayE l who deed t = 0
  · by_cases h2 : spotR l who deed t < l.length
    · exact ⟨h1, h2⟩
    · rw [firE_none h1 h2] at h; exact absurd h (by decide)
  · rw [firE_bad h1] at h; exact absurd h h1
theorem firR_hit {l : List Rul} {who deed : Int} {t : List Val} (h : firE l who deed t = 0) : firR l who deed t = spotR l who deed t := by unfold firR; rw [if_pos h]
theorem firR_bad {l : List Rul} {who deed : Int} {t : List Val} (h : firE l who deed t ≠ 0) : firR l who deed t = 0 := by unfold firR; rw [if_neg h]
theorem mayR_bad {l : List Rul} {who deed : Int} {t : List Val} (h : mayE l who deed t ≠ 0) : mayR l who deed t = false := by unfold mayR; rw [if_neg h]
theorem mayR_hit {l : List Rul} {who deed : Int} {t : List Val} (h : mayE l who deed t = 0) (hs : spotR l who deed t < l.length) : mayR l who deed t = l[spotR l who deed t].may := by unfold mayR; rw [if_pos h, dif_pos hs]
theorem mayR_none {l : List Rul} {who deed : Int} {t : List Val} (h : mayE l who deed t = 0) (hs : ¬ spotR l who deed t < l.length) : mayR l who deed t = false := by unfold mayR; rw [if_pos h, dif_neg hs]
/-- without a rule nothing may be done -/
theorem none_may (who deed : Int) (t : List Val) : mayR [] who deed t = false := by
  by_cases h : mayE [] who deed t = 0
  · exact mayR_none h (by simp)
  · exact mayR_bad h
theorem none_first {who deed : Int} {t : List Val} (h : mayE [] who deed t = 0) : firE [] who deed t = 5 := firE_none h (by simp)
/-- rules behind the one that goes change nothing -/
theorem spotR_more {l : List Rul} (m : List Rul) {who deed : Int} {t : List Val} (h : spotR l who deed t < l.length) : spotR (l ++ m) who deed t = spotR l who deed t := by
  refine spotR_hit (by rw [List.length_append]; omega) (fun j hj => ?_) ?_
  · rw [List.getElem_append_left (by omega)]; exact spotR_ahead hj
  · rw [List.getElem_append_left h]; exact spotR_goes h
theorem may_more {l m : List Rul} {who deed : Int} {t : List Val} (h : firE l who deed t = 0) (hm : mayE (l ++ m) who deed t = 0) : mayR (l ++ m) who deed t = mayR l who deed t := by
  obtain ⟨h1, h2⟩ := firE_ok h
  have e := spotR_more m h2
  have hs : spotR (l ++ m) who deed t < (l ++ m).length := by rw [e, List.length_append]; omega
  rw [mayR_hit hm hs, mayR_hit h1 h2]
  have : (l ++ m)[spotR (l ++ m) who deed t] = (l ++ m)[spotR l who deed t]'(by rw [List.length_append]; omega) := by simp only [e]
  rw [this, List.getElem_append_left h2]
/-- each fits itself -/
theorem val_self (v : Val) : v.same v = true := by simp [Val.same, same]
theorem fit_own : ∀ l : List Val, fitAll l l = true
  | [] => rfl
  | v :: l => by unfold fitAll; rw [fit_own l]; simp [fit1, val_self]
/-- one ahead that goes decides -/
theorem may_ahead {l : List Rul} {who deed : Int} {t : List Val} {b : Bool} (hm : mayE (⟨deed, who, t, b⟩ :: l) who deed t = 0) : mayR (⟨deed, who, t, b⟩ :: l) who deed t = b := by
  have hg : goes who deed t ⟨deed, who, t, b⟩ = true := by unfold goes; rw [fit_own]; simp
  have e : spotR (⟨deed, who, t, b⟩ :: l) who deed t = 0 := spotR_hit (by simp) (fun j hj => absurd hj (by omega)) hg
  have hs : spotR (⟨deed, who, t, b⟩ :: l) who deed t < (⟨deed, who, t, b⟩ :: l : List Rul).length := by rw [e]; simp
  rw [mayR_hit hm hs]
  simp only [e, List.getElem_cons_zero]

end Go.Proofs.YtlefhfmckimlaaiGreatDoor.M

namespace Go.Proofs.YtlefhfmckimlaaiGreatDoor
open Go.RowKit Go.Deep

/-- the rules l lie in w, four cells each, from cell off of block b on -/
def LieR (w : World) (b off : Nat) (l : List M.Rul) : Prop :=
  ∀ i (h : i < l.length), w.cell? ⟨b, off + i * 4, none⟩ = some (.int .i64 l[i].deed) ∧ w.cell? ⟨b, off + i * 4 + 1, none⟩ = some (.int .i64 l[i].who) ∧ (∃ v, w.cell? ⟨b, off + i * 4 + 2, none⟩ = some v ∧ IsVals w v l[i].like) ∧ w.cell? ⟨b, off + i * 4 + 3, none⟩ = some (.bool l[i].may)
/-- where a slice has its rules: nowhere, if there are none -/
def AtR (w : World) (a : Option Addr) (l : List M.Rul) : Prop := 0 < l.length → ∃ b off, a = some ⟨b, off, none⟩ ∧ LieR w b off l

theorem LieR.stays {w w' : World} {b off B : Nat} {l : List M.Rul} (h : LieR w b off l) (hb : Below B w w') (hB : w.heap.size ≤ B) : LieR w' b off l := fun i hi => by
  obtain ⟨h1, h2, ⟨v, h3, h4⟩, h5⟩ := h i hi
  have hlt := Nat.lt_of_lt_of_le (World.block_lt_of_cell? w _ h1) hB
  exact ⟨(hb.cell (p := ⟨b, off + i * 4, none⟩) hlt).trans h1, (hb.cell (p := ⟨b, off + i * 4 + 1, none⟩) hlt).trans h2, ⟨v, (hb.cell (p := ⟨b, off + i * 4 + 2, none⟩) hlt).trans h3, h4.stays hb hB⟩, (hb.cell (p := ⟨b, off + i * 4 + 3, none⟩) hlt).trans h5⟩
theorem AtR.stays {w w' : World} {a : Option Addr} {B : Nat} {l : List M.Rul} (h : AtR w a l) (hb : Below B w w') (hB : w.heap.size ≤ B) : AtR w' a l := fun h0 => by
  obtain ⟨b, off, e, g⟩ := h h0
  exact ⟨b, off, e, g.stays hb hB⟩

/-- an argument of type []api.Rule -/
theorem open_rules {H : Type} {enc : TypeId × Value → H} {P : Program} {w : World} {t e ev : TypeId} {f0 f1 f2 f3 g0 g1 g2 : Field} {a : Option Addr} {len cap : Nat} {d : DataW H} {p : List MemPlace}
    (ht : P.underlying t = some (.slice e)) (he : P.underlying e = some (.struct #[f0, f1, f2, f3])) (ce : P.cellsOf e = 4) (o0 : f0.offset = 0) (o1 : f1.offset = 1) (o2 : f2.offset = 2) (o3 : f3.offset = 3)
    (u0 : P.underlying f0.type = some (.int .i64)) (u1 : P.underlying f1.type = some (.int .i64)) (u2 : P.underlying f2.type = some (.slice ev)) (u3 : P.underlying f3.type = some .bool) (c0 : P.cellsOf f0.type = 1) (c1 : P.cellsOf f1.type = 1) (c2 : P.cellsOf f2.type = 1) (c3 : P.cellsOf f3.type = 1)
    (hv : P.underlying ev = some (.struct #[g0, g1, g2])) (cv : P.cellsOf ev = 3) (q0 : g0.offset = 0) (q1 : g1.offset = 1) (q2 : g2.offset = 2) (r0 : P.underlying g0.type = some (.int .i64)) (r1 : P.underlying g1.type = some (.int .i64)) (r2 : P.underlying g2.type = some .string) (k0 : P.cellsOf g0.type = 1) (k1 : P.cellsOf g1.type = 1) (k2 : P.cellsOf g2.type = 1)
    (h : DataW.Trod enc P w 0 (fun _ => true) true t (.slice a len cap) d p) : ∃ l : List M.Rul, len = l.length ∧ len ≤ cap ∧ cap ≤ maxLen ∧ AtR w a l ∧ ((d = .nil ∧ l = []) ∨ ∃ D1 D2, d = .slice D1 D2 ∧ D1.length = l.length) ∧ (a = none → len = 0 ∧ cap = 0) := by
  obtain ⟨fuel, hf⟩ := h
  rcases open_slice ht hf with ⟨hcs, hd⟩ | ⟨x, len', cap', m, n, D, Pl, hcs, _, hl, hm, hmm, hd, hx⟩
  · simp [Value.cells] at hcs
    obtain ⟨rfl, rfl, rfl⟩ := hcs
    exact ⟨[], rfl, Nat.zero_le _, Nat.zero_le _, fun h => absurd h (by decide), Or.inl ⟨(Prod.mk.inj hd).1, rfl⟩, fun _ => ⟨rfl, rfl⟩⟩
  · simp [Value.cells] at hcs
    obtain ⟨rfl, rfl, rfl⟩ := hcs
    have hmc : m = cap := by rw [hmm]; simp
    have each : ∀ i, i < len → ∃ r : M.Rul, w.cell? (x.add (i * 4)) = some (.int .i64 r.deed) ∧ w.cell? (x.add (i * 4 + 1)) = some (.int .i64 r.who) ∧ (∃ v, w.cell? (x.add (i * 4 + 2)) = some v ∧ IsVals w v r.like) ∧ w.cell? (x.add (i * 4 + 3)) = some (.bool r.may) := by
      intro i hi
      obtain ⟨cs', h1, h2⟩ := hx i (by omega)
      rw [ce] at h1
      obtain ⟨_, hlen, hcell⟩ := World.cells?_some h1
      obtain ⟨y0, y1, y2, y3, k, _, _, t0, t1, t2, t3⟩ := Joins.trod_struct4 he h2
      match cs', hlen with
      | [v0, v1, v2, v3], _ =>
        rw [o0, c0] at t0
        rw [o1, c1] at t1
        rw [o2, c2] at t2
        rw [o3, c3] at t3
        obtain ⟨z0, s0, _, _⟩ := DataW.trod_int u0 t0
        obtain ⟨z1, s1, _, _⟩ := DataW.trod_int u1 t1
        obtain ⟨z3, s3, _⟩ := DataW.trod_bool u3 t3
        simp at s0 s1 s3
        have t2' : DataW.trod enc P w 0 (fun _ => true) true k f2.type [v2] = some y2 := by simpa using t2
        have hV : ∃ a' len' cap', v2 = .slice a' len' cap' := by
          rcases open_slice u2 t2' with ⟨hc, _⟩ | ⟨x', l', c', _, _, _, _, hc, _⟩
          · exact ⟨none, 0, 0, by simpa using hc⟩
          · exact ⟨some x', l', c', by simpa using hc⟩
        obtain ⟨a', l', c', hve⟩ := hV
        subst hve
        obtain ⟨ll, hll, _⟩ := open_vals (d := y2.1) (p := y2.2) u2 hv cv q0 q1 q2 r0 r1 r2 k0 k1 k2 ⟨k, by simpa [Value.cells] using t2'⟩
        have e0 := hcell 0 (by omega)
        have e1 := hcell 1 (by omega)
        have e2 := hcell 2 (by omega)
        have e3 := hcell 3 (by omega)
        refine ⟨⟨z0, z1, ll, z3⟩, ?_, ?_, ⟨_, ?_, hll⟩, ?_⟩
        · simpa [add_add, s0] using e0
        · simpa [add_add, s1] using e1
        · simpa [add_add] using e2
        · simpa [add_add, s3] using e3
    rcases Nat.eq_zero_or_pos len with h0 | h0
    · subst h0; exact ⟨[], rfl, hl, hm, fun h => absurd h (by simp), Or.inr ⟨_, _, (Prod.mk.inj hd).1, by simp⟩, fun e => by cases e⟩
    haveI : Inhabited M.Rul := ⟨⟨0, 0, [], false⟩⟩
    obtain ⟨f, hfe⟩ := choose_lt each
    obtain ⟨b, off, spot⟩ := x
    have hspot : spot = none := by simpa [Addr.add] using World.cell?_spot (hfe 0 h0).1
    subst hspot
    have hll : ((List.range len).map f).length = len := by simp
    refine ⟨(List.range len).map f, hll.symm, hl, hm, fun _ => ⟨b, off, rfl, fun i hi => ?_⟩, Or.inr ⟨_, _, (Prod.mk.inj hd).1, by simp⟩, fun e => by cases e⟩
    have hi' : i < len := by rw [hll] at hi; exact hi
    have e : ((List.range len).map f)[i] = f i := by simp
    rw [e]
    have g := hfe i hi'
    simp only [WideShapes.add_plain] at g
    exact g

end Go.Proofs.YtlefhfmckimlaaiGreatDoor
