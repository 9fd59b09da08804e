/-
  What the functions of package value do: checkText, Check, checkBoth, Fits, Order, each as one law of its call.
  What checkBoth, Fits and Order of package value do, each as one law of its call.
  Values that lie in memory behind a slice: what a walk is told of one that came in, and that it stays while only new memory is written. For any program.
-/
import Derived.Test.YtlefhfmckimlaajGreatDoorValWalks
import Derived.LaidEql
import Derived.Test.YtlefhfmckimlaajGreatDoorJ1A
import Derived.Deep.Slices
import Derived.Deep.Strs
import Derived.Below
import Derived.WideShapes
namespace Go.Proofs.YtlefhfmckimlaajGreatDoor
open Go.RowKit

theorem checkText (k n : Int) (s : ByteArray) (w : World) (hs : s.size ≤ maxLen) : Calls Tryz.prog 111 #[.agg #[.int .i64 k, .int .i64 n, .string s]] w fun e w' => e = .returned (errV (M.faultT n s)) ∧ Below w.heap.size w w' := by
  unfold M.faultT
  by_cases h1 : 12 < s.size
  · rw [if_pos h1]
    have h1' : (12 : Int) < (s.size : Int) := by omega
    unfold maxLen at hs
    go_enter Tryz.func111, Tryz.ntmps111
    go_wp2
    go_ret
    exact ⟨rfl, (Below.refl _ _).alloc (Nat.le_refl _) _⟩
  · rw [if_neg h1]
    have h1' : ¬ (12 : Int) < (s.size : Int) := by omega
    by_cases h2 : n = 0
    · subst h2
      rw [if_pos rfl]
      have HA : Hid (∀ w, Calls Tryz.prog 134 #[.string s, .func (.func 135) #[] #[]] w fun e w' => e = .returned (.bool (M.bad s)) ∧ w' = w) := fun w => anyByte s w hs
      unfold maxLen at hs
      cases hb : M.bad s
      · rw [hb] at HA
        clear hb
        go_enter Tryz.func111, Tryz.ntmps111
        go_wp2_with (go_at_call 134; refine (unhide HA _).mono ?_; rintro e w' ⟨rfl, rfl⟩)
        go_ret
        exact ⟨rfl, (Below.refl _ _).alloc (Nat.le_refl _) _⟩
      · rw [hb] at HA
        clear hb
        go_enter Tryz.func111, Tryz.ntmps111
        go_wp2_with (go_at_call 134; refine (unhide HA _).mono ?_; rintro e w' ⟨rfl, rfl⟩)
        go_ret
        exact ⟨rfl, (Below.refl _ _).alloc (Nat.le_refl _) _⟩
    · rw [if_neg h2]
      have hn : (n != 0) = true := by simpa using h2
      unfold maxLen at hs
      go_enter Tryz.func111, Tryz.ntmps111
      go_wp2
      go_ret
      exact ⟨rfl, (Below.refl _ _).alloc (Nat.le_refl _) _⟩

theorem check (k n : Int) (s : ByteArray) (w : World) (hs : s.size ≤ maxLen) : Calls Tryz.prog 79 #[.agg #[.int .i64 k, .int .i64 n, .string s]] w fun e w' => e = .returned (errV (M.fault k n s)) ∧ Below w.heap.size w w' := by
  by_cases h0 : k = 0
  · subst h0
    have HF : Hid (M.fault 0 n s = M.faultN n s) := hide (by unfold M.fault; rw [if_pos rfl])
    go_enter Tryz.func79, Tryz.ntmps79
    go_wp2_with (go_at_call 110; refine (checkNumber _ _ _ _).mono ?_; rintro e w' ⟨rfl, hb⟩)
    go_ret
    exact ⟨by rw [HF.out]; rfl, ((Below.refl _ _).alloc (Nat.le_refl _) _).trans (hb.mono (by simp))⟩
  · have h0' : (k == 0) = false := by simpa using h0
    by_cases h1 : k = 1
    · subst h1
      have HF : Hid (M.fault 1 n s = M.faultT n s) := hide (by unfold M.fault; rw [if_neg (by decide), if_pos rfl])
      go_enter Tryz.func79, Tryz.ntmps79
      go_wp2_with (go_at_call 111; refine (checkText _ _ _ _ hs).mono ?_; rintro e w' ⟨rfl, hb⟩)
      go_ret
      exact ⟨by rw [HF.out]; rfl, ((Below.refl _ _).alloc (Nat.le_refl _) _).trans (hb.mono (by simp))⟩
    · have h1' : (k == 1) = false := by simpa using h1
      by_cases h2 : k = 2
      · subst h2
        have HF : Hid (M.fault 2 n s = M.faultA n s) := hide (by unfold M.fault; rw [if_neg (by decide), if_neg (by decide), if_pos rfl])
        go_enter Tryz.func79, Tryz.ntmps79
        go_wp2_with (go_at_call 112; refine (checkAny _ _ _ _).mono ?_; rintro e w' ⟨rfl, hb⟩)
        go_ret
        exact ⟨by rw [HF.out]; rfl, ((Below.refl _ _).alloc (Nat.le_refl _) _).trans (hb.mono (by simp))⟩
      · have h2' : (k == 2) = false := by simpa using h2
        have HF : Hid (M.fault k n s = 1) := hide (by unfold M.fault; rw [if_neg h0, if_neg h1, if_neg h2])
        go_enter Tryz.func79, Tryz.ntmps79
        go_wp2
        go_ret
        exact ⟨by rw [HF.out]; rfl, (Below.refl _ _).alloc (Nat.le_refl _) _⟩

end Go.Proofs.YtlefhfmckimlaajGreatDoor

namespace Go.Proofs.YtlefhfmckimlaajGreatDoor
open Go.RowKit

theorem checkOk (k n : Int) (s : ByteArray) (w : World) (hs : s.size ≤ maxLen) (h : M.fault k n s = 0) : Calls Tryz.prog 79 #[.agg #[.int .i64 k, .int .i64 n, .string s]] w fun e w' => e = .returned .nilIface ∧ Below w.heap.size w w' := by
  have := check k n s w hs; rwa [h] at this
theorem errV_bad {e : Int} (h : e ≠ 0) : errV e = .iface 66 (.int .i64 e) := by unfold errV; rw [if_neg h]
theorem checkBad (k n : Int) (s : ByteArray) (w : World) (hs : s.size ≤ maxLen) (h : M.fault k n s ≠ 0) : Calls Tryz.prog 79 #[.agg #[.int .i64 k, .int .i64 n, .string s]] w fun e w' => e = .returned (.iface 66 (.int .i64 (M.fault k n s))) ∧ Below w.heap.size w w' := by
  have := check k n s w hs; rwa [errV_bad h] at this

theorem checkBoth (k1 n1 : Int) (s1 : ByteArray) (k2 n2 : Int) (s2 : ByteArray) (w : World) (hs1 : s1.size ≤ maxLen) (hs2 : s2.size ≤ maxLen) :
    Calls Tryz.prog 160 #[.agg #[.int .i64 k1, .int .i64 n1, .string s1], .agg #[.int .i64 k2, .int .i64 n2, .string s2]] w fun e w' => e = .returned (errV (M.both (M.fault k1 n1 s1) (M.fault k2 n2 s2))) ∧ Below w.heap.size w w' := by
  by_cases h : M.fault k1 n1 s1 = 0
  · have HF : Hid (M.both (M.fault k1 n1 s1) (M.fault k2 n2 s2) = M.fault k2 n2 s2) := hide (by unfold M.both; rw [if_pos h])
    have H := hide h
    clear h
    go_enter Tryz.func160, Tryz.ntmps160
    go_wp2_with fail
    refine (checkOk k1 n1 s1 _ hs1 H.out).mono ?_
    rintro e w1 ⟨rfl, hb⟩
    obtain ⟨hc, hf⟩ := bcell hb
    go_wp2_with fail
    refine (check k2 n2 s2 _ hs2).mono ?_
    rintro e w2 ⟨rfl, hb2⟩
    go_wp2_with fail
    go_ret
    exact ⟨by rw [HF.out]; rfl, (((Below.refl _ _).alloc (Nat.le_refl _) _).alloc (by simp) _).trans ((hb.trans (hb2.mono hb.size)).mono (by simp; omega))⟩
  · have HF : Hid (M.both (M.fault k1 n1 s1) (M.fault k2 n2 s2) = M.fault k1 n1 s1) := hide (by unfold M.both; rw [if_neg h])
    have H := hide h
    clear h
    go_enter Tryz.func160, Tryz.ntmps160
    go_wp2_with fail
    refine (checkBad k1 n1 s1 _ hs1 H.out).mono ?_
    rintro e w1 ⟨rfl, hb⟩
    obtain ⟨hc, hf⟩ := bcell hb
    go_wp2_with fail
    go_ret
    exact ⟨by rw [HF.out, errV_bad H.out]; rfl, (((Below.refl _ _).alloc (Nat.le_refl _) _).alloc (by simp) _).trans (hb.mono (by simp; omega))⟩

theorem bothOk (k1 n1 : Int) (s1 : ByteArray) (k2 n2 : Int) (s2 : ByteArray) (w : World) (hs1 : s1.size ≤ maxLen) (hs2 : s2.size ≤ maxLen) (h : M.both (M.fault k1 n1 s1) (M.fault k2 n2 s2) = 0) :
    Calls Tryz.prog 160 #[.agg #[.int .i64 k1, .int .i64 n1, .string s1], .agg #[.int .i64 k2, .int .i64 n2, .string s2]] w fun e w' => e = .returned .nilIface ∧ Below w.heap.size w w' := by
  have := checkBoth k1 n1 s1 k2 n2 s2 w hs1 hs2; rwa [h] at this
theorem bothBad (k1 n1 : Int) (s1 : ByteArray) (k2 n2 : Int) (s2 : ByteArray) (w : World) (hs1 : s1.size ≤ maxLen) (hs2 : s2.size ≤ maxLen) (h : M.both (M.fault k1 n1 s1) (M.fault k2 n2 s2) ≠ 0) :
    Calls Tryz.prog 160 #[.agg #[.int .i64 k1, .int .i64 n1, .string s1], .agg #[.int .i64 k2, .int .i64 n2, .string s2]] w fun e w' => e = .returned (.iface 66 (.int .i64 (M.both (M.fault k1 n1 s1) (M.fault k2 n2 s2)))) ∧ Below w.heap.size w w' := by
  have := checkBoth k1 n1 s1 k2 n2 s2 w hs1 hs2; rwa [errV_bad h] at this

theorem fitsBad (k1 n1 : Int) (s1 : ByteArray) (k2 n2 : Int) (s2 : ByteArray) (w : World) (hs1 : s1.size ≤ maxLen) (hs2 : s2.size ≤ maxLen) (h : M.both (M.fault k1 n1 s1) (M.fault k2 n2 s2) ≠ 0) :
    Calls Tryz.prog 133 #[.agg #[.int .i64 k1, .int .i64 n1, .string s1], .agg #[.int .i64 k2, .int .i64 n2, .string s2]] w fun e w' => e = .returned (.tuple #[.bool false, .iface 66 (.int .i64 (M.both (M.fault k1 n1 s1) (M.fault k2 n2 s2)))]) ∧ Below w.heap.size w w' := by
  have H := hide h
  clear h
  go_enter Tryz.func133, Tryz.ntmps133
  go_wp2_with fail
  refine (bothBad k1 n1 s1 k2 n2 s2 _ hs1 hs2 H.out).mono ?_
  rintro e w1 ⟨rfl, hb⟩
  obtain ⟨hc, hf⟩ := bcell hb
  go_wp2_with fail
  go_ret2
  exact ⟨rfl, (((Below.refl _ _).alloc (Nat.le_refl _) _).alloc (by simp) _).trans (hb.mono (by simp; omega))⟩

theorem fitsAny (k1 n1 : Int) (s1 : ByteArray) (n2 : Int) (s2 : ByteArray) (w : World) (hs1 : s1.size ≤ maxLen) (hs2 : s2.size ≤ maxLen) (h : M.both (M.fault k1 n1 s1) (M.fault 2 n2 s2) = 0) :
    Calls Tryz.prog 133 #[.agg #[.int .i64 k1, .int .i64 n1, .string s1], .agg #[.int .i64 2, .int .i64 n2, .string s2]] w fun e w' => e = .returned (.tuple #[.bool false, .iface 66 (.int .i64 3)]) ∧ Below w.heap.size w w' := by
  have H := hide h
  clear h
  go_enter Tryz.func133, Tryz.ntmps133
  go_wp2_with fail
  refine (bothOk k1 n1 s1 2 n2 s2 _ hs1 hs2 H.out).mono ?_
  rintro e w1 ⟨rfl, hb⟩
  obtain ⟨hc, hf⟩ := bcell hb
  go_wp2_with fail
  go_ret2
  exact ⟨rfl, (((Below.refl _ _).alloc (Nat.le_refl _) _).alloc (by simp) _).trans (hb.mono (by simp; omega))⟩

theorem fitsAll (n1 : Int) (s1 : ByteArray) (k2 n2 : Int) (s2 : ByteArray) (w : World) (hs1 : s1.size ≤ maxLen) (hs2 : s2.size ≤ maxLen) (h : M.both (M.fault 2 n1 s1) (M.fault k2 n2 s2) = 0) (h2 : k2 ≠ 2) :
    Calls Tryz.prog 133 #[.agg #[.int .i64 2, .int .i64 n1, .string s1], .agg #[.int .i64 k2, .int .i64 n2, .string s2]] w fun e w' => e = .returned (.tuple #[.bool true, .nilIface]) ∧ Below w.heap.size w w' := by
  have H := hide h
  clear h
  have h2' : (k2 == 2) = false := by simpa using h2
  clear h2
  go_enter Tryz.func133, Tryz.ntmps133
  go_wp2_with fail
  refine (bothOk 2 n1 s1 k2 n2 s2 _ hs1 hs2 H.out).mono ?_
  rintro e w1 ⟨rfl, hb⟩
  obtain ⟨hc, hf⟩ := bcell hb
  go_wp2_with fail
  go_ret2
  exact ⟨rfl, (((Below.refl _ _).alloc (Nat.le_refl _) _).alloc (by simp) _).trans (hb.mono (by simp; omega))⟩

theorem fitsSame (k1 n1 : Int) (s1 : ByteArray) (k2 n2 : Int) (s2 : ByteArray) (w : World) (hs1 : s1.size ≤ maxLen) (hs2 : s2.size ≤ maxLen) (h : M.both (M.fault k1 n1 s1) (M.fault k2 n2 s2) = 0) (h1 : k1 ≠ 2) (h2 : k2 ≠ 2) :
    Calls Tryz.prog 133 #[.agg #[.int .i64 k1, .int .i64 n1, .string s1], .agg #[.int .i64 k2, .int .i64 n2, .string s2]] w fun e w' => e = .returned (.tuple #[.bool (M.same k1 n1 s1 k2 n2 s2), .nilIface]) ∧ Below w.heap.size w w' := by
  have H := hide h
  clear h
  have h1' : (k1 == 2) = false := by simpa using h1
  have h2' : (k2 == 2) = false := by simpa using h2
  clear h1 h2
  go_enter Tryz.func133, Tryz.ntmps133
  go_wp2_with fail
  refine (bothOk k1 n1 s1 k2 n2 s2 _ hs1 hs2 H.out).mono ?_
  rintro e w1 ⟨rfl, hb⟩
  obtain ⟨hc, hf⟩ := bcell hb
  go_wp2_with fail
  all_goals
    go_ret2
    refine ⟨?_, (((Below.refl _ _).alloc (Nat.le_refl _) _).alloc (by simp) _).trans (hb.mono (by simp; omega))⟩
    simp [M.same, *]


end Go.Proofs.YtlefhfmckimlaajGreatDoor

namespace Go.Proofs.YtlefhfmckimlaajGreatDoor
open Go.RowKit Go.Deep

/-- the values l lie in w from cell off of block b on -/
def Lie (w : World) (b off : Nat) (l : List M.Val) : Prop :=
  ∀ i (h : i < l.length), w.cell? ⟨b, off + i * 3, none⟩ = some (.int .i64 l[i].k) ∧ w.cell? ⟨b, off + i * 3 + 1, none⟩ = some (.int .i64 l[i].n) ∧ w.cell? ⟨b, off + i * 3 + 2, none⟩ = some (.string l[i].s) ∧ l[i].s.size ≤ maxLen

/-- the slice v holds the values l: nil, or empty, or so many of them in a row -/
def IsVals (w : World) (v : Value) (l : List M.Val) : Prop :=
  (v = .slice none 0 0 ∧ l = []) ∨ (∃ a cap, v = .slice (some a) 0 cap ∧ l = []) ∨ ∃ b off cap, 0 < l.length ∧ v = .slice (some ⟨b, off, none⟩) l.length cap ∧ l.length ≤ cap ∧ cap ≤ maxLen ∧ Lie w b off l

theorem Lie.block {w : World} {b off : Nat} {l : List M.Val} (h : Lie w b off l) (hl : 0 < l.length) : b < w.heap.size := by
  rcases Nat.lt_or_ge b w.heap.size with g | g
  · exact g
  · have := (h 0 hl).1
    simp [World.cell?, Array.getElem?_eq_none g] at this

theorem Lie.stays {w w' : World} {b off B : Nat} {l : List M.Val} (h : Lie w b off l) (hl : 0 < l.length) (hb : Below B w w') (hB : w.heap.size ≤ B) : Lie w' b off l := fun i hi => by
  have hlt := Nat.lt_of_lt_of_le (h.block hl) hB
  obtain ⟨h1, h2, h3, h4⟩ := h i hi
  exact ⟨(hb.cell (p := ⟨b, off + i * 3, none⟩) hlt).trans h1, (hb.cell (p := ⟨b, off + i * 3 + 1, none⟩) hlt).trans h2, (hb.cell (p := ⟨b, off + i * 3 + 2, none⟩) hlt).trans h3, h4⟩

theorem IsVals.stays {w w' : World} {v : Value} {B : Nat} {l : List M.Val} (h : IsVals w v l) (hb : Below B w w') (hB : w.heap.size ≤ B) : IsVals w' v l := by
  rcases h with h | h | ⟨b, off, cap, h1, h2, h3, h4, h5⟩
  · exact Or.inl h
  · exact Or.inr (Or.inl h)
  · exact Or.inr (Or.inr ⟨b, off, cap, h1, h2, h3, h4, h5.stays h1 hb hB⟩)

theorem open_vals {H : Type} {enc : TypeId × Value → H} {P : Program} {w : World} {t e : TypeId} {f0 f1 f2 : Field} {a : Option Addr} {len cap : Nat} {d : DataW H} {p : List MemPlace}
    (ht : P.underlying t = some (.slice e)) (he : P.underlying e = some (.struct #[f0, f1, f2])) (ce : P.cellsOf e = 3) (o0 : f0.offset = 0) (o1 : f1.offset = 1) (o2 : f2.offset = 2)
    (u0 : P.underlying f0.type = some (.int .i64)) (u1 : P.underlying f1.type = some (.int .i64)) (u2 : P.underlying f2.type = some .string) (c0 : P.cellsOf f0.type = 1) (c1 : P.cellsOf f1.type = 1) (c2 : P.cellsOf f2.type = 1)
    (h : DataW.Trod enc P w 0 (fun _ => true) true t (.slice a len cap) d p) : ∃ l, IsVals w (.slice a len cap) l ∧ ((d = .nil ∧ l = []) ∨ ∃ D1 D2, d = .slice D1 D2 ∧ D1.length = l.length) := by
  obtain ⟨fuel, hf⟩ := h
  rcases open_slice ht hf with ⟨hcs, hd⟩ | ⟨x, len', cap', m, n, D, Pl, hcs, _, hl, hm, hmm, hd, hx⟩
  · simp [Value.cells] at hcs
    obtain ⟨rfl, rfl, rfl⟩ := hcs
    exact ⟨[], Or.inl ⟨rfl, rfl⟩, Or.inl ⟨(Prod.mk.inj hd).1, rfl⟩⟩
  · simp [Value.cells] at hcs
    obtain ⟨rfl, rfl, rfl⟩ := hcs
    rcases Nat.eq_zero_or_pos len with h0 | h0
    · subst h0; exact ⟨[], Or.inr (Or.inl ⟨x, cap, rfl, rfl⟩), Or.inr ⟨_, _, (Prod.mk.inj hd).1, by simp⟩⟩
    have hmc : m = cap := by rw [hmm]; simp
    have each : ∀ i, i < len → ∃ v : M.Val, w.cell? (x.add (i * 3)) = some (.int .i64 v.k) ∧ w.cell? (x.add (i * 3 + 1)) = some (.int .i64 v.n) ∧ w.cell? (x.add (i * 3 + 2)) = some (.string v.s) ∧ v.s.size ≤ maxLen := by
      intro i hi
      obtain ⟨cs', h1, h2⟩ := hx i (by omega)
      rw [ce] at h1
      obtain ⟨_, hlen, hcell⟩ := World.cells?_some h1
      obtain ⟨y0, y1, y2, k, _, _, t0, t1, t2⟩ := trod_struct3 he h2
      match cs', hlen with
      | [v0, v1, v2], _ =>
        rw [o0, c0] at t0
        rw [o1, c1] at t1
        rw [o2, c2] at t2
        obtain ⟨z0, q0, _, _⟩ := DataW.trod_int u0 t0
        obtain ⟨z1, q1, _, _⟩ := DataW.trod_int u1 t1
        obtain ⟨z2, q2, _, q3⟩ := DataW.trod_string u2 t2
        simp at q0 q1 q2
        have g0 := hcell 0 (by omega)
        have g1 := hcell 1 (by omega)
        have g2 := hcell 2 (by omega)
        refine ⟨⟨z0, z1, z2⟩, ?_, ?_, ?_, q3⟩
        · simpa [add_add, q0] using g0
        · simpa [add_add, q1] using g1
        · simpa [add_add, q2] using g2
    haveI : Inhabited M.Val := ⟨⟨0, 0, ⟨#[]⟩⟩⟩
    obtain ⟨f, hfe⟩ := choose_lt each
    obtain ⟨b, off, spot⟩ := x
    have hspot : spot = none := by simpa [Addr.add] using World.cell?_spot (hfe 0 h0).1
    subst hspot
    have hll : ((List.range len).map f).length = len := by simp
    refine ⟨(List.range len).map f, Or.inr (Or.inr ⟨b, off, cap, by rw [hll]; exact h0, by rw [hll], by rw [hll]; exact hl, hm, ?_⟩), Or.inr ⟨_, _, (Prod.mk.inj hd).1, by simp⟩⟩
    intro i hi
    have hi' : i < len := by rw [hll] at hi; exact hi
    have e : ((List.range len).map f)[i] = f i := by simp
    rw [e]
    have g := hfe i hi'
    rw [WideShapes.add_plain, WideShapes.add_plain, WideShapes.add_plain] at g
    exact g

/-- the cells of some values, in a row -/
def flat : List M.Val → List Value
  | [] => []
  | v :: l => .int .i64 v.k :: .int .i64 v.n :: .string v.s :: flat l
theorem flat_len : ∀ l : List M.Val, (flat l).length = l.length * 3
  | [] => rfl
  | v :: l => by simp only [flat, List.length_cons, flat_len l]; omega
theorem flat_append : ∀ a b : List M.Val, flat (a ++ b) = flat a ++ flat b
  | [], b => rfl
  | v :: a, b => by simp only [List.cons_append, flat, flat_append a b]
theorem flat_oneCell : ∀ (l : List M.Val), ∀ u ∈ flat l, u.oneCell' = true
  | [], u, h => by simp [flat] at h
  | v :: l, u, h => by
    simp only [flat, List.mem_cons] at h
    rcases h with rfl | rfl | rfl | h
    · rfl
    · rfl
    · rfl
    · exact flat_oneCell l u h
theorem flat_at : ∀ (l : List M.Val) (i : Nat) (h : i < l.length), (flat l)[i * 3]? = some (.int .i64 l[i].k) ∧ (flat l)[i * 3 + 1]? = some (.int .i64 l[i].n) ∧ (flat l)[i * 3 + 2]? = some (.string l[i].s)
  | [], i, h => by simp at h
  | v :: l, 0, _ => by simp [flat]
  | v :: l, i + 1, h => by
    have ih := flat_at l i (by simpa using h)
    have e : (i + 1) * 3 = i * 3 + 3 := by omega
    rw [e]
    simpa [flat] using ih
theorem Lie.tail {w : World} {b off : Nat} {v : M.Val} {l : List M.Val} (h : Lie w b off (v :: l)) : Lie w b (off + 3) l := fun i hi => by
  have := h (i + 1) (by simpa using hi)
  have e : off + (i + 1) * 3 = off + 3 + i * 3 := by omega
  rw [e] at this
  simpa using this
theorem lie_news : ∀ {l : List M.Val} {w : World} {b off : Nat}, Lie w b off l → ∀ j u, (flat l)[j]? = some u → w.cell? ((⟨b, off, none⟩ : Addr).add j) = some u
  | [], _, _, _, _, j, u, hu => by simp [flat] at hu
  | v :: l, w, b, off, h, j, u, hu => by
    have h0 := h 0 (by simp)
    rw [WideShapes.add_plain]
    match j, hu with
    | 0, hu => simp [flat] at hu; subst hu; simpa using h0.1
    | 1, hu => simp [flat] at hu; subst hu; simpa using h0.2.1
    | 2, hu => simp [flat] at hu; subst hu; simpa using h0.2.2.1
    | j + 3, hu =>
      have := lie_news h.tail j u (by simpa [flat] using hu)
      rw [WideShapes.add_plain] at this
      have e : off + (j + 3) = off + 3 + j := by omega
      rw [e]; exact this
theorem lie_of_cells {w : World} {b : Nat} {l : List M.Val} (hs : ∀ v ∈ l, v.s.size ≤ maxLen) (h : ∀ j u, (flat l)[j]? = some u → w.cell? ((⟨b, 0, none⟩ : Addr).add j) = some u) : Lie w b 0 l := fun i hi => by
  obtain ⟨h1, h2, h3⟩ := flat_at l i hi
  have g1 := h _ _ h1
  have g2 := h _ _ h2
  have g3 := h _ _ h3
  rw [WideShapes.add_plain] at g1 g2 g3
  exact ⟨g1, by simpa [Nat.add_assoc] using g2, by simpa [Nat.add_assoc] using g3, hs _ (List.getElem_mem hi)⟩
/-- what a call has put together itself -/
theorem isVals_own {w : World} {base : Nat} {e : TypeId} {v : Value} {l : List M.Val} (hs : ∀ v ∈ l, v.s.size ≤ maxLen) (h : w.ownsRow base e 3 v l.length (flat l)) : IsVals w v l := by
  rcases Nat.eq_zero_or_pos l.length with h0 | h0
  · have hl : l = [] := List.length_eq_zero_iff.1 h0
    rcases h.2 with ⟨rfl, _⟩ | ⟨g, cap, cur, hv, _⟩
    · exact Or.inl ⟨rfl, hl⟩
    · rw [h0] at hv; exact Or.inr (Or.inl ⟨_, _, hv, hl⟩)
  · have hc := h
    rcases h.2 with ⟨_, hn⟩ | ⟨g, cap, cur, hv, _, _, hn, hm, _⟩
    · omega
    · refine Or.inr (Or.inr ⟨g, 0, cap, h0, hv, hn, hm, lie_of_cells hs (hc.cells (g := g) (by rw [hv]; rfl))⟩)

end Go.Proofs.YtlefhfmckimlaajGreatDoor
