/-
  Plain functions on tuples: which fault one has, whether one fits. No program is walked here.
  Values that lie in memory behind a slice: what a walk is told of one that came in, and that it stays while only new memory is written. For any program.
  What Like and Check of package tuple do, each as one law of its call.
  What Fits of package tuple does, as one law of its call.
  Lists of tuples that lie in memory behind a slice of slices: what a walk is told of one that came in or that a call has put together. For any program.
-/
import Derived.Test.YtlefhfmckimlaakGreatDoorJVal
import Derived.Deep.Slices
import Derived.Deep.Strs
import Derived.Below
import Derived.WideShapes
import Derived.Deep.RegionHeld3
import Derived.Deep.DrawnRows
namespace Go.Proofs.YtlefhfmckimlaakGreatDoor.M

/-- a value: its kind, its number, its text -/
structure Val where
  k : Int
  n : Int
  s : ByteArray

def Val.fault (v : Val) : Int := M.fault v.k v.n v.s
def Val.same (a b : Val) : Bool := M.same a.k a.n a.s b.k b.n b.s

/-- the first fault of some values -/
def firstF : List Val → Int
  | [] => 0
  | v :: r => if v.fault ≠ 0 then v.fault else firstF r
/-- the fault of what is asked for, and of a tuple -/
def likeF (l : List Val) : Int := if l.length = 0 then 5 else if 5 < l.length then 4 else firstF l
def hasAny (l : List Val) : Bool := l.any fun v => v.k == 2
def tupF (l : List Val) : Int := if likeF l ≠ 0 then likeF l else if hasAny l then 3 else 0

/-- does a value fit, field by field -/
def fit1 (a b : Val) : Bool := a.k == 2 || a.same b
def fitAll : List Val → List Val → Bool
  | [], [] => true
  | a :: l, b :: t => fit1 a b && fitAll l t
  | _, _ => false

theorem firstF_zero : ∀ {l : List Val}, firstF l = 0 → ∀ v ∈ l, v.fault = 0
  | [], _, v, hv => by simp at hv
  | a :: l, h, v, hv => by
    unfold firstF at h
    by_cases ha : a.fault ≠ 0
    · rw [if_pos ha] at h; exact absurd h ha
    · rw [if_neg ha] at h
      rcases List.mem_cons.1 hv with rfl | hx
      · simpa using ha
      · exact firstF_zero h v hx

end Go.Proofs.YtlefhfmckimlaakGreatDoor.M

namespace Go.Proofs.YtlefhfmckimlaakGreatDoor
open Go.RowKit Go.Deep

/-- the values l lie in w from cell off of block b on -/
def Lie (w : World) (b off : Nat) (l : List M.Val) : Prop :=
  ∀ i (h : i < l.length), w.cell? ⟨b, off + i * 3, none⟩ = some (.int .i64 l[i].k) ∧ w.cell? ⟨b, off + i * 3 + 1, none⟩ = some (.int .i64 l[i].n) ∧ w.cell? ⟨b, off + i * 3 + 2, none⟩ = some (.string l[i].s) ∧ l[i].s.size ≤ maxLen

/-- the slice v holds the values l: nil, or empty, or so many of them in a row -/
def IsVals (w : World) (v : Value) (l : List M.Val) : Prop :=
  (v = .slice none 0 0 ∧ l = []) ∨ (∃ a cap, v = .slice (some a) 0 cap ∧ l = []) ∨ ∃ b off cap, 0 < l.length ∧ v = .slice (some ⟨b, off, none⟩) l.length cap ∧ l.length ≤ cap ∧ cap ≤ maxLen ∧ Lie w b off l

theorem Lie.block {w : World} {b off : Nat} {l : List M.Val} (h : Lie w b off l) (hl : 0 < l.length) : b < w.heap.size := by
  rcases Nat.lt_or_ge b w.heap.size with g | g
  · exact g
  · have := (h 0 hl).1
    simp [World.cell?, Array.getElem?_eq_none g] at this

theorem Lie.stays {w w' : World} {b off B : Nat} {l : List M.Val} (h : Lie w b off l) (hl : 0 < l.length) (hb : Below B w w') (hB : w.heap.size ≤ B) : Lie w' b off l := fun i hi => by
  have hlt := Nat.lt_of_lt_of_le (h.block hl) hB
  obtain ⟨h1, h2, h3, h4⟩ := h i hi
  exact ⟨(hb.cell (p := ⟨b, off + i * 3, none⟩) hlt).trans h1, (hb.cell (p := ⟨b, off + i * 3 + 1, none⟩) hlt).trans h2, (hb.cell (p := ⟨b, off + i * 3 + 2, none⟩) hlt).trans h3, h4⟩

theorem IsVals.stays {w w' : World} {v : Value} {B : Nat} {l : List M.Val} (h : IsVals w v l) (hb : Below B w w') (hB : w.heap.size ≤ B) : IsVals w' v l := by
  rcases h with h | h | ⟨b, off, cap, h1, h2, h3, h4, h5⟩
  · exact Or.inl h
  · exact Or.inr (Or.inl h)
  · exact Or.inr (Or.inr ⟨b, off, cap, h1, h2, h3, h4, h5.stays h1 hb hB⟩)

theorem open_vals {H : Type} {enc : TypeId × Value → H} {P : Program} {w : World} {t e : TypeId} {f0 f1 f2 : Field} {a : Option Addr} {len cap : Nat} {d : DataW H} {p : List MemPlace}
    (ht : P.underlying t = some (.slice e)) (he : P.underlying e = some (.struct #[f0, f1, f2])) (ce : P.cellsOf e = 3) (o0 : f0.offset = 0) (o1 : f1.offset = 1) (o2 : f2.offset = 2)
    (u0 : P.underlying f0.type = some (.int .i64)) (u1 : P.underlying f1.type = some (.int .i64)) (u2 : P.underlying f2.type = some .string) (c0 : P.cellsOf f0.type = 1) (c1 : P.cellsOf f1.type = 1) (c2 : P.cellsOf f2.type = 1)
    (h : DataW.Trod enc P w 0 (fun _ => true) true t (.slice a len cap) d p) : ∃ l, IsVals w (.slice a len cap) l ∧ ((d = .nil ∧ l = []) ∨ ∃ D1 D2, d = .slice D1 D2 ∧ D1.length = l.length) := by
  obtain ⟨fuel, hf⟩ := h
  rcases open_slice ht hf with ⟨hcs, hd⟩ | ⟨x, len', cap', m, n, D, Pl, hcs, _, hl, hm, hmm, hd, hx⟩
  · simp [Value.cells] at hcs
    obtain ⟨rfl, rfl, rfl⟩ := hcs
    exact ⟨[], Or.inl ⟨rfl, rfl⟩, Or.inl ⟨(Prod.mk.inj hd).1, rfl⟩⟩
  · simp [Value.cells] at hcs
    obtain ⟨rfl, rfl, rfl⟩ := hcs
    rcases Nat.eq_zero_or_pos len with h0 | h0
    · subst h0; exact ⟨[], Or.inr (Or.inl ⟨x, cap, rfl, rfl⟩), Or.inr ⟨_, _, (Prod.mk.inj hd).1, by simp⟩⟩
    have hmc : m = cap := by rw [hmm]; simp
    have each : ∀ i, i < len → ∃ v : M.Val, w.cell? (x.add (i * 3)) = some (.int .i64 v.k) ∧ w.cell? (x.add (i * 3 + 1)) = some (.int .i64 v.n) ∧ w.cell? (x.add (i * 3 + 2)) = some (.string v.s) ∧ v.s.size ≤ maxLen := by
      intro i hi
      obtain ⟨cs', h1, h2⟩ := hx i (by omega)
      rw [ce] at h1
      obtain ⟨_, hlen, hcell⟩ := World.cells?_some h1
      obtain ⟨y0, y1, y2, k, _, _, t0, t1, t2⟩ := trod_struct3 he h2
      match cs', hlen with
      | [v0, v1, v2], _ =>
        rw [o0, c0] at t0
        rw [o1, c1] at t1
        rw [o2, c2] at t2
        obtain ⟨z0, q0, _, _⟩ := DataW.trod_int u0 t0
        obtain ⟨z1, q1, _, _⟩ := DataW.trod_int u1 t1
        obtain ⟨z2, q2, _, q3⟩ := DataW.trod_string u2 t2
        simp at q0 q1 q2
        have g0 := hcell 0 (by omega)
        have g1 := hcell 1 (by omega)
        have g2 := hcell 2 (by omega)
        refine ⟨⟨z0, z1, z2⟩, ?_, ?_, ?_, q3⟩
        · simpa [add_add, q0] using g0
        · simpa [add_add, q1] using g1
        · simpa [add_add, q2] using g2
    haveI : Inhabited M.Val := ⟨⟨0, 0, ⟨#[]⟩⟩⟩
    obtain ⟨f, hfe⟩ := choose_lt each
    obtain ⟨b, off, spot⟩ := x
    have hspot : spot = none := by simpa [Addr.add] using World.cell?_spot (hfe 0 h0).1
    subst hspot
    have hll : ((List.range len).map f).length = len := by simp
    refine ⟨(List.range len).map f, Or.inr (Or.inr ⟨b, off, cap, by rw [hll]; exact h0, by rw [hll], by rw [hll]; exact hl, hm, ?_⟩), Or.inr ⟨_, _, (Prod.mk.inj hd).1, by simp⟩⟩
    intro i hi
    have hi' : i < len := by rw [hll] at hi; exact hi
    have e : ((List.range len).map f)[i] = f i := by simp
    rw [e]
    have g := hfe i hi'
    rw [WideShapes.add_plain, WideShapes.add_plain, WideShapes.add_plain] at g
    exact g

/-- the cells of some values, in a row -/
def flat : List M.Val → List Value
  | [] => []
  | v :: l => .int .i64 v.k :: .int .i64 v.n :: .string v.s :: flat l
theorem flat_len : ∀ l : List M.Val, (flat l).length = l.length * 3
  | [] => rfl
  | v :: l => by simp only [flat, List.length_cons, flat_len l]; omega
theorem flat_append : ∀ a b : List M.Val, flat (a ++ b) = flat a ++ flat b
  | [], b => rfl
  | v :: a, b => by simp only [List.cons_append, flat, flat_append a b]
theorem flat_oneCell : ∀ (l : List M.Val), ∀ u ∈ flat l, u.oneCell' = true
  | [], u, h => by simp [flat] at h
  | v :: l, u, h => by
    simp only [flat, List.mem_cons] at h
    rcases h with rfl | rfl | rfl | h
    · rfl
    · rfl
    · rfl
    · exact flat_oneCell l u h
theorem flat_at : ∀ (l : List M.Val) (i : Nat) (h : i < l.length), (flat l)[i * 3]? = some (.int .i64 l[i].k) ∧ (flat l)[i * 3 + 1]? = some (.int .i64 l[i].n) ∧ (flat l)[i * 3 + 2]? = some (.string l[i].s)
  | [], i, h => by simp at h
  | v :: l, 0, _ => by simp [flat]
  | v :: l, i + 1, h => by
    have ih := flat_at l i (by simpa using h)
    have e : (i + 1) * 3 = i * 3 + 3 := by omega
    rw [e]
    simpa [flat] using ih
theorem Lie.tail {w : World} {b off : Nat} {v : M.Val} {l : List M.Val} (h : Lie w b off (v :: l)) : Lie w b (off + 3) l := fun i hi => by
  have := h (i + 1) (by simpa using hi)
  have e : off + (i + 1) * 3 = off + 3 + i * 3 := by omega
  rw [e] at this
  simpa using this
theorem lie_news : ∀ {l : List M.Val} {w : World} {b off : Nat}, Lie w b off l → ∀ j u, (flat l)[j]? = some u → w.cell? ((⟨b, off, none⟩ : Addr).add j) = some u
  | [], _, _, _, _, j, u, hu => by simp [flat] at hu
  | v :: l, w, b, off, h, j, u, hu => by
    have h0 := h 0 (by simp)
    rw [WideShapes.add_plain]
    match j, hu with
    | 0, hu => simp [flat] at hu; subst hu; simpa using h0.1
    | 1, hu => simp [flat] at hu; subst hu; simpa using h0.2.1
    | 2, hu => simp [flat] at hu; subst hu; simpa using h0.2.2.1
    | j + 3, hu =>
      have := lie_news h.tail j u (by simpa [flat] using hu)
      rw [WideShapes.add_plain] at this
      have e : off + (j + 3) = off + 3 + j := by omega
      rw [e]; exact this
theorem lie_of_cells {w : World} {b : Nat} {l : List M.Val} (hs : ∀ v ∈ l, v.s.size ≤ maxLen) (h : ∀ j u, (flat l)[j]? = some u → w.cell? ((⟨b, 0, none⟩ : Addr).add j) = some u) : Lie w b 0 l := fun i hi => by
  obtain ⟨h1, h2, h3⟩ := flat_at l i hi
  have g1 := h _ _ h1
  have g2 := h _ _ h2
  have g3 := h _ _ h3
  rw [WideShapes.add_plain] at g1 g2 g3
  exact ⟨g1, by simpa [Nat.add_assoc] using g2, by simpa [Nat.add_assoc] using g3, hs _ (List.getElem_mem hi)⟩
/-- what a call has put together itself -/
theorem isVals_own {w : World} {base : Nat} {e : TypeId} {v : Value} {l : List M.Val} (hs : ∀ v ∈ l, v.s.size ≤ maxLen) (h : w.ownsRow base e 3 v l.length (flat l)) : IsVals w v l := by
  rcases Nat.eq_zero_or_pos l.length with h0 | h0
  · have hl : l = [] := List.length_eq_zero_iff.1 h0
    rcases h.2 with ⟨rfl, _⟩ | ⟨g, cap, cur, hv, _⟩
    · exact Or.inl ⟨rfl, hl⟩
    · rw [h0] at hv; exact Or.inr (Or.inl ⟨_, _, hv, hl⟩)
  · have hc := h
    rcases h.2 with ⟨_, hn⟩ | ⟨g, cap, cur, hv, _, _, hn, hm, _⟩
    · omega
    · refine Or.inr (Or.inr ⟨g, 0, cap, h0, hv, hn, hm, lie_of_cells hs (hc.cells (g := g) (by rw [hv]; rfl))⟩)

end Go.Proofs.YtlefhfmckimlaakGreatDoor

namespace Go.Proofs.YtlefhfmckimlaakGreatDoor
open Go.RowKit

theorem firstF_take {l : List M.Val} {k : Nat} (h : k < l.length) (h0 : M.firstF (l.take k) = 0) : M.firstF (l.take (k + 1)) = l[k].fault := by
  induction l generalizing k with
  | nil => simp at h
  | cons a l ih =>
    cases k with
    | zero => simp only [List.take_succ_cons, List.take_zero, M.firstF, List.getElem_cons_zero]; split <;> simp_all
    | succ k =>
      simp only [List.take_succ_cons, M.firstF, List.getElem_cons_succ] at h0 ⊢
      by_cases ha : a.fault ≠ 0
      · rw [if_pos ha] at h0; exact absurd h0 ha
      · rw [if_neg ha] at h0 ⊢; exact ih (by simpa using h) h0
theorem firstF_bad {l : List M.Val} {k : Nat} (h : k < l.length) (h0 : M.firstF (l.take k) = 0) (hk : l[k].fault ≠ 0) : M.firstF l = l[k].fault := by
  induction l generalizing k with
  | nil => simp at h
  | cons a l ih =>
    cases k with
    | zero => simp only [List.getElem_cons_zero] at hk ⊢; simp only [M.firstF]; rw [if_pos hk]
    | succ k =>
      simp only [List.take_succ_cons, M.firstF, List.getElem_cons_succ] at h0 hk ⊢
      by_cases ha : a.fault ≠ 0
      · rw [if_pos ha] at h0; exact absurd h0 ha
      · rw [if_neg ha] at h0 ⊢; exact ih (by simpa using h) h0 hk

theorem like_none (v : Value) (l : List M.Val) (w : World) (hl : l = []) (hv : v = .slice none 0 0 ∨ ∃ a cap, v = .slice (some a) 0 cap) :
    Calls Tryz.prog 99 #[v] w fun e w' => e = .returned (errV (M.likeF l)) ∧ Below w.heap.size w w' := by
  subst hl
  have he : M.likeF [] = 5 := rfl
  rw [he]; clear he
  rcases hv with rfl | ⟨a, cap, rfl⟩
  · go_enter Tryz.func99, Tryz.ntmps99
    go_wp2
    go_ret
    exact ⟨rfl, Below.refl _ _⟩
  · go_enter Tryz.func99, Tryz.ntmps99
    go_wp2
    go_ret
    exact ⟨rfl, Below.refl _ _⟩

theorem like_many (a : Addr) (n cap : Nat) (w : World) (h : 5 < n) (hn : n ≤ maxLen) :
    Calls Tryz.prog 99 #[.slice (some a) n cap] w fun e w' => e = .returned (errV 4) ∧ Below w.heap.size w w' := by
  unfold maxLen at hn
  have h0 : ¬ (n : Int) = 0 := by omega
  have h5 : (5 : Int) < n := by omega
  go_enter Tryz.func99, Tryz.ntmps99
  go_wp2
  go_ret
  exact ⟨rfl, Below.refl _ _⟩

theorem like_some (b off cap : Nat) (l : List M.Val) (w : World) (h0 : 0 < l.length) (h5 : l.length ≤ 5) (hl : Lie w b off l) :
    Calls Tryz.prog 99 #[.slice (some ⟨b, off, none⟩) l.length cap] w fun e w' => e = .returned (errV (M.firstF l)) ∧ Below w.heap.size w w' := by
  have HL := hide hl
  clear hl
  obtain ⟨n, hn⟩ : ∃ n, n = l.length := ⟨_, rfl⟩
  rw [← hn] at h0 h5 ⊢
  have HN := hide hn
  clear hn
  have hz : ¬ (n : Int) = 0 := by omega
  have h5' : ¬ (5 : Int) < n := by omega
  go_enter Tryz.func99, Tryz.ntmps99
  go_wp2
  go_loopw [16] (fun i wr => ∃ k : Nat, k ≤ n ∧ i = .int .i64 k ∧ Hid (M.firstF (l.take k) = 0) ∧ Below w.heap.size w wr) (fun i _ => n - (intOf i).toNat)
  case atStart => exact ⟨0, Nat.zero_le _, rfl, hide rfl, Below.refl _ _⟩
  case round =>
    obtain ⟨k, hk, rfl, hno, hbel⟩ := hrel
    by_cases hlt : k < n
    · have hkl : k < l.length := HN.out ▸ hlt
      obtain ⟨c1, c2, c3, c4⟩ := ((unhide HL).stays (by omega) hbel (Nat.le_refl _)) k hkl
      by_cases hb : M.fault l[k].k l[k].n l[k].s = 0
      · have HB := hide hb
        clear hb
        go_wp2_with fail
        refine (checkOk _ _ _ _ c4 HB.out).mono ?_
        rintro e w1 ⟨rfl, hb1⟩
        obtain ⟨hc, hf⟩ := bcell hb1
        go_wp2_with fail
        go_roundw
        case rel => exact ⟨k + 1, by omega, by go_num, hide ((firstF_take hkl hno.out).trans HB.out), hbel.trans (((Below.refl _ _).alloc (Nat.le_refl _) _).trans (hb1.mono (by simp)) |>.mono hbel.size)⟩
        case measure => simp [intOf]; omega
      · have HB := hide hb
        clear hb
        have hfin : Hid (M.firstF l = M.fault l[k].k l[k].n l[k].s) := hide (firstF_bad hkl hno.out HB.out)
        go_wp2_with fail
        refine (checkBad _ _ _ _ c4 HB.out).mono ?_
        rintro e w1 ⟨rfl, hb1⟩
        obtain ⟨hc, hf⟩ := bcell hb1
        go_wp2_with fail
        go_ret
        exact ⟨by rw [hfin.out, errV_bad HB.out]; rfl, hbel.trans (((Below.refl _ _).alloc (Nat.le_refl _) _).trans (hb1.mono (by simp)) |>.mono hbel.size)⟩
    · have hfin : Hid (M.firstF l = 0) := hide (by have := hno.out; rwa [List.take_of_length_le (by have := HN.out; omega)] at this)
      go_wp2
      go_ret
      exact ⟨by rw [hfin.out]; rfl, hbel⟩

theorem like (v : Value) (l : List M.Val) (w : World) (h : IsVals w v l) : Calls Tryz.prog 99 #[v] w fun e w' => e = .returned (errV (M.likeF l)) ∧ Below w.heap.size w w' := by
  rcases h with ⟨h1, h2⟩ | ⟨a, cap, h1, h2⟩ | ⟨b, off, cap, h1, h2, h3, h4, h5⟩
  · exact like_none v l w h2 (Or.inl h1)
  · exact like_none v l w h2 (Or.inr ⟨a, cap, h1⟩)
  · subst h2
    unfold M.likeF
    rw [if_neg (by omega)]
    by_cases h : 5 < l.length
    · rw [if_pos h]; exact like_many _ _ _ w h (by omega)
    · rw [if_neg h]; exact like_some b off cap l w h1 (by omega) h5

theorem isAny (k n : Int) (s : ByteArray) (w : World) : Calls Tryz.prog 136 #[.agg #[.int .i64 k, .int .i64 n, .string s]] w fun e w' => e = .returned (.bool (k == 2)) ∧ Below w.heap.size w w' := by
  go_enter Tryz.func136, Tryz.ntmps136
  go_wp2
  go_ret
  exact ⟨rfl, (Below.refl _ _).alloc (Nat.le_refl _) _⟩

theorem index_some (b off cap : Nat) (l : List M.Val) (w : World) (h0 : 0 < l.length) (hm : l.length ≤ maxLen) (hl : Lie w b off l) :
    Calls Tryz.prog 163 #[.slice (some ⟨b, off, none⟩) l.length cap, .func (.func 136) #[] #[]] w fun e w' => (∃ r, e = .returned (.int .i64 r) ∧ decide (0 ≤ r) = M.hasAny l) ∧ Below w.heap.size w w' := by
  unfold maxLen at hm
  have HL := hide hl
  clear hl
  obtain ⟨n, hn⟩ : ∃ n, n = l.length := ⟨_, rfl⟩
  rw [← hn] at h0 hm ⊢
  have HN := hide hn
  clear hn
  go_enter Tryz.func163, Tryz.ntmps163
  go_wp2
  go_loopw [8] (fun i wr => ∃ k : Nat, k ≤ n ∧ i = .int .i64 k ∧ Hid (M.hasAny (l.take k) = false) ∧ Below w.heap.size w wr) (fun i _ => n - (intOf i).toNat)
  case atStart => exact ⟨0, Nat.zero_le _, rfl, hide rfl, Below.refl _ _⟩
  case round =>
    obtain ⟨k, hk, rfl, hno, hbel⟩ := hrel
    by_cases hlt : k < n
    · have hkl : k < l.length := HN.out ▸ hlt
      obtain ⟨c1, c2, c3, c4⟩ := ((unhide HL).stays (by omega) hbel (Nat.le_refl _)) k hkl
      have HS : Hid (M.hasAny (l.take (k + 1)) = (l[k].k == 2)) := hide (by
        have h := hno.out
        unfold M.hasAny at h ⊢
        rw [List.take_succ_eq_append_getElem hkl, List.any_append, h]; simp)
      cases hb : (l[k].k == 2)
      · have hl : ∀ w, Calls Tryz.prog 136 #[.agg #[.int .i64 l[k].k, .int .i64 l[k].n, .string l[k].s]] w fun e w' => e = .returned (.bool false) ∧ Below w.heap.size w w' := fun w => by rw [← hb]; exact isAny _ _ _ _
        have HB := hide hb
        have HC := hide hl
        clear hl hb
        go_wp2_with fail
        refine (unhide HC _).mono ?_
        rintro e w1 ⟨rfl, hb1⟩
        go_wp2_with fail
        go_roundw
        case rel => exact ⟨k + 1, by omega, by go_num, hide (HS.out.trans HB.out), hbel.trans (hb1.mono hbel.size)⟩
        case measure => simp [intOf]; omega
      · have hl : ∀ w, Calls Tryz.prog 136 #[.agg #[.int .i64 l[k].k, .int .i64 l[k].n, .string l[k].s]] w fun e w' => e = .returned (.bool true) ∧ Below w.heap.size w w' := fun w => by rw [← hb]; exact isAny _ _ _ _
        have HB := hide hb
        have HC := hide hl
        clear hl hb
        have hfin : Hid (M.hasAny l = true) := hide (by
          have h := HS.out.trans HB.out
          unfold M.hasAny at h ⊢
          rw [← List.take_append_drop (k + 1) l, List.any_append, h]; rfl)
        go_wp2_with fail
        refine (unhide HC _).mono ?_
        rintro e w1 ⟨rfl, hb1⟩
        go_wp2_with fail
        go_ret
        exact ⟨⟨_, rfl, by rw [hfin.out]; simp⟩, hbel.trans (hb1.mono hbel.size)⟩
    · have hfin : Hid (M.hasAny l = false) := hide (by have := hno.out; rwa [List.take_of_length_le (by have := HN.out; omega)] at this)
      go_wp2
      go_ret
      exact ⟨⟨_, rfl, by rw [hfin.out]; decide⟩, hbel⟩

theorem contains_some (b off cap : Nat) (l : List M.Val) (w : World) (h0 : 0 < l.length) (hm : l.length ≤ maxLen) (hl : Lie w b off l) :
    Calls Tryz.prog 135 #[.slice (some ⟨b, off, none⟩) l.length cap, .func (.func 136) #[] #[]] w fun e w' => e = .returned (.bool (M.hasAny l)) ∧ Below w.heap.size w w' := by
  go_enter Tryz.func135, Tryz.ntmps135
  go_wp2_with fail
  refine (index_some b off cap l w h0 hm hl).mono ?_
  rintro e w1 ⟨⟨r, rfl, hr⟩, hb1⟩
  have HR := hide hr
  clear hr
  go_wp2_with fail
  go_ret
  exact ⟨by rw [← HR.out]; rfl, hb1⟩

theorem check_bad (v : Value) (l : List M.Val) (w : World) (h : IsVals w v l) (hf : M.likeF l ≠ 0) : Calls Tryz.prog 92 #[v] w fun e w' => e = .returned (errV (M.likeF l)) ∧ Below w.heap.size w w' := by
  have hL : ∀ w, IsVals w v l → Calls Tryz.prog 99 #[v] w fun e w' => e = .returned (.iface 87 (.int .i64 (M.likeF l))) ∧ Below w.heap.size w w' := fun w h => by rw [← errV_bad hf]; exact like v l w h
  have HF := hide hf
  have HL := hide hL
  have H := hide h
  clear hf hL h
  go_enter Tryz.func92, Tryz.ntmps92
  go_wp2_with fail
  refine (unhide HL _ H.out).mono ?_
  rintro e w1 ⟨rfl, hb1⟩
  go_wp2_with fail
  go_ret
  exact ⟨by rw [errV_bad HF.out]; rfl, hb1⟩

theorem likeF_len {l : List M.Val} (h : M.likeF l = 0) : 0 < l.length ∧ l.length ≤ 5 := by
  unfold M.likeF at h
  by_cases h0 : l.length = 0
  · rw [if_pos h0] at h; exact absurd h (by decide)
  rw [if_neg h0] at h
  by_cases h5 : 5 < l.length
  · rw [if_pos h5] at h; exact absurd h (by decide)
  · omega

/-- what has a field lies in memory -/
theorem IsVals.some {w : World} {v : Value} {l : List M.Val} (h : IsVals w v l) (h0 : 0 < l.length) : ∃ b off cap, v = .slice (some ⟨b, off, none⟩) l.length cap ∧ l.length ≤ cap ∧ cap ≤ maxLen ∧ Lie w b off l := by
  rcases h with ⟨_, h2⟩ | ⟨_, _, _, h2⟩ | ⟨b, off, cap, h1, h2, h3, h4, h5⟩
  · subst h2; exact absurd h0 (by simp)
  · subst h2; exact absurd h0 (by simp)
  · exact ⟨b, off, cap, h2, h3, h4, h5⟩

theorem check_ok (b off cap : Nat) (l : List M.Val) (w : World) (hl : Lie w b off l) (hcap : l.length ≤ cap) (hcm : cap ≤ maxLen) (hf : M.likeF l = 0) : Calls Tryz.prog 92 #[.slice (some ⟨b, off, none⟩) l.length cap] w fun e w' => e = .returned (errV (if M.hasAny l then 3 else 0)) ∧ Below w.heap.size w w' := by
  obtain ⟨h0, h5⟩ := likeF_len hf
  have hv : IsVals w (.slice (.some ⟨b, off, none⟩) l.length cap) l := Or.inr (Or.inr ⟨b, off, cap, h0, rfl, hcap, hcm, hl⟩)
  have hL : Calls Tryz.prog 99 #[.slice (some ⟨b, off, none⟩) l.length cap] w fun e w' => e = .returned .nilIface ∧ Below w.heap.size w w' := by have := like _ l w hv; rwa [hf] at this
  have hC : ∀ w1, Below w.heap.size w w1 → Calls Tryz.prog 135 #[.slice (some ⟨b, off, none⟩) l.length cap, .func (.func 136) #[] #[]] w1 fun e w' => e = .returned (.bool (M.hasAny l)) ∧ Below w1.heap.size w1 w' := fun w1 hb => contains_some b off cap l w1 h0 (by omega) (hl.stays h0 hb (Nat.le_refl _))
  have HL := hide hL
  have HC := hide hC
  clear hL hC hv hl hf h0 h5 hcap hcm
  cases hA : M.hasAny l
  · rw [hA] at HC
    clear hA
    go_enter Tryz.func92, Tryz.ntmps92
    go_wp2_with fail
    refine (unhide HL).mono ?_
    rintro e w1 ⟨rfl, hb1⟩
    go_wp2_with fail
    refine (unhide HC _ hb1).mono ?_
    rintro e w2 ⟨rfl, hb2⟩
    go_wp2_with fail
    go_ret
    exact ⟨rfl, hb1.trans (hb2.mono hb1.size)⟩
  · rw [hA] at HC
    clear hA
    go_enter Tryz.func92, Tryz.ntmps92
    go_wp2_with fail
    refine (unhide HL).mono ?_
    rintro e w1 ⟨rfl, hb1⟩
    go_wp2_with fail
    refine (unhide HC _ hb1).mono ?_
    rintro e w2 ⟨rfl, hb2⟩
    go_wp2_with fail
    go_ret
    exact ⟨rfl, hb1.trans (hb2.mono hb1.size)⟩

theorem tcheck (v : Value) (l : List M.Val) (w : World) (h : IsVals w v l) : Calls Tryz.prog 92 #[v] w fun e w' => e = .returned (errV (M.tupF l)) ∧ Below w.heap.size w w' := by
  unfold M.tupF
  by_cases hf : M.likeF l ≠ 0
  · rw [if_pos hf]; exact check_bad v l w h hf
  · rw [if_neg hf]
    have hf' : M.likeF l = 0 := by simpa using hf
    obtain ⟨b, off, cap, rfl, h1, h2, h3⟩ := h.some (likeF_len hf').1
    exact check_ok b off cap l w h3 h1 h2 hf'

end Go.Proofs.YtlefhfmckimlaakGreatDoor

namespace Go.Proofs.YtlefhfmckimlaakGreatDoor
open Go.RowKit
attribute [local go_sem ↓] Go.wp_at_zero Go.wp_at_succ

/-- does a tuple fit: both right, and field by field -/
def M.fitsB (a b : List M.Val) : Bool := decide (M.both (M.likeF a) (M.tupF b) = 0) && M.fitAll a b

theorem tfitsOne (a b : M.Val) (w : World) (h1 : a.s.size ≤ maxLen) (h2 : b.s.size ≤ maxLen) (ha : a.fault = 0) (hb : b.fault = 0) (hk : b.k ≠ 2) :
    Calls Tryz.prog 191 #[.agg #[.int .i64 a.k, .int .i64 a.n, .string a.s], .agg #[.int .i64 b.k, .int .i64 b.n, .string b.s]] w fun e w' => e = .returned (.tuple #[.bool (M.fit1 a b), .nilIface]) ∧ Below w.heap.size w w' := by
  have hB : M.both (M.fault a.k a.n a.s) (M.fault b.k b.n b.s) = 0 := by
    have e1 : M.fault a.k a.n a.s = 0 := ha
    have e2 : M.fault b.k b.n b.s = 0 := hb
    rw [e1, e2]; rfl
  obtain ⟨k1, n1, s1⟩ := a
  by_cases e : k1 = 2
  · subst e
    have hf : M.fit1 ⟨2, n1, s1⟩ b = true := by simp [M.fit1]
    rw [hf]
    exact fitsAll n1 s1 b.k b.n b.s w h1 h2 hB hk
  · have hf : M.fit1 ⟨k1, n1, s1⟩ b = M.same k1 n1 s1 b.k b.n b.s := by simp [M.fit1, e, M.Val.same]
    rw [hf]
    exact fitsSame k1 n1 s1 b.k b.n b.s w h1 h2 hB e hk

theorem fitAll_len : ∀ {a b : List M.Val}, a.length ≠ b.length → M.fitAll a b = false
  | [], [], h => absurd rfl h
  | [], _ :: _, _ => rfl
  | _ :: _, [], _ => rfl
  | x :: a, y :: b, h => by unfold M.fitAll; rw [fitAll_len (by simpa using h)]; simp
theorem fitAll_take : ∀ {a b : List M.Val} {k : Nat} (h1 : k < a.length) (h2 : k < b.length), M.fitAll (a.take k) (b.take k) = true → M.fitAll (a.take (k + 1)) (b.take (k + 1)) = M.fit1 a[k] b[k]
  | [], _, _, h, _, _ => by simp at h
  | _ :: _, [], _, _, h, _ => by simp at h
  | x :: a, y :: b, 0, _, _, _ => by simp [M.fitAll]
  | x :: a, y :: b, k + 1, h1, h2, h => by
    simp only [List.take_succ_cons, M.fitAll, Bool.and_eq_true, List.getElem_cons_succ] at h ⊢
    rw [h.1, Bool.true_and]
    exact fitAll_take (by simpa using h1) (by simpa using h2) h.2
theorem fitAll_no : ∀ {a b : List M.Val} {k : Nat} (h1 : k < a.length) (h2 : k < b.length), M.fit1 a[k] b[k] = false → M.fitAll a b = false
  | [], _, _, h, _, _ => by simp at h
  | _ :: _, [], _, _, h, _ => by simp at h
  | x :: a, y :: b, 0, _, _, h => by simp only [List.getElem_cons_zero] at h; unfold M.fitAll; rw [h]; rfl
  | x :: a, y :: b, k + 1, h1, h2, h => by
    simp only [List.getElem_cons_succ] at h
    unfold M.fitAll
    rw [fitAll_no (by simpa using h1) (by simpa using h2) h]; simp
theorem tupF_ok {l : List M.Val} (h : M.tupF l = 0) : M.likeF l = 0 ∧ M.hasAny l = false := by
  unfold M.tupF at h
  by_cases hf : M.likeF l ≠ 0
  · rw [if_pos hf] at h; exact absurd h hf
  · rw [if_neg hf] at h
    refine ⟨by simpa using hf, ?_⟩
    cases hA : M.hasAny l
    · rfl
    · rw [hA] at h; exact absurd h (by decide)
theorem likeF_each {l : List M.Val} (h : M.likeF l = 0) : ∀ v ∈ l, v.fault = 0 := by
  obtain ⟨h0, h5⟩ := likeF_len h
  unfold M.likeF at h
  rw [if_neg (by omega), if_neg (by omega)] at h
  exact M.firstF_zero h
theorem noAny_each {l : List M.Val} (h : M.hasAny l = false) : ∀ v ∈ l, v.k ≠ 2 := fun v hv e => by
  have : M.hasAny l = true := by unfold M.hasAny; rw [List.any_eq_true]; exact ⟨v, hv, by simp [e]⟩
  rw [h] at this; exact absurd this (by decide)

theorem tfits_walk (b1 off1 cap1 b2 off2 cap2 : Nat) (l1 l2 : List M.Val) (w : World) (hl1 : Lie w b1 off1 l1) (hl2 : Lie w b2 off2 l2)
    (c1 : l1.length ≤ cap1) (c1' : cap1 ≤ maxLen) (c2 : l2.length ≤ cap2) (c2' : cap2 ≤ maxLen) (hf1 : M.likeF l1 = 0) (hf2 : M.tupF l2 = 0) (hlen : l1.length = l2.length) :
    Calls Tryz.prog 165 #[.slice (some ⟨b1, off1, none⟩) l1.length cap1, .slice (some ⟨b2, off2, none⟩) l2.length cap2] w fun e w' => e = .returned (.tuple #[.bool (M.fitAll l1 l2), .nilIface]) ∧ Below w.heap.size w w' := by
  obtain ⟨p1, p5⟩ := likeF_len hf1
  obtain ⟨g1, g2⟩ := tupF_ok hf2
  have hv1 : IsVals w (.slice (.some ⟨b1, off1, none⟩) l1.length cap1) l1 := Or.inr (Or.inr ⟨b1, off1, cap1, p1, rfl, c1, c1', hl1⟩)
  have hv2 : IsVals w (.slice (.some ⟨b2, off2, none⟩) l2.length cap2) l2 := Or.inr (Or.inr ⟨b2, off2, cap2, by omega, rfl, c2, c2', hl2⟩)
  have hL : Calls Tryz.prog 99 #[.slice (some ⟨b1, off1, none⟩) l1.length cap1] w fun e w' => e = .returned .nilIface ∧ Below w.heap.size w w' := by have := like _ l1 w hv1; rwa [hf1] at this
  have hC : ∀ w1, Below w.heap.size w w1 → Calls Tryz.prog 92 #[.slice (some ⟨b2, off2, none⟩) l2.length cap2] w1 fun e w' => e = .returned .nilIface ∧ Below w1.heap.size w1 w' := fun w1 hb => by have := tcheck _ l2 w1 (hv2.stays hb (Nat.le_refl _)); rwa [hf2] at this
  have hF : ∀ k (h1 : k < l1.length) (h2 : k < l2.length) w1, l1[k].s.size ≤ maxLen → l2[k].s.size ≤ maxLen → Calls Tryz.prog 191 #[.agg #[.int .i64 l1[k].k, .int .i64 l1[k].n, .string l1[k].s], .agg #[.int .i64 l2[k].k, .int .i64 l2[k].n, .string l2[k].s]] w1 fun e w' => e = .returned (.tuple #[.bool (M.fit1 l1[k] l2[k]), .nilIface]) ∧ Below w1.heap.size w1 w' := fun k h1 h2 w1 hs1 hs2 =>
    tfitsOne l1[k] l2[k] w1 hs1 hs2 (likeF_each hf1 _ (List.getElem_mem h1)) (likeF_each g1 _ (List.getElem_mem h2)) (noAny_each g2 _ (List.getElem_mem h2))
  have HL := hide hL
  have HC := hide hC
  have HF := hide hF
  have HL1 := hide hl1
  have HL2 := hide hl2
  clear hL hC hF hl1 hl2 hv1 hv2 g1 g2 hf1 hf2 c1 c1' c2 c2'
  obtain ⟨n, hn⟩ : ∃ n, n = l1.length := ⟨_, rfl⟩
  rw [← hn] at p1 p5 HL ⊢
  have hn2 : l2.length = n := by omega
  rw [hn2] at HC ⊢
  have HN := hide hn
  have HN2 := hide hn2
  clear hn hn2 hlen
  go_enter Tryz.func165, Tryz.ntmps165
  go_wp2_with fail
  refine (unhide HL).mono ?_
  rintro e w1 ⟨rfl, hb1⟩
  go_wp2_with fail
  refine (unhide HC _ hb1).mono ?_
  rintro e w2 ⟨rfl, hb2⟩
  have hb := hb1.trans (hb2.mono hb1.size)
  clear hb1 hb2
  go_wp2_with fail
  go_loopw [29] (fun i wr => ∃ k : Nat, k ≤ n ∧ i = .int .i64 k ∧ Hid (M.fitAll (l1.take k) (l2.take k) = true) ∧ Below w.heap.size w wr) (fun i _ => n - (intOf i).toNat)
  case atStart => exact ⟨0, Nat.zero_le _, rfl, hide rfl, hb⟩
  case round =>
    obtain ⟨k, hk, rfl, hno, hbel⟩ := hrel
    by_cases hlt : k < n
    · have hkl : k < l1.length := HN.out ▸ hlt
      have hkl2 : k < l2.length := HN2.out ▸ hlt
      have ik0 : (0 : Int) ≤ (k : Int) := by omega
      have ikn : (k : Int) < (n : Int) := by omega
      obtain ⟨c1, c2, c3, c4⟩ := ((unhide HL1).stays (by omega) hbel (Nat.le_refl _)) k hkl
      obtain ⟨d1, d2, d3, d4⟩ := ((unhide HL2).stays (by omega) hbel (Nat.le_refl _)) k hkl2
      have hbb : b1 < wr.heap.size := Nat.lt_of_lt_of_le ((unhide HL1).block (by omega)) hbel.size
      have hne : b1 ≠ wr.heap.size := by omega
      have hbz : b1 < wr.heap.size + 1 := by omega
      have HC4 := hide c4
      have HD4 := hide d4
      clear c4 d4
      have HS := hide (fitAll_take hkl hkl2 hno.out)
      cases hb : M.fit1 l1[k] l2[k]
      · have HB := hide hb
        have HT : Hid (∀ w1, Calls Tryz.prog 191 #[.agg #[.int .i64 l1[k].k, .int .i64 l1[k].n, .string l1[k].s], .agg #[.int .i64 l2[k].k, .int .i64 l2[k].n, .string l2[k].s]] w1 fun e w' => e = .returned (.tuple #[.bool false, .nilIface]) ∧ Below w1.heap.size w1 w') := hide fun w1 => by have := (unhide HF) k hkl hkl2 w1 HC4.out HD4.out; rwa [hb] at this
        clear hb
        go_wp2_with fail
        go_region_held3 (fun w' => w'.cell? ⟨b1, off1 + k * 3, none⟩ = some (.int .i64 l1[k].k) ∧ w'.cell? ⟨b1, off1 + k * 3 + 1, none⟩ = some (.int .i64 l1[k].n) ∧ w'.cell? ⟨b1, off1 + k * 3 + 2, none⟩ = some (.string l1[k].s) ∧ w'.cell? ⟨wr.heap.size, 0, none⟩ = some (.int .i64 l2[k].k) ∧ w'.cell? ⟨wr.heap.size, 1, none⟩ = some (.int .i64 l2[k].n) ∧ w'.cell? ⟨wr.heap.size, 2, none⟩ = some (.string l2[k].s)) (go_keep)
          (first | (go_at_call 191; refine (unhide HT _).mono ?_; rintro e w3 ⟨rfl, hb3⟩; obtain ⟨hc, hf⟩ := bcell hb3))
        go_wp2_with fail
        go_ret2
        exact ⟨by rw [fitAll_no hkl hkl2 HB.out]; rfl, hbel.trans ((((Below.refl _ _).alloc (Nat.le_refl _) _).drew.trans (hb3.mono (by simp))).mono hbel.size)⟩
      · have HB := hide hb
        have HT : Hid (∀ w1, Calls Tryz.prog 191 #[.agg #[.int .i64 l1[k].k, .int .i64 l1[k].n, .string l1[k].s], .agg #[.int .i64 l2[k].k, .int .i64 l2[k].n, .string l2[k].s]] w1 fun e w' => e = .returned (.tuple #[.bool true, .nilIface]) ∧ Below w1.heap.size w1 w') := hide fun w1 => by have := (unhide HF) k hkl hkl2 w1 HC4.out HD4.out; rwa [hb] at this
        clear hb
        go_wp2_with fail
        go_region_held3 (fun w' => w'.cell? ⟨b1, off1 + k * 3, none⟩ = some (.int .i64 l1[k].k) ∧ w'.cell? ⟨b1, off1 + k * 3 + 1, none⟩ = some (.int .i64 l1[k].n) ∧ w'.cell? ⟨b1, off1 + k * 3 + 2, none⟩ = some (.string l1[k].s) ∧ w'.cell? ⟨wr.heap.size, 0, none⟩ = some (.int .i64 l2[k].k) ∧ w'.cell? ⟨wr.heap.size, 1, none⟩ = some (.int .i64 l2[k].n) ∧ w'.cell? ⟨wr.heap.size, 2, none⟩ = some (.string l2[k].s)) (go_keep)
          (first | (go_at_call 191; refine (unhide HT _).mono ?_; rintro e w3 ⟨rfl, hb3⟩; obtain ⟨hc, hf⟩ := bcell hb3))
        go_wp2_with fail
        go_roundw
        case rel => exact ⟨k + 1, by omega, by go_num, hide (HS.out.trans HB.out), hbel.trans ((((Below.refl _ _).alloc (Nat.le_refl _) _).drew.trans (hb3.mono (by simp))).mono hbel.size)⟩
        case measure => simp [intOf]; omega
    · have hfin : Hid (M.fitAll l1 l2 = true) := hide (by have := hno.out; rwa [List.take_of_length_le (by have := HN.out; omega), List.take_of_length_le (by have := HN2.out; omega)] at this)
      go_wp2
      go_ret2
      exact ⟨by rw [hfin.out]; rfl, hbel⟩

theorem tfits_like (v1 v2 : Value) (l1 : List M.Val) (w : World) (h1 : IsVals w v1 l1) (hf : M.likeF l1 ≠ 0) :
    Calls Tryz.prog 165 #[v1, v2] w fun e w' => e = .returned (.tuple #[.bool false, errV (M.likeF l1)]) ∧ Below w.heap.size w w' := by
  have HL : Hid (Calls Tryz.prog 99 #[v1] w fun e w' => e = .returned (.iface 87 (.int .i64 (M.likeF l1))) ∧ Below w.heap.size w w') := hide (by rw [← errV_bad hf]; exact like v1 l1 w h1)
  have HF := hide hf
  clear hf h1
  go_enter Tryz.func165, Tryz.ntmps165
  go_wp2_with fail
  refine (unhide HL).mono ?_
  rintro e w1 ⟨rfl, hb1⟩
  go_wp2_with fail
  go_ret2
  exact ⟨by rw [errV_bad HF.out]; rfl, hb1⟩

theorem tfits_check (v1 v2 : Value) (l1 l2 : List M.Val) (w : World) (h1 : IsVals w v1 l1) (h2 : IsVals w v2 l2) (hf1 : M.likeF l1 = 0) (hf : M.tupF l2 ≠ 0) :
    Calls Tryz.prog 165 #[v1, v2] w fun e w' => e = .returned (.tuple #[.bool false, errV (M.tupF l2)]) ∧ Below w.heap.size w w' := by
  have HL : Hid (Calls Tryz.prog 99 #[v1] w fun e w' => e = .returned .nilIface ∧ Below w.heap.size w w') := hide (by have := like v1 l1 w h1; rwa [hf1] at this)
  have HC : Hid (∀ w1, Below w.heap.size w w1 → Calls Tryz.prog 92 #[v2] w1 fun e w' => e = .returned (.iface 87 (.int .i64 (M.tupF l2))) ∧ Below w1.heap.size w1 w') := hide fun w1 hb => by rw [← errV_bad hf]; exact tcheck v2 l2 w1 (h2.stays hb (Nat.le_refl _))
  have HF := hide hf
  clear hf hf1 h1 h2
  go_enter Tryz.func165, Tryz.ntmps165
  go_wp2_with fail
  refine (unhide HL).mono ?_
  rintro e w1 ⟨rfl, hb1⟩
  go_wp2_with fail
  refine (unhide HC _ hb1).mono ?_
  rintro e w2 ⟨rfl, hb2⟩
  go_wp2_with fail
  go_ret2
  exact ⟨by rw [errV_bad HF.out]; rfl, hb1.trans (hb2.mono hb1.size)⟩

theorem tfits_other (a1 a2 : Addr) (l1 l2 : List M.Val) (cap1 cap2 : Nat) (w : World) (h1 : IsVals w (.slice (some a1) l1.length cap1) l1) (h2 : IsVals w (.slice (some a2) l2.length cap2) l2) (hf1 : M.likeF l1 = 0) (hf2 : M.tupF l2 = 0) (hne : l1.length ≠ l2.length) :
    Calls Tryz.prog 165 #[.slice (some a1) l1.length cap1, .slice (some a2) l2.length cap2] w fun e w' => e = .returned (.tuple #[.bool false, .nilIface]) ∧ Below w.heap.size w w' := by
  have HL : Hid (Calls Tryz.prog 99 #[.slice (some a1) l1.length cap1] w fun e w' => e = .returned .nilIface ∧ Below w.heap.size w w') := hide (by have := like _ l1 w h1; rwa [hf1] at this)
  have HC : Hid (∀ w1, Below w.heap.size w w1 → Calls Tryz.prog 92 #[.slice (some a2) l2.length cap2] w1 fun e w' => e = .returned .nilIface ∧ Below w1.heap.size w1 w') := hide fun w1 hb => by have := tcheck _ l2 w1 (h2.stays hb (Nat.le_refl _)); rwa [hf2] at this
  have hb : ((l1.length : Int) != (l2.length : Int)) = true := by simpa using (by omega : ¬ (l1.length : Int) = (l2.length : Int))
  clear hf1 hf2 h1 h2 hne
  go_enter Tryz.func165, Tryz.ntmps165
  go_wp2_with fail
  refine (unhide HL).mono ?_
  rintro e w1 ⟨rfl, hb1⟩
  go_wp2_with fail
  refine (unhide HC _ hb1).mono ?_
  rintro e w2 ⟨rfl, hb2⟩
  go_wp2_with fail
  go_ret2
  exact ⟨rfl, hb1.trans (hb2.mono hb1.size)⟩

theorem tfits (v1 v2 : Value) (l1 l2 : List M.Val) (w : World) (h1 : IsVals w v1 l1) (h2 : IsVals w v2 l2) :
    Calls Tryz.prog 165 #[v1, v2] w fun e w' => e = .returned (.tuple #[.bool (M.fitsB l1 l2), errV (M.both (M.likeF l1) (M.tupF l2))]) ∧ Below w.heap.size w w' := by
  by_cases hf1 : M.likeF l1 = 0
  · by_cases hf2 : M.tupF l2 = 0
    · have e1 : M.both (M.likeF l1) (M.tupF l2) = 0 := by rw [hf1, hf2]; rfl
      have e2 : M.fitsB l1 l2 = M.fitAll l1 l2 := by unfold M.fitsB; rw [e1]; rfl
      rw [e1, e2]
      obtain ⟨b1, off1, cap1, rfl, c1, c1', hl1⟩ := h1.some (likeF_len hf1).1
      obtain ⟨b2, off2, cap2, rfl, c2, c2', hl2⟩ := h2.some (likeF_len (tupF_ok hf2).1).1
      by_cases hlen : l1.length = l2.length
      · exact tfits_walk b1 off1 cap1 b2 off2 cap2 l1 l2 w hl1 hl2 c1 c1' c2 c2' hf1 hf2 hlen
      · rw [fitAll_len hlen]
        exact tfits_other _ _ l1 l2 cap1 cap2 w h1 h2 hf1 hf2 hlen
    · have e1 : M.both (M.likeF l1) (M.tupF l2) = M.tupF l2 := by rw [hf1]; rfl
      have e2 : M.fitsB l1 l2 = false := by unfold M.fitsB; rw [e1]; simp [hf2]
      rw [e1, e2]
      exact tfits_check v1 v2 l1 l2 w h1 h2 hf1 hf2
  · have e1 : M.both (M.likeF l1) (M.tupF l2) = M.likeF l1 := by unfold M.both; rw [if_neg hf1]
    have e2 : M.fitsB l1 l2 = false := by unfold M.fitsB; rw [e1]; simp [hf1]
    rw [e1, e2]
    exact tfits_like v1 v2 l1 w h1 hf1

end Go.Proofs.YtlefhfmckimlaakGreatDoor

namespace Go.Proofs.YtlefhfmckimlaakGreatDoor
open Go.RowKit Go.Deep

/-- the tuples L lie in w, a slice each, from cell off of block b on -/
def LieT (w : World) (b off : Nat) (L : List (List M.Val)) : Prop :=
  ∀ i (h : i < L.length), ∃ v, w.cell? ⟨b, off + i, none⟩ = some v ∧ IsVals w v L[i]
/-- the slice v holds the tuples L -/
def IsTups (w : World) (v : Value) (L : List (List M.Val)) : Prop :=
  (v = .slice none 0 0 ∧ L = []) ∨ (∃ a cap, v = .slice (some a) 0 cap ∧ L = []) ∨ ∃ b off cap, 0 < L.length ∧ v = .slice (some ⟨b, off, none⟩) L.length cap ∧ L.length ≤ cap ∧ cap ≤ maxLen ∧ LieT w b off L

theorem LieT.block {w : World} {b off : Nat} {L : List (List M.Val)} (h : LieT w b off L) (hl : 0 < L.length) : b < w.heap.size := by
  rcases Nat.lt_or_ge b w.heap.size with g | g
  · exact g
  · obtain ⟨v, hv, _⟩ := h 0 hl
    simp [World.cell?, Array.getElem?_eq_none g] at hv
theorem LieT.stays {w w' : World} {b off B : Nat} {L : List (List M.Val)} (h : LieT w b off L) (hl : 0 < L.length) (hb : Below B w w') (hB : w.heap.size ≤ B) : LieT w' b off L := fun i hi => by
  have hlt := Nat.lt_of_lt_of_le (h.block hl) hB
  obtain ⟨v, h1, h2⟩ := h i hi
  exact ⟨v, (hb.cell (p := ⟨b, off + i, none⟩) hlt).trans h1, h2.stays hb hB⟩
theorem IsTups.stays {w w' : World} {v : Value} {B : Nat} {L : List (List M.Val)} (h : IsTups w v L) (hb : Below B w w') (hB : w.heap.size ≤ B) : IsTups w' v L := by
  rcases h with h | h | ⟨b, off, cap, h1, h2, h3, h4, h5⟩
  · exact Or.inl h
  · exact Or.inr (Or.inl h)
  · exact Or.inr (Or.inr ⟨b, off, cap, h1, h2, h3, h4, h5.stays h1 hb hB⟩)
theorem IsTups.some {w : World} {v : Value} {L : List (List M.Val)} (h : IsTups w v L) (h0 : 0 < L.length) : ∃ b off cap, v = .slice (some ⟨b, off, none⟩) L.length cap ∧ L.length ≤ cap ∧ cap ≤ maxLen ∧ LieT w b off L := by
  rcases h with ⟨_, h2⟩ | ⟨_, _, _, h2⟩ | ⟨b, off, cap, h1, h2, h3, h4, h5⟩
  · subst h2; exact absurd h0 (by simp)
  · subst h2; exact absurd h0 (by simp)
  · exact ⟨b, off, cap, h2, h3, h4, h5⟩
theorem IsTups.shape {w : World} {v : Value} {L : List (List M.Val)} (h : IsTups w v L) : ∃ ao cap, v = .slice ao L.length cap ∧ L.length ≤ maxLen := by
  rcases h with ⟨h1, h2⟩ | ⟨a, cap, h1, h2⟩ | ⟨b, off, cap, h1, h2, h3, h4, h5⟩
  · subst h2; exact ⟨none, 0, h1, by simp⟩
  · subst h2; exact ⟨_, cap, h1, by simp⟩
  · exact ⟨_, cap, h2, by omega⟩

/-- what a call has put together itself: the row's values hold the tuples -/
theorem isTups_own {w : World} {base : Nat} {e : TypeId} {v : Value} {xs : List Value} {L : List (List M.Val)} (h : w.ownsRow base e 1 v L.length xs) (hx : ∀ i (h1 : i < xs.length) (h2 : i < L.length), IsVals w xs[i] L[i]) : IsTups w v L := by
  have hlen : xs.length = L.length := by have := h.1; omega
  rcases Nat.eq_zero_or_pos L.length with h0 | h0
  · have hl : L = [] := List.length_eq_zero_iff.1 h0
    rcases h.2 with ⟨rfl, _⟩ | ⟨g, cap, cur, hv, _⟩
    · exact Or.inl ⟨rfl, hl⟩
    · rw [h0] at hv; exact Or.inr (Or.inl ⟨_, _, hv, hl⟩)
  · have hc := h
    rcases h.2 with ⟨_, hn⟩ | ⟨g, cap, cur, hv, _, _, hn, hm, _⟩
    · omega
    · refine Or.inr (Or.inr ⟨g, 0, cap, h0, hv, hn, hm, fun i hi => ?_⟩)
      have hix : i < xs.length := by omega
      have := hc.cells (g := g) (by rw [hv]; rfl) i xs[i] (List.getElem?_eq_getElem hix)
      rw [WideShapes.add_plain] at this
      exact ⟨xs[i], this, hx i hix hi⟩

/-- an argument of type [][]Value -/
theorem open_tups {H : Type} {enc : TypeId × Value → H} {P : Program} {w : World} {tt t e : TypeId} {f0 f1 f2 : Field} {a : Option Addr} {len cap : Nat} {d : DataW H} {p : List MemPlace}
    (htt : P.underlying tt = some (.slice t)) (ct : P.cellsOf t = 1) (ht : P.underlying t = some (.slice e)) (he : P.underlying e = some (.struct #[f0, f1, f2])) (ce : P.cellsOf e = 3) (o0 : f0.offset = 0) (o1 : f1.offset = 1) (o2 : f2.offset = 2)
    (u0 : P.underlying f0.type = some (.int .i64)) (u1 : P.underlying f1.type = some (.int .i64)) (u2 : P.underlying f2.type = some .string) (c0 : P.cellsOf f0.type = 1) (c1 : P.cellsOf f1.type = 1) (c2 : P.cellsOf f2.type = 1)
    (h : DataW.Trod enc P w 0 (fun _ => true) true tt (.slice a len cap) d p) : ∃ L, IsTups w (.slice a len cap) L ∧ ((d = .nil ∧ L = []) ∨ ∃ D1 D2, d = .slice D1 D2 ∧ D1.length = L.length) := by
  obtain ⟨fuel, hf⟩ := h
  rcases open_slice1 htt ct hf with ⟨hcs, hd⟩ | ⟨x, len', cap', m, n, V, D, Pl, hcs, _, hl, hm, hmm, hd, hx⟩
  · simp [Value.cells] at hcs
    obtain ⟨rfl, rfl, rfl⟩ := hcs
    exact ⟨[], Or.inl ⟨rfl, rfl⟩, Or.inl ⟨(Prod.mk.inj hd).1, rfl⟩⟩
  · simp [Value.cells] at hcs
    obtain ⟨rfl, rfl, rfl⟩ := hcs
    rcases Nat.eq_zero_or_pos len with h0 | h0
    · subst h0; exact ⟨[], Or.inr (Or.inl ⟨x, cap, rfl, rfl⟩), Or.inr ⟨_, _, (Prod.mk.inj hd).1, by simp⟩⟩
    have hmc : m = cap := by rw [hmm]; simp
    have each : ∀ i, i < len → ∃ l : List M.Val, w.cell? (x.add i) = some (V i) ∧ IsVals w (V i) l := by
      intro i hi
      obtain ⟨h1, h2⟩ := hx i (by omega)
      have hV : ∃ a' len' cap', V i = .slice a' len' cap' := by
        rcases open_slice ht h2 with ⟨hc, _⟩ | ⟨x', l', c', _, _, _, _, hc, _⟩
        · exact ⟨none, 0, 0, by simpa using hc⟩
        · exact ⟨some x', l', c', by simpa using hc⟩
      obtain ⟨a', l', c', hv⟩ := hV
      rw [hv] at h1 h2 ⊢
      obtain ⟨l, hl, _⟩ := open_vals (d := D i) (p := Pl i) ht he ce o0 o1 o2 u0 u1 u2 c0 c1 c2 ⟨n, by simpa [Value.cells] using h2⟩
      exact ⟨l, h1, hl⟩
    obtain ⟨f, hfe⟩ := choose_lt each
    obtain ⟨b, off, spot⟩ := x
    have hspot : spot = none := by simpa [Addr.add] using World.cell?_spot (hfe 0 h0).1
    subst hspot
    have hll : ((List.range len).map f).length = len := by simp
    refine ⟨(List.range len).map f, Or.inr (Or.inr ⟨b, off, cap, by rw [hll]; exact h0, by rw [hll], by rw [hll]; exact hl, hm, ?_⟩), Or.inr ⟨_, _, (Prod.mk.inj hd).1, by simp⟩⟩
    intro i hi
    have hi' : i < len := by rw [hll] at hi; exact hi
    have e : ((List.range len).map f)[i] = f i := by simp
    rw [e]
    have g := hfe i hi'
    rw [WideShapes.add_plain] at g
    exact ⟨V i, g⟩

end Go.Proofs.YtlefhfmckimlaakGreatDoor
