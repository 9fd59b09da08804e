/-
  Plain facts on a vault: what each call answers, and that so many honest are enough, whoever lies. No program is walked here.
  Things in memory of a call's own that stand beside each other, in a program that need not know values of tuples: each has its blocks; what a call on one leaves of another. For any program.
-/
import Derived.Test.YtlefhfmckimlaajGreatDoorJ47A
import Derived.Test.YtlefhfmckimlaajGreatDoorProofMath
import Derived.Below
import Derived.ProofKit
import Derived.Laws.OwnMore
import Derived.OwnWalk
namespace Go.Proofs.YtlefhfmckimlaajGreatDoor.M

/-- a vault: how many have a part, how many tell it, and of each name its factors, the secret first -/
structure Vlt where
  many : Nat
  need : Nat
  g : ByteArray → Option (List Int)
  n : Nat
def Vlt.new (many need : Nat) : Vlt := ⟨many, need, fun _ => none, 0⟩
/-- a vault as it may come to be -/
structure Vlt.Ok (v : Vlt) : Prop where
  one : 1 ≤ v.need
  le : v.need ≤ v.many
  seven : v.many ≤ 7
  twenty : v.n ≤ 20
  kept : ∀ a p, v.g a = some p → p.length = v.need ∧ facE p = 0
theorem Vlt.new_ok {many need : Nat} (h1 : 1 ≤ need) (h2 : need ≤ many) (h3 : many ≤ 7) : (Vlt.new many need).Ok := ⟨h1, h2, h3, Nat.zero_le _, fun _ _ h => by cases h⟩

/-- what is wrong with a Put, and the vault behind it -/
def vputE (v : Vlt) (a : ByteArray) (s : Int) (r : List Int) : Int := if 12 < a.size then 4 else if (v.g a).isSome = true then 7 else if r.length + 1 ≠ v.need then 3 else if dealE s r v.many ≠ 0 then dealE s r v.many else if 20 ≤ v.n then 4 else 0
def vputV (v : Vlt) (a : ByteArray) (s : Int) (r : List Int) : Vlt := if vputE v a s r = 0 then ⟨v.many, v.need, fun b => if b = a then some (s :: r) else v.g b, v.n + 1⟩ else v
section
variable {v : Vlt} {a : ByteArray} {s : Int} {r : List Int}
theorem vputE_long (h : 12 < a.size) : vputE v a s r = 4 := by unfold vputE; rw [if_pos h]
theorem vputE_there (h : ¬ 12 < a.size) (h1 : (v.g a).isSome = true) : vputE v a s r = 7 := by unfold vputE; rw [if_neg h, if_pos h1]
theorem vputE_shape (h : ¬ 12 < a.size) (h1 : v.g a = none) (h2 : r.length + 1 ≠ v.need) : vputE v a s r = 3 := by unfold vputE; rw [if_neg h, h1, if_neg (by simp), if_pos h2]
theorem vputE_deal (h : ¬ 12 < a.size) (h1 : v.g a = none) (h2 : r.length + 1 = v.need) (h3 : dealE s r v.many ≠ 0) : vputE v a s r = dealE s r v.many := by unfold vputE; rw [if_neg h, h1, if_neg (by simp), if_neg (by simpa using h2), if_pos h3]
theorem vputE_full (h : ¬ 12 < a.size) (h1 : v.g a = none) (h2 : r.length + 1 = v.need) (h3 : dealE s r v.many = 0) (h4 : 20 ≤ v.n) : vputE v a s r = 4 := by unfold vputE; rw [if_neg h, h1, if_neg (by simp), if_neg (by simpa using h2), if_neg (by simpa using h3), if_pos h4]
theorem vputE_0 (h : ¬ 12 < a.size) (h1 : v.g a = none) (h2 : r.length + 1 = v.need) (h3 : dealE s r v.many = 0) (h4 : ¬ 20 ≤ v.n) : vputE v a s r = 0 := by unfold vputE; rw [if_neg h, h1, if_neg (by simp), if_neg (by simpa using h2), if_neg (by simpa using h3), if_neg h4]
/-- the six ways of a Put -/
theorem vputE_ways (v : Vlt) (a : ByteArray) (s : Int) (r : List Int) : 12 < a.size ∨ (¬ 12 < a.size ∧ (v.g a).isSome = true) ∨ (¬ 12 < a.size ∧ v.g a = none ∧ r.length + 1 ≠ v.need) ∨ (¬ 12 < a.size ∧ v.g a = none ∧ r.length + 1 = v.need ∧ dealE s r v.many ≠ 0) ∨ (¬ 12 < a.size ∧ v.g a = none ∧ r.length + 1 = v.need ∧ dealE s r v.many = 0 ∧ 20 ≤ v.n) ∨ (¬ 12 < a.size ∧ v.g a = none ∧ r.length + 1 = v.need ∧ dealE s r v.many = 0 ∧ ¬ 20 ≤ v.n) := by
  by_cases h : 12 < a.size
  · exact Or.inl h
  · cases h1 : v.g a with
    | some p => exact Or.inr (Or.inl ⟨h, by simp⟩)
    | none =>
      by_cases h2 : r.length + 1 = v.need
      · by_cases h3 : dealE s r v.many = 0
        · by_cases h4 : 20 ≤ v.n
          · exact Or.inr (Or.inr (Or.inr (Or.inr (Or.inl ⟨h, rfl, h2, h3, h4⟩))))
          · exact Or.inr (Or.inr (Or.inr (Or.inr (Or.inr ⟨h, rfl, h2, h3, h4⟩))))
        · exact Or.inr (Or.inr (Or.inr (Or.inl ⟨h, rfl, h2, h3⟩)))
      · exact Or.inr (Or.inr (Or.inl ⟨h, rfl, h2⟩))
theorem vputE_ok (h : vputE v a s r = 0) : a.size ≤ 12 ∧ v.g a = none ∧ r.length + 1 = v.need ∧ dealE s r v.many = 0 ∧ v.n < 20 := by
  rcases vputE_ways v a s r with q | ⟨q1, q2⟩ | ⟨q1, q2, q3⟩ | ⟨q1, q2, q3, q4⟩ | ⟨q1, q2, q3, q4, q5⟩ | ⟨q1, q2, q3, q4, q5⟩
  · rw [vputE_long q] at h; cases h
  · rw [vputE_there q1 q2] at h; cases h
  · rw [vputE_shape q1 q2 q3] at h; cases h
  · rw [vputE_deal q1 q2 q3 q4] at h; exact absurd h q4
  · rw [vputE_full q1 q2 q3 q4 q5] at h; cases h
  · exact ⟨by omega, q2, q3, q4, by omega⟩
theorem vputV_bad (h : vputE v a s r ≠ 0) : vputV v a s r = v := by unfold vputV; rw [if_neg h]
theorem vputV_many : (vputV v a s r).many = v.many ∧ (vputV v a s r).need = v.need := by
  unfold vputV
  split <;> exact ⟨rfl, rfl⟩
theorem vputV_same (h : vputE v a s r = 0) : (vputV v a s r).g a = some (s :: r) := by unfold vputV; rw [if_pos h]; exact if_pos rfl
theorem vputV_other {b : ByteArray} (hb : b ≠ a) : (vputV v a s r).g b = v.g b := by
  unfold vputV
  split
  · exact if_neg hb
  · rfl
theorem vputV_n (h : vputE v a s r = 0) : (vputV v a s r).n = v.n + 1 := by unfold vputV; rw [if_pos h]
theorem Vlt.Ok.put (hv : v.Ok) : (vputV v a s r).Ok := by
  by_cases h : vputE v a s r = 0
  · obtain ⟨h1, h2, h3, h4, h5⟩ := vputE_ok h
    obtain ⟨e1, e2⟩ := vputV_many (v := v) (a := a) (s := s) (r := r)
    refine ⟨by rw [e2]; exact hv.one, by rw [e1, e2]; exact hv.le, by rw [e1]; exact hv.seven, by rw [vputV_n h]; omega, fun b p hp => ?_⟩
    rw [e2]
    by_cases hb : b = a
    · subst hb
      rw [vputV_same h] at hp
      cases hp
      obtain ⟨d1, d2, d3, _, _⟩ := dealE_ok h4
      exact ⟨by simpa using h3, facE_cons d1.1 d1.2 d2 d3⟩
    · rw [vputV_other hb] at hp
      exact hv.kept b p hp
  · rw [vputV_bad h]; exact hv
end

/-- what Part answers -/
def partE (v : Vlt) (a : ByteArray) (x : Int) : Int := match v.g a with
  | none => 5
  | some _ => if 1 ≤ x ∧ x ≤ v.many then 0 else 1
def partR (v : Vlt) (a : ByteArray) (x : Int) : Int × Int := match v.g a with
  | none => (0, 0)
  | some p => if 1 ≤ x ∧ x ≤ v.many then (x, ev p x) else (0, 0)
/-- what True answers -/
def truE (v : Vlt) (a : ByteArray) (x y : Int) : Int := match v.g a with
  | none => 5
  | some p => chkE (commits p) x y
def truR (v : Vlt) (a : ByteArray) (x y : Int) : Bool := match v.g a with
  | none => false
  | some p => chkR (commits p) x y

/-- a share that cannot be one of so many -/
def outB (many : Nat) (q : Int × Int) : Bool := decide (q.1 < 1) || decide ((many : Int) < q.1) || !inR q.2
/-- it stands among some already -/
def hasB (acc : List (Int × Int)) (x : Int) : Bool := acc.any fun q => q.1 == x
/-- those that are true, each place but once: the next one -/
def goodS (p : List Int) (acc : List (Int × Int)) (q : Int × Int) : List (Int × Int) := if hasB acc q.1 = false ∧ trueB (commits p) q.1 q.2 = true then acc ++ [q] else acc
def goodL (p : List Int) (l : List (Int × Int)) : List (Int × Int) := l.foldl (goodS p) []
theorem goodL_nil (p : List Int) : goodL p [] = [] := rfl
theorem goodL_take {p : List Int} {l : List (Int × Int)} {k : Nat} (h : k < l.length) : goodL p (l.take (k + 1)) = goodS p (goodL p (l.take k)) l[k] := by
  unfold goodL
  rw [List.take_succ_eq_append_getElem h, List.foldl_append]; rfl
theorem goodS_len (p : List Int) (acc : List (Int × Int)) (q : Int × Int) : (goodS p acc q).length ≤ acc.length + 1 := by
  unfold goodS
  split
  · simp
  · omega
theorem goodL_len (p : List Int) (l : List (Int × Int)) : ∀ k, k ≤ l.length → (goodL p (l.take k)).length ≤ k
  | 0, _ => by simp [goodL]
  | k + 1, h => by
    rw [goodL_take (by omega)]
    have h1 := goodS_len p (goodL p (l.take k)) l[k]
    have h2 := goodL_len p l k (by omega)
    omega
/-- whether the next one is taken -/
def takeB (p : List Int) (acc : List (Int × Int)) (q : Int × Int) : Bool := trueB (commits p) q.1 q.2 && !hasB acc q.1
theorem goodS_yes {p : List Int} {acc : List (Int × Int)} {q : Int × Int} (h : takeB p acc q = true) : goodS p acc q = acc ++ [q] := by
  unfold takeB at h
  simp only [Bool.and_eq_true, Bool.not_eq_true'] at h
  unfold goodS
  rw [if_pos ⟨h.2, h.1⟩]
theorem goodS_no {p : List Int} {acc : List (Int × Int)} {q : Int × Int} (h : takeB p acc q = false) : goodS p acc q = acc := by
  unfold takeB at h
  unfold goodS
  rw [if_neg]
  rintro ⟨h1, h2⟩
  rw [h1, h2] at h
  cases h
theorem hasB_snoc (acc : List (Int × Int)) (q : Int × Int) (x : Int) : hasB (acc ++ [q]) x = (hasB acc x || q.1 == x) := by simp [hasB]
theorem hasB_nil (x : Int) : hasB [] x = false := rfl
/-- what Get answers -/
def getE' (v : Vlt) (a : ByteArray) (l : List (Int × Int)) : Int := match v.g a with
  | none => 5
  | some p => if 30 < l.length then 4 else if l.any (outB v.many) = true then 1 else if (goodL p l).length < v.need then 5 else 0
def getR' (v : Vlt) (a : ByteArray) (l : List (Int × Int)) : Int := match v.g a with
  | none => 0
  | some p => if getE' v a l = 0 then next ((goodL p l).take v.need) 0 else 0

/-- true ones, at places of their own from 1 to many -/
structure GoodP (p : List Int) (many : Nat) (acc : List (Int × Int)) : Prop where
  each : ∀ q ∈ acc, (1 ≤ q.1 ∧ q.1 ≤ many) ∧ (0 ≤ q.2 ∧ q.2 < 257) ∧ ev p q.1 = q.2
  own : (acc.map (·.1)).Nodup
theorem GoodP.nil (p : List Int) (many : Nat) : GoodP p many [] := ⟨fun q h => by simp at h, List.nodup_nil⟩
theorem outB_no {many : Nat} {q : Int × Int} (h : outB many q = false) : (1 ≤ q.1 ∧ q.1 ≤ many) ∧ (0 ≤ q.2 ∧ q.2 < 257) := by
  unfold outB at h
  simp only [Bool.or_eq_false_iff, decide_eq_false_iff_not, Bool.not_eq_false'] at h
  obtain ⟨⟨h1, h2⟩, h3⟩ := h
  exact ⟨by omega, inR_yes h3⟩
theorem GoodP.step {p : List Int} {many : Nat} {acc : List (Int × Int)} {q : Int × Int} (hp : ∀ i (h : i < p.length), 0 ≤ p[i]) (h : GoodP p many acc) (hq : outB many q = false) : GoodP p many (goodS p acc q) := by
  obtain ⟨h1, h2⟩ := outB_no hq
  unfold goodS
  split
  · rename_i hc
    obtain ⟨c1, c2⟩ := hc
    have ht := true_iff hp (x := q.1) h2.1 h2.2
    rw [ht] at c2
    have e : ev p q.1 = q.2 := by simpa using c2
    refine ⟨fun z hz => ?_, ?_⟩
    · rcases List.mem_append.1 hz with hz | hz
      · exact h.each z hz
      · rw [List.mem_singleton.1 hz]; exact ⟨h1, h2, e⟩
    · rw [List.map_append, List.nodup_append]
      refine ⟨h.own, by simp, fun x hx y hy e2 => ?_⟩
      rw [List.map_singleton, List.mem_singleton] at hy
      subst hy
      obtain ⟨z, hz, rfl⟩ := List.mem_map.1 hx
      unfold hasB at c1
      rw [List.any_eq_false] at c1
      exact c1 z hz (by simpa using e2)
  · exact h
theorem GoodP.all {p : List Int} {many : Nat} {l : List (Int × Int)} (hp : ∀ i (h : i < p.length), 0 ≤ p[i]) (hl : l.any (outB many) = false) : ∀ k, k ≤ l.length → GoodP p many (goodL p (l.take k))
  | 0, _ => by simpa [goodL] using GoodP.nil p many
  | k + 1, h => by
    rw [goodL_take (by omega)]
    exact (GoodP.all hp hl k (by omega)).step hp (by rw [List.any_eq_false] at hl; simpa using hl l[k] (List.getElem_mem _))
/-- of places from 1 to m there are m at the most -/
theorem few_places : ∀ (m : Nat) (A : List Int), A.Nodup → (∀ x ∈ A, 1 ≤ x ∧ x ≤ (m : Int)) → A.length ≤ m
  | 0, A, _, h => by
    cases A with
    | nil => exact Nat.le_refl _
    | cons x A => have := h x (by simp); omega
  | m + 1, A, hn, h => by
    have h1 := few_places m (A.filter fun x => decide (x ≠ ((m : Int) + 1))) (hn.sublist List.filter_sublist) (fun x hx => by
      obtain ⟨hx1, hx2⟩ := List.mem_filter.1 hx
      have := h x hx1
      have : x ≠ (m : Int) + 1 := by simpa using hx2
      omega)
    have h2 : A.count ((m : Int) + 1) ≤ 1 := List.nodup_iff_count.1 hn _
    have h3 : A.length = A.countP (fun x => decide (x ≠ ((m : Int) + 1))) + A.count ((m : Int) + 1) := by
      rw [List.length_eq_countP_add_countP (fun x => decide (x ≠ ((m : Int) + 1)))]
      congr 1
      rw [List.count_eq_countP]
      apply List.countP_congr
      intro x _
      simp
    rw [← List.countP_eq_length_filter] at h1
    omega
theorem GoodP.len {p : List Int} {many : Nat} {acc : List (Int × Int)} (h : GoodP p many acc) : acc.length ≤ many := by
  have := few_places many (acc.map (·.1)) h.own (fun x hx => by
    obtain ⟨q, hq, rfl⟩ := List.mem_map.1 hx
    exact (h.each q hq).1)
  simpa using this
theorem GoodP.right {p : List Int} {many : Nat} {acc : List (Int × Int)} (h : GoodP p many acc) (h7 : many ≤ 7) : Right acc := by
  refine ⟨fun i hi => ?_, fun i j hi hj e => ?_⟩
  · obtain ⟨h1, h2, _⟩ := h.each acc[i] (List.getElem_mem hi)
    omega
  · have hn := h.own
    rw [List.Nodup, List.pairwise_iff_getElem] at hn
    rcases Nat.lt_trichotomy i j with q | q | q
    · exact absurd (by rw [List.getElem_map, List.getElem_map]; exact e) (hn i j (by simpa using hi) (by simpa using hj) q)
    · exact q
    · exact absurd (by rw [List.getElem_map, List.getElem_map]; exact e.symm) (hn j i (by simpa using hj) (by simpa using hi) q)
/-- SO MANY HONEST ARE ENOUGH: as many true ones as factors tell the secret -/
theorem GoodP.tells {p : List Int} {many need : Nat} {acc : List (Int × Int)} (h : GoodP p many acc) (h7 : many ≤ 7) (h1 : 1 ≤ need) (hp : p.length = need) (hn : need ≤ acc.length) (x : Int) : next (acc.take need) x = ev p x := by
  have hl : (acc.take need).length = need := by rw [List.length_take]; omega
  refine next_ev ((h.right h7).take need) (by omega) p (by omega) (fun i hi => ?_) x
  have hi' : i < acc.length := by omega
  rw [List.getElem_take]
  exact (h.each acc[i] (List.getElem_mem hi')).2.2.symm
/-- one of so many -/
def placeB (many : Nat) (x : Int) : Bool := decide (1 ≤ x ∧ x ≤ (many : Int))
theorem placeB_yes {many : Nat} {x : Int} (h1 : 1 ≤ x) (h2 : x ≤ (many : Int)) : placeB many x = true := decide_eq_true ⟨h1, h2⟩
theorem placeB_no {many : Nat} {x : Int} (h : ¬ (1 ≤ x ∧ x ≤ (many : Int))) : placeB many x = false := decide_eq_false h
theorem outB_place (many : Nat) (x y : Int) : outB many (x, y) = (!placeB many x || !inR y) := by
  unfold outB
  by_cases h1 : x < 1
  · rw [placeB_no (by omega)]; simp [h1]
  · by_cases h2 : (many : Int) < x
    · rw [placeB_no (by omega)]; simp [h2]
    · rw [placeB_yes (by omega) (by omega)]; simp [h1, h2]
/-- what Join makes of too few -/
theorem GoodP.few {p : List Int} {many need : Nat} {acc : List (Int × Int)} (h : GoodP p many acc) (h7 : many ≤ 7) (hn7 : need ≤ 7) (hn : acc.length < need) : joinE acc (need : Int) = 5 ∧ joinR acc (need : Int) = 0 := by
  have hc : cntB (need : Int) = true := cntB_mk (by omega) (by omega)
  have e : joinE acc (need : Int) = 5 := by
    by_cases h0 : acc.length = 0
    · have : acc = [] := List.length_eq_zero_iff.1 h0
      subst this
      exact joinE_pts hc (by decide)
    · exact joinE_few hc (ptsE_right (h.right h7) (by omega) (Nat.le_trans h.len h7)) (by omega)
  exact ⟨e, joinR_bad (by rw [e]; decide)⟩
/-- what Join makes of them -/
theorem GoodP.join {p : List Int} {many need : Nat} {acc : List (Int × Int)} (h : GoodP p many acc) (h7 : many ≤ 7) (h1 : 1 ≤ need) (hn : need ≤ acc.length) : joinE acc (need : Int) = 0 ∧ joinR acc (need : Int) = next (acc.take need) 0 :=
  join_right (h.right h7) (Nat.le_trans h.len h7) (by omega) hn

section
variable {v : Vlt} {a : ByteArray} {l : List (Int × Int)} {p : List Int}
theorem getE_no (h : v.g a = none) : getE' v a l = 5 := by unfold getE'; rw [h]
theorem getE_full (h : v.g a = some p) (h1 : 30 < l.length) : getE' v a l = 4 := by unfold getE'; rw [h]; simp only; rw [if_pos h1]
theorem getE_out (h : v.g a = some p) (h1 : ¬ 30 < l.length) (h2 : l.any (outB v.many) = true) : getE' v a l = 1 := by unfold getE'; rw [h]; simp only; rw [if_neg h1, if_pos h2]
theorem getE_few (h : v.g a = some p) (h1 : ¬ 30 < l.length) (h2 : l.any (outB v.many) = false) (h3 : (goodL p l).length < v.need) : getE' v a l = 5 := by unfold getE'; rw [h]; simp only; rw [if_neg h1, if_neg (by simp [h2]), if_pos h3]
theorem getE_0 (h : v.g a = some p) (h1 : ¬ 30 < l.length) (h2 : l.any (outB v.many) = false) (h3 : ¬ (goodL p l).length < v.need) : getE' v a l = 0 := by unfold getE'; rw [h]; simp only; rw [if_neg h1, if_neg (by simp [h2]), if_neg h3]
theorem getR_bad (h : getE' v a l ≠ 0) : getR' v a l = 0 := by
  unfold getR'
  cases v.g a with
  | none => rfl
  | some p => exact if_neg h
theorem getR_ok (h : v.g a = some p) (h0 : getE' v a l = 0) : getR' v a l = next ((goodL p l).take v.need) 0 := by unfold getR'; rw [h]; exact if_pos h0
theorem Vlt.Ok.nums (hv : v.Ok) (h : v.g a = some p) : (∀ i (hi : i < p.length), 0 ≤ p[i] ∧ p[i] < 257) ∧ comE p = 0 ∧ cmtE (commits p) = 0 := by
  obtain ⟨h1, h2⟩ := hv.kept a p h
  have h3 : comE p = 0 := by rw [comE_some (by have := hv.one; omega)]; exact h2
  exact ⟨(facE_ok h2).2, h3, cmtE_commits h3⟩
/-- the secret is told, if so many do not lie -/
theorem get_tells (hv : v.Ok) {s : Int} {r : List Int} (h : v.g a = some (s :: r)) (h1 : ¬ 30 < l.length) (h2 : l.any (outB v.many) = false) (h3 : ¬ (goodL (s :: r) l).length < v.need) : getE' v a l = 0 ∧ getR' v a l = s := by
  have h0 := getE_0 h h1 h2 h3
  obtain ⟨n1, _, _⟩ := hv.nums h
  have hg := GoodP.all (fun i hi => (n1 i hi).1) h2 l.length (Nat.le_refl _)
  rw [List.take_length] at hg
  refine ⟨h0, ?_⟩
  rw [getR_ok h h0, hg.tells hv.seven hv.one (hv.kept a _ h).1 (by omega)]
  have := n1 0 (by simp)
  exact ev_zero this.1 this.2 r
end

end Go.Proofs.YtlefhfmckimlaajGreatDoor.M

namespace Go.Proofs.YtlefhfmckimlaajGreatDoor
open Go.RowKit

/-- all is kept but some blocks -/
structure Tc (F : Nat → Prop) (w w' : World) : Prop where
  os : w'.os = w.os
  tape : w'.tape = w.tape
  output : w'.output = w.output
  size : w.heap.size ≤ w'.heap.size
  block : ∀ k, k < w.heap.size → ¬ F k → w'.heap[k]? = w.heap[k]?
/-- the blocks behind a call: those from before, or new ones -/
def Gr (w : World) (F F' : Nat → Prop) : Prop := ∀ k, F' k → F k ∨ w.heap.size ≤ k
/-- two sets have no block in common -/
def Of (F G : Nat → Prop) : Prop := ∀ k, F k → ¬ G k
section
variable {F F' F2 G : Nat → Prop} {a b c w w' : World} {B : Nat}
theorem Tc.of_below (h : Below w.heap.size w w') : Tc F w w' := ⟨h.os, h.tape, h.output, h.size, fun k hk _ => h.block k hk⟩
theorem Tc.refl (F : Nat → Prop) (w : World) : Tc F w w := Tc.of_below (Below.refl _ _)
theorem Gr.refl (w : World) (F : Nat → Prop) : Gr w F F := fun _ h => Or.inl h
theorem Gr.after (h : a.heap.size ≤ b.heap.size) (k : Gr b F F') : Gr a F F' := fun i hi => (k i hi).imp id (fun q => Nat.le_trans h q)
theorem Tc.trans (h : Tc F a b) (hg : Gr a F F') (k : Tc F' b c) : Tc F a c :=
  ⟨k.os.trans h.os, k.tape.trans h.tape, k.output.trans h.output, Nat.le_trans h.size k.size, fun i hi hF => (k.block i (Nat.lt_of_lt_of_le hi h.size) (fun e => by
    rcases hg i e with g | g
    · exact hF g
    · omega)).trans (h.block i hi hF)⟩
theorem Tc.then (h : Tc F a b) (k : Below b.heap.size b c) : Tc F a c := h.trans (Gr.refl _ _) (Tc.of_below k)
theorem Tc.after (h : Below a.heap.size a b) (k : Tc F b c) : Tc F a c := (Tc.of_below h).trans (Gr.refl _ _) k
theorem Tc.mono (h : Tc F w w') (hF : ∀ k, F k → G k) : Tc G w w' := ⟨h.os, h.tape, h.output, h.size, fun k hk hn => h.block k hk (fun e => hn (hF k e))⟩
theorem Tc.below (h : Tc F w w') (hF : ∀ k, F k → B ≤ k) (hB : B ≤ w.heap.size) : Below B w w' :=
  ⟨h.os, h.tape, h.output, h.size, fun k hk => h.block k (by omega) (fun e => by have := hF k e; omega)⟩
theorem Of.symm (h : Of F G) : Of G F := fun k hk e => h k e hk
theorem Of.grows (h : Of F G) (hG : ∀ k, G k → k < w.heap.size) (hg : Gr w F F') : Of F' G := fun k hk e => by
  rcases hg k hk with g | g
  · exact h k g e
  · have := hG k e; omega
theorem Of.new (hG : ∀ k, G k → k < w.heap.size) (hF : ∀ k, F k → w.heap.size ≤ k) : Of F G := fun k hk e => by have := hG k e; have := hF k hk; omega
theorem heapV_lt {g : Nat} {o : Obj} (h : w.heap[g]? = some o) : g < w.heap.size := (Array.getElem?_eq_some_iff.1 h).1
theorem tagV_eq {c1 c2 : Array Value} {T1 T2 : TypeId} {f1 f2 : Nat × Nat} (h : (some (Obj.cells c1 T1 f1) : Option Obj) = some (.cells c2 T2 f2)) : T1 = T2 := by cases h; rfl
/-- a row of the call's own: its block, and that it is there -/
theorem rowV_tag {base n k : Nat} {e : TypeId} {v : Value} {xs : List Value} (h : w.ownsRow base e k v n xs) {g : Nat} (hg : v.ownBlock = some g) : base ≤ g ∧ ∃ c fr, w.heap[g]? = some (.cells c e fr) := by
  rcases h.2 with ⟨hv, _⟩ | ⟨g2, cap, cur, hv, hb, hh, _⟩
  · rw [hv] at hg; cases hg
  · rw [hv] at hg
    have e2 : g2 = g := by simpa [Value.ownBlock] using hg
    subst e2
    exact ⟨hb, _, _, hh⟩
theorem rowV_at {base n k : Nat} {e : TypeId} {v : Value} {xs : List Value} (h : w.ownsRow base e k v n xs) (hk : ∀ g, v.ownBlock = some g → w'.heap[g]? = w.heap[g]?) : w'.ownsRow base e k v n xs := by
  refine ⟨h.1, ?_⟩
  rcases h.2 with q | ⟨g, cap, cur, hv, hb, hh, r⟩
  · exact Or.inl q
  · exact Or.inr ⟨g, cap, cur, hv, hb, (hk g (by rw [hv]; rfl)).trans hh, r⟩
theorem rowV_mono {base b2 n k : Nat} {e : TypeId} {v : Value} {xs : List Value} (h : w.ownsRow base e k v n xs) (hb : b2 ≤ base) : w.ownsRow b2 e k v n xs := by
  refine ⟨h.1, ?_⟩
  rcases h.2 with q | ⟨g, cap, cur, hv, hg, hh, r⟩
  · exact Or.inl q
  · exact Or.inr ⟨g, cap, cur, hv, Nat.le_trans hb hg, hh, r⟩
end

end Go.Proofs.YtlefhfmckimlaajGreatDoor
