/-
  Plain facts on tuples that are covered: what is wrong with what shows, what is seen, that a cover is a tuple, that what fits fits covered alike, that covered openly it is itself, that where all is closed all are alike. No program is walked here.
-/
import Derived.Test.YtlefhfmckimlaagDoorHashMath
import Derived.Test.YtlefhfmckimlaagDoorTupF
import Derived.Test.YtlefhfmckimlaagDoorPolyMath2
import Derived.Test.YtlefhfmckimlaagDoorNumMath
namespace Go.Proofs.YtlefhfmckimlaagDoor.M

/-- a value as a text (as M.word of PrintWalks has it, to the sign) -/
def wrd (k n : Int) (s : ByteArray) : ByteArray := if k = 0 then ⟨(Lib.itoa n).toArray⟩ else if k = 1 then ⟨#[58]⟩ ++ s else ⟨#[42]⟩
/-- a number -/
def numV (n : Int) : Val := ⟨0, n, ⟨#[]⟩⟩
/-- anything -/
def anyV : Val := ⟨2, 0, ⟨#[]⟩⟩
/-- one field as it is seen -/
def cov1 (closed v : Val) (s : Int) : Val := if s = 2 then closed else if s = 1 then (if v.k = 2 then v else numV (hash (wrd v.k v.n v.s))) else v
theorem cov1_closed (c v : Val) : cov1 c v 2 = c := rfl
theorem cov1_open (c v : Val) : cov1 c v 0 = v := rfl
theorem cov1_likely {v : Val} (c : Val) (h : v.k ≠ 2) : cov1 c v 1 = numV (hash (wrd v.k v.n v.s)) := by unfold cov1; rw [if_neg (by decide), if_pos rfl, if_neg h]
theorem cov1_any {v : Val} (c : Val) (h : v.k = 2) : cov1 c v 1 = v := by unfold cov1; rw [if_neg (by decide), if_pos rfl, if_pos h]
/-- all fields -/
def covL (closed : Val) (t : List Val) (s : List Int) : List Val := List.zipWith (cov1 closed) t s
theorem covL_len {c : Val} {t : List Val} {s : List Int} (h : s.length = t.length) : (covL c t s).length = t.length := by unfold covL; rw [List.length_zipWith, h]; omega
theorem covL_at {c : Val} {t : List Val} {s : List Int} {i : Nat} (ht : i < t.length) (hs : i < s.length) : (covL c t s)[i]'(by unfold covL; rw [List.length_zipWith]; omega) = cov1 c t[i] s[i] := by
  unfold covL; rw [List.getElem_zipWith]
theorem covL_take {c : Val} {t : List Val} {s : List Int} {i : Nat} (ht : i < t.length) (hs : i < s.length) : covL c (t.take (i + 1)) (s.take (i + 1)) = covL c (t.take i) (s.take i) ++ [cov1 c t[i] s[i]] := by
  unfold covL
  rw [List.take_succ_eq_append_getElem ht, List.take_succ_eq_append_getElem hs, List.zipWith_append (by rw [List.length_take, List.length_take]; omega)]
  rfl
/-- what is wrong with what shows -/
def shwF (s : List Int) (i : Nat) : Int := if 0 ≤ s.getD i 0 ∧ s.getD i 0 ≤ 2 then 0 else 1
theorem shwF_at {s : List Int} {i : Nat} (h : i < s.length) : shwF s i = if 0 ≤ s[i] ∧ s[i] ≤ 2 then 0 else 1 := by
  unfold shwF; rw [List.getD_eq_getElem?_getD, List.getElem?_eq_getElem h]; rfl
def shwE (n : Nat) (s : List Int) : Int := if s.length ≠ n then 3 else first (shwF s) s.length
theorem shwE_shape {n : Nat} {s : List Int} (h : s.length ≠ n) : shwE n s = 3 := by unfold shwE; rw [if_pos h]
theorem shwE_some {n : Nat} {s : List Int} (h : s.length = n) : shwE n s = first (shwF s) s.length := by unfold shwE; rw [if_neg (by simpa using h)]
theorem shwE_ok {n : Nat} {s : List Int} (h : shwE n s = 0) : s.length = n ∧ ∀ i (hi : i < s.length), 0 ≤ s[i] ∧ s[i] ≤ 2 := by
  by_cases hl : s.length = n
  · rw [shwE_some hl] at h
    refine ⟨hl, fun i hi => ?_⟩
    have := first_all h i hi
    rw [shwF_at hi] at this
    by_cases hc : 0 ≤ s[i] ∧ s[i] ≤ 2
    · exact hc
    · rw [if_neg hc] at this; exact absurd this (by decide)
  · rw [shwE_shape hl] at h; exact absurd h (by decide)
/-- what Tuple, and Like, of package cover answer -/
def covE (t : List Val) (s : List Int) : Int := if tupF t ≠ 0 then tupF t else shwE t.length s
def covR (t : List Val) (s : List Int) : List Val := if covE t s = 0 then covL (numV 0) t s else []
def askE (l : List Val) (s : List Int) : Int := if likeF l ≠ 0 then likeF l else shwE l.length s
def askR (l : List Val) (s : List Int) : List Val := if askE l s = 0 then covL anyV l s else []
theorem covE_tup {t : List Val} {s : List Int} (h : tupF t ≠ 0) : covE t s = tupF t := by unfold covE; rw [if_pos h]
theorem covE_shw {t : List Val} {s : List Int} (h : tupF t = 0) : covE t s = shwE t.length s := by unfold covE; rw [if_neg (by simpa using h)]
theorem covE_ok {t : List Val} {s : List Int} (h : covE t s = 0) : tupF t = 0 ∧ shwE t.length s = 0 := by
  by_cases ht : tupF t = 0
  · rw [covE_shw ht] at h; exact ⟨ht, h⟩
  · rw [covE_tup ht] at h; exact absurd h ht
theorem askE_like {l : List Val} {s : List Int} (h : likeF l ≠ 0) : askE l s = likeF l := by unfold askE; rw [if_pos h]
theorem askE_shw {l : List Val} {s : List Int} (h : likeF l = 0) : askE l s = shwE l.length s := by unfold askE; rw [if_neg (by simpa using h)]
theorem askE_ok {l : List Val} {s : List Int} (h : askE l s = 0) : likeF l = 0 ∧ shwE l.length s = 0 := by
  by_cases ht : likeF l = 0
  · rw [askE_shw ht] at h; exact ⟨ht, h⟩
  · rw [askE_like ht] at h; exact absurd h ht
theorem covR_ok {t : List Val} {s : List Int} (h : covE t s = 0) : covR t s = covL (numV 0) t s := by unfold covR; rw [if_pos h]
theorem covR_bad {t : List Val} {s : List Int} (h : covE t s ≠ 0) : covR t s = [] := by unfold covR; rw [if_neg h]
theorem askR_ok {l : List Val} {s : List Int} (h : askE l s = 0) : askR l s = covL anyV l s := by unfold askR; rw [if_pos h]
theorem askR_bad {l : List Val} {s : List Int} (h : askE l s ≠ 0) : askR l s = [] := by unfold askR; rw [if_neg h]

/- faults, field by field -/
theorem firstF_none : ∀ {l : List Val}, (∀ v ∈ l, v.fault = 0) → firstF l = 0
  | [], _ => rfl
  | a :: l, h => by
    unfold firstF
    rw [if_neg (by have := h a (List.mem_cons_self ..); simpa using this)]
    exact firstF_none fun v hv => h v (List.mem_cons_of_mem _ hv)
theorem likeF_parts {l : List Val} (h : likeF l = 0) : 0 < l.length ∧ l.length ≤ 5 ∧ firstF l = 0 := by
  unfold likeF at h
  by_cases h0 : l.length = 0
  · rw [if_pos h0] at h; exact absurd h (by decide)
  rw [if_neg h0] at h
  by_cases h5 : 5 < l.length
  · rw [if_pos h5] at h; exact absurd h (by decide)
  rw [if_neg h5] at h
  exact ⟨by omega, by omega, h⟩
theorem likeF_mk {l : List Val} (h0 : 0 < l.length) (h5 : l.length ≤ 5) (h : ∀ v ∈ l, v.fault = 0) : likeF l = 0 := by
  unfold likeF; rw [if_neg (by omega), if_neg (by omega)]; exact firstF_none h
theorem tupF_parts {l : List Val} (h : tupF l = 0) : likeF l = 0 ∧ ∀ v ∈ l, v.k ≠ 2 := by
  unfold tupF at h
  by_cases hl : likeF l = 0
  · rw [if_neg (by simpa using hl)] at h
    refine ⟨hl, fun v hv hk => ?_⟩
    have : hasAny l = true := List.any_eq_true.2 ⟨v, hv, by simpa using hk⟩
    rw [if_pos this] at h
    exact absurd h (by decide)
  · rw [if_pos hl] at h; exact absurd h hl
theorem tupF_mk {l : List Val} (h : likeF l = 0) (hk : ∀ v ∈ l, v.k ≠ 2) : tupF l = 0 := by
  have hn : hasAny l = false := by
    cases ha : hasAny l
    · rfl
    · obtain ⟨v, hv, e⟩ := List.any_eq_true.1 ha
      exact absurd (by simpa using e) (hk v hv)
  unfold tupF
  rw [if_neg (by simpa using h), hn]; rfl
theorem numV_fault {n : Int} (h0 : -1000000 ≤ n) (h1 : n ≤ 1000000) : (numV n).fault = 0 := by
  show fault 0 n ⟨#[]⟩ = 0
  unfold fault faultN
  rw [if_pos rfl, if_neg (by omega)]; rfl
theorem cov1_fault {v : Val} {s : Int} (h : v.fault = 0) (hk : v.k ≠ 2) (h0 : 0 ≤ s) (h2 : s ≤ 2) : (cov1 (numV 0) v s).fault = 0 ∧ (cov1 (numV 0) v s).k ≠ 2 := by
  rcases (by omega : s = 0 ∨ s = 1 ∨ s = 2) with rfl | rfl | rfl
  · rw [cov1_open]; exact ⟨h, hk⟩
  · rw [cov1_likely _ hk]
    have := hash_range (wrd v.k v.n v.s)
    exact ⟨numV_fault (by omega) (by omega), by show (0 : Int) ≠ 2; decide⟩
  · rw [cov1_closed]; exact ⟨numV_fault (by decide) (by decide), by show (0 : Int) ≠ 2; decide⟩
/-- a cover is a tuple -/
theorem cover_tup {t : List Val} {s : List Int} (h : covE t s = 0) : tupF (covL (numV 0) t s) = 0 := by
  obtain ⟨ht, hs⟩ := covE_ok h
  obtain ⟨hl, hk⟩ := tupF_parts ht
  obtain ⟨l0, l5, hf⟩ := likeF_parts hl
  obtain ⟨hn, hr⟩ := shwE_ok hs
  have each : ∀ v ∈ covL (numV 0) t s, v.fault = 0 ∧ v.k ≠ 2 := fun v hv => by
    obtain ⟨i, hi, rfl⟩ := List.getElem_of_mem hv
    have hit : i < t.length := by rw [covL_len hn] at hi; exact hi
    rw [covL_at hit (by omega)]
    obtain ⟨r0, r2⟩ := hr i (by omega)
    exact cov1_fault (firstF_zero hf _ (List.getElem_mem hit)) (hk _ (List.getElem_mem hit)) r0 r2
  exact tupF_mk (likeF_mk (by rw [covL_len hn]; exact l0) (by rw [covL_len hn]; exact l5) fun v hv => (each v hv).1) fun v hv => (each v hv).2
theorem ask1_fault {v : Val} {s : Int} (h : v.fault = 0) (h0 : 0 ≤ s) (h2 : s ≤ 2) : (cov1 anyV v s).fault = 0 := by
  rcases (by omega : s = 0 ∨ s = 1 ∨ s = 2) with rfl | rfl | rfl
  · rw [cov1_open]; exact h
  · by_cases hk : v.k = 2
    · rw [cov1_any _ hk]; exact h
    · rw [cov1_likely _ hk]
      have := hash_range (wrd v.k v.n v.s)
      exact numV_fault (by omega) (by omega)
  · rw [cov1_closed]; rfl
/-- a cover of what is asked for may be asked for -/
theorem ask_like {l : List Val} {s : List Int} (h : askE l s = 0) : likeF (covL anyV l s) = 0 := by
  obtain ⟨hl, hs⟩ := askE_ok h
  obtain ⟨l0, l5, hf⟩ := likeF_parts hl
  obtain ⟨hn, hr⟩ := shwE_ok hs
  refine likeF_mk (by rw [covL_len hn]; exact l0) (by rw [covL_len hn]; exact l5) fun v hv => ?_
  obtain ⟨i, hi, rfl⟩ := List.getElem_of_mem hv
  have hit : i < l.length := by rw [covL_len hn] at hi; exact hi
  rw [covL_at hit (by omega)]
  obtain ⟨r0, r2⟩ := hr i (by omega)
  exact ask1_fault (firstF_zero hf _ (List.getElem_mem hit)) r0 r2
/-- what fits one field fits it covered alike -/
theorem fit1_cover {a b : Val} {s : Int} (h : fit1 a b = true) (hb : b.k ≠ 2) (h0 : 0 ≤ s) (h2 : s ≤ 2) : fit1 (cov1 anyV a s) (cov1 (numV 0) b s) = true := by
  rcases (by omega : s = 0 ∨ s = 1 ∨ s = 2) with rfl | rfl | rfl
  · rw [cov1_open, cov1_open]; exact h
  · by_cases hk : a.k = 2
    · rw [cov1_any _ hk]; simp [fit1, hk]
    · rw [cov1_likely _ hk, cov1_likely _ hb]
      have hs : a.same b = true := by simpa [fit1, hk] using h
      have e : a.k = b.k ∧ a.n = b.n ∧ a.s.toList = b.s.toList := by
        simpa [Val.same, same, Bool.and_eq_true, and_assoc] using hs
      have es : a.s = b.s := by
        have := e.2.2
        rw [ByteArray.toList_eq, ByteArray.toList_eq] at this
        exact ByteArray.ext (Array.toList_inj.1 this)
      rw [e.1, e.2.1, es]
      simp [fit1, Val.same, same]
  · rw [cov1_closed]; rfl
/-- what fits fits covered alike -/
theorem fit_cover : ∀ {l t : List Val} {s : List Int}, fitAll l t = true → (∀ v ∈ t, v.k ≠ 2) → s.length = t.length → (∀ i (hi : i < s.length), 0 ≤ s[i] ∧ s[i] ≤ 2) → fitAll (covL anyV l s) (covL (numV 0) t s) = true
  | [], [], s, _, _, _, _ => by simp [covL, fitAll]
  | [], b :: t, s, h, _, _, _ => by simp [fitAll] at h
  | a :: l, [], s, h, _, _, _ => by simp [fitAll] at h
  | a :: l, b :: t, [], _, _, hl, _ => by simp at hl
  | a :: l, b :: t, x :: s, h, hk, hl, hr => by
    simp only [fitAll, Bool.and_eq_true] at h
    obtain ⟨x0, x2⟩ : 0 ≤ x ∧ x ≤ 2 := hr 0 (by simp)
    have ih := fit_cover (s := s) h.2 (fun v hv => hk v (List.mem_cons_of_mem _ hv)) (by simpa using hl) fun i hi => hr (i + 1) (by simpa using hi)
    show (fit1 (cov1 anyV a x) (cov1 (numV 0) b x) && fitAll (covL anyV l s) (covL (numV 0) t s)) = true
    rw [ih, fit1_cover h.1 (hk b (List.mem_cons_self ..)) x0 x2]; rfl
/-- covered openly it is itself -/
theorem cover_open (c : Val) : ∀ t : List Val, covL c t (List.replicate t.length 0) = t
  | [] => rfl
  | v :: t => by
    show cov1 c v 0 :: covL c t (List.replicate t.length 0) = v :: t
    rw [cov1_open, cover_open c t]
theorem shw_all {n : Nat} {z : Int} (h0 : 0 ≤ z) (h2 : z ≤ 2) : shwE n (List.replicate n z) = 0 := by
  rw [shwE_some (List.length_replicate ..)]
  refine (?_ : ∀ m, m ≤ (List.replicate n z).length → first (shwF (List.replicate n z)) m = 0) _ (Nat.le_refl _)
  intro m
  induction m with
  | zero => intro _; rfl
  | succ m ih =>
    intro hm
    rw [first_next (ih (by omega)), shwF_at (by omega), List.getElem_replicate, if_pos ⟨h0, h2⟩]
/-- where all is closed all are alike -/
theorem cover_closed (c : Val) : ∀ t : List Val, covL c t (List.replicate t.length 2) = List.replicate t.length c
  | [] => rfl
  | v :: t => by
    show cov1 c v 2 :: covL c t (List.replicate t.length 2) = c :: List.replicate t.length c
    rw [cov1_closed, cover_closed c t]

end Go.Proofs.YtlefhfmckimlaagDoor.M
