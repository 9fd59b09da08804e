/-
  Plain facts on a log that keeps what a copy did: what it answers, and what it is behind each call. No program is walked here.
-/
import Derived.Test.YtlefhfmckimlaajGreatDoorCopMath
set_option linter.unusedVariables false
namespace Go.Proofs.YtlefhfmckimlaajGreatDoor.M

/-- a log: the copies behind none, one, two .. records, the bytes behind each, the bytes of half a record, how many are safe, how many steps are ahead of the one that stops it (below 0: none does), and whether it has stopped -/
structure Lg where
  cs : List Cop
  ms : List Nat
  half : Nat
  safe : Nat
  left : Int
  stop : Bool
def Lg.new : Lg := ⟨[Cop.new], [0], 0, 0, -1, false⟩
def Lg.cop (g : Lg) : Cop := g.cs.getLastD Cop.new
def Lg.bytes (g : Lg) : Nat := g.ms.getLastD 0 + g.half
/-- one step less -/
def lessS (n : Int) : Int := if 0 < n then n - 1 else n
/-- what Do answers, where the record has n bytes: the fault, the text, and what it is then -/
def lgDo (R : List Rul) (g : Lg) (a : Ask) (n : Nat) : Int × ByteArray × Lg :=
  if g.stop = true then (6, sNo, g)
  else if (doR R g.cop a).1 ≠ 0 then ((doR R g.cop a).1, sNo, g)
  else if (doR R g.cop a).2.2.n = g.cop.n then (0, (doR R g.cop a).2.1, g)
  else if 31 ≤ g.cs.length then (4, sNo, g)
  else if g.left = 0 then (6, sNo, { g with half := n / 2, stop := true })
  else (0, (doR R g.cop a).2.1, { g with cs := g.cs ++ [(doR R g.cop a).2.2], ms := g.ms ++ [g.bytes + n], left := lessS g.left })
def lgSync (g : Lg) : Int × Lg :=
  if g.stop = true then (6, g) else if g.left = 0 then (6, { g with stop := true }) else (0, { g with safe := g.bytes, left := lessS g.left })
def lgFail (g : Lg) (n : Int) : Lg := { g with left := n }
/-- so many bytes are left of it -/
def lgHigh (g : Lg) (keep : Int) : Nat := g.safe + min keep.toNat (g.bytes - g.safe)
/-- so many copies are left: those behind which so many bytes are -/
def upTo (ms : List Nat) (h : Nat) : Nat := (ms.takeWhile (· ≤ h)).length
def lgCrash (g : Lg) (keep : Int) : Lg :=
  let k := upTo g.ms (lgHigh g keep)
  ⟨g.cs.take k, g.ms.take k, 0, (g.ms.take k).getLastD 0, -1, false⟩

/-- a log as it may come to be -/
structure Lg.Ok (R : List Rul) (g : Lg) : Prop where
  len : g.cs.length = g.ms.length
  pos : 0 < g.ms.length
  few : g.ms.length ≤ 31
  first : g.cs[0]? = some Cop.new
  zero : g.ms[0]? = some 0
  cops : ∀ i (h : i < g.cs.length), g.cs[i].Ok ∧ g.cs[i].n = i
  up : ∀ i (h : i + 1 < g.ms.length), g.ms[i] + 2 ≤ g.ms[i + 1] ∧ g.ms[i + 1] ≤ g.ms[i] + 1000000
  safe : g.safe ∈ g.ms
  whole : g.stop = false → g.half = 0
  small : g.half ≤ 1000000
section
variable {R : List Rul} {g : Lg} {a : Ask} {n : Nat}
theorem Lg.new_ok (R : List Rul) : Lg.new.Ok R := ⟨rfl, by decide, by decide, rfl, rfl, fun i h => by
  have e : i = 0 := by simp [Lg.new] at h; omega
  subst e
  exact ⟨Cop.new_ok, rfl⟩, fun i h => by simp [Lg.new] at h, by simp [Lg.new], fun _ => rfl, by simp [Lg.new]⟩
theorem getLastD_of {α : Type} {l : List α} {d : α} (h : 0 < l.length) : l.getLastD d = l[l.length - 1] := by
  cases l with
  | nil => simp at h
  | cons a l => simp [List.getLastD, List.getLast_eq_getElem]
theorem Lg.Ok.cop_at (h : g.Ok R) : g.cop = g.cs[g.cs.length - 1]'(by have := h.len; have := h.pos; omega) := getLastD_of (by have := h.len; have := h.pos; omega)
theorem Lg.Ok.cop_ok (h : g.Ok R) : g.cop.Ok ∧ g.cop.n + 1 = g.cs.length := by
  have h1 := h.len
  have h2 := h.pos
  rw [h.cop_at]
  obtain ⟨e1, e2⟩ := h.cops (g.cs.length - 1) (by omega)
  exact ⟨e1, by omega⟩
theorem Lg.Ok.bytes_at (h : g.Ok R) : g.bytes = g.ms[g.ms.length - 1]'(by have := h.pos; omega) + g.half := by
  unfold Lg.bytes
  rw [getLastD_of h.pos]
theorem Lg.Ok.mono (h : g.Ok R) : ∀ i j (hi : i < g.ms.length) (hj : j < g.ms.length), i ≤ j → g.ms[i] + 2 * (j - i) ≤ g.ms[j] := fun i j hi hj hij => by
  induction j with
  | zero => have : i = 0 := by omega
            subst this; simp
  | succ j ih =>
    by_cases e : i = j + 1
    · subst e; simp
    · have := ih (by omega) (by omega)
      have := (h.up j hj).1
      omega
theorem Lg.Ok.low (h : g.Ok R) : ∀ i (hi : i < g.ms.length), g.ms[i] ≤ i * 1000000 := fun i => by
  induction i with
  | zero => intro hi; have := h.zero; rw [List.getElem?_eq_getElem hi] at this; simp at this; omega
  | succ i ih =>
    intro hi
    have h1 := ih (by omega)
    have h2 := (h.up i hi).2
    omega
theorem Lg.Ok.bytes_le (h : g.Ok R) : g.bytes ≤ 32000000 := by
  have h1 := h.low (g.ms.length - 1) (by have := h.pos; omega)
  have h2 := h.few
  have h3 := h.small
  rw [h.bytes_at]
  have : (g.ms.length - 1) * 1000000 ≤ 30 * 1000000 := Nat.mul_le_mul_right _ (by omega)
  omega
theorem Lg.Ok.safe_le (h : g.Ok R) : g.safe ≤ g.bytes := by
  obtain ⟨i, hi, e⟩ := List.getElem_of_mem h.safe
  have := h.mono i (g.ms.length - 1) hi (by omega) (by omega)
  rw [h.bytes_at, ← e]
  omega
/-- the ways of Do -/
theorem lgDo_stop (h : g.stop = true) : lgDo R g a n = (6, sNo, g) := by unfold lgDo; rw [if_pos h]
theorem lgDo_bad (h : g.stop = false) (h1 : (doR R g.cop a).1 ≠ 0) : lgDo R g a n = ((doR R g.cop a).1, sNo, g) := by unfold lgDo; rw [if_neg (by simp [h]), if_pos h1]
theorem lgDo_again (h : g.stop = false) (h1 : (doR R g.cop a).1 = 0) (h2 : (doR R g.cop a).2.2.n = g.cop.n) : lgDo R g a n = (0, (doR R g.cop a).2.1, g) := by unfold lgDo; rw [if_neg (by simp [h]), if_neg (by simpa using h1), if_pos h2]
theorem lgDo_full (h : g.stop = false) (h1 : (doR R g.cop a).1 = 0) (h2 : (doR R g.cop a).2.2.n ≠ g.cop.n) (h3 : 31 ≤ g.cs.length) : lgDo R g a n = (4, sNo, g) := by unfold lgDo; rw [if_neg (by simp [h]), if_neg (by simpa using h1), if_neg h2, if_pos h3]
theorem lgDo_last (h : g.stop = false) (h1 : (doR R g.cop a).1 = 0) (h2 : (doR R g.cop a).2.2.n ≠ g.cop.n) (h3 : ¬ 31 ≤ g.cs.length) (h4 : g.left = 0) : lgDo R g a n = (6, sNo, { g with half := n / 2, stop := true }) := by unfold lgDo; rw [if_neg (by simp [h]), if_neg (by simpa using h1), if_neg h2, if_neg h3, if_pos h4]
theorem lgDo_did (h : g.stop = false) (h1 : (doR R g.cop a).1 = 0) (h2 : (doR R g.cop a).2.2.n ≠ g.cop.n) (h3 : ¬ 31 ≤ g.cs.length) (h4 : g.left ≠ 0) : lgDo R g a n = (0, (doR R g.cop a).2.1, { g with cs := g.cs ++ [(doR R g.cop a).2.2], ms := g.ms ++ [g.bytes + n], left := lessS g.left }) := by unfold lgDo; rw [if_neg (by simp [h]), if_neg (by simpa using h1), if_neg h2, if_neg h3, if_neg h4]
/-- what does no fault does one deed, or is the last again -/
theorem doR_n (hc : (doR R g.cop a).1 = 0) : (doR R g.cop a).2.2.n = g.cop.n ∧ (doR R g.cop a).2.2 = g.cop ∨ (doR R g.cop a).2.2.n = g.cop.n + 1 ∧ a.seq = (g.cop.g a.who).1 + 1 ∧ (doR R g.cop a).2.2 = g.cop.did a (deedS g.cop.l a) (deedL g.cop.l a) := by
  rcases doR_ways R g.cop a with q | ⟨q1, q2⟩ | ⟨q1, q2, q3⟩ | ⟨q1, q2, q3, q4⟩ | ⟨q1, q2, q3, q4⟩
  · rw [doR_bad q] at hc; exact absurd hc q
  · rw [doR_again q1 q2]; exact Or.inl ⟨rfl, rfl⟩
  · rw [doR_state q1 q2 q3] at hc; exact absurd hc (by simp)
  · rw [doR_did q1 q2 q3 q4]; exact Or.inr ⟨rfl, q3, rfl⟩
  · rw [doR_denied q1 q2 q3 q4] at hc; exact absurd hc (by simp)
theorem Lg.Ok.act (h : g.Ok R) (h2 : 2 ≤ n) (h6 : n ≤ 1000000) : (lgDo R g a n).2.2.Ok R := by
  have hl := h.len
  have hp := h.pos
  cases hs : g.stop
  · by_cases q1 : (doR R g.cop a).1 = 0
    · by_cases q2 : (doR R g.cop a).2.2.n = g.cop.n
      · rw [lgDo_again hs q1 q2]; exact h
      · by_cases q3 : 31 ≤ g.cs.length
        · rw [lgDo_full hs q1 q2 q3]; exact h
        · by_cases q4 : g.left = 0
          · rw [lgDo_last hs q1 q2 q3 q4]
            exact ⟨h.len, h.pos, h.few, h.first, h.zero, h.cops, h.up, h.safe, fun e => by simp at e, by show n / 2 ≤ _; omega⟩
          · rw [lgDo_did hs q1 q2 q3 q4]
            obtain ⟨e1, e2⟩ := h.cop_ok
            rcases doR_n q1 with ⟨r1, _⟩ | ⟨r1, r2, r3⟩
            · exact absurd r1 q2
            · refine ⟨by simp [hl], by simp, by simp; omega, ?_, ?_, fun i hi => ?_, fun i hi => ?_, List.mem_append_left _ h.safe, fun _ => h.whole hs, h.small⟩
              · show (g.cs ++ _)[0]? = _
                rw [List.getElem?_append_left (by omega)]; exact h.first
              · show (g.ms ++ _)[0]? = _
                rw [List.getElem?_append_left (by omega)]; exact h.zero
              · by_cases hi2 : i < g.cs.length
                · show ((g.cs ++ _)[i]).Ok ∧ ((g.cs ++ _)[i]).n = i
                  rw [List.getElem_append_left hi2]
                  exact h.cops i hi2
                · have hi3 : i = g.cs.length := by simp at hi; omega
                  subst hi3
                  show ((g.cs ++ _)[g.cs.length]).Ok ∧ ((g.cs ++ _)[g.cs.length]).n = g.cs.length
                  simp only [List.getElem_concat_length]
                  exact ⟨by rw [r3]; exact e1.did r2, by omega⟩
              · have hb := h.bytes_at
                have hw := h.whole hs
                by_cases hi2 : i + 1 < g.ms.length
                · show (g.ms ++ _)[i] + 2 ≤ (g.ms ++ _)[i + 1] ∧ _
                  rw [List.getElem_append_left hi2, List.getElem_append_left (by omega)]
                  exact h.up i hi2
                · have hi3 : i + 1 = g.ms.length := by simp at hi; omega
                  have hi4 : i = g.ms.length - 1 := by omega
                  subst hi4
                  have e5 : (g.ms ++ [g.bytes + n])[g.ms.length - 1 + 1]'(by simp; omega) = g.bytes + n := by
                    rw [List.getElem_append_right (by omega)]; simp
                  show (g.ms ++ _)[g.ms.length - 1] + 2 ≤ (g.ms ++ _)[g.ms.length - 1 + 1] ∧ _
                  rw [List.getElem_append_left (by omega), e5]
                  omega
    · rw [lgDo_bad hs q1]; exact h
  · rw [lgDo_stop hs]; exact h
theorem Lg.Ok.sync (h : g.Ok R) : (lgSync g).2.Ok R := by
  unfold lgSync
  cases hs : g.stop
  · simp only [Bool.false_eq_true, if_false]
    split
    · exact ⟨h.len, h.pos, h.few, h.first, h.zero, h.cops, h.up, h.safe, fun e => by simp at e, h.small⟩
    · refine ⟨h.len, h.pos, h.few, h.first, h.zero, h.cops, h.up, ?_, fun _ => h.whole hs, h.small⟩
      show g.bytes ∈ g.ms
      rw [h.bytes_at, h.whole hs, Nat.add_zero]
      exact List.getElem_mem _
  · simp only [if_true]; exact h
theorem Lg.Ok.fail (h : g.Ok R) (m : Int) : (lgFail g m).Ok R := ⟨h.len, h.pos, h.few, h.first, h.zero, h.cops, h.up, h.safe, h.whole, h.small⟩
end

/-- how many are left -/
theorem upTo_le (ms : List Nat) (h : Nat) : upTo ms h ≤ ms.length := (List.takeWhile_prefix _).length_le
theorem upTo_in : ∀ {ms : List Nat} {h i : Nat} (hi : i < upTo ms h), ms[i]'(Nat.lt_of_lt_of_le hi (upTo_le ms h)) ≤ h
  | [], h, i, hi => by simp [upTo] at hi
  | m :: ms, h, i, hi => by
    by_cases hm : m ≤ h
    · have e : upTo (m :: ms) h = upTo ms h + 1 := by unfold upTo; simp [hm]
      cases i with
      | zero => exact hm
      | succ i => exact upTo_in (ms := ms) (by omega)
    · have e : upTo (m :: ms) h = 0 := by unfold upTo; simp [hm]
      omega
theorem upTo_out {ms : List Nat} {h : Nat} (hl : upTo ms h < ms.length) : h < ms[upTo ms h] := by
  induction ms with
  | nil => simp at hl
  | cons m ms ih =>
    by_cases hm : m ≤ h
    · have e : upTo (m :: ms) h = upTo ms h + 1 := by unfold upTo; simp [hm]
      simp only [e] at hl ⊢
      simp only [List.getElem_cons_succ]
      exact ih (by simpa using hl)
    · have e : upTo (m :: ms) h = 0 := by unfold upTo; simp [hm]
      simp only [e]
      simpa using hm
section
variable {R : List Rul} {g : Lg}
theorem Lg.Ok.upTo_pos (h : g.Ok R) (k : Nat) : 0 < upTo g.ms k := by
  have h0 := h.zero
  cases hm : g.ms with
  | nil => rw [hm] at h0; simp at h0
  | cons m ms =>
    rw [hm] at h0
    simp at h0
    subst h0
    unfold upTo
    simp
/-- all that are as many bytes, and no more -/
theorem Lg.Ok.upTo_iff (h : g.Ok R) (k i : Nat) (hi : i < g.ms.length) : g.ms[i] ≤ k ↔ i < upTo g.ms k := by
  constructor
  · intro hk
    by_cases q : i < upTo g.ms k
    · exact q
    · have hl : upTo g.ms k < g.ms.length := by omega
      have h1 := upTo_out hl
      have h2 := h.mono (upTo g.ms k) i hl hi (by omega)
      omega
  · exact fun q => upTo_in q
theorem Lg.Ok.crash (h : g.Ok R) (keep : Int) : (lgCrash g keep).Ok R := by
  obtain ⟨k, hk⟩ : ∃ k, k = upTo g.ms (lgHigh g keep) := ⟨_, rfl⟩
  have h1 := h.upTo_pos (lgHigh g keep)
  have h2 := upTo_le g.ms (lgHigh g keep)
  have hl := h.len
  rw [← hk] at h1 h2
  have e : lgCrash g keep = ⟨g.cs.take k, g.ms.take k, 0, (g.ms.take k).getLastD 0, -1, false⟩ := by unfold lgCrash; rw [← hk]
  rw [e]
  have hm : (g.ms.take k).length = k := by rw [List.length_take]; omega
  refine ⟨by simp [hl], by rw [hm]; exact h1, by have := h.few; rw [hm]; omega, ?_, ?_, fun i hi => ?_, fun i hi => ?_, ?_, fun _ => rfl, Nat.zero_le _⟩
  · show (g.cs.take k)[0]? = _
    rw [List.getElem?_take_of_lt h1]; exact h.first
  · show (g.ms.take k)[0]? = _
    rw [List.getElem?_take_of_lt h1]; exact h.zero
  · show ((g.cs.take k)[i]).Ok ∧ ((g.cs.take k)[i]).n = i
    rw [List.getElem_take]
    exact h.cops i _
  · show (g.ms.take k)[i] + 2 ≤ (g.ms.take k)[i + 1] ∧ _
    rw [List.getElem_take, List.getElem_take]
    exact h.up i _
  · show (g.ms.take k).getLastD 0 ∈ g.ms.take k
    rw [getLastD_of (by omega)]
    exact List.getElem_mem _
/-- where all is safe nothing is lost -/
theorem Lg.Ok.safe_all (h : g.Ok R) (hs : g.safe = g.bytes) (keep : Int) : (lgCrash g keep).cs = g.cs := by
  have e : upTo g.ms (lgHigh g keep) = g.ms.length := by
    have h1 := upTo_le g.ms (lgHigh g keep)
    by_cases q : upTo g.ms (lgHigh g keep) < g.ms.length
    · have h2 := upTo_out q
      have h3 := h.mono _ (g.ms.length - 1) q (by omega) (by omega)
      have h4 := h.bytes_at
      have h5 : lgHigh g keep = g.bytes := by unfold lgHigh; omega
      omega
    · omega
  unfold lgCrash
  simp only [e, ← h.len, List.take_length]
end

end Go.Proofs.YtlefhfmckimlaajGreatDoor.M
