/-
  Plain facts on a log that keeps what a copy did: what it answers, and what it is behind each call. No program is walked here.
  Plain facts on a log's records as bytes: a line each; the lines of what is left of them are those of the first so many. No program is walked here.
-/
import Derived.Test.YtlefhfmckimlaakGreatDoorCopMath
import Derived.Lib.IndexLaws
set_option linter.unusedVariables false
namespace Go.Proofs.YtlefhfmckimlaakGreatDoor.M

/-- a log: the copies behind none, one, two .. records, the bytes behind each, the bytes of half a record, how many are safe, how many steps are ahead of the one that stops it (below 0: none does), and whether it has stopped -/
structure Lg where
  cs : List Cop
  ms : List Nat
  half : Nat
  safe : Nat
  left : Int
  stop : Bool
def Lg.new : Lg := ⟨[Cop.new], [0], 0, 0, -1, false⟩
def Lg.cop (g : Lg) : Cop := g.cs.getLastD Cop.new
def Lg.bytes (g : Lg) : Nat := g.ms.getLastD 0 + g.half
/-- one step less -/
def lessS (n : Int) : Int := if 0 < n then n - 1 else n
/-- what Do answers, where the record has n bytes: the fault, the text, and what it is then -/
def lgDo (R : List Rul) (g : Lg) (a : Ask) (n : Nat) : Int × ByteArray × Lg :=
  if g.stop = true then (6, sNo, g)
  else if (doR R g.cop a).1 ≠ 0 then ((doR R g.cop a).1, sNo, g)
  else if (doR R g.cop a).2.2.n = g.cop.n then (0, (doR R g.cop a).2.1, g)
  else if 31 ≤ g.cs.length then (4, sNo, g)
  else if g.left = 0 then (6, sNo, { g with half := n / 2, stop := true })
  else (0, (doR R g.cop a).2.1, { g with cs := g.cs ++ [(doR R g.cop a).2.2], ms := g.ms ++ [g.bytes + n], left := lessS g.left })
def lgSync (g : Lg) : Int × Lg :=
  if g.stop = true then (6, g) else if g.left = 0 then (6, { g with stop := true }) else (0, { g with safe := g.bytes, left := lessS g.left })
def lgFail (g : Lg) (n : Int) : Lg := { g with left := n }
/-- so many bytes are left of it -/
def lgHigh (g : Lg) (keep : Int) : Nat := g.safe + min keep.toNat (g.bytes - g.safe)
/-- so many copies are left: those behind which so many bytes are -/
def upTo (ms : List Nat) (h : Nat) : Nat := (ms.takeWhile (· ≤ h)).length
def lgCrash (g : Lg) (keep : Int) : Lg :=
  let k := upTo g.ms (lgHigh g keep)
  ⟨g.cs.take k, g.ms.take k, 0, (g.ms.take k).getLastD 0, -1, false⟩

/-- a log as it may come to be -/
structure Lg.Ok (R : List Rul) (g : Lg) : Prop where
  len : g.cs.length = g.ms.length
  pos : 0 < g.ms.length
  few : g.ms.length ≤ 31
  first : g.cs[0]? = some Cop.new
  zero : g.ms[0]? = some 0
  cops : ∀ i (h : i < g.cs.length), g.cs[i].Ok ∧ g.cs[i].n = i
  up : ∀ i (h : i + 1 < g.ms.length), g.ms[i] + 2 ≤ g.ms[i + 1] ∧ g.ms[i + 1] ≤ g.ms[i] + 1000000
  safe : g.safe ∈ g.ms
  whole : g.stop = false → g.half = 0
  small : g.half ≤ 1000000
section
variable {R : List Rul} {g : Lg} {a : Ask} {n : Nat}
theorem Lg.new_ok (R : List Rul) : Lg.new.Ok R := ⟨rfl, by decide, by decide, rfl, rfl, fun i h => by
  have e : i = 0 := by simp [Lg.new] at h; omega
  subst e
  exact ⟨Cop.new_ok, rfl⟩, fun i h => by simp [Lg.new] at h, by simp [Lg.new], fun _ => rfl, by simp [Lg.new]⟩
theorem getLastD_of {α : Type} {l : List α} {d : α} (h : 0 < l.length) : l.getLastD d = l[l.length - 1] := by
  cases l with
  | nil => simp at h
  | cons a l => simp [List.getLastD, List.getLast_eq_getElem]
theorem Lg.Ok.cop_at (h : g.Ok R) : g.cop = g.cs[g.cs.length - 1]'(by have := h.len; have := h.pos; omega) := getLastD_of (by have := h.len; have := h.pos; omega)
theorem Lg.Ok.cop_ok (h : g.Ok R) : g.cop.Ok ∧ g.cop.n + 1 = g.cs.length := by
  have h1 := h.len
  have h2 := h.pos
  rw [h.cop_at]
  obtain ⟨e1, e2⟩ := h.cops (g.cs.length - 1) (by omega)
  exact ⟨e1, by omega⟩
theorem Lg.Ok.bytes_at (h : g.Ok R) : g.bytes = g.ms[g.ms.length - 1]'(by have := h.pos; omega) + g.half := by
  unfold Lg.bytes
  rw [getLastD_of h.pos]
theorem Lg.Ok.mono (h : g.Ok R) : ∀ i j (hi : i < g.ms.length) (hj : j < g.ms.length), i ≤ j → g.ms[i] + 2 * (j - i) ≤ g.ms[j] := fun i j hi hj hij => by
  induction j with
  | zero => have : i = 0 := by omega
            subst this; simp
  | succ j ih =>
    by_cases e : i = j + 1
    · subst e; simp
    · have := ih (by omega) (by omega)
      have := (h.up j hj).1
      omega
theorem Lg.Ok.low (h : g.Ok R) : ∀ i (hi : i < g.ms.length), g.ms[i] ≤ i * 1000000 := fun i => by
  induction i with
  | zero => intro hi; have := h.zero; rw [List.getElem?_eq_getElem hi] at this; simp at this; omega
  | succ i ih =>
    intro hi
    have h1 := ih (by omega)
    have h2 := (h.up i hi).2
    omega
theorem Lg.Ok.bytes_le (h : g.Ok R) : g.bytes ≤ 32000000 := by
  have h1 := h.low (g.ms.length - 1) (by have := h.pos; omega)
  have h2 := h.few
  have h3 := h.small
  rw [h.bytes_at]
  have : (g.ms.length - 1) * 1000000 ≤ 30 * 1000000 := Nat.mul_le_mul_right _ (by omega)
  omega
theorem Lg.Ok.safe_le (h : g.Ok R) : g.safe ≤ g.bytes := by
  obtain ⟨i, hi, e⟩ := List.getElem_of_mem h.safe
  have := h.mono i (g.ms.length - 1) hi (by omega) (by omega)
  rw [h.bytes_at, ← e]
  omega
/-- the ways of Do -/
theorem lgDo_stop (h : g.stop = true) : lgDo R g a n = (6, sNo, g) := by unfold lgDo; rw [if_pos h]
theorem lgDo_bad (h : g.stop = false) (h1 : (doR R g.cop a).1 ≠ 0) : lgDo R g a n = ((doR R g.cop a).1, sNo, g) := by unfold lgDo; rw [if_neg (by simp [h]), if_pos h1]
theorem lgDo_again (h : g.stop = false) (h1 : (doR R g.cop a).1 = 0) (h2 : (doR R g.cop a).2.2.n = g.cop.n) : lgDo R g a n = (0, (doR R g.cop a).2.1, g) := by unfold lgDo; rw [if_neg (by simp [h]), if_neg (by simpa using h1), if_pos h2]
theorem lgDo_full (h : g.stop = false) (h1 : (doR R g.cop a).1 = 0) (h2 : (doR R g.cop a).2.2.n ≠ g.cop.n) (h3 : 31 ≤ g.cs.length) : lgDo R g a n = (4, sNo, g) := by unfold lgDo; rw [if_neg (by simp [h]), if_neg (by simpa using h1), if_neg h2, if_pos h3]
theorem lgDo_last (h : g.stop = false) (h1 : (doR R g.cop a).1 = 0) (h2 : (doR R g.cop a).2.2.n ≠ g.cop.n) (h3 : ¬ 31 ≤ g.cs.length) (h4 : g.left = 0) : lgDo R g a n = (6, sNo, { g with half := n / 2, stop := true }) := by unfold lgDo; rw [if_neg (by simp [h]), if_neg (by simpa using h1), if_neg h2, if_neg h3, if_pos h4]
theorem lgDo_did (h : g.stop = false) (h1 : (doR R g.cop a).1 = 0) (h2 : (doR R g.cop a).2.2.n ≠ g.cop.n) (h3 : ¬ 31 ≤ g.cs.length) (h4 : g.left ≠ 0) : lgDo R g a n = (0, (doR R g.cop a).2.1, { g with cs := g.cs ++ [(doR R g.cop a).2.2], ms := g.ms ++ [g.bytes + n], left := lessS g.left }) := by unfold lgDo; rw [if_neg (by simp [h]), if_neg (by simpa using h1), if_neg h2, if_neg h3, if_neg h4]
/-- what does no fault does one deed, or is the last again -/
theorem doR_n (hc : (doR R g.cop a).1 = 0) : (doR R g.cop a).2.2.n = g.cop.n ∧ (doR R g.cop a).2.2 = g.cop ∨ (doR R g.cop a).2.2.n = g.cop.n + 1 ∧ a.seq = (g.cop.g a.who).1 + 1 ∧ (doR R g.cop a).2.2 = g.cop.did a (deedS g.cop.l a) (deedL g.cop.l a) := by
  rcases doR_ways R g.cop a with q | ⟨q1, q2⟩ | ⟨q1, q2, q3⟩ | ⟨q1, q2, q3, q4⟩ | ⟨q1, q2, q3, q4⟩
  · rw [doR_bad q] at hc; exact absurd hc q
  · rw [doR_again q1 q2]; exact Or.inl ⟨rfl, rfl⟩
  · rw [doR_state q1 q2 q3] at hc; exact absurd hc (by simp)
  · rw [doR_did q1 q2 q3 q4]; exact Or.inr ⟨rfl, q3, rfl⟩
  · rw [doR_denied q1 q2 q3 q4] at hc; exact absurd hc (by simp)
theorem Lg.Ok.act (h : g.Ok R) (h2 : 2 ≤ n) (h6 : n ≤ 1000000) : (lgDo R g a n).2.2.Ok R := by
  have hl := h.len
  have hp := h.pos
  cases hs : g.stop
  · by_cases q1 : (doR R g.cop a).1 = 0
    · by_cases q2 : (doR R g.cop a).2.2.n = g.cop.n
      · rw [lgDo_again hs q1 q2]; exact h
      · by_cases q3 : 31 ≤ g.cs.length
        · rw [lgDo_full hs q1 q2 q3]; exact h
        · by_cases q4 : g.left = 0
          · rw [lgDo_last hs q1 q2 q3 q4]
            exact ⟨h.len, h.pos, h.few, h.first, h.zero, h.cops, h.up, h.safe, fun e => by simp at e, by show n / 2 ≤ _; omega⟩
          · rw [lgDo_did hs q1 q2 q3 q4]
            obtain ⟨e1, e2⟩ := h.cop_ok
            rcases doR_n q1 with ⟨r1, _⟩ | ⟨r1, r2, r3⟩
            · exact absurd r1 q2
            · refine ⟨by simp [hl], by simp, by simp; omega, ?_, ?_, fun i hi => ?_, fun i hi => ?_, List.mem_append_left _ h.safe, fun _ => h.whole hs, h.small⟩
              · show (g.cs ++ _)[0]? = _
                rw [List.getElem?_append_left (by omega)]; exact h.first
              · show (g.ms ++ _)[0]? = _
                rw [List.getElem?_append_left (by omega)]; exact h.zero
              · by_cases hi2 : i < g.cs.length
                · show ((g.cs ++ _)[i]).Ok ∧ ((g.cs ++ _)[i]).n = i
                  rw [List.getElem_append_left hi2]
                  exact h.cops i hi2
                · have hi3 : i = g.cs.length := by simp at hi; omega
                  subst hi3
                  show ((g.cs ++ _)[g.cs.length]).Ok ∧ ((g.cs ++ _)[g.cs.length]).n = g.cs.length
                  simp only [List.getElem_concat_length]
                  exact ⟨by rw [r3]; exact e1.did r2, by omega⟩
              · have hb := h.bytes_at
                have hw := h.whole hs
                by_cases hi2 : i + 1 < g.ms.length
                · show (g.ms ++ _)[i] + 2 ≤ (g.ms ++ _)[i + 1] ∧ _
                  rw [List.getElem_append_left hi2, List.getElem_append_left (by omega)]
                  exact h.up i hi2
                · have hi3 : i + 1 = g.ms.length := by simp at hi; omega
                  have hi4 : i = g.ms.length - 1 := by omega
                  subst hi4
                  have e5 : (g.ms ++ [g.bytes + n])[g.ms.length - 1 + 1]'(by simp; omega) = g.bytes + n := by
                    rw [List.getElem_append_right (by omega)]; simp
                  show (g.ms ++ _)[g.ms.length - 1] + 2 ≤ (g.ms ++ _)[g.ms.length - 1 + 1] ∧ _
                  rw [List.getElem_append_left (by omega), e5]
                  omega
    · rw [lgDo_bad hs q1]; exact h
  · rw [lgDo_stop hs]; exact h
theorem Lg.Ok.sync (h : g.Ok R) : (lgSync g).2.Ok R := by
  unfold lgSync
  cases hs : g.stop
  · simp only [Bool.false_eq_true, if_false]
    split
    · exact ⟨h.len, h.pos, h.few, h.first, h.zero, h.cops, h.up, h.safe, fun e => by simp at e, h.small⟩
    · refine ⟨h.len, h.pos, h.few, h.first, h.zero, h.cops, h.up, ?_, fun _ => h.whole hs, h.small⟩
      show g.bytes ∈ g.ms
      rw [h.bytes_at, h.whole hs, Nat.add_zero]
      exact List.getElem_mem _
  · simp only [if_true]; exact h
theorem Lg.Ok.fail (h : g.Ok R) (m : Int) : (lgFail g m).Ok R := ⟨h.len, h.pos, h.few, h.first, h.zero, h.cops, h.up, h.safe, h.whole, h.small⟩
end

/-- how many are left -/
theorem upTo_le (ms : List Nat) (h : Nat) : upTo ms h ≤ ms.length := (List.takeWhile_prefix _).length_le
theorem upTo_in : ∀ {ms : List Nat} {h i : Nat} (hi : i < upTo ms h), ms[i]'(Nat.lt_of_lt_of_le hi (upTo_le ms h)) ≤ h
  | [], h, i, hi => by simp [upTo] at hi
  | m :: ms, h, i, hi => by
    by_cases hm : m ≤ h
    · have e : upTo (m :: ms) h = upTo ms h + 1 := by unfold upTo; simp [hm]
      cases i with
      | zero => exact hm
      | succ i => exact upTo_in (ms := ms) (by omega)
    · have e : upTo (m :: ms) h = 0 := by unfold upTo; simp [hm]
      omega
theorem upTo_out {ms : List Nat} {h : Nat} (hl : upTo ms h < ms.length) : h < ms[upTo ms h] := by
  induction ms with
  | nil => simp at hl
  | cons m ms ih =>
    by_cases hm : m ≤ h
    · have e : upTo (m :: ms) h = upTo ms h + 1 := by unfold upTo; simp [hm]
      simp only [e] at hl ⊢
      simp only [List.getElem_cons_succ]
      exact ih (by simpa using hl)
    · have e : upTo (m :: ms) h = 0 := by unfold upTo; simp [hm]
      simp only [e]
      simpa using hm
section
variable {R : List Rul} {g : Lg}
theorem Lg.Ok.upTo_pos (h : g.Ok R) (k : Nat) : 0 < upTo g.ms k := by
  have h0 := h.zero
  cases hm : g.ms with
  | nil => rw [hm] at h0; simp at h0
  | cons m ms =>
    rw [hm] at h0
    simp at h0
    subst h0
    unfold upTo
    simp
/-- all that are as many bytes, and no more -/
theorem Lg.Ok.upTo_iff (h : g.Ok R) (k i : Nat) (hi : i < g.ms.length) : g.ms[i] ≤ k ↔ i < upTo g.ms k := by
  constructor
  · intro hk
    by_cases q : i < upTo g.ms k
    · exact q
    · have hl : upTo g.ms k < g.ms.length := by omega
      have h1 := upTo_out hl
      have h2 := h.mono (upTo g.ms k) i hl hi (by omega)
      omega
  · exact fun q => upTo_in q
theorem Lg.Ok.crash (h : g.Ok R) (keep : Int) : (lgCrash g keep).Ok R := by
  obtain ⟨k, hk⟩ : ∃ k, k = upTo g.ms (lgHigh g keep) := ⟨_, rfl⟩
  have h1 := h.upTo_pos (lgHigh g keep)
  have h2 := upTo_le g.ms (lgHigh g keep)
  have hl := h.len
  rw [← hk] at h1 h2
  have e : lgCrash g keep = ⟨g.cs.take k, g.ms.take k, 0, (g.ms.take k).getLastD 0, -1, false⟩ := by unfold lgCrash; rw [← hk]
  rw [e]
  have hm : (g.ms.take k).length = k := by rw [List.length_take]; omega
  refine ⟨by simp [hl], by rw [hm]; exact h1, by have := h.few; rw [hm]; omega, ?_, ?_, fun i hi => ?_, fun i hi => ?_, ?_, fun _ => rfl, Nat.zero_le _⟩
  · show (g.cs.take k)[0]? = _
    rw [List.getElem?_take_of_lt h1]; exact h.first
  · show (g.ms.take k)[0]? = _
    rw [List.getElem?_take_of_lt h1]; exact h.zero
  · show ((g.cs.take k)[i]).Ok ∧ ((g.cs.take k)[i]).n = i
    rw [List.getElem_take]
    exact h.cops i _
  · show (g.ms.take k)[i] + 2 ≤ (g.ms.take k)[i + 1] ∧ _
    rw [List.getElem_take, List.getElem_take]
    exact h.up i _
  · show (g.ms.take k).getLastD 0 ∈ g.ms.take k
    rw [getLastD_of (by omega)]
    exact List.getElem_mem _
/-- where all is safe nothing is lost -/
theorem Lg.Ok.safe_all (h : g.Ok R) (hs : g.safe = g.bytes) (keep : Int) : (lgCrash g keep).cs = g.cs := by
  have e : upTo g.ms (lgHigh g keep) = g.ms.length := by
    have h1 := upTo_le g.ms (lgHigh g keep)
    by_cases q : upTo g.ms (lgHigh g keep) < g.ms.length
    · have h2 := upTo_out q
      have h3 := h.mono _ (g.ms.length - 1) q (by omega) (by omega)
      have h4 := h.bytes_at
      have h5 : lgHigh g keep = g.bytes := by unfold lgHigh; omega
      omega
    · omega
  unfold lgCrash
  simp only [e, ← h.len, List.take_length]
end

end Go.Proofs.YtlefhfmckimlaakGreatDoor.M

set_option linter.unusedVariables false
namespace Go.Proofs.YtlefhfmckimlaakGreatDoor.M

/-- a record without its end: who asks, the Seq, the deed, the tuple, a blank between -/
def recL (a : Ask) : List UInt8 := Lib.itoa a.who ++ 32 :: (Lib.itoa a.seq ++ 32 :: (Lib.itoa a.deed ++ 32 :: (line a.t).data.toList))
def recE (a : Ask) : List UInt8 := recL a ++ [10]
/-- records, one behind the other -/
def keptL : List Ask → List UInt8
  | [] => []
  | a :: l => recE a ++ keptL l
theorem keptL_snoc : ∀ (l : List Ask) (a : Ask), keptL (l ++ [a]) = keptL l ++ recE a
  | [], a => by simp [keptL]
  | b :: l, a => by simp [keptL, keptL_snoc l a]
/-- one that may be in a record -/
structure RecOk (a : Ask) : Prop where
  ask : askF a = 0
  lo : 0 ≤ a.seq
  hi : a.seq ≤ 1000

/-- a number's bytes -/
theorem itoa_bytes {n : Int} (h1 : -1000000 ≤ n) (h2 : n ≤ 1000000) : (∀ c ∈ Lib.itoa n, c = 45 ∨ digC c = true) ∧ 1 ≤ (Lib.itoa n).length ∧ (Lib.itoa n).length ≤ 8 := by
  obtain ⟨i1, _⟩ := num_itoa n h1 h2
  obtain ⟨g1, g2, g3, _⟩ := isNum_parts i1
  cases hl : Lib.itoa n with
  | nil => rw [hl] at g1; simp [digs, isMinus] at g1
  | cons a r =>
    rw [hl] at g1 g2 g3
    by_cases e : a = 45
    · subst e
      have e2 : digs (45 :: r) = r := rfl
      rw [e2] at g1 g2 g3
      refine ⟨fun c hc => ?_, by simp, by simp; omega⟩
      rcases List.mem_cons.1 hc with q | q
      · exact Or.inl q
      · exact Or.inr (List.all_eq_true.1 g3 c q)
    · have em : isMinus (a :: r) = false := by simpa [isMinus] using e
      have e2 : digs (a :: r) = a :: r := by unfold digs; rw [em]; rfl
      rw [e2] at g1 g2 g3
      exact ⟨fun c hc => Or.inr (List.all_eq_true.1 g3 c hc), g1, by simp at g2 ⊢; omega⟩
theorem itoa_none {n : Int} (h1 : -1000000 ≤ n) (h2 : n ≤ 1000000) : 32 ∉ Lib.itoa n ∧ 10 ∉ Lib.itoa n := by
  obtain ⟨h, _⟩ := itoa_bytes h1 h2
  refine ⟨fun q => ?_, fun q => ?_⟩
  · rcases h _ q with e | e <;> revert e <;> decide
  · rcases h _ q with e | e <;> revert e <;> decide
theorem word_no_end {v : Val} (h : v.fault = 0) : 10 ∉ v.word.data.toList := by
  obtain ⟨k, n, s⟩ := v
  simp only [Val.fault] at h
  simp only [Val.word]
  intro hm
  rcases fault_kind h with rfl | rfl | rfl
  · obtain ⟨n1, n2, _⟩ := fault_num h
    have hd : (word 0 n s).data.toList = Lib.itoa n := by show (⟨(Lib.itoa n).toArray⟩ : ByteArray).data.toList = _; simp
    rw [hd] at hm
    exact (itoa_none n1 n2).2 hm
  · obtain ⟨_, _, hb⟩ := fault_text h
    have hd : (word 1 n s).data.toList = 58 :: s.data.toList := by
      show ((⟨#[58]⟩ : ByteArray) ++ s).data.toList = _
      simp [ByteArray.data_append]
    rw [hd] at hm
    rcases List.mem_cons.1 hm with hx | hx
    · exact absurd hx (by decide)
    · have : bad s = true := by
        unfold bad; rw [List.any_eq_true]; exact ⟨10, hx, by decide⟩
      rw [hb] at this; exact absurd this (by decide)
  · have hd : (word 2 n s).data.toList = [42] := rfl
    rw [hd] at hm; simp at hm
theorem join_no_end : ∀ (ps : List (List UInt8)), (∀ p ∈ ps, 10 ∉ p) → 10 ∉ joinL ps
  | [], _ => by simp [joinL]
  | [p], h => h p (by simp)
  | p :: q :: r, h => by
    unfold joinL
    intro hm
    rcases List.mem_append.1 hm with e | e
    · exact h p (by simp) e
    · rcases List.mem_cons.1 e with e | e
      · exact absurd e (by decide)
      · exact join_no_end (q :: r) (fun x hx => h x (by simp [hx])) e
theorem line_no_end {l : List Val} (h : likeF l = 0) : 10 ∉ (line l).data.toList := by
  have hd : (line l).data.toList = joinL (l.map fun v => v.word.data.toList) := by simp [line]
  rw [hd]
  refine join_no_end _ fun p hp => ?_
  obtain ⟨v, hv, rfl⟩ := List.mem_map.1 hp
  exact word_no_end (likeF_each h v hv)
section
variable {a : Ask}
theorem RecOk.nums (h : RecOk a) : (-1000000 ≤ a.who ∧ a.who ≤ 1000000) ∧ (-1000000 ≤ a.seq ∧ a.seq ≤ 1000000) ∧ (-1000000 ≤ a.deed ∧ a.deed ≤ 1000000) ∧ likeF a.t = 0 := by
  obtain ⟨h1, h2, h3⟩ := askF_ok h.ask
  have := h.lo
  have := h.hi
  exact ⟨by omega, by omega, by omega, h3⟩
theorem RecOk.no_end (h : RecOk a) : 10 ∉ recL a := by
  obtain ⟨h1, h2, h3, h4⟩ := h.nums
  unfold recL
  intro hm
  rcases List.mem_append.1 hm with e | e
  · exact (itoa_none h1.1 h1.2).2 e
  rcases List.mem_cons.1 e with e | e
  · exact absurd e (by decide)
  rcases List.mem_append.1 e with e | e
  · exact (itoa_none h2.1 h2.2).2 e
  rcases List.mem_cons.1 e with e | e
  · exact absurd e (by decide)
  rcases List.mem_append.1 e with e | e
  · exact (itoa_none h3.1 h3.2).2 e
  rcases List.mem_cons.1 e with e | e
  · exact absurd e (by decide)
  · exact line_no_end h4 e
theorem RecOk.len (h : RecOk a) : 2 ≤ (recE a).length ∧ (recE a).length ≤ 200 := by
  obtain ⟨h1, h2, h3, h4⟩ := h.nums
  have e1 := (itoa_bytes h1.1 h1.2).2
  have e2 := (itoa_bytes h2.1 h2.2).2
  have e3 := (itoa_bytes h3.1 h3.2).2
  have e4 := line_small h4
  have e5 : (line a.t).data.toList.length = (line a.t).size := Array.length_toList
  unfold recE recL
  simp only [List.length_append, List.length_cons, List.length_nil]
  omega
end
theorem keptL_len : ∀ {l : List Ask}, (∀ a ∈ l, RecOk a) → (keptL l).length ≤ l.length * 200
  | [], _ => Nat.zero_le _
  | a :: l, h => by
    have h1 := keptL_len (l := l) (fun x hx => h x (by simp [hx]))
    have h2 := (h a (by simp)).len.2
    simp only [keptL, List.length_append, List.length_cons]
    omega
/-- how many records there are: how many ends -/
theorem keptL_count : ∀ {l : List Ask}, (∀ a ∈ l, RecOk a) → (keptL l).count 10 = l.length
  | [], _ => rfl
  | a :: l, h => by
    have h1 := keptL_count (l := l) (fun x hx => h x (by simp [hx]))
    have h2 := List.count_eq_zero_of_not_mem (h a (by simp)).no_end
    simp only [keptL, recE, List.count_append, h1, h2, List.length_cons]
    simp; omega

/-- the first place of a byte -/
theorem index_at : ∀ (p r : List UInt8) (c : UInt8), c ∉ p → Lib.indexByte (p ++ c :: r) c = p.length
  | [], r, c, _ => by simp [Lib.indexByte]
  | b :: p, r, c, h => by
    have hb : ¬ b = c := fun e => h (by simp [e])
    have ih := index_at p r c (fun e => h (by simp [e]))
    rw [List.cons_append]
    unfold Lib.indexByte
    rw [if_neg (by simpa using hb), ih, if_neg (by first | (simp; done) | (simp; omega))]
    simp
theorem index_no : ∀ (p : List UInt8) (c : UInt8), c ∉ p → Lib.indexByte p c = -1
  | [], c, _ => rfl
  | b :: p, c, h => by
    have hb : ¬ b = c := fun e => h (by simp [e])
    have ih := index_no p c (fun e => h (by simp [e]))
    unfold Lib.indexByte
    rw [if_neg (by simpa using hb), ih]
    rfl

/-- the whole lines of a text, without their ends -/
def lnsA : List UInt8 → List UInt8 → List (List UInt8)
  | _, [] => []
  | p, c :: r => if c = 10 then p :: lnsA [] r else lnsA (p ++ [c]) r
def lns (l : List UInt8) : List (List UInt8) := lnsA [] l
theorem lnsA_none : ∀ (l p : List UInt8), 10 ∉ l → lnsA p l = []
  | [], _, _ => rfl
  | c :: r, p, h => by
    unfold lnsA
    rw [if_neg (fun e => h (by simp [e])), lnsA_none r _ (fun e => h (by simp [e]))]
theorem lnsA_append : ∀ (q p r : List UInt8), 10 ∉ q → lnsA p (q ++ 10 :: r) = (p ++ q) :: lns r
  | [], p, r, _ => by simp [lnsA, lns]
  | c :: q, p, r, h => by
    rw [List.cons_append]
    unfold lnsA
    rw [if_neg (fun e => h (by simp [e])), lnsA_append q _ r (fun e => h (by simp [e]))]
    simp
theorem lns_none {l : List UInt8} (h : 10 ∉ l) : lns l = [] := lnsA_none l [] h
theorem lns_append {q r : List UInt8} (h : 10 ∉ q) : lns (q ++ 10 :: r) = q :: lns r := by
  unfold lns
  rw [lnsA_append q [] r h]
  simp [lns]

/-- how many records are whole among so many bytes -/
def cntW : Nat → List Ask → Nat
  | _, [] => 0
  | h, a :: l => if (recE a).length ≤ h then cntW (h - (recE a).length) l + 1 else 0
theorem cntW_le : ∀ (h : Nat) (l : List Ask), cntW h l ≤ l.length
  | _, [] => Nat.le_refl _
  | h, a :: l => by
    unfold cntW
    have := cntW_le (h - (recE a).length) l
    split
    · simp; omega
    · exact Nat.zero_le _
/-- the lines of what is left are the first records -/
theorem lns_take : ∀ (l : List Ask) (half : List UInt8) (h : Nat), (∀ a ∈ l, RecOk a) → 10 ∉ half → lns ((keptL l ++ half).take h) = (l.take (cntW h l)).map recL
  | [], half, h, _, hh => by
    simp only [keptL, List.nil_append, cntW, List.take_zero, List.map_nil]
    exact lns_none (fun e => hh (List.mem_of_mem_take e))
  | a :: l, half, h, ha, hh => by
    have hno := (ha a (by simp)).no_end
    by_cases hl : (recE a).length ≤ h
    · have ih := lns_take l half (h - (recE a).length) (fun x hx => ha x (by simp [hx])) hh
      have e1 : (keptL (a :: l) ++ half).take h = recL a ++ 10 :: ((keptL l ++ half).take (h - (recE a).length)) := by
        show ((recE a ++ keptL l) ++ half).take h = _
        rw [List.append_assoc, List.take_append, List.take_of_length_le hl]
        simp [recE]
      have e2 : cntW h (a :: l) = cntW (h - (recE a).length) l + 1 := by show (if _ then _ else _) = _; rw [if_pos hl]
      rw [e1, lns_append hno, ih, e2]
      rfl
    · have e1 : (keptL (a :: l) ++ half).take h = (recL a).take h := by
        show ((recE a ++ keptL l) ++ half).take h = _
        rw [List.append_assoc, List.take_append_of_le_length (by omega)]
        unfold recE at hl ⊢
        rw [List.take_append_of_le_length (by simp at hl; omega)]
      have e2 : cntW h (a :: l) = 0 := by show (if _ then _ else _) = _; rw [if_neg hl]
      rw [e1, lns_none (fun e => hno (List.mem_of_mem_take e)), e2]
      rfl

/-- the bytes behind each record; the copies -/
def msOf : Nat → List Ask → List Nat
  | o, [] => [o]
  | o, a :: l => o :: msOf (o + (recE a).length) l
def csOf (R : List Rul) : Cop → List Ask → List Cop
  | c, [] => [c]
  | c, a :: l => c :: csOf R (doR R c a).2.2 l
/-- each was done -/
def Dones (R : List Rul) : Cop → List Ask → Prop
  | _, [] => True
  | c, a :: l => ((doR R c a).1 = 0 ∧ (doR R c a).2.2.n = c.n + 1) ∧ Dones R (doR R c a).2.2 l
/-- what a copy is behind them -/
def runs (R : List Rul) (l : List Ask) : Cop := l.foldl (fun c a => (doR R c a).2.2) Cop.new
theorem runs_snoc (R : List Rul) (l : List Ask) (a : Ask) : runs R (l ++ [a]) = (doR R (runs R l) a).2.2 := by simp [runs]
theorem runs_ok (R : List Rul) (l : List Ask) : (runs R l).Ok ∧ (runs R l).n ≤ l.length := by
  have : ∀ (l : List Ask) (c : Cop) (k : Nat), c.Ok → c.n ≤ k → (l.foldl (fun c a => (doR R c a).2.2) c).Ok ∧ (l.foldl (fun c a => (doR R c a).2.2) c).n ≤ k + l.length := by
    intro l
    induction l with
    | nil => intro c k h1 h2; exact ⟨h1, by simpa using h2⟩
    | cons a l ih =>
      intro c k h1 h2
      have h3 := doR_many R c a
      obtain ⟨g1, g2⟩ := ih (doR R c a).2.2 (k + 1) h1.next (by omega)
      exact ⟨g1, by simp only [List.foldl_cons, List.length_cons]; omega⟩
  obtain ⟨g1, g2⟩ := this l Cop.new 0 Cop.new_ok (Nat.le_refl _)
  exact ⟨g1, by have : runs R l = l.foldl (fun c a => (doR R c a).2.2) Cop.new := rfl; rw [this]; omega⟩
section
variable {R : List Rul}
theorem msOf_len : ∀ (o : Nat) (l : List Ask), (msOf o l).length = l.length + 1
  | _, [] => rfl
  | o, a :: l => by simp [msOf, msOf_len _ l]
theorem csOf_len : ∀ (c : Cop) (l : List Ask), (csOf R c l).length = l.length + 1
  | _, [] => rfl
  | c, a :: l => by simp [csOf, csOf_len _ l]
theorem msOf_last : ∀ (o : Nat) (l : List Ask), (msOf o l).getLastD 0 = o + (keptL l).length
  | o, [] => by simp [msOf, keptL]
  | o, a :: l => by
    have ih := msOf_last (o + (recE a).length) l
    have hne : msOf (o + (recE a).length) l ≠ [] := by intro e; have := msOf_len (o + (recE a).length) l; rw [e] at this; simp at this
    show (o :: msOf (o + (recE a).length) l).getLastD 0 = _
    rw [List.getLastD_cons]
    cases hm : msOf (o + (recE a).length) l with
    | nil => exact absurd hm hne
    | cons x xs =>
      rw [hm] at ih
      simp only [List.getLastD_cons] at ih ⊢
      rw [ih]
      simp [keptL]; omega
theorem csOf_last : ∀ (c d : Cop) (l : List Ask), (csOf R c l).getLastD d = l.foldl (fun c a => (doR R c a).2.2) c
  | c, d, [] => by simp [csOf]
  | c, d, a :: l => by
    show (c :: csOf R (doR R c a).2.2 l).getLastD d = _
    rw [List.getLastD_cons, csOf_last _ c l]
    rfl
theorem msOf_snoc : ∀ (o : Nat) (l : List Ask) (a : Ask), msOf o (l ++ [a]) = msOf o l ++ [o + (keptL l).length + (recE a).length]
  | o, [], a => by simp [msOf, keptL]
  | o, b :: l, a => by
    simp only [List.cons_append, msOf, msOf_snoc _ l a, keptL, List.length_append]
    congr 3
    omega
theorem csOf_snoc : ∀ (c : Cop) (l : List Ask) (a : Ask), csOf R c (l ++ [a]) = csOf R c l ++ [(doR R (l.foldl (fun c a => (doR R c a).2.2) c) a).2.2]
  | c, [], a => by simp [csOf]
  | c, b :: l, a => by simp only [List.cons_append, csOf, csOf_snoc _ l a, List.foldl_cons]
theorem dones_snoc : ∀ (c : Cop) (l : List Ask) (a : Ask), Dones R c l → (doR R (l.foldl (fun c a => (doR R c a).2.2) c) a).1 = 0 → (doR R (l.foldl (fun c a => (doR R c a).2.2) c) a).2.2.n = (l.foldl (fun c a => (doR R c a).2.2) c).n + 1 → Dones R c (l ++ [a])
  | c, [], a, _, h1, h2 => ⟨⟨h1, h2⟩, trivial⟩
  | c, b :: l, a, h, h1, h2 => ⟨h.1, dones_snoc _ l a h.2 h1 h2⟩
theorem msOf_take : ∀ (o : Nat) (l : List Ask) (k : Nat), (msOf o l).take (k + 1) = msOf o (l.take k)
  | o, [], k => by simp [msOf]
  | o, a :: l, 0 => by simp [msOf]
  | o, a :: l, k + 1 => by simp [msOf, msOf_take _ l k]
theorem csOf_take : ∀ (c : Cop) (l : List Ask) (k : Nat), (csOf R c l).take (k + 1) = csOf R c (l.take k)
  | c, [], k => by simp [csOf]
  | c, a :: l, 0 => by simp [csOf]
  | c, a :: l, k + 1 => by simp [csOf, csOf_take _ l k]
theorem dones_take : ∀ (c : Cop) (l : List Ask) (k : Nat), Dones R c l → Dones R c (l.take k)
  | c, [], k, _ => by simp [Dones]
  | c, a :: l, 0, _ => by simp [Dones]
  | c, a :: l, k + 1, h => ⟨h.1, dones_take _ l k h.2⟩
theorem upTo_ms : ∀ (o h : Nat) (l : List Ask), upTo (msOf o l) (o + h) = cntW h l + 1
  | o, h, [] => by simp [msOf, cntW, upTo]
  | o, h, a :: l => by
    unfold msOf cntW
    have e : ∀ ms : List Nat, upTo (o :: ms) (o + h) = upTo ms (o + h) + 1 := fun ms => by unfold upTo; simp
    rw [e]
    by_cases hl : (recE a).length ≤ h
    · have ih := upTo_ms (o + (recE a).length) (h - (recE a).length) l
      rw [show o + (recE a).length + (h - (recE a).length) = o + h by omega] at ih
      rw [ih, if_pos hl]
    · rw [if_neg hl]
      have : upTo (msOf (o + (recE a).length) l) (o + h) = 0 := by
        cases l with
        | nil => unfold msOf upTo; rw [List.takeWhile_cons_of_neg (by simp; omega)]; rfl
        | cons b l => unfold msOf upTo; rw [List.takeWhile_cons_of_neg (by simp; omega)]; rfl
      rw [this]
end

/-- the records that a log's bytes are -/
structure Recs (R : List Rul) (g : Lg) (l : List Ask) (half : List UInt8) : Prop where
  each : ∀ a ∈ l, RecOk a
  cs : g.cs = csOf R Cop.new l
  ms : g.ms = msOf 0 l
  dones : Dones R Cop.new l
  hal : g.half = half.length
  no : 10 ∉ half
section
variable {R : List Rul} {g : Lg} {l : List Ask} {half : List UInt8}
theorem Recs.cop (h : Recs R g l half) : g.cop = runs R l := by unfold Lg.cop; rw [h.cs, csOf_last]; rfl
theorem Recs.bytes (h : Recs R g l half) : g.bytes = (keptL l ++ half).length := by unfold Lg.bytes; rw [h.ms, msOf_last, h.hal]; simp
theorem Recs.count (h : Recs R g l half) : (keptL l ++ half).count 10 = l.length := by
  rw [List.count_append, keptL_count h.each, List.count_eq_zero_of_not_mem h.no]; rfl
theorem Recs.len (h : Recs R g l half) : g.cs.length = l.length + 1 := by rw [h.cs, csOf_len]
theorem Recs.new (R : List Rul) : Recs R Lg.new [] [] := ⟨fun a ha => by simp at ha, rfl, rfl, trivial, rfl, by simp⟩
/-- behind a crash -/
theorem Recs.crash (h : Recs R g l half) (keep : Int) : Recs R (lgCrash g keep) (l.take (cntW (lgHigh g keep) l)) [] ∧ (lgCrash g keep).safe = (keptL (l.take (cntW (lgHigh g keep) l))).length := by
  have e : upTo g.ms (lgHigh g keep) = cntW (lgHigh g keep) l + 1 := by
    have := upTo_ms 0 (lgHigh g keep) l
    rw [Nat.zero_add, ← h.ms] at this
    exact this
  unfold lgCrash
  simp only [e]
  rw [h.cs, h.ms, csOf_take, msOf_take]
  refine ⟨⟨fun a ha => h.each a (List.mem_of_mem_take ha), rfl, rfl, dones_take _ _ _ h.dones, rfl, by simp⟩, ?_⟩
  rw [msOf_last]; omega
end

end Go.Proofs.YtlefhfmckimlaakGreatDoor.M
