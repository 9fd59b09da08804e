/-
  Plain facts on a log's records as bytes: a line each; the lines of what is left of them are those of the first so many. No program is walked here.
-/
import Derived.Test.YtlefhfmckimlaajGreatDoorLogMath
import Derived.Lib.IndexLaws
set_option linter.unusedVariables false
namespace Go.Proofs.YtlefhfmckimlaajGreatDoor.M

/-- a record without its end: who asks, the Seq, the deed, the tuple, a blank between -/
def recL (a : Ask) : List UInt8 := Lib.itoa a.who ++ 32 :: (Lib.itoa a.seq ++ 32 :: (Lib.itoa a.deed ++ 32 :: (line a.t).data.toList))
def recE (a : Ask) : List UInt8 := recL a ++ [10]
/-- records, one behind the other -/
def keptL : List Ask → List UInt8
  | [] => []
  | a :: l => recE a ++ keptL l
theorem keptL_snoc : ∀ (l : List Ask) (a : Ask), keptL (l ++ [a]) = keptL l ++ recE a
  | [], a => by simp [keptL]
  | b :: l, a => by simp [keptL, keptL_snoc l a]
/-- one that may be in a record -/
structure RecOk (a : Ask) : Prop where
  ask : askF a = 0
  lo : 0 ≤ a.seq
  hi : a.seq ≤ 1000

/-- a number's bytes -/
theorem itoa_bytes {n : Int} (h1 : -1000000 ≤ n) (h2 : n ≤ 1000000) : (∀ c ∈ Lib.itoa n, c = 45 ∨ digC c = true) ∧ 1 ≤ (Lib.itoa n).length ∧ (Lib.itoa n).length ≤ 8 := by
  obtain ⟨i1, _⟩ := num_itoa n h1 h2
  obtain ⟨g1, g2, g3, _⟩ := isNum_parts i1
  cases hl : Lib.itoa n with
  | nil => rw [hl] at g1; simp [digs, isMinus] at g1
  | cons a r =>
    rw [hl] at g1 g2 g3
    by_cases e : a = 45
    · subst e
      have e2 : digs (45 :: r) = r := rfl
      rw [e2] at g1 g2 g3
      refine ⟨fun c hc => ?_, by simp, by simp; omega⟩
      rcases List.mem_cons.1 hc with q | q
      · exact Or.inl q
      · exact Or.inr (List.all_eq_true.1 g3 c q)
    · have em : isMinus (a :: r) = false := by simpa [isMinus] using e
      have e2 : digs (a :: r) = a :: r := by unfold digs; rw [em]; rfl
      rw [e2] at g1 g2 g3
      exact ⟨fun c hc => Or.inr (List.all_eq_true.1 g3 c hc), g1, by simp at g2 ⊢; omega⟩
theorem itoa_none {n : Int} (h1 : -1000000 ≤ n) (h2 : n ≤ 1000000) : 32 ∉ Lib.itoa n ∧ 10 ∉ Lib.itoa n := by
  obtain ⟨h, _⟩ := itoa_bytes h1 h2
  refine ⟨fun q => ?_, fun q => ?_⟩
  · rcases h _ q with e | e <;> revert e <;> decide
  · rcases h _ q with e | e <;> revert e <;> decide
theorem word_no_end {v : Val} (h : v.fault = 0) : 10 ∉ v.word.data.toList := by
  obtain ⟨k, n, s⟩ := v
  simp only [Val.fault] at h
  simp only [Val.word]
  intro hm
  rcases fault_kind h with rfl | rfl | rfl
  · obtain ⟨n1, n2, _⟩ := fault_num h
    have hd : (word 0 n s).data.toList = Lib.itoa n := by show (⟨(Lib.itoa n).toArray⟩ : ByteArray).data.toList = _; simp
    rw [hd] at hm
    exact (itoa_none n1 n2).2 hm
  · obtain ⟨_, _, hb⟩ := fault_text h
    have hd : (word 1 n s).data.toList = 58 :: s.data.toList := by
      show ((⟨#[58]⟩ : ByteArray) ++ s).data.toList = _
      simp [ByteArray.data_append]
    rw [hd] at hm
    rcases List.mem_cons.1 hm with hx | hx
    · exact absurd hx (by decide)
    · have : bad s = true := by
        unfold bad; rw [List.any_eq_true]; exact ⟨10, hx, by decide⟩
      rw [hb] at this; exact absurd this (by decide)
  · have hd : (word 2 n s).data.toList = [42] := rfl
    rw [hd] at hm; simp at hm
theorem join_no_end : ∀ (ps : List (List UInt8)), (∀ p ∈ ps, 10 ∉ p) → 10 ∉ joinL ps
  | [], _ => by simp [joinL]
  | [p], h => h p (by simp)
  | p :: q :: r, h => by
    unfold joinL
    intro hm
    rcases List.mem_append.1 hm with e | e
    · exact h p (by simp) e
    · rcases List.mem_cons.1 e with e | e
      · exact absurd e (by decide)
      · exact join_no_end (q :: r) (fun x hx => h x (by simp [hx])) e
theorem line_no_end {l : List Val} (h : likeF l = 0) : 10 ∉ (line l).data.toList := by
  have hd : (line l).data.toList = joinL (l.map fun v => v.word.data.toList) := by simp [line]
  rw [hd]
  refine join_no_end _ fun p hp => ?_
  obtain ⟨v, hv, rfl⟩ := List.mem_map.1 hp
  exact word_no_end (likeF_each h v hv)
section
variable {a : Ask}
theorem RecOk.nums (h : RecOk a) : (-1000000 ≤ a.who ∧ a.who ≤ 1000000) ∧ (-1000000 ≤ a.seq ∧ a.seq ≤ 1000000) ∧ (-1000000 ≤ a.deed ∧ a.deed ≤ 1000000) ∧ likeF a.t = 0 := by
  obtain ⟨h1, h2, h3⟩ := askF_ok h.ask
  have := h.lo
  have := h.hi
  exact ⟨by omega, by omega, by omega, h3⟩
theorem RecOk.no_end (h : RecOk a) : 10 ∉ recL a := by
  obtain ⟨h1, h2, h3, h4⟩ := h.nums
  unfold recL
  intro hm
  rcases List.mem_append.1 hm with e | e
  · exact (itoa_none h1.1 h1.2).2 e
  rcases List.mem_cons.1 e with e | e
  · exact absurd e (by decide)
  rcases List.mem_append.1 e with e | e
  · exact (itoa_none h2.1 h2.2).2 e
  rcases List.mem_cons.1 e with e | e
  · exact absurd e (by decide)
  rcases List.mem_append.1 e with e | e
  · exact (itoa_none h3.1 h3.2).2 e
  rcases List.mem_cons.1 e with e | e
  · exact absurd e (by decide)
  · exact line_no_end h4 e
theorem RecOk.len (h : RecOk a) : 2 ≤ (recE a).length ∧ (recE a).length ≤ 200 := by
  obtain ⟨h1, h2, h3, h4⟩ := h.nums
  have e1 := (itoa_bytes h1.1 h1.2).2
  have e2 := (itoa_bytes h2.1 h2.2).2
  have e3 := (itoa_bytes h3.1 h3.2).2
  have e4 := line_small h4
  have e5 : (line a.t).data.toList.length = (line a.t).size := Array.length_toList
  unfold recE recL
  simp only [List.length_append, List.length_cons, List.length_nil]
  omega
end
theorem keptL_len : ∀ {l : List Ask}, (∀ a ∈ l, RecOk a) → (keptL l).length ≤ l.length * 200
  | [], _ => Nat.zero_le _
  | a :: l, h => by
    have h1 := keptL_len (l := l) (fun x hx => h x (by simp [hx]))
    have h2 := (h a (by simp)).len.2
    simp only [keptL, List.length_append, List.length_cons]
    omega
/-- how many records there are: how many ends -/
theorem keptL_count : ∀ {l : List Ask}, (∀ a ∈ l, RecOk a) → (keptL l).count 10 = l.length
  | [], _ => rfl
  | a :: l, h => by
    have h1 := keptL_count (l := l) (fun x hx => h x (by simp [hx]))
    have h2 := List.count_eq_zero_of_not_mem (h a (by simp)).no_end
    simp only [keptL, recE, List.count_append, h1, h2, List.length_cons]
    simp; omega

/-- the first place of a byte -/
theorem index_at : ∀ (p r : List UInt8) (c : UInt8), c ∉ p → Lib.indexByte (p ++ c :: r) c = p.length
  | [], r, c, _ => by simp [Lib.indexByte]
  | b :: p, r, c, h => by
    have hb : ¬ b = c := fun e => h (by simp [e])
    have ih := index_at p r c (fun e => h (by simp [e]))
    rw [List.cons_append]
    unfold Lib.indexByte
    rw [if_neg (by simpa using hb), ih, if_neg (by first | (simp; done) | (simp; omega))]
    simp
theorem index_no : ∀ (p : List UInt8) (c : UInt8), c ∉ p → Lib.indexByte p c = -1
  | [], c, _ => rfl
  | b :: p, c, h => by
    have hb : ¬ b = c := fun e => h (by simp [e])
    have ih := index_no p c (fun e => h (by simp [e]))
    unfold Lib.indexByte
    rw [if_neg (by simpa using hb), ih]
    rfl

/-- the whole lines of a text, without their ends -/
def lnsA : List UInt8 → List UInt8 → List (List UInt8)
  | _, [] => []
  | p, c :: r => if c = 10 then p :: lnsA [] r else lnsA (p ++ [c]) r
def lns (l : List UInt8) : List (List UInt8) := lnsA [] l
theorem lnsA_none : ∀ (l p : List UInt8), 10 ∉ l → lnsA p l = []
  | [], _, _ => rfl
  | c :: r, p, h => by
    unfold lnsA
    rw [if_neg (fun e => h (by simp [e])), lnsA_none r _ (fun e => h (by simp [e]))]
theorem lnsA_append : ∀ (q p r : List UInt8), 10 ∉ q → lnsA p (q ++ 10 :: r) = (p ++ q) :: lns r
  | [], p, r, _ => by simp [lnsA, lns]
  | c :: q, p, r, h => by
    rw [List.cons_append]
    unfold lnsA
    rw [if_neg (fun e => h (by simp [e])), lnsA_append q _ r (fun e => h (by simp [e]))]
    simp
theorem lns_none {l : List UInt8} (h : 10 ∉ l) : lns l = [] := lnsA_none l [] h
theorem lns_append {q r : List UInt8} (h : 10 ∉ q) : lns (q ++ 10 :: r) = q :: lns r := by
  unfold lns
  rw [lnsA_append q [] r h]
  simp [lns]

/-- how many records are whole among so many bytes -/
def cntW : Nat → List Ask → Nat
  | _, [] => 0
  | h, a :: l => if (recE a).length ≤ h then cntW (h - (recE a).length) l + 1 else 0
theorem cntW_le : ∀ (h : Nat) (l : List Ask), cntW h l ≤ l.length
  | _, [] => Nat.le_refl _
  | h, a :: l => by
    unfold cntW
    have := cntW_le (h - (recE a).length) l
    split
    · simp; omega
    · exact Nat.zero_le _
/-- the lines of what is left are the first records -/
theorem lns_take : ∀ (l : List Ask) (half : List UInt8) (h : Nat), (∀ a ∈ l, RecOk a) → 10 ∉ half → lns ((keptL l ++ half).take h) = (l.take (cntW h l)).map recL
  | [], half, h, _, hh => by
    simp only [keptL, List.nil_append, cntW, List.take_zero, List.map_nil]
    exact lns_none (fun e => hh (List.mem_of_mem_take e))
  | a :: l, half, h, ha, hh => by
    have hno := (ha a (by simp)).no_end
    by_cases hl : (recE a).length ≤ h
    · have ih := lns_take l half (h - (recE a).length) (fun x hx => ha x (by simp [hx])) hh
      have e1 : (keptL (a :: l) ++ half).take h = recL a ++ 10 :: ((keptL l ++ half).take (h - (recE a).length)) := by
        show ((recE a ++ keptL l) ++ half).take h = _
        rw [List.append_assoc, List.take_append, List.take_of_length_le hl]
        simp [recE]
      have e2 : cntW h (a :: l) = cntW (h - (recE a).length) l + 1 := by show (if _ then _ else _) = _; rw [if_pos hl]
      rw [e1, lns_append hno, ih, e2]
      rfl
    · have e1 : (keptL (a :: l) ++ half).take h = (recL a).take h := by
        show ((recE a ++ keptL l) ++ half).take h = _
        rw [List.append_assoc, List.take_append_of_le_length (by omega)]
        unfold recE at hl ⊢
        rw [List.take_append_of_le_length (by simp at hl; omega)]
      have e2 : cntW h (a :: l) = 0 := by show (if _ then _ else _) = _; rw [if_neg hl]
      rw [e1, lns_none (fun e => hno (List.mem_of_mem_take e)), e2]
      rfl

/-- the bytes behind each record; the copies -/
def msOf : Nat → List Ask → List Nat
  | o, [] => [o]
  | o, a :: l => o :: msOf (o + (recE a).length) l
def csOf (R : List Rul) : Cop → List Ask → List Cop
  | c, [] => [c]
  | c, a :: l => c :: csOf R (doR R c a).2.2 l
/-- each was done -/
def Dones (R : List Rul) : Cop → List Ask → Prop
  | _, [] => True
  | c, a :: l => ((doR R c a).1 = 0 ∧ (doR R c a).2.2.n = c.n + 1) ∧ Dones R (doR R c a).2.2 l
/-- what a copy is behind them -/
def runs (R : List Rul) (l : List Ask) : Cop := l.foldl (fun c a => (doR R c a).2.2) Cop.new
theorem runs_snoc (R : List Rul) (l : List Ask) (a : Ask) : runs R (l ++ [a]) = (doR R (runs R l) a).2.2 := by simp [runs]
theorem runs_ok (R : List Rul) (l : List Ask) : (runs R l).Ok ∧ (runs R l).n ≤ l.length := by
  have : ∀ (l : List Ask) (c : Cop) (k : Nat), c.Ok → c.n ≤ k → (l.foldl (fun c a => (doR R c a).2.2) c).Ok ∧ (l.foldl (fun c a => (doR R c a).2.2) c).n ≤ k + l.length := by
    intro l
    induction l with
    | nil => intro c k h1 h2; exact ⟨h1, by simpa using h2⟩
    | cons a l ih =>
      intro c k h1 h2
      have h3 := doR_many R c a
      obtain ⟨g1, g2⟩ := ih (doR R c a).2.2 (k + 1) h1.next (by omega)
      exact ⟨g1, by simp only [List.foldl_cons, List.length_cons]; omega⟩
  obtain ⟨g1, g2⟩ := this l Cop.new 0 Cop.new_ok (Nat.le_refl _)
  exact ⟨g1, by have : runs R l = l.foldl (fun c a => (doR R c a).2.2) Cop.new := rfl; rw [this]; omega⟩
section
variable {R : List Rul}
theorem msOf_len : ∀ (o : Nat) (l : List Ask), (msOf o l).length = l.length + 1
  | _, [] => rfl
  | o, a :: l => by simp [msOf, msOf_len _ l]
theorem csOf_len : ∀ (c : Cop) (l : List Ask), (csOf R c l).length = l.length + 1
  | _, [] => rfl
  | c, a :: l => by simp [csOf, csOf_len _ l]
theorem msOf_last : ∀ (o : Nat) (l : List Ask), (msOf o l).getLastD 0 = o + (keptL l).length
  | o, [] => by simp [msOf, keptL]
  | o, a :: l => by
    have ih := msOf_last (o + (recE a).length) l
    have hne : msOf (o + (recE a).length) l ≠ [] := by intro e; have := msOf_len (o + (recE a).length) l; rw [e] at this; simp at this
    show (o :: msOf (o + (recE a).length) l).getLastD 0 = _
    rw [List.getLastD_cons]
    cases hm : msOf (o + (recE a).length) l with
    | nil => exact absurd hm hne
    | cons x xs =>
      rw [hm] at ih
      simp only [List.getLastD_cons] at ih ⊢
      rw [ih]
      simp [keptL]; omega
theorem csOf_last : ∀ (c d : Cop) (l : List Ask), (csOf R c l).getLastD d = l.foldl (fun c a => (doR R c a).2.2) c
  | c, d, [] => by simp [csOf]
  | c, d, a :: l => by
    show (c :: csOf R (doR R c a).2.2 l).getLastD d = _
    rw [List.getLastD_cons, csOf_last _ c l]
    rfl
theorem msOf_snoc : ∀ (o : Nat) (l : List Ask) (a : Ask), msOf o (l ++ [a]) = msOf o l ++ [o + (keptL l).length + (recE a).length]
  | o, [], a => by simp [msOf, keptL]
  | o, b :: l, a => by
    simp only [List.cons_append, msOf, msOf_snoc _ l a, keptL, List.length_append]
    congr 3
    omega
theorem csOf_snoc : ∀ (c : Cop) (l : List Ask) (a : Ask), csOf R c (l ++ [a]) = csOf R c l ++ [(doR R (l.foldl (fun c a => (doR R c a).2.2) c) a).2.2]
  | c, [], a => by simp [csOf]
  | c, b :: l, a => by simp only [List.cons_append, csOf, csOf_snoc _ l a, List.foldl_cons]
theorem dones_snoc : ∀ (c : Cop) (l : List Ask) (a : Ask), Dones R c l → (doR R (l.foldl (fun c a => (doR R c a).2.2) c) a).1 = 0 → (doR R (l.foldl (fun c a => (doR R c a).2.2) c) a).2.2.n = (l.foldl (fun c a => (doR R c a).2.2) c).n + 1 → Dones R c (l ++ [a])
  | c, [], a, _, h1, h2 => ⟨⟨h1, h2⟩, trivial⟩
  | c, b :: l, a, h, h1, h2 => ⟨h.1, dones_snoc _ l a h.2 h1 h2⟩
theorem msOf_take : ∀ (o : Nat) (l : List Ask) (k : Nat), (msOf o l).take (k + 1) = msOf o (l.take k)
  | o, [], k => by simp [msOf]
  | o, a :: l, 0 => by simp [msOf]
  | o, a :: l, k + 1 => by simp [msOf, msOf_take _ l k]
theorem csOf_take : ∀ (c : Cop) (l : List Ask) (k : Nat), (csOf R c l).take (k + 1) = csOf R c (l.take k)
  | c, [], k => by simp [csOf]
  | c, a :: l, 0 => by simp [csOf]
  | c, a :: l, k + 1 => by simp [csOf, csOf_take _ l k]
theorem dones_take : ∀ (c : Cop) (l : List Ask) (k : Nat), Dones R c l → Dones R c (l.take k)
  | c, [], k, _ => by simp [Dones]
  | c, a :: l, 0, _ => by simp [Dones]
  | c, a :: l, k + 1, h => ⟨h.1, dones_take _ l k h.2⟩
theorem upTo_ms : ∀ (o h : Nat) (l : List Ask), upTo (msOf o l) (o + h) = cntW h l + 1
  | o, h, [] => by simp [msOf, cntW, upTo]
  | o, h, a :: l => by
    unfold msOf cntW
    have e : ∀ ms : List Nat, upTo (o :: ms) (o + h) = upTo ms (o + h) + 1 := fun ms => by unfold upTo; simp
    rw [e]
    by_cases hl : (recE a).length ≤ h
    · have ih := upTo_ms (o + (recE a).length) (h - (recE a).length) l
      rw [show o + (recE a).length + (h - (recE a).length) = o + h by omega] at ih
      rw [ih, if_pos hl]
    · rw [if_neg hl]
      have : upTo (msOf (o + (recE a).length) l) (o + h) = 0 := by
        cases l with
        | nil => unfold msOf upTo; rw [List.takeWhile_cons_of_neg (by simp; omega)]; rfl
        | cons b l => unfold msOf upTo; rw [List.takeWhile_cons_of_neg (by simp; omega)]; rfl
      rw [this]
end

/-- the records that a log's bytes are -/
structure Recs (R : List Rul) (g : Lg) (l : List Ask) (half : List UInt8) : Prop where
  each : ∀ a ∈ l, RecOk a
  cs : g.cs = csOf R Cop.new l
  ms : g.ms = msOf 0 l
  dones : Dones R Cop.new l
  hal : g.half = half.length
  no : 10 ∉ half
section
variable {R : List Rul} {g : Lg} {l : List Ask} {half : List UInt8}
theorem Recs.cop (h : Recs R g l half) : g.cop = runs R l := by unfold Lg.cop; rw [h.cs, csOf_last]; rfl
theorem Recs.bytes (h : Recs R g l half) : g.bytes = (keptL l ++ half).length := by unfold Lg.bytes; rw [h.ms, msOf_last, h.hal]; simp
theorem Recs.count (h : Recs R g l half) : (keptL l ++ half).count 10 = l.length := by
  rw [List.count_append, keptL_count h.each, List.count_eq_zero_of_not_mem h.no]; rfl
theorem Recs.len (h : Recs R g l half) : g.cs.length = l.length + 1 := by rw [h.cs, csOf_len]
theorem Recs.new (R : List Rul) : Recs R Lg.new [] [] := ⟨fun a ha => by simp at ha, rfl, rfl, trivial, rfl, by simp⟩
/-- behind a crash -/
theorem Recs.crash (h : Recs R g l half) (keep : Int) : Recs R (lgCrash g keep) (l.take (cntW (lgHigh g keep) l)) [] ∧ (lgCrash g keep).safe = (keptL (l.take (cntW (lgHigh g keep) l))).length := by
  have e : upTo g.ms (lgHigh g keep) = cntW (lgHigh g keep) l + 1 := by
    have := upTo_ms 0 (lgHigh g keep) l
    rw [Nat.zero_add, ← h.ms] at this
    exact this
  unfold lgCrash
  simp only [e]
  rw [h.cs, h.ms, csOf_take, msOf_take]
  refine ⟨⟨fun a ha => h.each a (List.mem_of_mem_take ha), rfl, rfl, dones_take _ _ _ h.dones, rfl, by simp⟩, ?_⟩
  rw [msOf_last]; omega
end

end Go.Proofs.YtlefhfmckimlaajGreatDoor.M
