/-
  What Print of package value does, as one law of its call.
  Plain facts: a value that is right is read from its text as it was, and a text that is right is printed as it was; the order of values is one.
  Plain functions on tuples: one as text and a text as one; and that a tuple that is right is read from its text as it was. No program is walked here.
  What a strings.Builder that a call has made itself does: WriteString as one law of its call.
  What a strings.Builder that a call has made itself leaves as it was: every block that is neither a builder nor a row of bytes.
  What Print of package tuple does, as one law of its call.
-/
import Derived.Test.YtlefhfmckimlaakGreatDoorJParse
import Derived.Lib.SmallJoins
import Derived.Test.YtlefhfmckimlaakGreatDoorJTup
import Derived.Test.YtlefhfmckimlaakGreatDoorShelf
import Derived.Lib.AppendStr
import Derived.Lib.Builder
import Derived.Laws.Externs
import Derived.Test.YtlefhfmckimlaakGreatDoorJSp
set_option linter.unusedSimpArgs false
namespace Go.Proofs.YtlefhfmckimlaakGreatDoor
open Go.RowKit

/-- the library's table of powers of ten reads as its text lays it -/
def Tab (w : World) : Prop := Lib.TabIs Tryz.prog w "internal/strconv.uint64pow10" .u64 Lib.pow10Tab
theorem Tab.stays {w w' : World} {B : Nat} (h : Tab w) (hb : Below B w w') (hB : w.heap.size ≤ B) : Tab w' :=
  Joins.tab_stays (g := 2) (by kernel_rfl) h hb hB

theorem grown (w : World) (k : Nat) (os : Array Obj) : Below w.heap.size w (Sort.grow (w.drewN k) os) :=
  ⟨rfl, rfl, rfl, by simp [Sort.grow], fun i hi => by
    show ((w.drewN k).heap ++ os)[i]? = _
    rw [Array.getElem?_append_left (show i < (w.drewN k).heap.size from hi)]
    rfl⟩

theorem itoaB (n : Int) (w : World) (h0 : -1000000 ≤ n) (h1 : n ≤ 1000000) (ht : Tab w) : Calls Tryz.prog 82 #[.int .i64 n] w fun e w' => e = .returned (.string ⟨(Lib.itoa n).toArray⟩) ∧ Below w.heap.size w w' := by
  refine (Tryz.strconv_Itoa n (by omega) (by omega) w ht).mono ?_
  rintro e w' ⟨rfl, k, os, rfl⟩
  exact ⟨rfl, grown _ _ _⟩

/-- a value as text -/
def M.word (k n : Int) (s : ByteArray) : ByteArray := if k = 0 then ⟨(Lib.itoa n).toArray⟩ else if k = 1 then ⟨#[58]⟩ ++ s else ⟨#[42]⟩

theorem printBad (k n : Int) (s : ByteArray) (w : World) (hs : s.size ≤ maxLen) (h : M.fault k n s ≠ 0) :
    Calls Tryz.prog 125 #[.agg #[.int .i64 k, .int .i64 n, .string s]] w fun e w' => e = .returned (.tuple #[.string ⟨#[]⟩, .iface 87 (.int .i64 (M.fault k n s))]) ∧ Below w.heap.size w w' := by
  have H := hide h
  clear h
  go_enter Tryz.func125, Tryz.ntmps125
  go_wp2_with fail
  refine (checkBad k n s _ hs H.out).mono ?_
  rintro e w1 ⟨rfl, hb⟩
  obtain ⟨hc, hf⟩ := bcell hb
  go_wp2_with fail
  go_ret2
  exact ⟨rfl, ((Below.refl _ _).alloc (Nat.le_refl _) _).trans (hb.mono (by simp))⟩

theorem fault_kind {k n : Int} {s : ByteArray} (h : M.fault k n s = 0) : k = 0 ∨ k = 1 ∨ k = 2 := by
  unfold M.fault at h
  by_cases e0 : k = 0
  · exact Or.inl e0
  · rw [if_neg e0] at h
    by_cases e1 : k = 1
    · exact Or.inr (Or.inl e1)
    · rw [if_neg e1] at h
      by_cases e2 : k = 2
      · exact Or.inr (Or.inr e2)
      · rw [if_neg e2] at h; exact absurd h (by decide)
theorem fault_num {n : Int} {s : ByteArray} (h : M.fault 0 n s = 0) : -1000000 ≤ n ∧ n ≤ 1000000 ∧ s.size = 0 := by
  unfold M.fault M.faultN at h
  rw [if_pos rfl] at h
  by_cases e : n < -1000000 ∨ 1000000 < n
  · rw [if_pos e] at h; exact absurd h (by decide)
  · rw [if_neg e] at h
    by_cases e2 : s.size = 0
    · exact ⟨by omega, by omega, e2⟩
    · rw [if_neg e2] at h; exact absurd h (by decide)
theorem fault_text {n : Int} {s : ByteArray} (h : M.fault 1 n s = 0) : n = 0 ∧ s.size ≤ 12 ∧ M.bad s = false := by
  unfold M.fault M.faultT at h
  rw [if_neg (by decide), if_pos rfl] at h
  by_cases e : 12 < s.size
  · rw [if_pos e] at h; exact absurd h (by decide)
  · rw [if_neg e] at h
    by_cases e2 : n = 0
    · rw [if_pos e2] at h
      cases hb : M.bad s
      · exact ⟨e2, by omega, rfl⟩
      · rw [hb] at h; exact absurd h (by decide)
    · rw [if_neg e2] at h; exact absurd h (by decide)
theorem fault_star {n : Int} {s : ByteArray} (h : M.fault 2 n s = 0) : n = 0 ∧ s.size = 0 := by
  unfold M.fault M.faultA at h
  rw [if_neg (by decide), if_neg (by decide), if_pos rfl] at h
  by_cases e : n = 0 ∧ s.size = 0
  · exact e
  · rw [if_neg e] at h; exact absurd h (by decide)

theorem printOk (k n : Int) (s : ByteArray) (w : World) (hs : s.size ≤ maxLen) (h : M.fault k n s = 0) (ht : Tab w) :
    Calls Tryz.prog 125 #[.agg #[.int .i64 k, .int .i64 n, .string s]] w fun e w' => e = .returned (.tuple #[.string (M.word k n s), .nilIface]) ∧ Below w.heap.size w w' := by
  rcases fault_kind h with rfl | rfl | rfl
  · obtain ⟨n1, n2, _⟩ := fault_num h
    have H := hide h
    have HT := hide ht
    clear h ht
    go_enter Tryz.func125, Tryz.ntmps125
    go_wp2_with fail
    refine (checkOk 0 n s _ hs H.out).mono ?_
    rintro e w1 ⟨rfl, hb⟩
    obtain ⟨hc, hf⟩ := bcell hb
    have B1 : Below w.heap.size w w1 := ((Below.refl _ _).alloc (Nat.le_refl _) _).trans (hb.mono (by simp))
    have HT1 : Hid (Tab w1) := HT.out.stays B1 (Nat.le_refl _)
    go_wp2_with fail
    refine (itoaB n _ n1 n2 HT1.out).mono ?_
    rintro e w2 ⟨rfl, hb2⟩
    go_wp2_with fail
    go_ret2
    exact ⟨rfl, B1.trans (hb2.mono B1.size)⟩
  · obtain ⟨rfl, n2, _⟩ := fault_text h
    have H := hide h
    clear h
    have hadd : ∀ w, (Op.stringOp .add ⟨#[58]⟩ s).run Tryz.prog w = .ok (.string (⟨#[58]⟩ ++ s)) w := fun w => run_string_add_sum w _ _ (by show 1 + s.size ≤ _; omega)
    go_enter Tryz.func125, Tryz.ntmps125
    go_wp2_with fail
    refine (checkOk 1 0 s _ hs H.out).mono ?_
    rintro e w1 ⟨rfl, hb⟩
    obtain ⟨hc, hf⟩ := bcell hb
    go_wp2_with fail
    go_ret2
    exact ⟨rfl, ((Below.refl _ _).alloc (Nat.le_refl _) _).trans (hb.mono (by simp))⟩
  · have H := hide h
    clear h
    go_enter Tryz.func125, Tryz.ntmps125
    go_wp2_with fail
    refine (checkOk 2 n s _ hs H.out).mono ?_
    rintro e w1 ⟨rfl, hb⟩
    obtain ⟨hc, hf⟩ := bcell hb
    go_wp2_with fail
    go_ret2
    exact ⟨rfl, ((Below.refl _ _).alloc (Nat.le_refl _) _).trans (hb.mono (by simp))⟩

end Go.Proofs.YtlefhfmckimlaakGreatDoor

namespace Go.Proofs.YtlefhfmckimlaakGreatDoor.M

theorem num_head {l : List UInt8} (h : isNum l = true) : (l == [42]) = false ∧ (l.head? == some 58) = false := by
  obtain ⟨h1, h2, h3, h4⟩ := isNum_parts h
  cases l with
  | nil => simp [digs, isMinus] at h1
  | cons a r =>
    have ha : a ≠ 42 ∧ a ≠ 58 := by
      by_cases hm : a = 45
      · subst hm; decide
      · have em : isMinus (a :: r) = false := by simpa [isMinus] using hm
        have e : digs (a :: r) = a :: r := by unfold digs; rw [em]; rfl
        rw [e] at h3
        have hd : digC a = true := by simpa using (List.all_eq_true.1 h3) a (by simp)
        constructor <;> (intro e; subst e; revert hd; decide)
    constructor
    · simp [ha.1]
    · simp [ha.2]

theorem back_text {s : ByteArray} (h : pErr s = 0) : fault (pK s) (pN s) (pS s) = 0 ∧ word (pK s) (pN s) (pS s) = s := by
  have hn : ¬ (pErr s ≠ 0) := fun hh => hh h
  unfold pK pN pS
  simp only [if_neg hn]
  unfold pErr at h
  cases h1 : (s.toList == [42])
  · rw [h1] at h
    simp only [Bool.false_eq_true, if_false] at h ⊢
    cases h2 : colon s
    · rw [h2] at h
      simp only [Bool.false_eq_true, if_false] at h ⊢
      cases h3 : isNum s.data.toList
      · rw [h3] at h; exact absurd (show (2 : Int) = 0 from h) (by decide)
      · rw [h3] at h
        simp only [if_true] at h
        refine ⟨h, ?_⟩
        show (⟨(Lib.itoa (num s.data.toList)).toArray⟩ : ByteArray) = s
        rw [itoa_num h3]
    · rw [h2] at h
      simp only [if_true] at h ⊢
      refine ⟨h, ?_⟩
      show (⟨#[58]⟩ : ByteArray) ++ rest s = s
      apply WideShapes.bytes_inj
      obtain ⟨r, hr⟩ : ∃ r, s.data.toList = 58 :: r := by
        cases hl : s.data.toList with
        | nil => simp [colon, hl] at h2
        | cons a r => exact ⟨r, by have : a = 58 := by simpa [colon, hl] using h2
                                   rw [this]⟩
      have e : (rest s).data.toList = r := by simp [rest, hr]
      rw [hr]
      simp [ByteArray.data_append, e]
  · simp only [if_true]
    refine ⟨by decide, ?_⟩
    show (⟨#[42]⟩ : ByteArray) = s
    apply WideShapes.bytes_inj
    rw [ByteArray.toList_eq] at h1
    exact (by simpa using h1 : s.data.toList = [42]).symm

theorem back_value {k n : Int} {x : ByteArray} (h : fault k n x = 0) : pErr (word k n x) = 0 ∧ pK (word k n x) = k ∧ pN (word k n x) = n ∧ pS (word k n x) = x := by
  rcases fault_kind h with rfl | rfl | rfl
  · obtain ⟨n1, n2, n3⟩ := fault_num h
    obtain rfl := size0 n3
    obtain ⟨i1, i2⟩ := num_itoa n n1 n2
    have hw : word 0 n ByteArray.empty = ⟨(Lib.itoa n).toArray⟩ := rfl
    have hd : (word 0 n ByteArray.empty).data.toList = Lib.itoa n := by rw [hw]
    obtain ⟨c1, c2⟩ := num_head i1
    have e1 : ((word 0 n ByteArray.empty).toList == [42]) = false := by rw [ByteArray.toList_eq, hd]; exact c1
    have e2 : colon (word 0 n ByteArray.empty) = false := by unfold colon; rw [hd]; exact c2
    have e : pErr (word 0 n ByteArray.empty) = 0 := by unfold pErr; rw [e1, e2, hd, i1, i2]; exact h
    refine ⟨e, ?_, ?_, ?_⟩
    · unfold pK; rw [e, e1, e2]; rfl
    · unfold pN; rw [e, e1, e2, hd, i2]; rfl
    · unfold pS; rw [e, e1, e2]; rfl
  · obtain ⟨rfl, n2, n3⟩ := fault_text h
    have hd : (word 1 0 x).data.toList = 58 :: x.data.toList := by
      show ((⟨#[58]⟩ : ByteArray) ++ x).data.toList = _
      simp [ByteArray.data_append]
    have e1 : ((word 1 0 x).toList == [42]) = false := by rw [ByteArray.toList_eq, hd]; simp
    have e2 : colon (word 1 0 x) = true := by unfold colon; rw [hd]; rfl
    have er : rest (word 1 0 x) = x := by
      apply WideShapes.bytes_inj
      unfold rest; rw [hd]; simp
    have e : pErr (word 1 0 x) = 0 := by unfold pErr; rw [e1, e2, er]; exact h
    refine ⟨e, ?_, ?_, ?_⟩
    · unfold pK; rw [e, e1, e2]; rfl
    · unfold pN; rw [e, e1, e2]; rfl
    · unfold pS; rw [e, e1, e2, er]; rfl
  · obtain ⟨rfl, n3⟩ := fault_star h
    obtain rfl := size0 n3
    have e1 : ((word 2 0 ByteArray.empty).toList == [42]) = true := by rw [ByteArray.toList_eq]; rfl
    have e : pErr (word 2 0 ByteArray.empty) = 0 := by unfold pErr; rw [e1]; rfl
    refine ⟨e, ?_, ?_, ?_⟩
    · unfold pK; rw [e, e1]; rfl
    · unfold pN; rw [e, e1]; rfl
    · unfold pS; rw [e, e1]; rfl

theorem less_irrefl : ∀ x : List UInt8, Op.bytesLess x x = false
  | [] => rfl
  | a :: x => by simp [Op.bytesLess, less_irrefl x]
theorem less_trans : ∀ x y z : List UInt8, Op.bytesLess x y = true → Op.bytesLess y z = true → Op.bytesLess x z = true
  | _, [], _, h, _ => by simp [Op.bytesLess] at h
  | _, _ :: _, [], _, h => by simp [Op.bytesLess] at h
  | [], _ :: _, _ :: _, _, _ => by simp [Op.bytesLess]
  | a :: x, b :: y, c :: z, h1, h2 => by
    simp only [Op.bytesLess, Bool.or_eq_true, Bool.and_eq_true, decide_eq_true_eq, beq_iff_eq] at h1 h2 ⊢
    rcases h1 with h1 | ⟨rfl, h1⟩
    · rcases h2 with h2 | ⟨rfl, h2⟩
      · left; exact UInt8.lt_trans h1 h2
      · left; exact h1
    · rcases h2 with h2 | ⟨rfl, h2⟩
      · left; exact h2
      · right; exact ⟨rfl, less_trans x y z h1 h2⟩
theorem less_total : ∀ x y : List UInt8, Op.bytesLess x y = false → x ≠ y → Op.bytesLess y x = true
  | [], [], _, h => absurd rfl h
  | [], _ :: _, h, _ => by simp [Op.bytesLess] at h
  | _ :: _, [], _, _ => by simp [Op.bytesLess]
  | a :: x, b :: y, h1, h2 => by
    simp only [Op.bytesLess, Bool.or_eq_false_iff, Bool.and_eq_false_iff, decide_eq_false_iff_not, beq_eq_false_iff_ne, Bool.or_eq_true, Bool.and_eq_true, decide_eq_true_eq, beq_iff_eq] at h1 ⊢
    obtain ⟨h1, h3⟩ := h1
    by_cases e : a = b
    · subst e
      right
      exact ⟨rfl, less_total x y (by simpa using h3) (fun e => h2 (by rw [e]))⟩
    · left
      rw [UInt8.lt_iff_toNat_lt] at h1 ⊢
      have : a.toNat ≠ b.toNat := fun e2 => e (UInt8.toNat_inj.1 e2)
      omega
theorem less_asymm (x y : List UInt8) (h : Op.bytesLess x y = true) : Op.bytesLess y x = false := by
  cases h2 : Op.bytesLess y x
  · rfl
  · have := less_trans x y x h h2; rw [less_irrefl] at this; exact absurd this (by decide)

theorem cmpS_cases (a b : ByteArray) : (cmpS a b = -1 ∧ Op.bytesLess a.toList b.toList = true) ∨ (cmpS a b = 0 ∧ a.toList = b.toList) ∨ (cmpS a b = 1 ∧ Op.bytesLess b.toList a.toList = true) := by
  unfold cmpS
  cases h : Op.bytesLess a.toList b.toList
  · by_cases e : a.toList = b.toList
    · right; left; exact ⟨by simp [e], e⟩
    · right; right; exact ⟨by simp [e], less_total _ _ h e⟩
  · left; simp
theorem cmpS_swap (a b : ByteArray) : cmpS b a = - cmpS a b := by
  rcases cmpS_cases a b with ⟨e, h⟩ | ⟨e, h⟩ | ⟨e, h⟩ <;> rcases cmpS_cases b a with ⟨f, g⟩ | ⟨f, g⟩ | ⟨f, g⟩ <;> rw [e, f] <;> first | rfl | (exfalso; first | (rw [less_asymm _ _ h] at g; exact absurd g (by decide)) | (rw [h, less_irrefl] at g; exact absurd g (by decide)) | (rw [g, less_irrefl] at h; exact absurd h (by decide)) | (rw [← h, less_irrefl] at g; exact absurd g (by decide)))
theorem cmpS_trans (a b c : ByteArray) (h1 : cmpS a b ≤ 0) (h2 : cmpS b c ≤ 0) : cmpS a c ≤ 0 := by
  rcases cmpS_cases a c with ⟨e, h⟩ | ⟨e, h⟩ | ⟨e, h⟩
  · omega
  · omega
  · exfalso
    rcases cmpS_cases a b with ⟨e1, g1⟩ | ⟨e1, g1⟩ | ⟨e1, g1⟩
    · rcases cmpS_cases b c with ⟨e2, g2⟩ | ⟨e2, g2⟩ | ⟨e2, g2⟩
      · have := less_trans _ _ _ g1 g2; rw [less_asymm _ _ h] at this; exact absurd this (by decide)
      · rw [g2] at g1; rw [less_asymm _ _ h] at g1; exact absurd g1 (by decide)
      · omega
    · rcases cmpS_cases b c with ⟨e2, g2⟩ | ⟨e2, g2⟩ | ⟨e2, g2⟩
      · rw [← g1] at g2; rw [less_asymm _ _ h] at g2; exact absurd g2 (by decide)
      · rw [g1, g2, less_irrefl] at h; exact absurd h (by decide)
      · omega
    · omega

theorem cmpI_cases (a b : Int) : (cmpI a b = -1 ∧ a < b) ∨ (cmpI a b = 0 ∧ a = b) ∨ (cmpI a b = 1 ∧ b < a) := by
  unfold cmpI; split
  · left; exact ⟨rfl, by assumption⟩
  · split
    · right; right; exact ⟨rfl, by assumption⟩
    · right; left; exact ⟨rfl, by omega⟩

theorem ord_cases (k1 n1 : Int) (s1 : ByteArray) (k2 n2 : Int) (s2 : ByteArray) :
    (k1 ≠ k2 ∧ ord k1 n1 s1 k2 n2 s2 = cmpI k1 k2) ∨ (k1 = k2 ∧ n1 ≠ n2 ∧ ord k1 n1 s1 k2 n2 s2 = cmpI n1 n2) ∨ (k1 = k2 ∧ n1 = n2 ∧ ord k1 n1 s1 k2 n2 s2 = cmpS s1 s2) := by
  unfold ord
  rcases cmpI_cases k1 k2 with ⟨e, h⟩ | ⟨e, h⟩ | ⟨e, h⟩
  · left; exact ⟨by omega, by rw [if_pos (by omega)]⟩
  · right
    rw [if_neg (by omega)]
    rcases cmpI_cases n1 n2 with ⟨f, g⟩ | ⟨f, g⟩ | ⟨f, g⟩
    · left; exact ⟨h, by omega, by rw [if_pos (by omega)]⟩
    · right; exact ⟨h, g, by rw [if_neg (by omega)]⟩
    · left; exact ⟨h, by omega, by rw [if_pos (by omega)]⟩
  · left; exact ⟨by omega, by rw [if_pos (by omega)]⟩

theorem ord_range (k1 n1 : Int) (s1 : ByteArray) (k2 n2 : Int) (s2 : ByteArray) : ord k1 n1 s1 k2 n2 s2 = -1 ∨ ord k1 n1 s1 k2 n2 s2 = 0 ∨ ord k1 n1 s1 k2 n2 s2 = 1 := by
  rcases ord_cases k1 n1 s1 k2 n2 s2 with ⟨_, e⟩ | ⟨_, _, e⟩ | ⟨_, _, e⟩ <;> rw [e]
  · rcases cmpI_cases k1 k2 with ⟨e, _⟩ | ⟨e, _⟩ | ⟨e, _⟩ <;> simp [e]
  · rcases cmpI_cases n1 n2 with ⟨e, _⟩ | ⟨e, _⟩ | ⟨e, _⟩ <;> simp [e]
  · rcases cmpS_cases s1 s2 with ⟨e, _⟩ | ⟨e, _⟩ | ⟨e, _⟩ <;> simp [e]
theorem ord_swap (k1 n1 : Int) (s1 : ByteArray) (k2 n2 : Int) (s2 : ByteArray) : ord k2 n2 s2 k1 n1 s1 = - ord k1 n1 s1 k2 n2 s2 := by
  rcases ord_cases k1 n1 s1 k2 n2 s2 with ⟨h, e⟩ | ⟨h, g, e⟩ | ⟨h, g, e⟩ <;> rcases ord_cases k2 n2 s2 k1 n1 s1 with ⟨h', e'⟩ | ⟨h', g', e'⟩ | ⟨h', g', e'⟩ <;> first | (exfalso; omega) | (rw [e, e'])
  · rcases cmpI_cases k1 k2 with ⟨f, _⟩ | ⟨f, _⟩ | ⟨f, _⟩ <;> rcases cmpI_cases k2 k1 with ⟨f', _⟩ | ⟨f', _⟩ | ⟨f', _⟩ <;> omega
  · rcases cmpI_cases n1 n2 with ⟨f, _⟩ | ⟨f, _⟩ | ⟨f, _⟩ <;> rcases cmpI_cases n2 n1 with ⟨f', _⟩ | ⟨f', _⟩ | ⟨f', _⟩ <;> omega
  · exact cmpS_swap _ _
theorem ord_zero (k1 n1 : Int) (s1 : ByteArray) (k2 n2 : Int) (s2 : ByteArray) (h : ord k1 n1 s1 k2 n2 s2 = 0) : k1 = k2 ∧ n1 = n2 ∧ s1.toList = s2.toList := by
  rcases ord_cases k1 n1 s1 k2 n2 s2 with ⟨g, e⟩ | ⟨h1, g, e⟩ | ⟨h1, h2, e⟩
  · rcases cmpI_cases k1 k2 with ⟨f, _⟩ | ⟨f, _⟩ | ⟨f, _⟩ <;> omega
  · rcases cmpI_cases n1 n2 with ⟨f, _⟩ | ⟨f, _⟩ | ⟨f, _⟩ <;> omega
  · rcases cmpS_cases s1 s2 with ⟨f, _⟩ | ⟨f, g⟩ | ⟨f, _⟩
    · omega
    · exact ⟨h1, h2, g⟩
    · omega
theorem ord_same (k n : Int) (s t : ByteArray) (h : s.toList = t.toList) : ord k n s k n t = 0 := by
  rcases ord_cases k n s k n t with ⟨g, e⟩ | ⟨h1, g, e⟩ | ⟨h1, h2, e⟩
  · exact absurd rfl g
  · exact absurd rfl g
  · rw [e]; unfold cmpS; rw [h, less_irrefl]; simp
theorem ord_trans (k1 n1 : Int) (s1 : ByteArray) (k2 n2 : Int) (s2 : ByteArray) (k3 n3 : Int) (s3 : ByteArray) (h1 : ord k1 n1 s1 k2 n2 s2 ≤ 0) (h2 : ord k2 n2 s2 k3 n3 s3 ≤ 0) : ord k1 n1 s1 k3 n3 s3 ≤ 0 := by
  have c1 := cmpI_cases k1 k2
  have c2 := cmpI_cases k2 k3
  have c3 := cmpI_cases k1 k3
  have d1 := cmpI_cases n1 n2
  have d2 := cmpI_cases n2 n3
  have d3 := cmpI_cases n1 n3
  have t := cmpS_trans s1 s2 s3
  rcases ord_cases k1 n1 s1 k2 n2 s2 with ⟨g, e⟩ | ⟨g, g', e⟩ | ⟨g, g', e⟩ <;> rcases ord_cases k2 n2 s2 k3 n3 s3 with ⟨f, e'⟩ | ⟨f, f', e'⟩ | ⟨f, f', e'⟩ <;> rcases ord_cases k1 n1 s1 k3 n3 s3 with ⟨i, e''⟩ | ⟨i, i', e''⟩ | ⟨i, i', e''⟩ <;> rw [e''] <;> rw [e] at h1 <;> rw [e'] at h2 <;> first | omega | (exact t h1 h2)

end Go.Proofs.YtlefhfmckimlaakGreatDoor.M

namespace Go.Proofs.YtlefhfmckimlaakGreatDoor.M

def Val.word (v : Val) : ByteArray := M.word v.k v.n v.s

/-- fields as text, a comma between -/
def joinL : List (List UInt8) → List UInt8
  | [] => []
  | [p] => p
  | p :: q :: r => p ++ 44 :: joinL (q :: r)
def line (l : List Val) : ByteArray := ⟨(joinL (l.map fun v => v.word.data.toList)).toArray⟩
/-- a text cut at each comma -/
def cutL : List UInt8 → List (List UInt8)
  | [] => [[]]
  | c :: r => if c = 44 then [] :: cutL r else match cutL r with
    | [] => [[c]]
    | p :: ps => (c :: p) :: ps

def pVal (l : List UInt8) : Val := ⟨pK ⟨l.toArray⟩, pN ⟨l.toArray⟩, pS ⟨l.toArray⟩⟩
def pErrL (l : List UInt8) : Int := pErr ⟨l.toArray⟩
/-- the first part's fault that has one -/
def firstP : List (List UInt8) → Int
  | [] => 0
  | p :: r => if pErrL p ≠ 0 then pErrL p else firstP r
def readE (l : List UInt8) : Int := if l.length = 0 then 5 else if firstP (cutL l) ≠ 0 then firstP (cutL l) else if 5 < (cutL l).length then 4 else 0
def readV (l : List UInt8) : List Val := if readE l ≠ 0 then [] else (cutL l).map pVal

theorem cutL_ne (l : List UInt8) : cutL l ≠ [] := by
  cases l with
  | nil => simp [cutL]
  | cons c r => unfold cutL; split
                · simp
                · split <;> simp

theorem cutL_none : ∀ (l : List UInt8), 44 ∉ l → cutL l = [l]
  | [], _ => rfl
  | c :: r, h => by
    have hc : ¬ c = 44 := fun e => h (by simp [e])
    have hr : 44 ∉ r := fun e => h (by simp [e])
    unfold cutL; rw [if_neg hc, cutL_none r hr]

theorem cutL_append : ∀ (p r : List UInt8), 44 ∉ p → cutL (p ++ 44 :: r) = p :: cutL r
  | [], r, _ => by simp [cutL]
  | c :: p, r, h => by
    have hc : ¬ c = 44 := fun e => h (by simp [e])
    have hp : 44 ∉ p := fun e => h (by simp [e])
    rw [List.cons_append]
    have e : cutL (c :: (p ++ 44 :: r)) = match cutL (p ++ 44 :: r) with
        | [] => [[c]]
        | p :: ps => (c :: p) :: ps := if_neg hc
    rw [e, cutL_append p r hp]

/-- parts without a comma come back -/
theorem cut_join : ∀ (ps : List (List UInt8)), ps ≠ [] → (∀ p ∈ ps, 44 ∉ p) → cutL (joinL ps) = ps
  | [], h, _ => absurd rfl h
  | [p], _, h => cutL_none p (h p (by simp))
  | p :: q :: r, _, h => by
    unfold joinL
    rw [cutL_append p _ (h p (by simp)), cut_join (q :: r) (by simp) (fun x hx => h x (by simp [hx]))]
theorem join_cut : ∀ (l : List UInt8), joinL (cutL l) = l
  | [] => rfl
  | c :: r => by
    have ih := join_cut r
    unfold cutL
    by_cases hc : c = 44
    · rw [if_pos hc]
      cases hr : cutL r with
      | nil => exact absurd hr (cutL_ne r)
      | cons p ps => rw [hr] at ih; unfold joinL; rw [ih, hc]; rfl
    · rw [if_neg hc]
      cases hr : cutL r with
      | nil => exact absurd hr (cutL_ne r)
      | cons p ps =>
        rw [hr] at ih
        cases ps with
        | nil => simp only [joinL] at ih ⊢; rw [ih]
        | cons q qs => simp only [joinL] at ih ⊢; rw [List.cons_append, ih]

theorem word_no_comma {v : Val} (h : v.fault = 0) : 44 ∉ v.word.data.toList := by
  obtain ⟨k, n, s⟩ := v
  simp only [Val.fault] at h
  simp only [Val.word]
  intro hm
  rcases fault_kind h with rfl | rfl | rfl
  · obtain ⟨n1, n2, _⟩ := fault_num h
    obtain ⟨i1, i2⟩ := num_itoa n n1 n2
    obtain ⟨_, _, h3, _⟩ := isNum_parts i1
    have hd : (word 0 n s).data.toList = Lib.itoa n := by show (⟨(Lib.itoa n).toArray⟩ : ByteArray).data.toList = _; simp
    rw [hd] at hm
    have key : ∀ l : List UInt8, l.all digC = true → 44 ∉ l := fun l ha hx => absurd (List.all_eq_true.1 ha _ hx) (by decide)
    cases hl : Lib.itoa n with
    | nil => rw [hl] at hm; simp at hm
    | cons a r =>
      rw [hl] at hm h3
      by_cases e : a = 45
      · subst e
        have : digs (45 :: r) = r := rfl
        rw [this] at h3
        rcases List.mem_cons.1 hm with hx | hx
        · exact absurd hx (by decide)
        · exact key r h3 hx
      · have em : isMinus (a :: r) = false := by simpa [isMinus] using e
        have : digs (a :: r) = a :: r := by unfold digs; rw [em]; rfl
        rw [this] at h3
        exact key _ h3 hm
  · obtain ⟨_, _, hb⟩ := fault_text h
    have hd : (word 1 n s).data.toList = 58 :: s.data.toList := by
      show ((⟨#[58]⟩ : ByteArray) ++ s).data.toList = _
      simp [ByteArray.data_append]
    rw [hd] at hm
    rcases List.mem_cons.1 hm with hx | hx
    · exact absurd hx (by decide)
    · have : bad s = true := by
        unfold bad; rw [List.any_eq_true]; exact ⟨44, hx, by decide⟩
      rw [hb] at this; exact absurd this (by decide)
  · have hd : (word 2 n s).data.toList = [42] := rfl
    rw [hd] at hm; simp at hm

/-- what is right is read from its text as it was -/
theorem read_line {l : List Val} (h : likeF l = 0) : readE (line l).data.toList = 0 ∧ readV (line l).data.toList = l := by
  unfold likeF at h
  by_cases h0 : l.length = 0
  · rw [if_pos h0] at h; exact absurd h (by decide)
  rw [if_neg h0] at h
  by_cases h5 : 5 < l.length
  · rw [if_pos h5] at h; exact absurd h (by decide)
  rw [if_neg h5] at h
  have hall := firstF_zero h
  have hd : (line l).data.toList = joinL (l.map fun v => v.word.data.toList) := by simp [line]
  have hcut : cutL (line l).data.toList = l.map fun v => v.word.data.toList := by
    rw [hd]
    refine cut_join _ (by intro e; exact h0 (by have := congrArg List.length e; simpa using this)) fun p hp => ?_
    obtain ⟨v, hv, rfl⟩ := List.mem_map.1 hp
    exact word_no_comma (hall v hv)
  have hval : ∀ v ∈ l, pErrL v.word.data.toList = 0 ∧ pVal v.word.data.toList = v := fun v hv => by
    have e : (⟨v.word.data.toList.toArray⟩ : ByteArray) = v.word := by cases v.word; simp
    obtain ⟨g1, g2, g3, g4⟩ := back_value (hall v hv)
    unfold pErrL pVal
    rw [e]
    refine ⟨g1, ?_⟩
    show Val.mk (pK (word v.k v.n v.s)) (pN (word v.k v.n v.s)) (pS (word v.k v.n v.s)) = v
    rw [g2, g3, g4]
  have hfp : ∀ l' : List Val, (∀ v ∈ l', v ∈ l) → firstP (l'.map fun v => v.word.data.toList) = 0 := fun l' => by
    induction l' with
    | nil => intro _; rfl
    | cons a r ih =>
      intro hs
      simp only [List.map_cons, firstP]
      rw [if_neg (by have := (hval a (hs a (by simp))).1; simpa using this)]
      exact ih fun v hv => hs v (by simp [hv])
  have hne : (line l).data.toList.length ≠ 0 := by
    intro e
    have e1 := List.length_eq_zero_iff.1 e
    have : cutL (line l).data.toList = [[]] := by rw [e1]; rfl
    rw [hcut] at this
    cases l with
    | nil => exact h0 rfl
    | cons a r =>
      cases r with
      | cons b c => simp at this
      | nil =>
        simp only [List.map_cons, List.map_nil, List.cons.injEq, and_true] at this
        have hv := (hval a (by simp)).1
        rw [this] at hv
        revert hv
        unfold pErrL pErr
        rw [ByteArray.toList_eq]
        decide
  have he : readE (line l).data.toList = 0 := by
    unfold readE
    rw [if_neg hne, hcut, hfp l (fun _ hv => hv), if_neg (by decide), if_neg (by rw [List.length_map]; exact h5)]
  refine ⟨he, ?_⟩
  unfold readV
  rw [if_neg (by rw [he]; decide), hcut, List.map_map]
  have : ∀ l' : List Val, (∀ v ∈ l', v ∈ l) → l'.map (pVal ∘ fun v => v.word.data.toList) = l' := fun l' => by
    induction l' with
    | nil => intro _; rfl
    | cons a r ih =>
      intro hs
      rw [List.map_cons, ih fun v hv => hs v (by simp [hv])]
      congr 1
      exact (hval a (hs a (by simp))).2
  exact this l fun _ hv => hv

end Go.Proofs.YtlefhfmckimlaakGreatDoor.M

namespace Go.Proofs.YtlefhfmckimlaakGreatDoor
open Go.RowKit

/-- the builder in block b, from block B on, holds the bytes bs -/
def Blt (B b : Nat) (bs : List Value) (w : World) : Prop := Lib.IsBuilder 133 5 B b bs w

theorem sizeB : (Tryz.prog.info? 133).map (·.size) = some 2 := by kernel_rfl
theorem liesB : liesAt Tryz.prog Tryz.prog.depth 133 (2 / Tryz.prog.cellsOf 133) 0 133 1 = true := by kernel_rfl
theorem infoByte : (Tryz.prog.info? 5).map (fun i => (i.zero, i.size, i.bytes)) = some (some (.int .u8 0), 1, 1) := by kernel_rfl

set_option maxRecDepth 100000 in
set_option maxHeartbeats 1000000 in
/-- a builder that was written before is let by -/
theorem checkUsed (b : Nat) (w : World) (h0 : w.cell? ⟨b, 0, none⟩ = some (.pointer (some ⟨b, 0, none⟩))) :
    Calls Tryz.prog 104 #[.pointer (some ⟨b, 0, none⟩)] w fun e w' => e = .returned (.tuple #[]) ∧ w' = w := by
  obtain ⟨j, hj, _⟩ := Option.map_eq_some_iff.1 sizeB
  have same := Lib.run_neq_ptr_same w ⟨b, 0, none⟩ Tryz.underlying130 hj
  go_enter Tryz.func104, Tryz.ntmps104
  go_wp2
  go_end0
  exact ⟨rfl, rfl⟩

set_option maxRecDepth 100000 in
set_option maxHeartbeats 1000000 in
/-- one that was not keeps its own address -/
theorem checkFresh (b : Nat) (w : World) (h0 : w.cell? ⟨b, 0, none⟩ = some (.pointer none)) (hsh : w.shape? b = some (133, 2)) (hfz : w.frozen? ⟨b, 0, none⟩ = false) :
    Calls Tryz.prog 104 #[.pointer (some ⟨b, 0, none⟩)] w fun e w' => e = .returned (.tuple #[]) ∧ w' = w.setCell ⟨b, 0, none⟩ (.pointer (some ⟨b, 0, none⟩)) := by
  obtain ⟨j, hj, hjs⟩ := Option.map_eq_some_iff.1 sizeB
  have there := Lib.run_to_unsafe w ⟨b, 0, none⟩ Tryz.underlying130 Tryz.underlying187 hj (by omega) hsh (show 0 < 2 by decide)
  have through := Lib.run_noEscape (P := Tryz.prog) w (.pointer (some ⟨b, 0, none⟩))
  have call : (callFunc 140 #[.pointer (some ⟨b, 0, none⟩)]).run Tryz.prog w = .ok (.value (.pointer (some ⟨b, 0, none⟩))) w := by
    rw [run_callFunc_extern Tryz.func140 (by kernel_rfl) (by kernel_rfl) (by kernel_rfl) (e := Extern.AbiNoEscape.same) (by kernel_rfl), through]; rfl
  have back := Lib.run_from_unsafe w ⟨b, 0, none⟩ Tryz.underlying187 Tryz.underlying130 hj hsh liesB
  clear through hj hjs
  go_enter Tryz.func104, Tryz.ntmps104
  go_wp2
  go_end0
  exact ⟨rfl, rfl⟩

/-- either way its own address is there behind it, and its bytes are as they were -/
theorem copyCheck (B b : Nat) (bs : List Value) (w : World) (h : Blt B b bs w) :
    Calls Tryz.prog 104 #[.pointer (some ⟨b, 0, none⟩)] w fun e w' => e = .returned (.tuple #[]) ∧ Lib.BuilderAt 133 5 B b (.pointer (some ⟨b, 0, none⟩)) bs w' ∧ Below B w w' :=
  h.elim (fun f => (checkFresh b w f.cell0 f.shape f.frozen0).mono fun _ _ ⟨he, hw⟩ => ⟨he, hw ▸ f.used _, hw ▸ (Below.refl B w).setCell (p := ⟨b, 0, none⟩) f.1 _⟩)
    (fun u => (checkUsed b w u.cell0).mono fun _ _ ⟨he, hw⟩ => ⟨he, hw ▸ u, hw ▸ Below.refl B w⟩)

/-- its two cells, wherever its bytes have gone -/
theorem two_cells {w w' : World} {b : Nat} {p v : Value} (h : w.heap[b]? = some (.cells #[p, v] 133 (0, 0))) (hg : w.grownBy w' v.ownBlock) (hne : v.ownBlock ≠ some b) : w'.heap[b]? = some (.cells #[p, v] 133 (0, 0)) :=
  (hg.block b (Array.getElem?_eq_some_iff.1 h).1 hne.symm).trans h
theorem slice_own {w : World} {B : Nat} {e : TypeId} {v : Value} {n : Nat} {xs : List Value} (h : w.ownsRow B e 1 v n xs) : ∃ ao cap, v = .slice ao n cap :=
  h.2.elim (fun ⟨hv, hn⟩ => ⟨none, 0, by rw [hv, hn]⟩) (fun ⟨_, cap, _, hv, _⟩ => ⟨_, cap, hv⟩)

set_option maxHeartbeats 1000000 in
theorem writeS (B b : Nat) (bs : List Value) (s : ByteArray) (w : World) (h : Blt B b bs w) (hlen : bs.length + s.size ≤ 1000000) (hBw : B ≤ w.heap.size) :
    Calls Tryz.prog 64 #[.pointer (some ⟨b, 0, none⟩), .string s] w fun e w' => e = .returned (.tuple #[.int .i64 s.size, .nilIface]) ∧ Blt B b (bs ++ Lib.strCells s) w' ∧ Below B w w' := by
  obtain ⟨i0, hi, hz0, hz1, hz2⟩ := info_parts infoByte
  go_enter Tryz.func64, Tryz.ntmps64
  go_wp2_with fail
  refine (copyCheck B b bs _ h).mono ?_
  rintro e w1 ⟨rfl, ⟨hB, v, hbk, hown, hne⟩, hb1⟩
  have hsz : B ≤ w1.heap.size := Nat.le_trans hBw hb1.size
  have at0 : w1.cell? ⟨b, 0, none⟩ = some (.pointer (some ⟨b, 0, none⟩)) := (Lib.cell_of_heap hbk 0).trans rfl
  have at1 : w1.cell? ⟨b, 1, none⟩ = some v := (Lib.cell_of_heap hbk 1).trans rfl
  go_wp2_with (at_builtin; refine Lib.wpList_append_own_string _ rfl (.tmp 12) (.tmp 13) 131 9 rfl B 5 i0 Tryz.underlying131 Tryz.underlying9 hi hz0 hz1 hz2 v bs.length bs rfl hown s rfl (by unfold maxLen; omega) (by omega) hsz ?_)
  intro v' w2 hown' hgrow _
  have HB2 := hide (hb1.grown hgrow hsz (fun k hk => (hown.lt k hk).1))
  have hbk2 := two_cells hbk hgrow hne
  have to0 : w2.cell? ⟨b, 0, none⟩ = some (.pointer (some ⟨b, 0, none⟩)) := (Lib.cell_of_heap hbk2 0).trans rfl
  have to1 : w2.cell? ⟨b, 1, none⟩ = some v := (Lib.cell_of_heap hbk2 1).trans rfl
  have free1 := Lib.frozen_of_heap hbk2 1
  obtain ⟨ao, cap, rfl⟩ := slice_own hown'
  have HP := hide (Lib.BuilderAt.put (T := 133) (e := 5) (bs' := bs ++ Lib.strCells s) hB hbk2 (by rw [List.length_append, Lib.strCells_length]; exact hown') (by decide))
  clear hown hown' hgrow hbk hbk2 hb1 hne
  go_wp2
  go_ret2
  exact ⟨rfl, Or.inr HP.out, HB2.out.setCell (p := ⟨b, 1, none⟩) hB _⟩

end Go.Proofs.YtlefhfmckimlaakGreatDoor

set_option linter.unusedVariables false
namespace Go.Proofs.YtlefhfmckimlaakGreatDoor
open Go.RowKit

/-- every block that is neither a builder nor a row of bytes stays -/
def Spare (w w' : World) : Prop := ∀ (i : Nat) (c : Array Value) (T : TypeId) (fr : Nat × Nat), T ≠ 133 → T ≠ 5 → w.heap[i]? = some (.cells c T fr) → w'.heap[i]? = some (.cells c T fr)
theorem Spare.refl (w : World) : Spare w w := fun _ _ _ _ _ _ h => h
theorem Spare.trans {a b c : World} (h : Spare a b) (k : Spare b c) : Spare a c := fun i cs T fr h1 h2 hh => k i cs T fr h1 h2 (h i cs T fr h1 h2 hh)
theorem Spare.below {w w' : World} (h : Below w.heap.size w w') : Spare w w' := fun i _ _ _ _ _ hh => (h.block i (heap_lt hh)).trans hh
theorem Spare.solid {w w' : World} (h : Spare w w') : Solid w w' := fun i c fr hh => h i c _ fr (by decide) (by decide) hh
theorem Spare.row {w w' : World} (h : Spare w w') {Q Q' : Value → List M.Val → Prop} {base : Nat} {v : Value} {L : List (List M.Val)} (hr : RowOf Q base w v L) (hq : ∀ x l, Q x l → Q' x l) : RowOf Q' base w' v L := by
  obtain ⟨xs, h1, h2⟩ := hr
  refine ⟨xs, ⟨h1.1, ?_⟩, fun i a b => hq _ _ (h2 i a b)⟩
  rcases h1.2 with h3 | ⟨g, cap, cur, hv, hg, hh, r⟩
  · exact Or.inl h3
  · exact Or.inr ⟨g, cap, cur, hv, hg, h _ _ _ _ (by decide) (by decide) hh, r⟩

theorem copyCheckK (B b : Nat) (bs : List Value) (w : World) (h : Blt B b bs w) :
    Calls Tryz.prog 104 #[.pointer (some ⟨b, 0, none⟩)] w fun e w' => e = .returned (.tuple #[]) ∧ Lib.BuilderAt 133 5 B b (.pointer (some ⟨b, 0, none⟩)) bs w' ∧ Below B w w' ∧ Spare w w' := by
  refine h.elim (fun f => ?_) (fun u => ?_)
  · refine (checkFresh b w f.cell0 f.shape f.frozen0).mono fun _ _ ⟨he, hw⟩ => ⟨he, hw ▸ f.used _, hw ▸ (Below.refl B w).setCell (p := ⟨b, 0, none⟩) f.1 _, ?_⟩
    rw [hw]
    intro i c T fr h1 h2 hh
    refine (heap_setCell_other w ⟨b, 0, none⟩ i _ (fun e => ?_)).trans hh
    obtain ⟨hB, v, hv, _⟩ := f
    have e' : i = b := e
    rw [e', hv] at hh
    exact h1 (tag_eq hh).symm
  · exact (checkUsed b w u.cell0).mono fun _ _ ⟨he, hw⟩ => ⟨he, hw ▸ u, hw ▸ Below.refl B w, hw ▸ Spare.refl w⟩

set_option maxHeartbeats 1000000 in
theorem writeK (B b : Nat) (bs : List Value) (s : ByteArray) (w : World) (h : Blt B b bs w) (hlen : bs.length + s.size ≤ 1000000) (hBw : B ≤ w.heap.size) :
    Calls Tryz.prog 64 #[.pointer (some ⟨b, 0, none⟩), .string s] w fun e w' => e = .returned (.tuple #[.int .i64 s.size, .nilIface]) ∧ Blt B b (bs ++ Lib.strCells s) w' ∧ Below B w w' ∧ Spare w w' := by
  obtain ⟨i0, hi, hz0, hz1, hz2⟩ := info_parts infoByte
  go_enter Tryz.func64, Tryz.ntmps64
  go_wp2_with fail
  refine (copyCheckK B b bs _ h).mono ?_
  rintro e w1 ⟨rfl, ⟨hB, v, hbk, hown, hne⟩, hb1, hk1⟩
  have hsz : B ≤ w1.heap.size := Nat.le_trans hBw hb1.size
  have at0 : w1.cell? ⟨b, 0, none⟩ = some (.pointer (some ⟨b, 0, none⟩)) := (Lib.cell_of_heap hbk 0).trans rfl
  have at1 : w1.cell? ⟨b, 1, none⟩ = some v := (Lib.cell_of_heap hbk 1).trans rfl
  go_wp2_with (at_builtin; refine Lib.wpList_append_own_string _ rfl (.tmp 12) (.tmp 13) 131 9 rfl B 5 i0 Tryz.underlying131 Tryz.underlying9 hi hz0 hz1 hz2 v bs.length bs rfl hown s rfl (by unfold maxLen; omega) (by omega) hsz ?_)
  intro v' w2 hown' hgrow _
  have HB2 := hide (hb1.grown hgrow hsz (fun k hk => (hown.lt k hk).1))
  have hbk2 := two_cells hbk hgrow hne
  have HK2 : Hid (∀ u, Spare w (w2.setCell ⟨b, 1, none⟩ u)) := hide fun u i c T fr h1 h2 hh => by
    have h3 := hk1 i c T fr h1 h2 hh
    refine (heap_setCell_other w2 ⟨b, 1, none⟩ i _ (fun e => ?_)).trans ((hgrow.block i (heap_lt h3) (fun e => ?_)).trans h3)
    · have e' : i = b := e
      rw [e', hbk] at h3
      exact h1 (tag_eq h3).symm
    · rcases hown.2 with ⟨hv, _⟩ | ⟨g, cap, cur, hv, _, hh', _⟩
      · rw [hv] at e; cases e
      · rw [hv] at e
        have : i = g := by simpa [Value.ownBlock] using e
        subst this
        rw [hh'] at h3
        exact h2 (tag_eq h3).symm
  have to0 : w2.cell? ⟨b, 0, none⟩ = some (.pointer (some ⟨b, 0, none⟩)) := (Lib.cell_of_heap hbk2 0).trans rfl
  have to1 : w2.cell? ⟨b, 1, none⟩ = some v := (Lib.cell_of_heap hbk2 1).trans rfl
  have free1 := Lib.frozen_of_heap hbk2 1
  obtain ⟨ao, cap, rfl⟩ := slice_own hown'
  have HP := hide (Lib.BuilderAt.put (T := 133) (e := 5) (bs' := bs ++ Lib.strCells s) hB hbk2 (by rw [List.length_append, Lib.strCells_length]; exact hown') (by decide))
  clear hown hown' hgrow hbk hbk2 hb1 hne hk1
  go_wp2
  go_ret2
  exact ⟨rfl, Or.inr HP.out, HB2.out.setCell (p := ⟨b, 1, none⟩) hB _, HK2.out _⟩

end Go.Proofs.YtlefhfmckimlaakGreatDoor

namespace Go.Proofs.YtlefhfmckimlaakGreatDoor
open Go.RowKit

theorem join_snoc : ∀ (ps : List (List UInt8)) (p : List UInt8), ps ≠ [] → M.joinL (ps ++ [p]) = M.joinL ps ++ 44 :: p
  | [], _, h => absurd rfl h
  | [a], p, _ => rfl
  | a :: b :: r, p, _ => by
    have ih : M.joinL (b :: (r ++ [p])) = M.joinL (b :: r) ++ 44 :: p := join_snoc (b :: r) p (by simp)
    show a ++ 44 :: M.joinL (b :: (r ++ [p])) = (a ++ 44 :: M.joinL (b :: r)) ++ 44 :: p
    rw [ih]; simp
def words (l : List M.Val) : List (List UInt8) := l.map fun v => v.word.data.toList
theorem line_eq (l : List M.Val) : M.line l = ⟨(M.joinL (words l)).toArray⟩ := rfl

theorem word_size {v : M.Val} (h : v.fault = 0) : v.word.data.toList.length ≤ 13 := by
  obtain ⟨k, n, s⟩ := v
  simp only [M.Val.fault] at h
  simp only [M.Val.word]
  rcases fault_kind h with rfl | rfl | rfl
  · obtain ⟨n1, n2, _⟩ := fault_num h
    obtain ⟨i1, _⟩ := M.num_itoa n n1 n2
    obtain ⟨_, h2, _, _⟩ := M.isNum_parts i1
    have hd : (M.word 0 n s).data.toList = Lib.itoa n := by show (⟨(Lib.itoa n).toArray⟩ : ByteArray).data.toList = _; simp
    rw [hd]
    unfold M.digs at h2
    split at h2
    · rw [List.length_tail] at h2; omega
    · omega
  · obtain ⟨_, h2, _⟩ := fault_text h
    have hd : (M.word 1 n s).data.toList = 58 :: s.data.toList := by
      show ((⟨#[58]⟩ : ByteArray) ++ s).data.toList = _
      simp [ByteArray.data_append]
    rw [hd]
    have : s.data.toList.length = s.size := by simp
    simp only [List.length_cons]; omega
  · have hd : (M.word 2 n s).data.toList = [42] := rfl
    rw [hd]; decide
theorem join_len : ∀ (ps : List (List UInt8)), (∀ p ∈ ps, p.length ≤ 13) → (M.joinL ps).length ≤ ps.length * 14
  | [], _ => Nat.le_refl _
  | [p], h => by have := h p (by simp); simp only [M.joinL, List.length_cons, List.length_nil]; omega
  | p :: q :: r, h => by
    have ih := join_len (q :: r) (fun x hx => h x (by simp [hx]))
    have := h p (by simp)
    simp only [M.joinL, List.length_append, List.length_cons] at ih ⊢
    omega
theorem words_len {l : List M.Val} (h : ∀ v ∈ l, v.fault = 0) : (M.joinL (words l)).length ≤ l.length * 14 := by
  have := join_len (words l) (fun p hp => by obtain ⟨v, hv, rfl⟩ := List.mem_map.1 hp; exact word_size (h v hv))
  simpa [words] using this
theorem words_take {l : List M.Val} {k : Nat} (h : k < l.length) : words (l.take (k + 1)) = words (l.take k) ++ [l[k].word.data.toList] := by
  unfold words
  rw [List.take_succ_eq_append_getElem h, List.map_append]; rfl

theorem Blt.stays {B b : Nat} {bs : List Value} {w w' : World} (h : Blt B b bs w) (hb : Below w.heap.size w w') : Blt B b bs w' := by
  have key : ∀ p, Lib.BuilderAt 133 5 B b p bs w → Lib.BuilderAt 133 5 B b p bs w' := fun p hp => by
    have hlt := hp.lt
    obtain ⟨hB, v, hv, hown, hne⟩ := hp
    refine ⟨hB, v, (hb.block b hlt).trans hv, ?_, hne⟩
    obtain ⟨h1, h2⟩ := hown
    refine ⟨h1, ?_⟩
    rcases h2 with h2 | ⟨g, cap, cur, e1, e2, e3, e4⟩
    · exact Or.inl h2
    · have hg : g < w.heap.size := by
        rcases Nat.lt_or_ge g w.heap.size with h' | h'
        · exact h'
        · simp [Array.getElem?_eq_none h'] at e3
      exact Or.inr ⟨g, cap, cur, e1, e2, (hb.block g hg).trans e3, e4⟩
  rcases h with h | h
  · exact Or.inl (key _ h)
  · exact Or.inr (key _ h)

theorem tprint_bad (v : Value) (l : List M.Val) (w : World) (h : IsVals w v l) (hf : M.likeF l ≠ 0) :
    Calls Tryz.prog 81 #[v] w fun e w' => e = .returned (.tuple #[.string ⟨#[]⟩, errV (M.likeF l)]) ∧ Below w.heap.size w w' := by
  have HL : Hid (Calls Tryz.prog 99 #[v] w fun e w' => e = .returned (.iface 87 (.int .i64 (M.likeF l))) ∧ Below w.heap.size w w') := hide (by rw [← errV_bad hf]; exact like v l w h)
  have HF := hide hf
  clear hf h
  go_enter Tryz.func81, Tryz.ntmps81
  go_wp2_with fail
  refine (unhide HL).mono ?_
  rintro e w1 ⟨rfl, hb1⟩
  go_wp2_with fail
  go_ret2
  exact ⟨by rw [errV_bad HF.out]; rfl, hb1⟩

theorem likeF_each' {l : List M.Val} (h : M.likeF l = 0) : ∀ v ∈ l, v.fault = 0 := by
  obtain ⟨h0, h5⟩ := likeF_len h
  unfold M.likeF at h
  rw [if_neg (by omega), if_neg (by omega)] at h
  exact M.firstF_zero h

theorem cells_comma (l : List UInt8) : Lib.byteCells l ++ Lib.strCells ⟨#[44]⟩ = Lib.byteCells (l ++ [44]) := by simp [Lib.byteCells, Lib.strCells]
theorem cells_word (l : List UInt8) (s : ByteArray) : Lib.byteCells l ++ Lib.strCells s = Lib.byteCells (l ++ s.data.toList) := by simp [Lib.byteCells, Lib.strCells]

set_option maxHeartbeats 1000000 in
theorem tprint_walk (b off cap : Nat) (l : List M.Val) (w : World) (hl : Lie w b off l) (hc : l.length ≤ cap) (hcm : cap ≤ maxLen) (hf : M.likeF l = 0) (ht : Tab w) :
    Calls Tryz.prog 81 #[.slice (some ⟨b, off, none⟩) l.length cap] w fun e w' => e = .returned (.tuple #[.string (M.line l), .nilIface]) ∧ Below w.heap.size w w' := by
  obtain ⟨h0, h5⟩ := likeF_len hf
  have hv : IsVals w (.slice (.some ⟨b, off, none⟩) l.length cap) l := Or.inr (Or.inr ⟨b, off, cap, h0, rfl, hc, hcm, hl⟩)
  have HL : Hid (Calls Tryz.prog 99 #[.slice (some ⟨b, off, none⟩) l.length cap] w fun e w' => e = .returned .nilIface ∧ Below w.heap.size w w') := hide (by have := like _ l w hv; rwa [hf] at this)
  have HE := hide (likeF_each' hf)
  have HLI := hide hl
  have HT := hide ht
  clear hv hf hl ht hc hcm
  obtain ⟨n, hn⟩ : ∃ n, n = l.length := ⟨_, rfl⟩
  rw [← hn] at h0 h5 HL ⊢
  have HN := hide hn
  clear hn
  go_enter Tryz.func81, Tryz.ntmps81
  go_wp2_with fail
  refine (unhide HL).mono ?_
  rintro e w1 ⟨rfl, hb1⟩
  have hw1 := hb1.size
  go_wp2_with fail
  go_loopw [17] (fun i wr => ∃ k : Nat, k ≤ n ∧ i = .int .i64 k ∧ Hid (Blt w1.heap.size w1.heap.size (Lib.byteCells (M.joinL (words (l.take k)))) wr) ∧ Hid (Below w1.heap.size w1 wr)) (fun i _ => n - (intOf i).toNat)
  case atStart => exact ⟨0, Nat.zero_le _, rfl, hide (Lib.fresh_isBuilder _ _ _), hide ((Below.refl _ _).alloc (Nat.le_refl _) _)⟩
  case round =>
    obtain ⟨k, hk, rfl, hblt, hbel⟩ := hrel
    by_cases hlt : k < n
    · have hkl : k < l.length := HN.out ▸ hlt
      have hbw : Hid (Below w.heap.size w wr) := hide (hb1.trans (hbel.out.mono hw1))
      obtain ⟨c1, c2, c3, c4⟩ := ((unhide HLI).stays (by omega) hbw.out (Nat.le_refl _)) k hkl
      have HC4 := hide c4
      clear c4
      have hfk : Hid (M.fault l[k].k l[k].n l[k].s = 0) := hide (HE.out _ (List.getElem_mem hkl))
      have HSZ : Hid ((M.joinL (words (l.take k))).length ≤ 70) := hide (by
        have := words_len (l := l.take k) (fun v hv => HE.out v (List.mem_of_mem_take hv))
        rw [List.length_take] at this; omega)
      have HWZ : Hid ((M.word l[k].k l[k].n l[k].s).size ≤ 13) := hide (by have := word_size (v := l[k]) (HE.out _ (List.getElem_mem hkl)); simpa [M.Val.word] using this)
      have HTR : Hid (∀ o, Tab (wr.alloc o)) := hide fun o => (HT.out.stays (hbw.out.alloc hbw.out.size o) (Nat.le_refl _))
      have hws := hbel.out.size
      go_wp2_with fail
      refine (printOk _ _ _ _ HC4.out hfk.out (HTR.out _)).mono ?_
      rintro e w2 ⟨rfl, hb2⟩
      have HB2 : Hid (Below wr.heap.size wr w2) := hide (((Below.refl _ _).alloc (Nat.le_refl _) _).trans (hb2.mono (by simp)))
      have hblt2 := hide (hblt.out.stays HB2.out)
      have hz2 := HB2.out.size
      clear hb2
      by_cases hk0 : k = 0
      · subst hk0
        have HW0 : Hid (M.joinL (words (l.take 0)) = []) := hide rfl
        go_wp2_with fail
        refine (writeS w1.heap.size w1.heap.size _ _ _ hblt2.out (by rw [Lib.byteCells_length]; have := HSZ.out; have := HWZ.out; omega) (by omega)).mono ?_
        rintro e w3 ⟨rfl, hblt3, hb3⟩
        have HB3 := hide (hbel.out.trans ((HB2.out.mono hws).trans hb3))
        have HBL3 := hide hblt3
        clear hb3 hblt3
        go_wp2_with fail
        go_roundw
        case rel =>
          refine ⟨1, by omega, by go_num, hide ?_, HB3⟩
          have := HBL3.out
          rw [cells_word] at this
          rw [words_take hkl]
          exact this
        case measure => simp [intOf]; omega
      · have hk1 : (0 : Int) < (k : Int) := by omega
        go_wp2_with fail
        refine (writeS w1.heap.size w1.heap.size _ _ _ hblt2.out (by rw [Lib.byteCells_length]; have := HSZ.out; show _ + 1 ≤ _; omega) (by omega)).mono ?_
        rintro e w3 ⟨rfl, hblt3, hb3⟩
        have hz3 := hb3.size
        have HB3 := hide ((HB2.out.mono hws).trans hb3)
        have HBL3 : Hid (Blt w1.heap.size w1.heap.size (Lib.byteCells (M.joinL (words (l.take k)) ++ [44])) w3) := hide (by have := hblt3; rwa [cells_comma] at this)
        clear hb3 hblt3
        go_wp2_with fail
        refine (writeS w1.heap.size w1.heap.size _ _ _ HBL3.out (by rw [Lib.byteCells_length, List.length_append]; have := HSZ.out; have := HWZ.out; show _ + 1 + _ ≤ _; omega) (by omega)).mono ?_
        rintro e w4 ⟨rfl, hblt4, hb4⟩
        have HB4 := hide (hbel.out.trans (HB3.out.trans hb4))
        have HBL4 := hide hblt4
        clear hb4 hblt4
        go_wp2_with fail
        go_roundw
        case rel =>
          refine ⟨k + 1, by omega, by go_num, hide ?_, HB4⟩
          have := HBL4.out
          rw [cells_word, List.append_assoc] at this
          rw [words_take hkl, join_snoc _ _ (by
            intro e
            have := congrArg List.length e
            unfold words at this
            rw [List.length_map, List.length_take] at this
            simp only [List.length_nil] at this
            omega)]
          exact this
        case measure => simp [intOf]; omega
    · have hfin : Hid (l.take k = l) := hide (List.take_of_length_le (by have := HN.out; omega))
      have hblt' : Hid (Blt w1.heap.size w1.heap.size (Lib.byteCells (M.joinL (words l))) wr) := hide (by have := hblt.out; rwa [hfin.out] at this)
      have hws := hbel.out.size
      go_wp2_with fail
      refine (Tryz.Builder_String_any w1.heap.size w1.heap.size _ _ hblt'.out hws).mono ?_
      rintro e w2 ⟨rfl, hb2⟩
      go_wp2_with fail
      go_ret2
      exact ⟨by rw [line_eq]; rfl, hb1.trans ((hbel.out.trans hb2).mono hw1)⟩

theorem tprint (v : Value) (l : List M.Val) (w : World) (h : IsVals w v l) (ht : Tab w) :
    Calls Tryz.prog 81 #[v] w fun e w' => e = .returned (.tuple #[.string (if M.likeF l = 0 then M.line l else ⟨#[]⟩), errV (M.likeF l)]) ∧ Below w.heap.size w w' := by
  by_cases hf : M.likeF l = 0
  · obtain ⟨b, off, cap, rfl, h1, h2, h3⟩ := h.some (likeF_len hf).1
    rw [if_pos hf, hf]
    exact tprint_walk b off cap l w h3 h1 h2 hf ht
  · rw [if_neg hf]
    exact tprint_bad v l w h hf

end Go.Proofs.YtlefhfmckimlaakGreatDoor
