/-
  Plain functions on values: which fault a value has, and how two byte lists are ordered. No program is named here.
  Plain functions on tuples: which fault one has, whether one fits. No program is walked here.
  Plain facts on a queue: what is wrong with what is asked, what a push answers, what is to come; that what was pushed by each goes from 1 on without a gap. No program is walked here.
  Plain facts on powers modulo a number, and on the field of 257 numbers. No program is walked here.
-/
import Derived.WalkKit
namespace Go.Proofs.YtlefhfmckimlaakGreatDoor.M

/-- a byte that is none of a to z -/
def badC (c : UInt8) : Bool := decide (c.toNat < 97) || decide (122 < c.toNat)
def bad (s : ByteArray) : Bool := s.data.toList.any badC

/-- the number of a value's fault, 0 for none: of a number, of a text, of anything, of any value -/
def faultN (n : Int) (s : ByteArray) : Int := if n < -1000000 ∨ 1000000 < n then 1 else if s.size = 0 then 0 else 3
def faultT (n : Int) (s : ByteArray) : Int := if 12 < s.size then 4 else if n = 0 then (if bad s then 3 else 0) else 3
def faultA (n : Int) (s : ByteArray) : Int := if n = 0 ∧ s.size = 0 then 0 else 3
def fault (k n : Int) (s : ByteArray) : Int := if k = 0 then faultN n s else if k = 1 then faultT n s else if k = 2 then faultA n s else 1

theorem fault_range (k n : Int) (s : ByteArray) : fault k n s = 0 ∨ fault k n s = 1 ∨ fault k n s = 3 ∨ fault k n s = 4 := by
  unfold fault faultN faultT faultA; repeat' split
  all_goals simp

def cmpI (a b : Int) : Int := if a < b then -1 else if b < a then 1 else 0
def cmpS (a b : ByteArray) : Int := if Op.bytesLess a.toList b.toList then -1 else if a.toList == b.toList then 0 else 1

/-- the first of two faults -/
def both (a b : Int) : Int := if a = 0 then b else a

def ord (k1 n1 : Int) (s1 : ByteArray) (k2 n2 : Int) (s2 : ByteArray) : Int :=
  if cmpI k1 k2 ≠ 0 then cmpI k1 k2 else if cmpI n1 n2 ≠ 0 then cmpI n1 n2 else cmpS s1 s2
def same (k1 n1 : Int) (s1 : ByteArray) (k2 n2 : Int) (s2 : ByteArray) : Bool := k1 == k2 && n1 == n2 && s1.toList == s2.toList

end Go.Proofs.YtlefhfmckimlaakGreatDoor.M

namespace Go.Proofs.YtlefhfmckimlaakGreatDoor.M

/-- a value: its kind, its number, its text -/
structure Val where
  k : Int
  n : Int
  s : ByteArray

def Val.fault (v : Val) : Int := M.fault v.k v.n v.s
def Val.same (a b : Val) : Bool := M.same a.k a.n a.s b.k b.n b.s

/-- the first fault of some values -/
def firstF : List Val → Int
  | [] => 0
  | v :: r => if v.fault ≠ 0 then v.fault else firstF r
/-- the fault of what is asked for, and of a tuple -/
def likeF (l : List Val) : Int := if l.length = 0 then 5 else if 5 < l.length then 4 else firstF l
def hasAny (l : List Val) : Bool := l.any fun v => v.k == 2
def tupF (l : List Val) : Int := if likeF l ≠ 0 then likeF l else if hasAny l then 3 else 0

/-- does a value fit, field by field -/
def fit1 (a b : Val) : Bool := a.k == 2 || a.same b
def fitAll : List Val → List Val → Bool
  | [], [] => true
  | a :: l, b :: t => fit1 a b && fitAll l t
  | _, _ => false

theorem firstF_zero : ∀ {l : List Val}, firstF l = 0 → ∀ v ∈ l, v.fault = 0
  | [], _, v, hv => by simp at hv
  | a :: l, h, v, hv => by
    unfold firstF at h
    by_cases ha : a.fault ≠ 0
    · rw [if_pos ha] at h; exact absurd h ha
    · rw [if_neg ha] at h
      rcases List.mem_cons.1 hv with rfl | hx
      · simpa using ha
      · exact firstF_zero h v hx

end Go.Proofs.YtlefhfmckimlaakGreatDoor.M

namespace Go.Proofs.YtlefhfmckimlaakGreatDoor.M

/-- what is asked: by whom, which one of his, what is to be done, and with what -/
structure Ask where
  who : Int
  seq : Int
  deed : Int
  t : List Val

/-- what is wrong with one -/
def askF (a : Ask) : Int := if a.who < 0 ∨ 1000000 < a.who ∨ a.deed < 0 ∨ 2 < a.deed then 1 else if a.deed = 0 then tupF a.t else likeF a.t
theorem askF_range {a : Ask} (h : a.who < 0 ∨ 1000000 < a.who ∨ a.deed < 0 ∨ 2 < a.deed) : askF a = 1 := by unfold askF; rw [if_pos h]
theorem askF_put {a : Ask} (h : ¬ (a.who < 0 ∨ 1000000 < a.who ∨ a.deed < 0 ∨ 2 < a.deed)) (h0 : a.deed = 0) : askF a = tupF a.t := by unfold askF; rw [if_neg h, if_pos h0]
theorem askF_else {a : Ask} (h : ¬ (a.who < 0 ∨ 1000000 < a.who ∨ a.deed < 0 ∨ 2 < a.deed)) (h0 : a.deed ≠ 0) : askF a = likeF a.t := by unfold askF; rw [if_neg h, if_neg h0]
theorem tupF_like {l : List Val} (h : tupF l = 0) : likeF l = 0 := by
  unfold tupF at h
  by_cases hl : likeF l = 0
  · exact hl
  · rw [if_pos hl] at h; exact h
theorem askF_ok {a : Ask} (h : askF a = 0) : (0 ≤ a.who ∧ a.who ≤ 1000000) ∧ (0 ≤ a.deed ∧ a.deed ≤ 2) ∧ likeF a.t = 0 := by
  by_cases hr : a.who < 0 ∨ 1000000 < a.who ∨ a.deed < 0 ∨ 2 < a.deed
  · rw [askF_range hr] at h; exact absurd h (by decide)
  · by_cases h0 : a.deed = 0
    · rw [askF_put hr h0] at h; exact ⟨by omega, by omega, tupF_like h⟩
    · rw [askF_else hr h0] at h; exact ⟨by omega, by omega, h⟩

/-- what a push answers: f says the last one of each, n are there -/
def pushE (f : Int → Int) (n : Nat) (a : Ask) : Int := if askF a ≠ 0 then askF a else if a.seq < f a.who + 1 then 7 else if f a.who + 1 < a.seq then 6 else if 30 ≤ n then 4 else 0
section
variable {f : Int → Int} {n : Nat} {a : Ask}
theorem pushE_bad (h : askF a ≠ 0) : pushE f n a = askF a := by unfold pushE; rw [if_pos h]
theorem pushE_clash (h : askF a = 0) (h1 : a.seq < f a.who + 1) : pushE f n a = 7 := by unfold pushE; rw [if_neg (by simpa using h), if_pos h1]
theorem pushE_state (h : askF a = 0) (h1 : f a.who + 1 < a.seq) : pushE f n a = 6 := by unfold pushE; rw [if_neg (by simpa using h), if_neg (by omega), if_pos h1]
theorem pushE_full (h : askF a = 0) (h1 : a.seq = f a.who + 1) (hn : 30 ≤ n) : pushE f n a = 4 := by unfold pushE; rw [if_neg (by simpa using h), if_neg (by omega), if_neg (by omega), if_pos hn]
theorem pushE_goes (h : askF a = 0) (h1 : a.seq = f a.who + 1) (hn : ¬ 30 ≤ n) : pushE f n a = 0 := by unfold pushE; rw [if_neg (by simpa using h), if_neg (by omega), if_neg (by omega), if_neg hn]
theorem pushE_ok (h : pushE f n a = 0) : askF a = 0 ∧ a.seq = f a.who + 1 ∧ n < 30 := by
  by_cases h0 : askF a = 0
  · rcases Int.lt_trichotomy a.seq (f a.who + 1) with h1 | h1 | h1
    · rw [pushE_clash h0 h1] at h; exact absurd h (by decide)
    · by_cases hn : 30 ≤ n
      · rw [pushE_full h0 h1 hn] at h; exact absurd h (by decide)
      · exact ⟨h0, h1, by omega⟩
    · rw [pushE_state h0 h1] at h; exact absurd h (by decide)
  · rw [pushE_bad h0] at h; exact absurd h h0
end
/-- the last one of each behind a push that goes -/
def upF (f : Int → Int) (a : Ask) : Int → Int := fun k => if k = a.who then a.seq else f k
theorem upF_same {f : Int → Int} {a : Ask} : upF f a a.who = a.seq := by unfold upF; rw [if_pos rfl]
theorem upF_other {f : Int → Int} {a : Ask} {k : Int} (h : k ≠ a.who) : upF f a k = f k := by unfold upF; rw [if_neg h]
/-- how many of somebody's there are -/
def his (k : Int) (l : List Ask) : Nat := l.countP fun a => a.who == k
theorem his_nil (k : Int) : his k [] = 0 := rfl
theorem his_snoc (k : Int) (l : List Ask) (a : Ask) : his k (l ++ [a]) = his k l + if a.who = k then 1 else 0 := by
  unfold his
  rw [List.countP_append, List.countP_singleton]
  simp
/-- pushed one by one, each as its turn came -/
def Turn (l : List Ask) : Prop := ∀ i (h : i < l.length), l[i].seq = his l[i].who (l.take (i + 1))
theorem turn_nil : Turn [] := fun i h => absurd h (by simp)
theorem Turn.snoc {l : List Ask} {a : Ask} (h : Turn l) (ha : a.seq = his a.who l + 1) : Turn (l ++ [a]) := fun i hi => by
  by_cases hl : i < l.length
  · have e : (l ++ [a])[i] = l[i] := List.getElem_append_left hl
    rw [e, List.take_append_of_le_length (by omega)]
    exact h i hl
  · have e : i = l.length := by simp at hi; omega
    subst e
    rw [List.getElem_append_right (Nat.le_refl _), List.take_of_length_le (by simp)]
    simp only [Nat.sub_self, List.getElem_cons_zero]
    rw [his_snoc, if_pos rfl, ha]
    simp
/-- the last one of each is how many there are of his -/
theorem upF_his {f : Int → Int} {l : List Ask} {a : Ask} (h : ∀ k, f k = his k l) (ha : a.seq = f a.who + 1) : ∀ k, upF f a k = his k (l ++ [a]) := fun k => by
  rw [his_snoc]
  by_cases hk : k = a.who
  · subst hk
    rw [upF_same, ha, h, if_pos rfl]
    simp
  · rw [upF_other hk, h, if_neg (fun e => hk e.symm)]
    simp
theorem his_le (k : Int) (l : List Ask) : his k l ≤ l.length := List.countP_le_length

end Go.Proofs.YtlefhfmckimlaakGreatDoor.M

namespace Go.Proofs.YtlefhfmckimlaakGreatDoor.M

/-- a power, modulo b -/
def pw (a n b : Nat) : Nat := a ^ n % b

theorem pw_zero {a b : Nat} (h : 2 ≤ b) : pw a 0 b = 1 := by
  unfold pw; rw [Nat.pow_zero]; exact Nat.mod_eq_of_lt h
theorem pw_lt {a n b : Nat} (h : 0 < b) : pw a n b < b := Nat.mod_lt _ h
theorem pw_one {a b : Nat} (h : a < b) : pw a 1 b = a := by
  unfold pw; rw [Nat.pow_one]; exact Nat.mod_eq_of_lt h
theorem pw_of_one (n : Nat) {b : Nat} (h : 2 ≤ b) : pw 1 n b = 1 := by
  unfold pw; rw [Nat.one_pow]; exact Nat.mod_eq_of_lt h
/-- of two powers the product is that of both added up -/
theorem pw_add (a n m b : Nat) : pw a n b * pw a m b % b = pw a (n + m) b := by
  unfold pw; rw [Nat.pow_add, ← Nat.mul_mod]
theorem pw_succ (a n b : Nat) : pw a n b * a % b = pw a (n + 1) b := by
  unfold pw; rw [Nat.pow_succ, Nat.mul_mod (a ^ n) a, Nat.mul_mod, Nat.mod_mod]
theorem pw_half {a n b : Nat} (h : n % 2 = 0) : pw a (n / 2) b * pw a (n / 2) b % b = pw a n b := by
  rw [pw_add]; congr 1; omega
theorem pw_half1 {a n b : Nat} (h : n % 2 = 1) : pw a (n / 2) b * pw a (n / 2) b % b * a % b = pw a n b := by
  rw [pw_add, pw_succ]; congr 1; omega
/-- the other way round: the base squared -/
theorem pw_base (a n b : Nat) : pw (a % b) n b = pw a n b := by
  unfold pw; rw [← Nat.pow_mod]
theorem pw_sq (a k b : Nat) : pw (a * a % b) k b = pw a (2 * k) b := by
  rw [pw_base]; unfold pw; rw [← Nat.pow_two, ← Nat.pow_mul]

/-- the other half of a number that is not nought -/
def inv (a : Nat) : Nat := pw a 255 257
theorem inv_lt (a : Nat) : inv a < 257 := pw_lt (by decide)
theorem inv_is : ∀ a, a < 257 → a ≠ 0 → a * inv a % 257 = 1 := by decide +kernel
theorem fermat : ∀ a, a < 257 → pw a 257 257 = a := by decide +kernel
/-- it is the only one -/
theorem inv_only {a x : Nat} (ha : a < 257) (h0 : a ≠ 0) (hx : x < 257) (h : a * x % 257 = 1) : x = inv a := by
  have h1 := inv_is a ha h0
  have e1 : x * (a * inv a) % 257 = x := by
    rw [Nat.mul_mod, h1, Nat.mul_one, Nat.mod_mod, Nat.mod_eq_of_lt hx]
  have e2 : x * (a * inv a) % 257 = inv a := by
    rw [← Nat.mul_assoc, Nat.mul_comm x a, Nat.mul_mod, h, Nat.one_mul, Nat.mod_mod, Nat.mod_eq_of_lt (inv_lt a)]
  exact e1.symm.trans e2
theorem inv_pos {a : Nat} (ha : a < 257) (h0 : a ≠ 0) : inv a ≠ 0 := fun h => by
  have h1 := inv_is a ha h0
  rw [h, Nat.mul_zero] at h1
  exact absurd h1 (by decide)
/-- spread over sums -/
theorem spread (a b c : Nat) : a * ((b + c) % 257) % 257 = (a * b % 257 + a * c % 257) % 257 := by
  rw [Nat.mul_mod, Nat.mod_mod, ← Nat.mul_mod, Nat.mul_add, Nat.add_mod]

/-- a product's part below b -/
theorem step_odd (r x k b : Nat) (h : k % 2 = 1) : r * x % b * pw (x * x % b) (k / 2) b % b = r * pw x k b % b := by
  rw [pw_sq]
  have e : pw x k b = pw x (2 * (k / 2)) b * x % b := by rw [pw_succ]; congr 1; omega
  rw [e, Nat.mul_mod (r * x % b), Nat.mod_mod, ← Nat.mul_mod, Nat.mul_mod r (_ % b), Nat.mod_mod, ← Nat.mul_mod, Nat.mul_assoc, Nat.mul_comm x]
theorem step_even (r x k b : Nat) (h : k % 2 = 0) : r * pw (x * x % b) (k / 2) b % b = r * pw x k b % b := by
  rw [pw_sq]; congr 2; congr 1; omega

/-- the same on whole numbers -/
def pwI (a n b : Int) : Int := (pw a.toNat n.toNat b.toNat : Nat)
def invI (a : Int) : Int := (inv a.toNat : Nat)
theorem pwI_range (a n : Int) {b : Int} (h : 2 ≤ b) : 0 ≤ pwI a n b ∧ pwI a n b < b := by
  have := pw_lt (a := a.toNat) (n := n.toNat) (b := b.toNat) (by omega)
  unfold pwI; omega
theorem pwI_zero (a : Int) {b : Int} (h : 2 ≤ b) : pwI a 0 b = 1 := by
  unfold pwI; rw [show (0 : Int).toNat = 0 from rfl, pw_zero (by omega)]; rfl
theorem pwI_of_one (n : Int) {b : Int} (h : 2 ≤ b) : pwI 1 n b = 1 := by
  unfold pwI; rw [show (1 : Int).toNat = 1 from rfl, pw_of_one _ (by omega)]; rfl
theorem pwI_fermat {a : Int} (h0 : 0 ≤ a) (h1 : a < 257) : pwI a 257 257 = a := by
  have := fermat a.toNat (by omega)
  unfold pwI; rw [show (257 : Int).toNat = 257 from rfl, this]; omega
theorem pwI_add (a : Int) {n m : Int} (hn : 0 ≤ n) (hm : 0 ≤ m) : pwI a n 257 * pwI a m 257 % 257 = pwI a (n + m) 257 := by
  unfold pwI
  rw [show (n + m).toNat = n.toNat + m.toNat by omega, ← pw_add]; simp
theorem invI_range (a : Int) : 0 ≤ invI a ∧ invI a < 257 := by
  have := inv_lt a.toNat
  unfold invI; omega
theorem invI_is {a : Int} (h0 : 0 < a) (h1 : a < 257) : a * invI a % 257 = 1 := by
  have := inv_is a.toNat (by omega) (by omega)
  obtain ⟨k, rfl⟩ : ∃ k : Nat, a = k := ⟨a.toNat, by omega⟩
  unfold invI
  rw [Int.toNat_natCast] at this ⊢
  omega
theorem invI_two : invI 2 = 129 := by decide +kernel
/-- the first one that does it is it -/
theorem invI_only {a x : Int} (h0 : 0 < a) (h1 : a < 257) (hx : 0 ≤ x) (hx1 : x < 257) (h : x * a % 257 = 1) : x = invI a := by
  obtain ⟨k, rfl⟩ : ∃ k : Nat, a = k := ⟨a.toNat, by omega⟩
  obtain ⟨j, rfl⟩ : ∃ j : Nat, x = j := ⟨x.toNat, by omega⟩
  have := inv_only (a := k) (x := j) (by omega) (by omega) (by omega) (by rw [Nat.mul_comm]; omega)
  unfold invI; rw [Int.toNat_natCast, ← this]
theorem spreadI (a b c : Int) : a * ((b + c) % 257) % 257 = (a * b % 257 + a * c % 257) % 257 := by
  rw [← Int.add_emod, ← Int.mul_add, Int.mul_emod, Int.emod_emod, ← Int.mul_emod]

end Go.Proofs.YtlefhfmckimlaakGreatDoor.M
