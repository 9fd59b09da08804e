/-
  Plain facts on a queue: what is wrong with what is asked, what a push answers, what is to come; that what was pushed by each goes from 1 on without a gap. No program is walked here.
  What is wrong with what is asked by itself: what check of package queue does, and the numbers that package rule tells for it, each as one law of its call.
  The box that holds what is asked, while a call goes on. For any program.
  A map of a call's own that holds the last number of each: its datum, and what one more makes of it. For any program.
-/
import Derived.Test.YtlefhfmckimlaakGreatDoorJTup
import Derived.Test.YtlefhfmckimlaakGreatDoorJSp
import Derived.Maps.Views
import Derived.Maps.Own
import Derived.Maps.OwnOps
namespace Go.Proofs.YtlefhfmckimlaakGreatDoor.M

/-- what is asked: by whom, which one of his, what is to be done, and with what -/
structure Ask where
  who : Int
  seq : Int
  deed : Int
  t : List Val

/-- what is wrong with one -/
def askF (a : Ask) : Int := if a.who < 0 ∨ 1000000 < a.who ∨ a.deed < 0 ∨ 2 < a.deed then 1 else if a.deed = 0 then tupF a.t else likeF a.t
theorem askF_range {a : Ask} (h : a.who < 0 ∨ 1000000 < a.who ∨ a.deed < 0 ∨ 2 < a.deed) : askF a = 1 := by unfold askF; rw [if_pos h]
theorem askF_put {a : Ask} (h : ¬ (a.who < 0 ∨ 1000000 < a.who ∨ a.deed < 0 ∨ 2 < a.deed)) (h0 : a.deed = 0) : askF a = tupF a.t := by unfold askF; rw [if_neg h, if_pos h0]
theorem askF_else {a : Ask} (h : ¬ (a.who < 0 ∨ 1000000 < a.who ∨ a.deed < 0 ∨ 2 < a.deed)) (h0 : a.deed ≠ 0) : askF a = likeF a.t := by unfold askF; rw [if_neg h, if_neg h0]
theorem tupF_like {l : List Val} (h : tupF l = 0) : likeF l = 0 := by
  unfold tupF at h
  by_cases hl : likeF l = 0
  · exact hl
  · rw [if_pos hl] at h; exact h
theorem askF_ok {a : Ask} (h : askF a = 0) : (0 ≤ a.who ∧ a.who ≤ 1000000) ∧ (0 ≤ a.deed ∧ a.deed ≤ 2) ∧ likeF a.t = 0 := by
  by_cases hr : a.who < 0 ∨ 1000000 < a.who ∨ a.deed < 0 ∨ 2 < a.deed
  · rw [askF_range hr] at h; exact absurd h (by decide)
  · by_cases h0 : a.deed = 0
    · rw [askF_put hr h0] at h; exact ⟨by omega, by omega, tupF_like h⟩
    · rw [askF_else hr h0] at h; exact ⟨by omega, by omega, h⟩

/-- what a push answers: f says the last one of each, n are there -/
def pushE (f : Int → Int) (n : Nat) (a : Ask) : Int := if askF a ≠ 0 then askF a else if a.seq < f a.who + 1 then 7 else if f a.who + 1 < a.seq then 6 else if 30 ≤ n then 4 else 0
section
variable {f : Int → Int} {n : Nat} {a : Ask}
theorem pushE_bad (h : askF a ≠ 0) : pushE f n a = askF a := by unfold pushE; rw [if_pos h]
theorem pushE_clash (h : askF a = 0) (h1 : a.seq < f a.who + 1) : pushE f n a = 7 := by unfold pushE; rw [if_neg (by simpa using h), if_pos h1]
theorem pushE_state (h : askF a = 0) (h1 : f a.who + 1 < a.seq) : pushE f n a = 6 := by unfold pushE; rw [if_neg (by simpa using h), if_neg (by omega), if_pos h1]
theorem pushE_full (h : askF a = 0) (h1 : a.seq = f a.who + 1) (hn : 30 ≤ n) : pushE f n a = 4 := by unfold pushE; rw [if_neg (by simpa using h), if_neg (by omega), if_neg (by omega), if_pos hn]
theorem pushE_goes (h : askF a = 0) (h1 : a.seq = f a.who + 1) (hn : ¬ 30 ≤ n) : pushE f n a = 0 := by unfold pushE; rw [if_neg (by simpa using h), if_neg (by omega), if_neg (by omega), if_neg hn]
theorem pushE_ok (h : pushE f n a = 0) : askF a = 0 ∧ a.seq = f a.who + 1 ∧ n < 30 := by
  by_cases h0 : askF a = 0
  · rcases Int.lt_trichotomy a.seq (f a.who + 1) with h1 | h1 | h1
    · rw [pushE_clash h0 h1] at h; exact absurd h (by decide)
    · by_cases hn : 30 ≤ n
      · rw [pushE_full h0 h1 hn] at h; exact absurd h (by decide)
      · exact ⟨h0, h1, by omega⟩
    · rw [pushE_state h0 h1] at h; exact absurd h (by decide)
  · rw [pushE_bad h0] at h; exact absurd h h0
end
/-- the last one of each behind a push that goes -/
def upF (f : Int → Int) (a : Ask) : Int → Int := fun k => if k = a.who then a.seq else f k
theorem upF_same {f : Int → Int} {a : Ask} : upF f a a.who = a.seq := by unfold upF; rw [if_pos rfl]
theorem upF_other {f : Int → Int} {a : Ask} {k : Int} (h : k ≠ a.who) : upF f a k = f k := by unfold upF; rw [if_neg h]
/-- how many of somebody's there are -/
def his (k : Int) (l : List Ask) : Nat := l.countP fun a => a.who == k
theorem his_nil (k : Int) : his k [] = 0 := rfl
theorem his_snoc (k : Int) (l : List Ask) (a : Ask) : his k (l ++ [a]) = his k l + if a.who = k then 1 else 0 := by
  unfold his
  rw [List.countP_append, List.countP_singleton]
  simp
/-- pushed one by one, each as its turn came -/
def Turn (l : List Ask) : Prop := ∀ i (h : i < l.length), l[i].seq = his l[i].who (l.take (i + 1))
theorem turn_nil : Turn [] := fun i h => absurd h (by simp)
theorem Turn.snoc {l : List Ask} {a : Ask} (h : Turn l) (ha : a.seq = his a.who l + 1) : Turn (l ++ [a]) := fun i hi => by
  by_cases hl : i < l.length
  · have e : (l ++ [a])[i] = l[i] := List.getElem_append_left hl
    rw [e, List.take_append_of_le_length (by omega)]
    exact h i hl
  · have e : i = l.length := by simp at hi; omega
    subst e
    rw [List.getElem_append_right (Nat.le_refl _), List.take_of_length_le (by simp)]
    simp only [Nat.sub_self, List.getElem_cons_zero]
    rw [his_snoc, if_pos rfl, ha]
    simp
/-- the last one of each is how many there are of his -/
theorem upF_his {f : Int → Int} {l : List Ask} {a : Ask} (h : ∀ k, f k = his k l) (ha : a.seq = f a.who + 1) : ∀ k, upF f a k = his k (l ++ [a]) := fun k => by
  rw [his_snoc]
  by_cases hk : k = a.who
  · subst hk
    rw [upF_same, ha, h, if_pos rfl]
    simp
  · rw [upF_other hk, h, if_neg (fun e => hk e.symm)]
    simp
theorem his_le (k : Int) (l : List Ask) : his k l ≤ l.length := List.countP_le_length

end Go.Proofs.YtlefhfmckimlaakGreatDoor.M

set_option linter.unusedVariables false
namespace Go.Proofs.YtlefhfmckimlaakGreatDoor
open Go.RowKit

def M.isWho (x : Int) : Bool := decide (0 ≤ x) && decide (x ≤ 1000000)
theorem M.isWho_no {x : Int} (h : x < 0 ∨ 1000000 < x) : M.isWho x = false := by unfold M.isWho; simp; omega
theorem M.isWho_yes {x : Int} (h1 : 0 ≤ x) (h2 : x ≤ 1000000) : M.isWho x = true := by unfold M.isWho; simp; omega
theorem qIsWho (x : Int) (w : World) : Calls Tryz.prog 97 #[.int .i64 x] w fun e w' => e = .returned (.bool (M.isWho x)) ∧ w' = w := by
  by_cases h0 : 0 ≤ x
  · have HS : Hid (M.isWho x = decide (x ≤ 1000000)) := hide (by unfold M.isWho; simp [h0])
    go_enter Tryz.func97, Tryz.ntmps97
    go_wp2
    go_ret
    exact ⟨by rw [HS.out]; rfl, rfl⟩
  · have HS : Hid (M.isWho x = false) := hide (by unfold M.isWho; simp [h0])
    go_enter Tryz.func97, Tryz.ntmps97
    go_wp2
    go_ret
    exact ⟨by rw [HS.out]; rfl, rfl⟩
theorem isWho_no {x : Int} (h : x < 0 ∨ 1000000 < x) : Hid (∀ w, Calls Tryz.prog 97 #[.int .i64 x] w fun e w' => e = .returned (.bool false) ∧ w' = w) := hide fun w => by have := qIsWho x w; rwa [M.isWho_no h] at this
theorem isWho_yes {x : Int} (h1 : 0 ≤ x) (h2 : x ≤ 1000000) : Hid (∀ w, Calls Tryz.prog 97 #[.int .i64 x] w fun e w' => e = .returned (.bool true) ∧ w' = w) := hide fun w => by have := qIsWho x w; rwa [M.isWho_yes h1 h2] at this

def M.isDeed (x : Int) : Bool := decide (0 ≤ x) && decide (x ≤ 2)
theorem M.isDeed_no {x : Int} (h : x < 0 ∨ 2 < x) : M.isDeed x = false := by unfold M.isDeed; simp; omega
theorem M.isDeed_yes {x : Int} (h1 : 0 ≤ x) (h2 : x ≤ 2) : M.isDeed x = true := by unfold M.isDeed; simp; omega
theorem qIsDeed (x : Int) (w : World) : Calls Tryz.prog 98 #[.int .i64 x] w fun e w' => e = .returned (.bool (M.isDeed x)) ∧ w' = w := by
  by_cases h0 : 0 ≤ x
  · have HS : Hid (M.isDeed x = decide (x ≤ 2)) := hide (by unfold M.isDeed; simp [h0])
    go_enter Tryz.func98, Tryz.ntmps98
    go_wp2
    go_ret
    exact ⟨by rw [HS.out]; rfl, rfl⟩
  · have HS : Hid (M.isDeed x = false) := hide (by unfold M.isDeed; simp [h0])
    go_enter Tryz.func98, Tryz.ntmps98
    go_wp2
    go_ret
    exact ⟨by rw [HS.out]; rfl, rfl⟩
theorem isDeed_no {x : Int} (h : x < 0 ∨ 2 < x) : Hid (∀ w, Calls Tryz.prog 98 #[.int .i64 x] w fun e w' => e = .returned (.bool false) ∧ w' = w) := hide fun w => by have := qIsDeed x w; rwa [M.isDeed_no h] at this
theorem isDeed_yes {x : Int} (h1 : 0 ≤ x) (h2 : x ≤ 2) : Hid (∀ w, Calls Tryz.prog 98 #[.int .i64 x] w fun e w' => e = .returned (.bool true) ∧ w' = w) := hide fun w => by have := qIsDeed x w; rwa [M.isDeed_yes h1 h2] at this

/-- what is asked, as it is handed on -/
abbrev aggA (who seq deed : Int) (a : Option Addr) (n c : Nat) : Value := .agg #[.int .i64 who, .int .i64 seq, .int .i64 deed, .slice a n c]

theorem qcheck (who seq deed : Int) (a : Option Addr) (n c : Nat) (l : List M.Val) (w : World) (hv : IsVals w (.slice a n c) l) :
    Calls Tryz.prog 57 #[aggA who seq deed a n c] w fun e w' => e = .returned (errV (M.askF ⟨who, seq, deed, l⟩)) ∧ Below w.heap.size w w' := by
  have HA : Hid (∀ o, Below w.heap.size w (w.alloc o)) := hide fun o => (Below.refl _ _).alloc (Nat.le_refl _) o
  have HL : Hid (∀ wx, Below w.heap.size w wx → Calls Tryz.prog 99 #[.slice a n c] wx fun e w' => e = .returned (errV (M.likeF l)) ∧ Below wx.heap.size wx w') := hide fun wx hb => like _ l wx (hv.stays hb (Nat.le_refl _))
  have HT : Hid (∀ wx, Below w.heap.size w wx → Calls Tryz.prog 92 #[.slice a n c] wx fun e w' => e = .returned (errV (M.tupF l)) ∧ Below wx.heap.size wx w') := hide fun wx hb => tcheck _ l wx (hv.stays hb (Nat.le_refl _))
  clear hv
  by_cases hw : who < 0 ∨ 1000000 < who
  · have HW := isWho_no hw
    rw [M.askF_range (a := ⟨who, seq, deed, l⟩) (by show who < 0 ∨ 1000000 < who ∨ _; omega)]
    clear hw HL HT
    go_enter Tryz.func57, Tryz.ntmps57
    go_wp2_with fail
    refine (HW.out _).mono ?_
    rintro e w1 ⟨rfl, rfl⟩
    go_wp2_with fail
    go_ret
    exact ⟨rfl, HA.out _⟩
  · have HW := isWho_yes (x := who) (by omega) (by omega)
    by_cases hd : deed < 0 ∨ 2 < deed
    · rw [M.askF_range (a := ⟨who, seq, deed, l⟩) (by show who < 0 ∨ 1000000 < who ∨ deed < 0 ∨ 2 < deed; omega)]
      have HD := isDeed_no hd
      clear hw hd HL HT
      go_enter Tryz.func57, Tryz.ntmps57
      go_wp2_with fail
      refine (HW.out _).mono ?_
      rintro e w1 ⟨rfl, rfl⟩
      go_wp2_with fail
      refine (HD.out _).mono ?_
      rintro e w1 ⟨rfl, rfl⟩
      go_wp2_with fail
      go_ret
      exact ⟨rfl, HA.out _⟩
    · have hn : ¬ (who < 0 ∨ 1000000 < who ∨ deed < 0 ∨ 2 < deed) := by omega
      have HD := isDeed_yes (x := deed) (by omega) (by omega)
      by_cases h0 : deed = 0
      · rw [M.askF_put (a := ⟨who, seq, deed, l⟩) hn h0]
        generalize errV (M.tupF l) = E at HT ⊢
        subst h0
        clear hw hd hn HL
        go_enter Tryz.func57, Tryz.ntmps57
        go_wp2_with fail
        refine (HW.out _).mono ?_
        rintro e w1 ⟨rfl, rfl⟩
        go_wp2_with fail
        refine (HD.out _).mono ?_
        rintro e w1 ⟨rfl, rfl⟩
        go_wp2_with fail
        refine (HT.out _ (HA.out _)).mono ?_
        rintro e w2 ⟨rfl, hb2⟩
        go_wp2_with fail
        go_ret
        exact ⟨rfl, (HA.out _).trans (hb2.mono (by simp))⟩
      · rw [M.askF_else (a := ⟨who, seq, deed, l⟩) hn h0]
        have hb0 : (deed == 0) = false := by simpa using h0
        generalize errV (M.likeF l) = E at HL ⊢
        clear hw hd hn h0 HT
        go_enter Tryz.func57, Tryz.ntmps57
        go_wp2_with fail
        refine (HW.out _).mono ?_
        rintro e w1 ⟨rfl, rfl⟩
        go_wp2_with fail
        refine (HD.out _).mono ?_
        rintro e w1 ⟨rfl, rfl⟩
        go_wp2_with fail
        refine (HL.out _ (HA.out _)).mono ?_
        rintro e w2 ⟨rfl, hb2⟩
        go_wp2_with fail
        go_ret
        exact ⟨rfl, (HA.out _).trans (hb2.mono (by simp))⟩

end Go.Proofs.YtlefhfmckimlaakGreatDoor

set_option linter.unusedVariables false
namespace Go.Proofs.YtlefhfmckimlaakGreatDoor
open Go.RowKit

/-- the box that holds what is asked -/
def AskBox (w : World) (N : Nat) (who seq deed : Int) (a : Option Addr) (n c : Nat) : Prop := w.heap[N]? = some (.cells #[.int .i64 who, .int .i64 seq, .int .i64 deed, .slice a n c] 38 (0, 0))
section
variable {w w' : World} {N : Nat} {who seq deed : Int} {a : Option Addr} {n c : Nat}
theorem AskBox.new (hb : Below (w.alloc (.cells #[.int .i64 who, .int .i64 seq, .int .i64 deed, .slice a n c] 38)).heap.size (w.alloc (.cells #[.int .i64 who, .int .i64 seq, .int .i64 deed, .slice a n c] 38)) w') : AskBox w' w.heap.size who seq deed a n c :=
  (hb.block w.heap.size (by simp)).trans (heap_alloc_new w _)
theorem AskBox.below (h : AskBox w N who seq deed a n c) (hb : Below w.heap.size w w') : AskBox w' N who seq deed a n c := (hb.block N (heap_lt h)).trans h
theorem AskBox.cells (h : AskBox w N who seq deed a n c) : w.cell? ⟨N, 0, none⟩ = some (.int .i64 who) ∧ w.cell? ⟨N, 1, none⟩ = some (.int .i64 seq) ∧ w.cell? ⟨N, 2, none⟩ = some (.int .i64 deed) ∧ w.cell? ⟨N, 3, none⟩ = some (.slice a n c) ∧ N < w.heap.size := by
  refine ⟨?_, ?_, ?_, ?_, heap_lt h⟩
  · rw [cell_of_row w N 0 _ _ (0, 0) h]; rfl
  · rw [cell_of_row w N 1 _ _ (0, 0) h]; rfl
  · rw [cell_of_row w N 2 _ _ (0, 0) h]; rfl
  · rw [cell_of_row w N 3 _ _ (0, 0) h]; rfl
end

end Go.Proofs.YtlefhfmckimlaakGreatDoor

set_option linter.unusedVariables false
namespace Go.Proofs.YtlefhfmckimlaakGreatDoor
open Go.RowKit Go.WideMaps Go.Maps

/-- a number as a key -/
def keyI (k : Int) : Lit := .int .i64 k
/-- the map says the last one of each -/
def Lasts (D : DataW Unit) (f : Int → Int) : Prop := IsMap D ∧ ∀ k, D.atKey (keyI k) (.lit (.int .i64 0)) = .lit (.int .i64 (f k))
theorem lasts_none : Lasts (.map []) (fun _ => 0) := ⟨isMap_empty, fun s => rfl⟩
theorem Lasts.said {D : DataW Unit} {f : Int → Int} (h : Lasts D f) {k c : Int} (hc : D.atKey (keyI k) (.lit (.int .i64 0)) = .lit (.int .i64 c)) : c = f k := by
  rw [h.2 k] at hc
  simpa using hc.symm
theorem Lasts.up {D : DataW Unit} {f : Int → Int} (h : Lasts D f) (a : M.Ask) : Lasts (D.put (keyI a.who) (.lit (.int .i64 a.seq))) (M.upF f a) := by
  refine ⟨h.1.put _ _, fun k => ?_⟩
  by_cases e : k = a.who
  · subst e
    rw [atKey_put_same h.1 (by simp [keyI, WideAt.IsKeyLit]), M.upF_same]
  · rw [atKey_put_other (fun g => e (by simpa [keyI] using g)), M.upF_other e, h.2 k]

end Go.Proofs.YtlefhfmckimlaakGreatDoor
