/-
  What is wrong with what is asked by itself: what check of package queue does, and the numbers that package rule tells for it, each as one law of its call.
  The box that holds what is asked, while a call goes on. For any program.
-/
import Derived.Test.YtlefhfmckimlaajDoorTupWalks
import Derived.Test.YtlefhfmckimlaajDoorJ1A
import Derived.Test.YtlefhfmckimlaajDoorJ18A
set_option linter.unusedVariables false
namespace Go.Proofs.YtlefhfmckimlaajDoor
open Go.RowKit

def M.isWho (x : Int) : Bool := decide (0 ≤ x) && decide (x ≤ 1000000)
theorem M.isWho_no {x : Int} (h : x < 0 ∨ 1000000 < x) : M.isWho x = false := by unfold M.isWho; simp; omega
theorem M.isWho_yes {x : Int} (h1 : 0 ≤ x) (h2 : x ≤ 1000000) : M.isWho x = true := by unfold M.isWho; simp; omega
theorem qIsWho (x : Int) (w : World) : Calls Tryd.prog 78 #[.int .i64 x] w fun e w' => e = .returned (.bool (M.isWho x)) ∧ w' = w := by
  by_cases h0 : 0 ≤ x
  · have HS : Hid (M.isWho x = decide (x ≤ 1000000)) := hide (by unfold M.isWho; simp [h0])
    go_enter Tryd.func78, Tryd.ntmps78
    go_wp2
    go_ret
    exact ⟨by rw [HS.out]; rfl, rfl⟩
  · have HS : Hid (M.isWho x = false) := hide (by unfold M.isWho; simp [h0])
    go_enter Tryd.func78, Tryd.ntmps78
    go_wp2
    go_ret
    exact ⟨by rw [HS.out]; rfl, rfl⟩
theorem isWho_no {x : Int} (h : x < 0 ∨ 1000000 < x) : Hid (∀ w, Calls Tryd.prog 78 #[.int .i64 x] w fun e w' => e = .returned (.bool false) ∧ w' = w) := hide fun w => by have := qIsWho x w; rwa [M.isWho_no h] at this
theorem isWho_yes {x : Int} (h1 : 0 ≤ x) (h2 : x ≤ 1000000) : Hid (∀ w, Calls Tryd.prog 78 #[.int .i64 x] w fun e w' => e = .returned (.bool true) ∧ w' = w) := hide fun w => by have := qIsWho x w; rwa [M.isWho_yes h1 h2] at this

def M.isDeed (x : Int) : Bool := decide (0 ≤ x) && decide (x ≤ 2)
theorem M.isDeed_no {x : Int} (h : x < 0 ∨ 2 < x) : M.isDeed x = false := by unfold M.isDeed; simp; omega
theorem M.isDeed_yes {x : Int} (h1 : 0 ≤ x) (h2 : x ≤ 2) : M.isDeed x = true := by unfold M.isDeed; simp; omega
theorem qIsDeed (x : Int) (w : World) : Calls Tryd.prog 79 #[.int .i64 x] w fun e w' => e = .returned (.bool (M.isDeed x)) ∧ w' = w := by
  by_cases h0 : 0 ≤ x
  · have HS : Hid (M.isDeed x = decide (x ≤ 2)) := hide (by unfold M.isDeed; simp [h0])
    go_enter Tryd.func79, Tryd.ntmps79
    go_wp2
    go_ret
    exact ⟨by rw [HS.out]; rfl, rfl⟩
  · have HS : Hid (M.isDeed x = false) := hide (by unfold M.isDeed; simp [h0])
    go_enter Tryd.func79, Tryd.ntmps79
    go_wp2
    go_ret
    exact ⟨by rw [HS.out]; rfl, rfl⟩
theorem isDeed_no {x : Int} (h : x < 0 ∨ 2 < x) : Hid (∀ w, Calls Tryd.prog 79 #[.int .i64 x] w fun e w' => e = .returned (.bool false) ∧ w' = w) := hide fun w => by have := qIsDeed x w; rwa [M.isDeed_no h] at this
theorem isDeed_yes {x : Int} (h1 : 0 ≤ x) (h2 : x ≤ 2) : Hid (∀ w, Calls Tryd.prog 79 #[.int .i64 x] w fun e w' => e = .returned (.bool true) ∧ w' = w) := hide fun w => by have := qIsDeed x w; rwa [M.isDeed_yes h1 h2] at this

/-- what is asked, as it is handed on -/
abbrev aggA (who seq deed : Int) (a : Option Addr) (n c : Nat) : Value := .agg #[.int .i64 who, .int .i64 seq, .int .i64 deed, .slice a n c]

theorem qcheck (who seq deed : Int) (a : Option Addr) (n c : Nat) (l : List M.Val) (w : World) (hv : IsVals w (.slice a n c) l) :
    Calls Tryd.prog 57 #[aggA who seq deed a n c] w fun e w' => e = .returned (errV (M.askF ⟨who, seq, deed, l⟩)) ∧ Below w.heap.size w w' := by
  have HA : Hid (∀ o, Below w.heap.size w (w.alloc o)) := hide fun o => (Below.refl _ _).alloc (Nat.le_refl _) o
  have HL : Hid (∀ wx, Below w.heap.size w wx → Calls Tryd.prog 81 #[.slice a n c] wx fun e w' => e = .returned (errV (M.likeF l)) ∧ Below wx.heap.size wx w') := hide fun wx hb => like _ l wx (hv.stays hb (Nat.le_refl _))
  have HT : Hid (∀ wx, Below w.heap.size w wx → Calls Tryd.prog 80 #[.slice a n c] wx fun e w' => e = .returned (errV (M.tupF l)) ∧ Below wx.heap.size wx w') := hide fun wx hb => tcheck _ l wx (hv.stays hb (Nat.le_refl _))
  clear hv
  by_cases hw : who < 0 ∨ 1000000 < who
  · have HW := isWho_no hw
    rw [M.askF_range (a := ⟨who, seq, deed, l⟩) (by show who < 0 ∨ 1000000 < who ∨ _; omega)]
    clear hw HL HT
    go_enter Tryd.func57, Tryd.ntmps57
    go_wp2_with fail
    refine (HW.out _).mono ?_
    rintro e w1 ⟨rfl, rfl⟩
    go_wp2_with fail
    go_ret
    exact ⟨rfl, HA.out _⟩
  · have HW := isWho_yes (x := who) (by omega) (by omega)
    by_cases hd : deed < 0 ∨ 2 < deed
    · rw [M.askF_range (a := ⟨who, seq, deed, l⟩) (by show who < 0 ∨ 1000000 < who ∨ deed < 0 ∨ 2 < deed; omega)]
      have HD := isDeed_no hd
      clear hw hd HL HT
      go_enter Tryd.func57, Tryd.ntmps57
      go_wp2_with fail
      refine (HW.out _).mono ?_
      rintro e w1 ⟨rfl, rfl⟩
      go_wp2_with fail
      refine (HD.out _).mono ?_
      rintro e w1 ⟨rfl, rfl⟩
      go_wp2_with fail
      go_ret
      exact ⟨rfl, HA.out _⟩
    · have hn : ¬ (who < 0 ∨ 1000000 < who ∨ deed < 0 ∨ 2 < deed) := by omega
      have HD := isDeed_yes (x := deed) (by omega) (by omega)
      by_cases h0 : deed = 0
      · rw [M.askF_put (a := ⟨who, seq, deed, l⟩) hn h0]
        generalize errV (M.tupF l) = E at HT ⊢
        subst h0
        clear hw hd hn HL
        go_enter Tryd.func57, Tryd.ntmps57
        go_wp2_with fail
        refine (HW.out _).mono ?_
        rintro e w1 ⟨rfl, rfl⟩
        go_wp2_with fail
        refine (HD.out _).mono ?_
        rintro e w1 ⟨rfl, rfl⟩
        go_wp2_with fail
        refine (HT.out _ (HA.out _)).mono ?_
        rintro e w2 ⟨rfl, hb2⟩
        go_wp2_with fail
        go_ret
        exact ⟨rfl, (HA.out _).trans (hb2.mono (by simp))⟩
      · rw [M.askF_else (a := ⟨who, seq, deed, l⟩) hn h0]
        have hb0 : (deed == 0) = false := by simpa using h0
        generalize errV (M.likeF l) = E at HL ⊢
        clear hw hd hn h0 HT
        go_enter Tryd.func57, Tryd.ntmps57
        go_wp2_with fail
        refine (HW.out _).mono ?_
        rintro e w1 ⟨rfl, rfl⟩
        go_wp2_with fail
        refine (HD.out _).mono ?_
        rintro e w1 ⟨rfl, rfl⟩
        go_wp2_with fail
        refine (HL.out _ (HA.out _)).mono ?_
        rintro e w2 ⟨rfl, hb2⟩
        go_wp2_with fail
        go_ret
        exact ⟨rfl, (HA.out _).trans (hb2.mono (by simp))⟩

end Go.Proofs.YtlefhfmckimlaajDoor

set_option linter.unusedVariables false
namespace Go.Proofs.YtlefhfmckimlaajDoor
open Go.RowKit

/-- the box that holds what is asked -/
def AskBox (w : World) (N : Nat) (who seq deed : Int) (a : Option Addr) (n c : Nat) : Prop := w.heap[N]? = some (.cells #[.int .i64 who, .int .i64 seq, .int .i64 deed, .slice a n c] 61 (0, 0))
section
variable {w w' : World} {N : Nat} {who seq deed : Int} {a : Option Addr} {n c : Nat}
theorem AskBox.new (hb : Below (w.alloc (.cells #[.int .i64 who, .int .i64 seq, .int .i64 deed, .slice a n c] 61)).heap.size (w.alloc (.cells #[.int .i64 who, .int .i64 seq, .int .i64 deed, .slice a n c] 61)) w') : AskBox w' w.heap.size who seq deed a n c :=
  (hb.block w.heap.size (by simp)).trans (heap_alloc_new w _)
theorem AskBox.below (h : AskBox w N who seq deed a n c) (hb : Below w.heap.size w w') : AskBox w' N who seq deed a n c := (hb.block N (heap_lt h)).trans h
theorem AskBox.cells (h : AskBox w N who seq deed a n c) : w.cell? ⟨N, 0, none⟩ = some (.int .i64 who) ∧ w.cell? ⟨N, 1, none⟩ = some (.int .i64 seq) ∧ w.cell? ⟨N, 2, none⟩ = some (.int .i64 deed) ∧ w.cell? ⟨N, 3, none⟩ = some (.slice a n c) ∧ N < w.heap.size := by
  refine ⟨?_, ?_, ?_, ?_, heap_lt h⟩
  · rw [cell_of_row w N 0 _ _ (0, 0) h]; rfl
  · rw [cell_of_row w N 1 _ _ (0, 0) h]; rfl
  · rw [cell_of_row w N 2 _ _ (0, 0) h]; rfl
  · rw [cell_of_row w N 3 _ _ (0, 0) h]; rfl
end

end Go.Proofs.YtlefhfmckimlaajDoor
