/-
  The walk of the Go function RunTakes: it returns true, whatever comes in.
-/
import Derived.Test.YtlefhfmckimlaakGreatDoorRunCalls
import Derived.Test.YtlefhfmckimlaakGreatDoorJRefW
set_option linter.unusedVariables false
namespace Go.Proofs.YtlefhfmckimlaakGreatDoor.runTakes
open Go.RowKit

set_option maxRecDepth 100000 in
theorem walk_bad (a b : Int) (w : World) (h : a < 0 ∨ (¬ a < 0 ∧ 9999 < a) ∨ (¬ a < 0 ∧ ¬ 9999 < a ∧ b < 0) ∨ (¬ a < 0 ∧ ¬ 9999 < a ∧ ¬ b < 0 ∧ 9999 < b)) (ht : Env w) :
    Calls Tryz.prog 7 #[.int .i64 a, .int .i64 b] w fun e w' => e = .returned (.bool true) ∧ Below w.heap.size w w' := by
  have HR : Hid (Calls Tryz.prog 32 #[.string ⟨#[116, 97, 107, 101, 32, 42, 10]⟩] w fun e w' => e = .returned (.string ⟨#[69, 114, 114, 78, 111, 110, 101, 10]⟩) ∧ Below w.heap.size w w') := hide (by
    have := runT ⟨#[116, 97, 107, 101, 32, 42, 10]⟩ w ht
    rwa [M.run_empty] at this)
  clear ht
  rcases h with h1 | ⟨h1, h2⟩ | ⟨h1, h2, h3⟩ | ⟨h1, h2, h3, h4⟩
  all_goals
    go_enter Tryz.func7, Tryz.ntmps7
    go_wp2_with fail
    refine (unhide HR).mono ?_
    rintro e w2 ⟨rfl, hb2⟩
    dsimp only
    have HB2 := hide hb2
    clear hb2 HR
    go_wp2_with fail
    go_ret
    exact ⟨rfl, HB2.out⟩

set_option maxRecDepth 100000 in
set_option maxHeartbeats 1000000 in
theorem walk_ok (a b : Nat) (w : World) (ha : a ≤ 9999) (hb : b ≤ 9999) (ht : Env w) :
    Calls Tryz.prog 7 #[.int .i64 a, .int .i64 b] w fun e w' => e = .returned (.bool true) ∧ Below w.heap.size w w' := by
  have HD1 : Hid (Calls Tryz.prog 35 #[.int .i64 a] w fun e w' => e = .returned (.string ⟨(Lib.decDigits a).toArray⟩) ∧ w' = w) := hide (digits a a w (by omega) (by omega) (by omega))
  have HD2 : Hid (Calls Tryz.prog 35 #[.int .i64 b] w fun e w' => e = .returned (.string ⟨(Lib.decDigits b).toArray⟩) ∧ w' = w) := hide (digits b b w (by omega) (by omega) (by omega))
  have la := M.len_le a (by omega)
  have lb := M.len_le b (by omega)
  obtain ⟨X, hX⟩ : ∃ X : ByteArray, X = ⟨(Lib.decDigits a).toArray⟩ := ⟨_, rfl⟩
  obtain ⟨Y, hY⟩ : ∃ Y : ByteArray, Y = ⟨(Lib.decDigits b).toArray⟩ := ⟨_, rfl⟩
  have sx : X.size ≤ 7 := by rw [hX]; exact la
  have sy : Y.size ≤ 7 := by rw [hY]; exact lb
  obtain ⟨T, hT⟩ : ∃ T : ByteArray, T = ⟨#[112, 117, 116, 32]⟩ ++ X ++ ⟨#[10, 112, 117, 116, 32]⟩ ++ Y ++ ⟨#[10, 116, 97, 107, 101, 32, 42, 10, 116, 97, 107, 101, 32, 42, 10, 116, 97, 107, 101, 32, 42, 10]⟩ := ⟨_, rfl⟩
  obtain ⟨U, hU⟩ : ∃ U : ByteArray, U = ⟨#[111, 107, 10, 111, 107, 10]⟩ ++ X ++ ⟨#[10]⟩ ++ Y ++ ⟨#[10, 69, 114, 114, 78, 111, 110, 101, 10]⟩ := ⟨_, rfl⟩
  have HR : Hid (Calls Tryz.prog 32 #[.string T] w fun e w' => e = .returned (.string U) ∧ Below w.heap.size w w') := hide (by
    have := runT T w ht
    have e1 : T.data.toList = (M.wPut ++ 32 :: Lib.decDigits a) ++ 10 :: ((M.wPut ++ 32 :: Lib.decDigits b) ++ 10 :: M.takes) := by
      rw [hT, hX, hY]
      simp [M.wPut, M.takes, M.wTakeAny, M.wTake]
    have e2 : U = ⟨(M.wOk ++ 10 :: (M.wOk ++ 10 :: (Lib.decDigits a ++ 10 :: (Lib.decDigits b ++ 10 :: (M.errN 5 ++ 10 :: []))))).toArray⟩ := by
      rw [hU, hX, hY]
      apply ByteArray.ext
      apply Array.ext'
      simp [M.wOk, M.errN]
    rw [e1, M.run_takes ha hb, ← e2] at this
    exact this)
  have q : ∀ (a b : ByteArray), a.size + b.size ≤ 1000 → ∀ w, (Op.stringOp .add a b).run Tryz.prog w = .ok (.string (a ++ b)) w := fun a b h w => run_string_add_sum w a b (by omega)
  have p1 := q ⟨#[112, 117, 116, 32]⟩ X (by show 4 + X.size ≤ _; omega)
  have p2 := q (⟨#[112, 117, 116, 32]⟩ ++ X) ⟨#[10, 112, 117, 116, 32]⟩ (by rw [ByteArray.size_append]; show 4 + X.size + 5 ≤ _; omega)
  have p3 := q (⟨#[112, 117, 116, 32]⟩ ++ X ++ ⟨#[10, 112, 117, 116, 32]⟩) Y (by rw [ByteArray.size_append, ByteArray.size_append]; show 4 + X.size + 5 + Y.size ≤ _; omega)
  have p4 := q (⟨#[112, 117, 116, 32]⟩ ++ X ++ ⟨#[10, 112, 117, 116, 32]⟩ ++ Y) ⟨#[10, 116, 97, 107, 101, 32, 42, 10, 116, 97, 107, 101, 32, 42, 10, 116, 97, 107, 101, 32, 42, 10]⟩ (by rw [ByteArray.size_append, ByteArray.size_append, ByteArray.size_append]; show 4 + X.size + 5 + Y.size + 22 ≤ _; omega)
  rw [← hT] at p4
  have r1 := q ⟨#[111, 107, 10, 111, 107, 10]⟩ X (by show 6 + X.size ≤ _; omega)
  have r2 := q (⟨#[111, 107, 10, 111, 107, 10]⟩ ++ X) ⟨#[10]⟩ (by rw [ByteArray.size_append]; show 6 + X.size + 1 ≤ _; omega)
  have r3 := q (⟨#[111, 107, 10, 111, 107, 10]⟩ ++ X ++ ⟨#[10]⟩) Y (by rw [ByteArray.size_append, ByteArray.size_append]; show 6 + X.size + 1 + Y.size ≤ _; omega)
  have r4 := q (⟨#[111, 107, 10, 111, 107, 10]⟩ ++ X ++ ⟨#[10]⟩ ++ Y) ⟨#[10, 69, 114, 114, 78, 111, 110, 101, 10]⟩ (by rw [ByteArray.size_append, ByteArray.size_append, ByteArray.size_append]; show 6 + X.size + 1 + Y.size + 9 ≤ _; omega)
  rw [← hU] at r4
  rw [← hX] at HD1
  rw [← hY] at HD2
  have ee : (U.toList == U.toList) = true := by simp
  have g1 : ¬ (a : Int) < 0 := by omega
  have g2 : ¬ (9999 : Int) < (a : Int) := by omega
  have g3 : ¬ (b : Int) < 0 := by omega
  have g4 : ¬ (9999 : Int) < (b : Int) := by omega
  clear ht q hT hU hX hY la lb ha hb sx sy
  go_enter Tryz.func7, Tryz.ntmps7
  go_wp2_with fail
  refine (unhide HD1).mono ?_
  rintro e w2 ⟨rfl, rfl⟩
  dsimp only
  go_wp2_with fail
  refine (unhide HD2).mono ?_
  rintro e w2 ⟨rfl, rfl⟩
  dsimp only
  go_wp2_with fail
  refine (unhide HR).mono ?_
  rintro e w2 ⟨rfl, hb2⟩
  dsimp only
  have HB2 := hide hb2
  clear hb2 HR HD1 HD2
  go_wp2_with fail
  go_ret
  exact ⟨rfl, HB2.out⟩

theorem walk (a b : Int) (w : World) (ht : Env w) :
    Calls Tryz.prog 7 #[.int .i64 a, .int .i64 b] w fun e w' => e = .returned (.bool true) ∧ Below w.heap.size w w' := by
  by_cases h : a < 0 ∨ 9999 < a ∨ b < 0 ∨ 9999 < b
  · exact walk_bad a b w (by omega) ht
  · obtain ⟨x, rfl⟩ : ∃ x : Nat, a = x := ⟨a.toNat, by omega⟩
    obtain ⟨y, rfl⟩ : ∃ y : Nat, b = y := ⟨b.toNat, by omega⟩
    exact walk_ok x y w (by omega) (by omega) ht

end Go.Proofs.YtlefhfmckimlaakGreatDoor.runTakes
