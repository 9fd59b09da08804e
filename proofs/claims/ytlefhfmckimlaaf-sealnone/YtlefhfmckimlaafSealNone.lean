/-
  The walk of the Go function SealNone: it returns true, whatever the two numbers.
-/
import Derived.Test.YtlefhfmckimlaafSealSeal
import Derived.Test.YtlefhfmckimlaafSealOpen
set_option linter.unusedVariables false
namespace Go.Proofs.Ytlefhfmckimlaaf.sealNone
open Go.RowKit

theorem noneE (m : Int) : M.selE (bytesI ⟨#[]⟩) [] m = 0 := rfl
theorem noneR (m : Int) : M.selR (bytesI ⟨#[]⟩) [] m = [] := rfl
theorem oneE : M.selE (bytesI ⟨#[97]⟩) [] 1 = 3 := by decide +kernel
theorem openE (q : Int) : M.opnE [] q = 0 := rfl
theorem openR (q : Int) : M.opnR [] q = [] := rfl
theorem nowhere {w : World} {a : Option Addr} : AtQ IsI w a [] := fun h => absurd h (by simp)
theorem nowhereP {w : World} {a : Option Addr} : AtQ IsP w a [] := fun h => absurd h (by simp)

set_option maxRecDepth 100000 in
set_option maxHeartbeats 2000000 in
theorem walk (x y : Int) (w : World) : Calls Try.prog 6 #[.int .i64 x, .int .i64 y] w fun e w' => e = .returned (.bool true) ∧ Below w.heap.size w w' := by
  have HA : Hid (∀ wx, Calls Try.prog 10 #[.string ⟨#[97]⟩, .slice none 0 0, .int .i64 1] wx fun e w' => (∃ v k c, e = .returned (.tuple #[.slice v k c, .iface 43 (.int .i64 3)])) ∧ Below wx.heap.size wx w') := hide fun wx => by
    refine (sSeal ⟨#[97]⟩ none 0 0 [] 1 wx (by decide) rfl (by decide) nowhere).mono ?_
    rintro e w' ⟨⟨v, k, c, rfl, _⟩, hb⟩
    exact ⟨⟨v, k, c, by rw [oneE]; rfl⟩, hb⟩
  have HB : Hid (∀ wx, Calls Try.prog 10 #[.string ⟨#[]⟩, .slice none 0 0, .int .i64 x] wx fun e w' => (∃ v c, e = .returned (.tuple #[.slice v 0 c, .nilIface])) ∧ Below wx.heap.size wx w') := hide fun wx => by
    refine (sSeal ⟨#[]⟩ none 0 0 [] x wx (by decide) rfl (by decide) nowhere).mono ?_
    rintro e w' ⟨⟨v, k, c, rfl, hk, _⟩, hb⟩
    exact ⟨⟨v, c, by rw [hk, noneE, noneR]; rfl⟩, hb⟩
  have HC : Hid (∀ wx, Calls Try.prog 11 #[.slice none 0 0, .int .i64 y] wx fun e w' => e = .returned (.tuple #[.string ⟨#[]⟩, .nilIface]) ∧ Below wx.heap.size wx w') := hide fun wx => by
    refine (sOpen none 0 0 [] y wx rfl (by decide) nowhereP).mono ?_
    rintro e w' ⟨rfl, hb⟩
    exact ⟨by rw [openE, openR]; rfl, hb⟩
  go_enter Try.func6, Try.ntmps6
  go_wp2_with fail
  refine (HA.out _).mono ?_
  rintro e w1 ⟨⟨v1, k1, c1, rfl⟩, hb1⟩
  have HG1 := hide hb1
  clear hb1
  go_wp2_with fail
  refine (HB.out _).mono ?_
  rintro e w2 ⟨⟨v2, c2, rfl⟩, hb2⟩
  have HG2 := hide (HG1.out.trans (hb2.mono HG1.out.size))
  clear hb2
  go_wp2_with fail
  refine (HC.out _).mono ?_
  rintro e w3 ⟨rfl, hb3⟩
  have HG3 := hide (HG2.out.trans (hb3.mono HG2.out.size))
  clear hb3
  go_wp2_with fail
  go_ret
  exact ⟨by simp, HG3.out⟩

end Go.Proofs.Ytlefhfmckimlaaf.sealNone
