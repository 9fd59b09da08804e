/-
  What Move of package once does, as one law of its call.
-/
import Derived.Test.YtlefhfmckimlaacDoorOncePut
namespace Go.Proofs.YtlefhfmckimlaacDoor
open Go.RowKit

section
variable {base S O : Nat} {v u v1 u1 x : Value} {a l : List M.Val} {L K : List (List M.Val)} {w w1 : World}
theorem Mv.read (h : Mv base w w1 S O v u v1 u1 x a L K) (hg : M.getF a L = 0) :
    Calls Tryd.prog 59 #[.pointer (some ⟨S, 0, none⟩), x] w1 fun e w' => ∃ r, e = .returned (.tuple #[r, .nilIface]) ∧ IsVals w' r (M.getV a L) ∧ Mv base w w' S O v u v1 u1 x a L K := by
  have := Go.Proofs.YtlefhfmckimlaacDoor.read base S v1 x a L w1 h.p.s h.p.fs h.fx.vals
  rw [hg] at this
  exact this.mono fun e w' ⟨r, h1, h2, h3⟩ => ⟨r, h1, h2.vals, h.quiet h3⟩
theorem Mv.put {r : Value} (h : Mv base w w1 S O v u v1 u1 x a L K) (hr : IsVals w1 r l) (hf : M.tupF l = 0) (hk : K.length < 20) :
    Calls Tryd.prog 37 #[.pointer (some ⟨O, 0, none⟩), r] w1 fun e w' => e = .returned .nilIface ∧ ∃ u2, Mv base w w' S O v u v1 u2 x a L (K ++ [l]) := by
  have := Go.Proofs.YtlefhfmckimlaacDoor.put base O u1 r l K w1 h.p.o hr
  rw [putL_yes (putF_ok hf hk), putF_ok hf hk] at this
  exact this.mono fun e w' ⟨h1, u2, h2, h3, h4⟩ => ⟨h1, u2, h.onO h2 h3 h4 (Fine.add h.p.fo hf hk)⟩
theorem Mv.full {r : Value} (h : Mv base w w1 S O v u v1 u1 x a L K) (hr : IsVals w1 r l) (hf : M.tupF l = 0) (hk : ¬ K.length < 20) :
    Calls Tryd.prog 37 #[.pointer (some ⟨O, 0, none⟩), r] w1 fun e w' => e = .returned (.iface 69 (.int .i64 4)) ∧ ∃ u2, Mv base w w' S O v u v1 u2 x a L K := by
  have := Go.Proofs.YtlefhfmckimlaacDoor.put base O u1 r l K w1 h.p.o hr
  have e4 := putF_full (L := K) hf (by omega)
  rw [putL_no (by rw [e4]; decide), e4] at this
  exact this.mono fun e w' ⟨h1, u2, h2, h3, h4⟩ => ⟨h1, u2, h.onO h2 h3 h4 h.p.fo⟩
theorem Mv.take (h : Mv base w w1 S O v u v1 u1 x a L K) (hg : M.getF a L = 0) :
    Calls Tryd.prog 36 #[.pointer (some ⟨S, 0, none⟩), x] w1 fun e w' => ∃ r v2, e = .returned (.tuple #[r, .nilIface]) ∧ Mv base w w' S O v u v2 u1 x a (M.lessL a L) K := by
  have := Go.Proofs.YtlefhfmckimlaacDoor.take base S v1 x a L w1 h.p.s h.p.fs h.fx.vals
  rw [hg] at this
  exact this.mono fun e w' ⟨r, v2, h1, _, h2, h3, h4⟩ => ⟨r, v2, h1, h.onS h2 h3 h4 (Fine.less h.p.fs)⟩

theorem mold_yes (h : Mv base w w1 S O v u v1 u1 x a L K) (hg : M.getF a L = 0) (hk : K.length < 20) :
    Calls Tryd.prog 40 #[.pointer (some ⟨S, 0, none⟩), .pointer (some ⟨O, 0, none⟩), x] w1 fun e w' => e = .returned (.bool true) ∧ ∃ v2 u2, Mv base w w' S O v u v2 u2 x a (M.lessL a L) (K ++ [M.getV a L]) := by
  have HR := hide (h.read hg)
  have HF := hide (getV_fine h.p.fs hg)
  have HG := hide hg
  have HK := hide hk
  clear h hg hk
  go_enter Tryd.func40, Tryd.ntmps40
  go_wp2_with fail
  refine (unhide HR).mono ?_
  rintro e w2 ⟨r, rfl, hr, h2⟩
  have HP := hide (h2.put hr HF.out HK.out)
  clear hr h2
  go_wp2_with fail
  refine (unhide HP).mono ?_
  rintro e w3 ⟨rfl, u2, h3⟩
  have HT := hide (h3.take HG.out)
  clear h3 HP
  go_wp2_with fail
  refine (unhide HT).mono ?_
  rintro e w4 ⟨r2, v2, rfl, h4⟩
  have H4 := hide h4
  clear h4 HT
  go_wp2_with fail
  go_ret
  exact ⟨rfl, v2, u2, H4.out⟩

theorem mold_no (h : Mv base w w1 S O v u v1 u1 x a L K) (hg : M.getF a L = 0) (hk : ¬ K.length < 20) :
    Calls Tryd.prog 40 #[.pointer (some ⟨S, 0, none⟩), .pointer (some ⟨O, 0, none⟩), x] w1 fun e w' => e = .returned (.bool false) ∧ ∃ u2, Mv base w w' S O v u v1 u2 x a L K := by
  have HR := hide (h.read hg)
  have HF := hide (getV_fine h.p.fs hg)
  have HK := hide hk
  clear h hg hk
  go_enter Tryd.func40, Tryd.ntmps40
  go_wp2_with fail
  refine (unhide HR).mono ?_
  rintro e w2 ⟨r, rfl, hr, h2⟩
  have HP := hide (h2.full hr HF.out HK.out)
  clear hr h2
  go_wp2_with fail
  refine (unhide HP).mono ?_
  rintro e w3 ⟨rfl, u2, h3⟩
  have H3 := hide h3
  clear h3 HP
  go_wp2_with fail
  go_ret
  exact ⟨rfl, u2, H3.out⟩
end

end Go.Proofs.YtlefhfmckimlaacDoor
