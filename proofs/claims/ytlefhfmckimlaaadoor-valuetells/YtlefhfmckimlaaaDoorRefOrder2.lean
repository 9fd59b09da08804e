/-
  What the document's own order of values answers for two of one kind and number: byte by byte.
-/
import Derived.Test.YtlefhfmckimlaaaDoorRefOrder
set_option linter.unusedSimpArgs false
set_option linter.unusedVariables false
namespace Go.Proofs.YtlefhfmckimlaaaDoor
open Go.RowKit

theorem below_drewN {B : Nat} {a w : World} (h : Below B a w) (n : Nat) : Below B a (w.drewN n) := ⟨h.os, h.tape, h.output, h.size, h.block⟩

set_option maxHeartbeats 1000000 in
theorem refOrderS (k n : Int) (s1 s2 : ByteArray) (w : World) (hs1 : s1.size ≤ maxLen) (hs2 : s2.size ≤ maxLen) :
    Calls Tryd.prog 11 #[.agg #[.int .i64 k, .int .i64 n, .string s1], .agg #[.int .i64 k, .int .i64 n, .string s2]] w fun e w' => e = .returned (.int .i64 (M.cmpS s1 s2)) ∧ Below w.heap.size w w' := by
  unfold maxLen at hs1 hs2
  have hk : (k != k) = false := by simp
  have hn : (n != n) = false := by simp
  go_enter Tryd.func11, Tryd.ntmps11
  go_wp2
  go_loopw [5] (fun c wr => ∃ j q : Nat, j ≤ s1.size ∧ j ≤ s2.size ∧ c = .int .i64 j ∧ Hid (s1.data.toList.take j = s2.data.toList.take j) ∧ wr = ((w.alloc (.cells #[.int .i64 k, .int .i64 n, .string s1] 23)).alloc (.cells #[.int .i64 k, .int .i64 n, .string s2] 23)).drewN q) (fun c _ => s1.size - (intOf c).toNat)
  case atStart => exact ⟨0, 0, Nat.zero_le _, Nat.zero_le _, rfl, rfl, rfl⟩
  case round =>
    obtain ⟨j, q, hj1, hj2, rfl, HP, rfl⟩ := hrel
    have bw : ∀ q, Below w.heap.size w (((w.alloc (.cells #[.int .i64 k, .int .i64 n, .string s1] 23)).alloc (.cells #[.int .i64 k, .int .i64 n, .string s2] 23)).drewN q) := fun q => below_drewN (((Below.refl _ _).alloc (Nat.le_refl _) _).alloc (by simp) _) q
    have BW := hide bw
    clear bw
    by_cases h1 : j < s1.size
    · have h1' : (j : Int) < (s1.size : Int) := by omega
      by_cases h2 : j < s2.size
      · have h2' : (j : Int) < (s2.size : Int) := by omega
        by_cases hb : s1[j] = s2[j]
        · have hbb : ((s1[j].toNat : Int) != (s2[j].toNat : Int)) = false := by rw [hb]; simp
          have HP2 : Hid (s1.data.toList.take (j + 1) = s2.data.toList.take (j + 1)) := hide (by
            rw [take_snoc s1 j h1, take_snoc s2 j h2, HP.out, hb])
          clear hb
          go_wp2
          go_quiet (fail)
          go_wp2
          go_roundw
          case rel => exact ⟨j + 1, _, by omega, by omega, by go_num, HP2, rfl⟩
          case measure => simp [intOf]; omega
        · have hbb : ((s1[j].toNat : Int) != (s2[j].toNat : Int)) = true := by
            rw [bne_iff_ne]; intro e; exact hb (UInt8.toNat_inj.1 (by omega))
          have hfin := hide (M.cmpS_at s1 s2 j h1 h2 HP.out hb)
          clear hb
          by_cases hl : (s1[j].toNat : Int) < (s2[j].toNat : Int)
          · go_wp2
            go_quiet (fail)
            go_wp2
            go_quiet (fail)
            go_wp2
            go_ret
            exact ⟨by rw [hfin.out, if_pos (by omega)]; rfl, below_drewN (below_drewN (BW.out _) _) _⟩
          · go_wp2
            go_quiet (fail)
            go_wp2
            go_quiet (fail)
            go_wp2
            go_ret
            exact ⟨by rw [hfin.out, if_neg (by omega)]; rfl, below_drewN (below_drewN (BW.out _) _) _⟩
      · have hfin := hide (M.cmpS_end s1 s2 j (by omega) hj1 hj2 HP.out)
        have h2' : ¬ (j : Int) < (s2.size : Int) := by omega
        have hne : ((s1.size : Int) != (s2.size : Int)) = true := by rw [bne_iff_ne]; omega
        have hlt : ¬ (s1.size : Int) < (s2.size : Int) := by omega
        go_wp2
        go_ret
        exact ⟨by rw [hfin.out, if_neg (by omega), if_neg (by omega)]; rfl, BW.out _⟩
    · have hfin := hide (M.cmpS_end s1 s2 j (by omega) hj1 hj2 HP.out)
      have h1' : ¬ (j : Int) < (s1.size : Int) := by omega
      by_cases he : s1.size = s2.size
      · have hne : ((s1.size : Int) != (s2.size : Int)) = false := by rw [he]; simp
        have HE := hide he
        clear he
        go_wp2
        go_ret
        exact ⟨by rw [hfin.out, if_pos HE.out]; rfl, BW.out _⟩
      · have hne : ((s1.size : Int) != (s2.size : Int)) = true := by rw [bne_iff_ne]; omega
        have hlt : (s1.size : Int) < (s2.size : Int) := by omega
        clear he
        go_wp2
        go_ret
        exact ⟨by rw [hfin.out, if_neg (by omega), if_pos (by omega)]; rfl, BW.out _⟩

theorem refOrder (k1 n1 : Int) (s1 : ByteArray) (k2 n2 : Int) (s2 : ByteArray) (w : World) (hs1 : s1.size ≤ maxLen) (hs2 : s2.size ≤ maxLen) :
    Calls Tryd.prog 11 #[.agg #[.int .i64 k1, .int .i64 n1, .string s1], .agg #[.int .i64 k2, .int .i64 n2, .string s2]] w fun e w' => e = .returned (.int .i64 (M.ord k1 n1 s1 k2 n2 s2)) ∧ Below w.heap.size w w' := by
  by_cases hk : k1 = k2
  · subst hk
    by_cases hn : n1 = n2
    · subst hn
      have e : M.ord k1 n1 s1 k1 n1 s2 = M.cmpS s1 s2 := by
        rcases M.ord_cases k1 n1 s1 k1 n1 s2 with ⟨g, _⟩ | ⟨_, g, _⟩ | ⟨_, _, e⟩
        · exact absurd rfl g
        · exact absurd rfl g
        · exact e
      rw [e]; exact refOrderS k1 n1 s1 s2 w hs1 hs2
    · exact refOrderN k1 n1 s1 n2 s2 w hn
  · exact refOrderK k1 n1 s1 k2 n2 s2 w hk

end Go.Proofs.YtlefhfmckimlaaaDoor
