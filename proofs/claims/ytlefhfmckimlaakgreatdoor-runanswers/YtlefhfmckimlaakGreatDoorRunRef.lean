/-
  What the document's own name and number do, each as one law of its call.
-/
import Derived.Test.YtlefhfmckimlaakGreatDoorRunMath
import Derived.Below
set_option linter.unusedVariables false
namespace Go.Proofs.YtlefhfmckimlaakGreatDoor
open Go.RowKit

set_option maxRecDepth 100000 in
set_option maxHeartbeats 2000000 in
theorem rname (e : Int) (w : World) (h0 : 0 ≤ e) (h8 : e ≤ 8) : Calls Tryz.prog 73 #[.int .i64 e] w fun x w' => x = .returned (.string ⟨(M.errN e).toArray⟩) ∧ Below w.heap.size w w' := by
  have h : e = 0 ∨ e = 1 ∨ e = 2 ∨ e = 3 ∨ e = 4 ∨ e = 5 ∨ e = 6 ∨ e = 7 ∨ e = 8 := by omega
  rcases h with rfl | rfl | rfl | rfl | rfl | rfl | rfl | rfl | rfl
  all_goals
    go_enter Tryz.func73, Tryz.ntmps73
    go_wp2_with fail
    go_ret
    exact ⟨rfl, (Below.refl _ _).alloc (Nat.le_refl _) _⟩

theorem numI_snoc (l : List UInt8) (c : UInt8) : M.numI (l ++ [c]) = M.numI l * 10 + c.toNat - 48 := by
  unfold M.numI
  rw [List.foldl_append]
  rfl
theorem take_next {s : ByteArray} {i : Nat} (h : i < s.size) : s.data.toList.take (i + 1) = s.data.toList.take i ++ [s[i]] := by
  rw [List.take_succ_eq_append_getElem (by simpa using h)]
  rfl
theorem pow_le {i : Nat} (h : i ≤ 3) : 10 ^ i ≤ 1000 := Nat.pow_le_pow_right (by decide) h
/-- digits alone -/
def M.digB (l : List UInt8) : Bool := l.all fun c => decide (48 ≤ c.toNat) && decide (c.toNat ≤ 57)

theorem dig_no {s : ByteArray} {i : Nat} (h : i < s.size) (hd : ¬ (48 ≤ s[i].toNat ∧ s[i].toNat ≤ 57)) : M.digB s.data.toList = false := by
  cases hh : M.digB s.data.toList
  · rfl
  · have hm : s[i] ∈ s.data.toList := by
      have : s[i] = s.data.toList[i]'(by simpa using h) := rfl
      rw [this]; exact List.getElem_mem _
    have := List.all_eq_true.1 hh _ hm
    simp only [Bool.and_eq_true, decide_eq_true_eq] at this
    exact absurd this hd
theorem dig_next {s : ByteArray} {i : Nat} (h : i < s.size) (hb : M.digB (s.data.toList.take i) = true) (hd : 48 ≤ s[i].toNat ∧ s[i].toNat ≤ 57) : M.digB (s.data.toList.take (i + 1)) = true := by
  rw [take_next h]
  unfold M.digB at hb ⊢
  rw [List.all_append, hb]
  simp [hd.1, hd.2]

set_option maxRecDepth 100000 in
set_option maxHeartbeats 1000000 in
theorem rnumber_loop (s : ByteArray) (w : World) (h1 : 1 ≤ s.size) (h4 : s.size ≤ 4) (hz : ¬ (s[0]'(by omega) = 48 ∧ 1 < s.size)) :
    Calls Tryz.prog 71 #[.string s] w fun x w' => x = .returned (.tuple #[.int .i64 (if M.digB s.data.toList = true then M.numI s.data.toList else 0), .bool (M.digB s.data.toList)]) ∧ w' = w := by
  have hlen : s.data.toList.length = s.size := by simp
  have a1 : s.toList.isEmpty = false := by
    cases hh : s.toList.isEmpty
    · rfl
    · have e : s.toList = [] := by simpa using hh
      have e2 : s.data.toList = [] := by rw [ByteArray.toList_eq] at e; exact e
      rw [e2] at hlen
      simp at hlen
      omega
  have a2 : ¬ (4 : Int) < (s.size : Int) := by omega
  have a3 : (0 : Int) < (s.size : Int) := by omega
  have HLEN := hide hlen
  have HQ : Hid ((((s[0]'(by omega)).toNat : Int) == 48) = true ∧ decide ((1 : Int) < (s.size : Int)) = false ∨ (((s[0]'(by omega)).toNat : Int) == 48) = false) := hide (by
    by_cases h : s[0]'(by omega) = 48
    · exact Or.inl ⟨by rw [h]; rfl, by have : ¬ 1 < s.size := fun q => hz ⟨h, q⟩; exact decide_eq_false (by omega)⟩
    · refine Or.inr ?_
      cases hh : (((s[0]'(by omega)).toNat : Int) == 48)
      · rfl
      · exact absurd (UInt8.toNat_inj.1 (by have : ((s[0]'(by omega)).toNat : Int) = 48 := by simpa using hh
                                            show (s[0]'(by omega)).toNat = 48; omega)) h)
  clear hz
  obtain ⟨V, hV⟩ : ∃ V : Int, V = if M.digB s.data.toList = true then M.numI s.data.toList else 0 := ⟨_, rfl⟩
  obtain ⟨D, hD⟩ : ∃ D : Bool, D = M.digB s.data.toList := ⟨_, rfl⟩
  rw [← hV, ← hD]
  have HV := hide (And.intro hV hD)
  clear hV hD
  rcases HQ.out with ⟨q1, q2⟩ | q1
  all_goals
    clear HQ
    go_enter Tryz.func71, Tryz.ntmps71
    go_wp2_with fail
    go_loopw [4, 5] (fun sn si wx => ∃ (i z : Nat), sn = .int .i64 z ∧ si = .int .i64 i ∧ i ≤ s.size ∧ Hid (z + 1 ≤ 10 ^ i) ∧ Hid ((z : Int) = M.numI (s.data.toList.take i)) ∧ Hid (M.digB (s.data.toList.take i) = true) ∧ wx = w) (fun _ si _ => s.size - (intOf si).toNat)
    case atStart => exact ⟨0, 0, rfl, rfl, Nat.zero_le _, hide (by decide), hide rfl, hide rfl, rfl⟩
    case round =>
      obtain ⟨i, z, rfl, rfl, hi, HZ, HN, HD, hwx⟩ := hrel
      obtain rfl := hwx.symm
      have i0 : (0 : Int) ≤ (i : Int) := by omega
      by_cases hlt : i < s.size
      · have i1 : (i : Int) < (s.size : Int) := by omega
        have hp := pow_le (show i ≤ 3 by omega)
        have z9 : z ≤ 999 := by have := HZ.out; omega
        by_cases d1 : s[i].toNat < 48
        · have c1 : (s[i].toNat : Int) < 48 := by omega
          have HF := hide (dig_no hlt (by omega))
          clear hp
          go_wp2_with fail
          go_ret2
          obtain ⟨e1, e2⟩ := HV.out
          rw [HF.out] at e1 e2
          rw [e1, e2]
          exact ⟨rfl, by first | rfl | trivial⟩
        · have c1 : ¬ (s[i].toNat : Int) < 48 := by omega
          by_cases d2 : 57 < s[i].toNat
          · have c2 : (57 : Int) < (s[i].toNat : Int) := by omega
            have HF := hide (dig_no hlt (by omega))
            clear hp
            go_wp2_with fail
            go_ret2
            obtain ⟨e1, e2⟩ := HV.out
            rw [HF.out] at e1 e2
            rw [e1, e2]
            exact ⟨rfl, by first | rfl | trivial⟩
          · have c2 : ¬ (57 : Int) < (s[i].toNat : Int) := by omega
            have HF := hide (dig_next hlt HD.out (by omega))
            have HN2 : Hid (((z * 10 + s[i].toNat - 48 : Nat) : Int) = M.numI (s.data.toList.take (i + 1))) := hide (by rw [take_next hlt, numI_snoc, ← HN.out]; omega)
            have HZ2 : Hid ((z * 10 + s[i].toNat - 48) + 1 ≤ 10 ^ (i + 1)) := hide (by rw [Nat.pow_succ]; have := HZ.out; omega)
            clear hp
            go_wp2_with fail
            go_roundw
            case rel => exact ⟨i + 1, z * 10 + s[i].toNat - 48, by go_num, by go_num, by omega, HZ2, HN2, HF, by first | rfl | trivial⟩
            case measure => simp [intOf]; omega
      · have i1 : ¬ (i : Int) < (s.size : Int) := by omega
        have HF : Hid (M.digB s.data.toList = true ∧ (z : Int) = M.numI s.data.toList) := hide (by
          have e : s.data.toList.take i = s.data.toList := List.take_of_length_le (by have := HLEN.out; omega)
          have q1 := HD.out
          have q2 := HN.out
          rw [e] at q1 q2
          exact ⟨q1, q2⟩)
        go_wp2_with fail
        go_ret2
        obtain ⟨e1, e2⟩ := HV.out
        rw [HF.out.1] at e1 e2
        rw [if_pos rfl] at e1
        rw [e1, e2, ← HF.out.2]
        exact ⟨rfl, by first | rfl | trivial⟩

theorem numB_in {s : ByteArray} (h1 : 1 ≤ s.size) (h4 : s.size ≤ 4) (hz : ¬ (s[0]'(by omega) = 48 ∧ 1 < s.size)) : M.numB s.data.toList = M.digB s.data.toList := by
  have hlen : s.data.toList.length = s.size := by simp
  have hh : s.data.toList.head? = some (s[0]'(by omega)) := by
    rw [List.head?_eq_getElem?, List.getElem?_eq_getElem (by omega)]
    rfl
  unfold M.numB M.digB
  rw [hh, hlen, decide_eq_true h1, decide_eq_true h4]
  have e : (some (s[0]'(by omega)) == some (48 : UInt8) && decide (1 < s.size)) = false := by
    cases q : (some (s[0]'(by omega)) == some (48 : UInt8) && decide (1 < s.size))
    · rfl
    · simp only [Bool.and_eq_true, beq_iff_eq, Option.some.injEq, decide_eq_true_eq] at q
      exact absurd q hz
  rw [e]
  simp
theorem numB_out {s : ByteArray} (h : s.size = 0 ∨ 4 < s.size ∨ ∃ h : 0 < s.size, s[0] = 48 ∧ 1 < s.size) : M.numB s.data.toList = false := by
  have hlen : s.data.toList.length = s.size := by simp
  unfold M.numB
  rw [hlen]
  rcases h with h | h | ⟨h0, h, h2⟩
  · rw [show decide (1 ≤ s.size) = false from decide_eq_false (by omega)]; rfl
  · rw [show decide (s.size ≤ 4) = false from decide_eq_false (by omega)]; simp
  · have hh : s.data.toList.head? = some (s[0]'(by omega)) := by
      rw [List.head?_eq_getElem?, List.getElem?_eq_getElem (by omega)]
      rfl
    rw [hh, h, decide_eq_true h2]
    simp
theorem none_empty {s : ByteArray} (h1 : 1 ≤ s.size) : s.toList.isEmpty = false := by
  have hlen : s.data.toList.length = s.size := by simp
  cases hh : s.toList.isEmpty
  · rfl
  · have e : s.toList = [] := by simpa using hh
    have e2 : s.data.toList = [] := by rw [ByteArray.toList_eq] at e; exact e
    rw [e2] at hlen
    simp at hlen
    omega

set_option maxRecDepth 100000 in
set_option maxHeartbeats 1000000 in
/-- the document's number, of any text -/
theorem rnumber (s : ByteArray) (w : World) (hs : s.size ≤ maxLen) :
    Calls Tryz.prog 71 #[.string s] w fun x w' => x = .returned (.tuple #[.int .i64 (if M.numB s.data.toList = true then M.numI s.data.toList else 0), .bool (M.numB s.data.toList)]) ∧ w' = w := by
  unfold maxLen at hs
  by_cases h : s.size = 0 ∨ 4 < s.size ∨ ∃ h : 0 < s.size, s[0] = 48 ∧ 1 < s.size
  · rw [numB_out h]
    by_cases h0 : s.size = 0
    · have e : s = ⟨#[]⟩ := by
        apply ByteArray.ext
        apply Array.ext'
        exact List.eq_nil_of_length_eq_zero (by simpa using h0)
      subst e
      clear h h0 hs
      go_enter Tryz.func71, Tryz.ntmps71
      go_wp2_with fail
      go_ret2
      exact ⟨rfl, rfl⟩
    · have a1 := none_empty (s := s) (by omega)
      have a3 : (0 : Int) < (s.size : Int) := by omega
      by_cases h4 : 4 < s.size
      · have a2 : (4 : Int) < (s.size : Int) := by omega
        clear h h0
        go_enter Tryz.func71, Tryz.ntmps71
        go_wp2_with fail
        go_ret2
        exact ⟨rfl, rfl⟩
      · have a2 : ¬ (4 : Int) < (s.size : Int) := by omega
        obtain ⟨h5, h6, h7⟩ : ∃ h : 0 < s.size, s[0] = 48 ∧ 1 < s.size := by
          rcases h with h | h | h
          · omega
          · omega
          · exact h
        have q1 : ((s[0].toNat : Int) == 48) = true := by rw [h6]; rfl
        have q2 : decide ((1 : Int) < (s.size : Int)) = true := decide_eq_true (by omega)
        clear h h0 h6
        go_enter Tryz.func71, Tryz.ntmps71
        go_wp2_with fail
        go_ret2
        exact ⟨rfl, rfl⟩
  · have h1 : 1 ≤ s.size := by omega
    have h4 : s.size ≤ 4 := by omega
    have hz : ¬ (s[0]'(by omega) = 48 ∧ 1 < s.size) := fun q => h (Or.inr (Or.inr ⟨by omega, q⟩))
    rw [numB_in h1 h4 hz]
    exact rnumber_loop s w h1 h4 hz

end Go.Proofs.YtlefhfmckimlaakGreatDoor
