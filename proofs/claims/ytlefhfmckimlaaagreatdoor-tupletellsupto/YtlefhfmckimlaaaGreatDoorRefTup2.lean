/-
  What the document's own Cut and ReadTuple do, each as one law of its call: of a text that is not too long.
-/
import Derived.Test.YtlefhfmckimlaaaGreatDoorRefRead3
import Derived.Test.YtlefhfmckimlaaaGreatDoorTupParse
import Derived.Deep.AppendLies
import Derived.Laws.OwnMore
namespace Go.Proofs.YtlefhfmckimlaaaGreatDoor
open Go.RowKit

theorem infoS : (Tryz.prog.info? 9).map (fun i => (i.zero, i.size, i.bytes)) = some (some (.string ⟨#[]⟩), 1, 16) := by kernel_rfl
def strs (ps : List Str) : List Value := ps.map fun x => .string x.1
theorem strs_snoc (ps : List Str) (x : Str) : strs (ps ++ [x]) = strs ps ++ [.string x.1] := by simp [strs]

theorem ext_list (s : ByteArray) (a b : Nat) : (s.extract a b).data.toList = (s.data.toList.drop a).take (b - a) := by
  rw [ByteArray.data_extract, Array.toList_extract, List.extract_eq_take_drop]

/-- a comma comes: one part more -/
theorem cut_part {s : ByteArray} {f k : Nat} (hfk : f ≤ k) (hk : k < s.size) (hno : 44 ∉ (s.data.toList.drop f).take (k - f)) (hc : s[k] = 44) :
    M.cutL (s.data.toList.drop f) = (s.extract f k).data.toList :: M.cutL (s.data.toList.drop (k + 1)) := by
  have hlen : s.data.toList.length = s.size := by simp
  have e : s.data.toList.drop f = (s.data.toList.drop f).take (k - f) ++ 44 :: s.data.toList.drop (k + 1) := by
    have e1 : (s.data.toList.drop f).drop (k - f) = 44 :: s.data.toList.drop (k + 1) := by
      rw [List.drop_drop, show f + (k - f) = k by omega]
      have hx : s.data.toList[k]'(by omega) = 44 := by rw [← hc]; rfl
      rw [← hx, List.getElem_cons_drop]
    rw [← e1, List.take_append_drop]
  rw [ext_list]
  have := M.cutL_append _ (s.data.toList.drop (k + 1)) hno
  rw [← e] at this
  exact this
theorem no_comma {s : ByteArray} {f k : Nat} (hfk : f ≤ k) (hk : k < s.size) (hno : 44 ∉ (s.data.toList.drop f).take (k - f)) (hc : ¬ s[k] = 44) : 44 ∉ (s.data.toList.drop f).take (k + 1 - f) := by
  have hlen : s.data.toList.length = s.size := by simp
  rw [show k + 1 - f = (k - f) + 1 by omega, List.take_succ_eq_append_getElem (by rw [List.length_drop]; omega)]
  intro h
  rcases List.mem_append.1 h with h | h
  · exact hno h
  · simp only [List.mem_cons, List.not_mem_nil, or_false, List.getElem_drop] at h
    refine hc ?_
    have : s[k] = s.data.toList[f + (k - f)]'(by omega) := by
      have e : f + (k - f) = k := by omega
      simp only [e]; rfl
    rw [this]; exact h.symm

set_option maxHeartbeats 1000000 in
theorem rcut (s : ByteArray) (w : World) (hs : s.size ≤ 1048576) :
    Calls Tryz.prog 26 #[.string s, .int .u8 44] w fun e w' => ∃ v ps, e = .returned v ∧ w'.ownsRow w.heap.size 9 1 v ps.length (strs ps) ∧ lst ps = M.cutL s.data.toList ∧ ps.length ≤ s.size + 1 ∧ Below w.heap.size w w' := by
  obtain ⟨i0, hi, hz0, hz1, hz2⟩ := info_parts infoS
  have HI := hide (And.intro hi (And.intro hz0 (And.intro hz1 hz2)))
  clear hi hz0 hz1 hz2
  go_enter Tryz.func26, Tryz.ntmps26
  go_wp2
  go_loopw [5, 6, 7] (fun x f i wr => ∃ (v : Value) (ps : List Str) (a k m : Nat), v = x ∧ a ≤ k ∧ k ≤ s.size ∧ m ≤ a ∧ f = .int .i64 a ∧ i = .int .i64 k ∧ Hid (m = ps.length) ∧ Hid (wr.ownsRow w.heap.size 9 1 v m (strs ps)) ∧ Hid (M.cutL s.data.toList = lst ps ++ M.cutL (s.data.toList.drop a)) ∧ Hid (44 ∉ (s.data.toList.drop a).take (k - a)) ∧ Below w.heap.size w wr) (fun _ _ i _ => s.size - (intOf i).toNat)
  case atStart => exact ⟨_, [], 0, 0, 0, rfl, Nat.le_refl _, Nat.zero_le _, Nat.le_refl _, rfl, rfl, hide rfl, hide (World.ownsRow_nil _ _ _ _), hide (by simp [lst]), hide (by simp), Below.refl _ _⟩
  case round =>
    obtain ⟨v, ps, a, k, m, rfl, hak, hk, hma, rfl, rfl, hm, hown, hcut, hno, hbel⟩ := hrel
    have hz := hbel.size
    have HBEL := hide hbel
    clear hbel
    have ia0 : (0 : Int) ≤ (a : Int) := by omega
    have iak : (a : Int) ≤ (k : Int) := by omega
    by_cases hlt : k < s.size
    · have iks : (k : Int) ≤ (s.size : Int) := by omega
      by_cases hc : s[k] = 44
      · have h44 : ((s[k].toNat : Int) == 44) = true := by rw [hc]; rfl
        have hxs : (s.extract a k).size ≤ maxLen := by rw [ByteArray.size_extract]; unfold maxLen; omega
        have HP := hide (cut_part hak hlt hno.out hc)
        have HXS := hide hxs
        clear hc hxs
        have HNEW : Hid (∀ j u, [Value.string (s.extract a k)][j]? = some u → (wr.alloc (.cells #[.string (s.extract a k)] 9)).cell? ((⟨wr.heap.size, 0, none⟩ : Addr).add j) = some u) := hide (World.news_of_block (heap_alloc_new wr _))
        go_wp2_with (at_builtin; (refine wpList_append_own _ rfl (.tmp 19) (.tmp 24) 57 rfl w.heap.size 9 i0 (.string ⟨#[]⟩) 1 16 Tryz.underlying57 HI.out.1 HI.out.2.1 HI.out.2.2.1 HI.out.2.2.2 rfl (by decide) v m (strs ps) rfl (hown.out.alloc _) ⟨wr.heap.size, 0, none⟩ 1 1 [.string (s.extract a k)] rfl rfl HNEW.out (by simp [Value.oneCell']) (by unfold maxLen; omega) (by omega) (Nat.le_trans hz (by simp)) ?_))
        intro v' w1 hown' hgrow _
        have HO := hide hown'
        have HB1 := hide ((HBEL.out.alloc hz _).grown hgrow (Nat.le_trans hz (by simp)) (fun j hj => (hown.out.lt j hj).1))
        clear hown' hgrow
        go_wp2
        go_roundw
        case rel => exact ⟨_, ps ++ [⟨s.extract a k, HXS.out⟩], k + 1, k + 1, m + 1, rfl, Nat.le_refl _, by omega, by omega, by go_num, by go_num, hide (by rw [List.length_append, ← hm.out]; rfl), hide (by rw [strs_snoc]; exact HO.out), hide (by rw [hcut.out, HP.out, lst_snoc]; simp), hide (by simp), HB1.out⟩
        case measure => simp [intOf]; omega
      · have h44 : ((s[k].toNat : Int) == 44) = false := by
          cases hh : ((s[k].toNat : Int) == 44)
          · rfl
          · exact absurd (UInt8.toNat_inj.1 (by have : (s[k].toNat : Int) = 44 := by simpa using hh
                                                show s[k].toNat = 44; omega)) hc
        have HN := hide (no_comma hak hlt hno.out hc)
        clear hc
        go_wp2
        go_roundw
        case rel => exact ⟨_, ps, a, k + 1, m, rfl, by omega, by omega, hma, rfl, by go_num, hm, hown, hcut, HN, HBEL.out⟩
        case measure => simp [intOf]; omega
    · have iks : (a : Int) ≤ (s.size : Int) := by omega
      have hxs : (s.extract a s.size).size ≤ maxLen := by rw [ByteArray.size_extract]; unfold maxLen; omega
      have HXS := hide hxs
      have HP : Hid (M.cutL (s.data.toList.drop a) = [(s.extract a s.size).data.toList]) := hide (by
        have hlen : s.data.toList.length = s.size := by simp
        have e : (s.data.toList.drop a).take (k - a) = s.data.toList.drop a := List.take_of_length_le (by rw [List.length_drop]; omega)
        have e2 : (s.extract a s.size).data.toList = s.data.toList.drop a := by rw [ext_list]; exact List.take_of_length_le (by rw [List.length_drop]; omega)
        have h := hno.out
        rw [e] at h
        rw [e2]; exact M.cutL_none _ h)
      clear hxs
      have HNEW : Hid (∀ j u, [Value.string (s.extract a s.size)][j]? = some u → (wr.alloc (.cells #[.string (s.extract a s.size)] 9)).cell? ((⟨wr.heap.size, 0, none⟩ : Addr).add j) = some u) := hide (World.news_of_block (heap_alloc_new wr _))
      go_wp2_with (at_builtin; (refine wpList_append_own _ rfl (.tmp 28) (.tmp 32) 57 rfl w.heap.size 9 i0 (.string ⟨#[]⟩) 1 16 Tryz.underlying57 HI.out.1 HI.out.2.1 HI.out.2.2.1 HI.out.2.2.2 rfl (by decide) v m (strs ps) rfl (hown.out.alloc _) ⟨wr.heap.size, 0, none⟩ 1 1 [.string (s.extract a s.size)] rfl rfl HNEW.out (by simp [Value.oneCell']) (by unfold maxLen; omega) (by omega) (Nat.le_trans hz (by simp)) ?_))
      intro v' w1 hown' hgrow _
      have HO := hide hown'
      have HB1 := hide ((HBEL.out.alloc hz _).grown hgrow (Nat.le_trans hz (by simp)) (fun j hj => (hown.out.lt j hj).1))
      clear hown' hgrow
      go_wp2
      go_ret
      refine ⟨v', ps ++ [⟨s.extract a s.size, HXS.out⟩], rfl, ?_, ?_, ?_, HB1.out⟩
      · rw [strs_snoc, List.length_append, ← hm.out]; exact HO.out
      · rw [lst_snoc, hcut.out, HP.out]
      · rw [List.length_append, ← hm.out]; simp only [List.length_cons, List.length_nil]; omega

/-- all fields are read, by the document -/
theorem read_done {l : List UInt8} {ys : List Str} (h : lst ys = M.cutL l) (hok : okS ys) (hl : l.length ≠ 0) :
    (5 < ys.length ∧ M.readE l = 4 ∧ M.readV l = []) ∨ (ys.length ≤ 5 ∧ M.readE l = 0 ∧ M.readV l = (lst ys).map M.pVal) := by
  have hlen : ys.length = (M.cutL l).length := by rw [← h]; simp [lst]
  have hf : M.firstP (M.cutL l) = 0 := by
    have := firstP_append (lst ys) [] (lst_ok hok)
    rw [List.append_nil] at this
    rw [← h, this]; rfl
  by_cases h5 : 5 < (M.cutL l).length
  · have he : M.readE l = 4 := by unfold M.readE; rw [if_neg hl, hf, if_neg (by decide), if_pos h5]
    exact Or.inl ⟨by omega, he, by unfold M.readV; rw [he, if_pos (by decide)]⟩
  · have he : M.readE l = 0 := by unfold M.readE; rw [if_neg hl, hf, if_neg (by decide), if_neg h5]
    exact Or.inr ⟨by omega, he, by unfold M.readV; rw [he, if_neg (by decide), h]⟩

end Go.Proofs.YtlefhfmckimlaaaGreatDoor
