/-
  What Print of package tuple does, as one law of its call.
  Plain facts on the number that is made of bytes. No program is walked here.
-/
import Derived.Test.YtlefhfmckimlaajGreatDoorTupWalks
import Derived.Test.YtlefhfmckimlaajGreatDoorJ15A
import Derived.Test.YtlefhfmckimlaajGreatDoorValMath
namespace Go.Proofs.YtlefhfmckimlaajGreatDoor
open Go.RowKit

theorem join_snoc : ∀ (ps : List (List UInt8)) (p : List UInt8), ps ≠ [] → M.joinL (ps ++ [p]) = M.joinL ps ++ 44 :: p
  | [], _, h => absurd rfl h
  | [a], p, _ => rfl
  | a :: b :: r, p, _ => by
    have ih : M.joinL (b :: (r ++ [p])) = M.joinL (b :: r) ++ 44 :: p := join_snoc (b :: r) p (by simp)
    show a ++ 44 :: M.joinL (b :: (r ++ [p])) = (a ++ 44 :: M.joinL (b :: r)) ++ 44 :: p
    rw [ih]; simp
def words (l : List M.Val) : List (List UInt8) := l.map fun v => v.word.data.toList
theorem line_eq (l : List M.Val) : M.line l = ⟨(M.joinL (words l)).toArray⟩ := rfl

theorem word_size {v : M.Val} (h : v.fault = 0) : v.word.data.toList.length ≤ 13 := by
  obtain ⟨k, n, s⟩ := v
  simp only [M.Val.fault] at h
  simp only [M.Val.word]
  rcases fault_kind h with rfl | rfl | rfl
  · obtain ⟨n1, n2, _⟩ := fault_num h
    obtain ⟨i1, _⟩ := M.num_itoa n n1 n2
    obtain ⟨_, h2, _, _⟩ := M.isNum_parts i1
    have hd : (M.word 0 n s).data.toList = Lib.itoa n := by show (⟨(Lib.itoa n).toArray⟩ : ByteArray).data.toList = _; simp
    rw [hd]
    unfold M.digs at h2
    split at h2
    · rw [List.length_tail] at h2; omega
    · omega
  · obtain ⟨_, h2, _⟩ := fault_text h
    have hd : (M.word 1 n s).data.toList = 58 :: s.data.toList := by
      show ((⟨#[58]⟩ : ByteArray) ++ s).data.toList = _
      simp [ByteArray.data_append]
    rw [hd]
    have : s.data.toList.length = s.size := by simp
    simp only [List.length_cons]; omega
  · have hd : (M.word 2 n s).data.toList = [42] := rfl
    rw [hd]; decide
theorem join_len : ∀ (ps : List (List UInt8)), (∀ p ∈ ps, p.length ≤ 13) → (M.joinL ps).length ≤ ps.length * 14
  | [], _ => Nat.le_refl _
  | [p], h => by have := h p (by simp); simp only [M.joinL, List.length_cons, List.length_nil]; omega
  | p :: q :: r, h => by
    have ih := join_len (q :: r) (fun x hx => h x (by simp [hx]))
    have := h p (by simp)
    simp only [M.joinL, List.length_append, List.length_cons] at ih ⊢
    omega
theorem words_len {l : List M.Val} (h : ∀ v ∈ l, v.fault = 0) : (M.joinL (words l)).length ≤ l.length * 14 := by
  have := join_len (words l) (fun p hp => by obtain ⟨v, hv, rfl⟩ := List.mem_map.1 hp; exact word_size (h v hv))
  simpa [words] using this
theorem words_take {l : List M.Val} {k : Nat} (h : k < l.length) : words (l.take (k + 1)) = words (l.take k) ++ [l[k].word.data.toList] := by
  unfold words
  rw [List.take_succ_eq_append_getElem h, List.map_append]; rfl

theorem Blt.stays {B b : Nat} {bs : List Value} {w w' : World} (h : Blt B b bs w) (hb : Below w.heap.size w w') : Blt B b bs w' := by
  have key : ∀ p, Lib.BuilderAt 105 5 B b p bs w → Lib.BuilderAt 105 5 B b p bs w' := fun p hp => by
    have hlt := hp.lt
    obtain ⟨hB, v, hv, hown, hne⟩ := hp
    refine ⟨hB, v, (hb.block b hlt).trans hv, ?_, hne⟩
    obtain ⟨h1, h2⟩ := hown
    refine ⟨h1, ?_⟩
    rcases h2 with h2 | ⟨g, cap, cur, e1, e2, e3, e4⟩
    · exact Or.inl h2
    · have hg : g < w.heap.size := by
        rcases Nat.lt_or_ge g w.heap.size with h' | h'
        · exact h'
        · simp [Array.getElem?_eq_none h'] at e3
      exact Or.inr ⟨g, cap, cur, e1, e2, (hb.block g hg).trans e3, e4⟩
  rcases h with h | h
  · exact Or.inl (key _ h)
  · exact Or.inr (key _ h)

theorem tprint_bad (v : Value) (l : List M.Val) (w : World) (h : IsVals w v l) (hf : M.likeF l ≠ 0) :
    Calls Tryz.prog 23 #[v] w fun e w' => e = .returned (.tuple #[.string ⟨#[]⟩, errV (M.likeF l)]) ∧ Below w.heap.size w w' := by
  have HL : Hid (Calls Tryz.prog 48 #[v] w fun e w' => e = .returned (.iface 66 (.int .i64 (M.likeF l))) ∧ Below w.heap.size w w') := hide (by rw [← errV_bad hf]; exact like v l w h)
  have HF := hide hf
  clear hf h
  go_enter Tryz.func23, Tryz.ntmps23
  go_wp2_with fail
  refine (unhide HL).mono ?_
  rintro e w1 ⟨rfl, hb1⟩
  go_wp2_with fail
  go_ret2
  exact ⟨by rw [errV_bad HF.out]; rfl, hb1⟩

theorem likeF_each' {l : List M.Val} (h : M.likeF l = 0) : ∀ v ∈ l, v.fault = 0 := by
  obtain ⟨h0, h5⟩ := likeF_len h
  unfold M.likeF at h
  rw [if_neg (by omega), if_neg (by omega)] at h
  exact M.firstF_zero h

theorem cells_comma (l : List UInt8) : Lib.byteCells l ++ Lib.strCells ⟨#[44]⟩ = Lib.byteCells (l ++ [44]) := by simp [Lib.byteCells, Lib.strCells]
theorem cells_word (l : List UInt8) (s : ByteArray) : Lib.byteCells l ++ Lib.strCells s = Lib.byteCells (l ++ s.data.toList) := by simp [Lib.byteCells, Lib.strCells]

set_option maxHeartbeats 1000000 in
theorem tprint_walk (b off cap : Nat) (l : List M.Val) (w : World) (hl : Lie w b off l) (hc : l.length ≤ cap) (hcm : cap ≤ maxLen) (hf : M.likeF l = 0) (ht : Tab w) :
    Calls Tryz.prog 23 #[.slice (some ⟨b, off, none⟩) l.length cap] w fun e w' => e = .returned (.tuple #[.string (M.line l), .nilIface]) ∧ Below w.heap.size w w' := by
  obtain ⟨h0, h5⟩ := likeF_len hf
  have hv : IsVals w (.slice (.some ⟨b, off, none⟩) l.length cap) l := Or.inr (Or.inr ⟨b, off, cap, h0, rfl, hc, hcm, hl⟩)
  have HL : Hid (Calls Tryz.prog 48 #[.slice (some ⟨b, off, none⟩) l.length cap] w fun e w' => e = .returned .nilIface ∧ Below w.heap.size w w') := hide (by have := like _ l w hv; rwa [hf] at this)
  have HE := hide (likeF_each' hf)
  have HLI := hide hl
  have HT := hide ht
  clear hv hf hl ht hc hcm
  obtain ⟨n, hn⟩ : ∃ n, n = l.length := ⟨_, rfl⟩
  rw [← hn] at h0 h5 HL ⊢
  have HN := hide hn
  clear hn
  go_enter Tryz.func23, Tryz.ntmps23
  go_wp2_with fail
  refine (unhide HL).mono ?_
  rintro e w1 ⟨rfl, hb1⟩
  have hw1 := hb1.size
  go_wp2_with fail
  go_loopw [17] (fun i wr => ∃ k : Nat, k ≤ n ∧ i = .int .i64 k ∧ Hid (Blt w1.heap.size w1.heap.size (Lib.byteCells (M.joinL (words (l.take k)))) wr) ∧ Hid (Below w1.heap.size w1 wr)) (fun i _ => n - (intOf i).toNat)
  case atStart => exact ⟨0, Nat.zero_le _, rfl, hide (Lib.fresh_isBuilder _ _ _), hide ((Below.refl _ _).alloc (Nat.le_refl _) _)⟩
  case round =>
    obtain ⟨k, hk, rfl, hblt, hbel⟩ := hrel
    by_cases hlt : k < n
    · have hkl : k < l.length := HN.out ▸ hlt
      have hbw : Hid (Below w.heap.size w wr) := hide (hb1.trans (hbel.out.mono hw1))
      obtain ⟨c1, c2, c3, c4⟩ := ((unhide HLI).stays (by omega) hbw.out (Nat.le_refl _)) k hkl
      have HC4 := hide c4
      clear c4
      have hfk : Hid (M.fault l[k].k l[k].n l[k].s = 0) := hide (HE.out _ (List.getElem_mem hkl))
      have HSZ : Hid ((M.joinL (words (l.take k))).length ≤ 70) := hide (by
        have := words_len (l := l.take k) (fun v hv => HE.out v (List.mem_of_mem_take hv))
        rw [List.length_take] at this; omega)
      have HWZ : Hid ((M.word l[k].k l[k].n l[k].s).size ≤ 13) := hide (by have := word_size (v := l[k]) (HE.out _ (List.getElem_mem hkl)); simpa [M.Val.word] using this)
      have HTR : Hid (∀ o, Tab (wr.alloc o)) := hide fun o => (HT.out.stays (hbw.out.alloc hbw.out.size o) (Nat.le_refl _))
      have hws := hbel.out.size
      go_wp2_with fail
      refine (printOk _ _ _ _ HC4.out hfk.out (HTR.out _)).mono ?_
      rintro e w2 ⟨rfl, hb2⟩
      have HB2 : Hid (Below wr.heap.size wr w2) := hide (((Below.refl _ _).alloc (Nat.le_refl _) _).trans (hb2.mono (by simp)))
      have hblt2 := hide (hblt.out.stays HB2.out)
      have hz2 := HB2.out.size
      clear hb2
      by_cases hk0 : k = 0
      · subst hk0
        have HW0 : Hid (M.joinL (words (l.take 0)) = []) := hide rfl
        go_wp2_with fail
        refine (writeS w1.heap.size w1.heap.size _ _ _ hblt2.out (by rw [Lib.byteCells_length]; have := HSZ.out; have := HWZ.out; omega) (by omega)).mono ?_
        rintro e w3 ⟨rfl, hblt3, hb3⟩
        have HB3 := hide (hbel.out.trans ((HB2.out.mono hws).trans hb3))
        have HBL3 := hide hblt3
        clear hb3 hblt3
        go_wp2_with fail
        go_roundw
        case rel =>
          refine ⟨1, by omega, by go_num, hide ?_, HB3⟩
          have := HBL3.out
          rw [cells_word] at this
          rw [words_take hkl]
          exact this
        case measure => simp [intOf]; omega
      · have hk1 : (0 : Int) < (k : Int) := by omega
        go_wp2_with fail
        refine (writeS w1.heap.size w1.heap.size _ _ _ hblt2.out (by rw [Lib.byteCells_length]; have := HSZ.out; show _ + 1 ≤ _; omega) (by omega)).mono ?_
        rintro e w3 ⟨rfl, hblt3, hb3⟩
        have hz3 := hb3.size
        have HB3 := hide ((HB2.out.mono hws).trans hb3)
        have HBL3 : Hid (Blt w1.heap.size w1.heap.size (Lib.byteCells (M.joinL (words (l.take k)) ++ [44])) w3) := hide (by have := hblt3; rwa [cells_comma] at this)
        clear hb3 hblt3
        go_wp2_with fail
        refine (writeS w1.heap.size w1.heap.size _ _ _ HBL3.out (by rw [Lib.byteCells_length, List.length_append]; have := HSZ.out; have := HWZ.out; show _ + 1 + _ ≤ _; omega) (by omega)).mono ?_
        rintro e w4 ⟨rfl, hblt4, hb4⟩
        have HB4 := hide (hbel.out.trans (HB3.out.trans hb4))
        have HBL4 := hide hblt4
        clear hb4 hblt4
        go_wp2_with fail
        go_roundw
        case rel =>
          refine ⟨k + 1, by omega, by go_num, hide ?_, HB4⟩
          have := HBL4.out
          rw [cells_word, List.append_assoc] at this
          rw [words_take hkl, join_snoc _ _ (by
            intro e
            have := congrArg List.length e
            unfold words at this
            rw [List.length_map, List.length_take] at this
            simp only [List.length_nil] at this
            omega)]
          exact this
        case measure => simp [intOf]; omega
    · have hfin : Hid (l.take k = l) := hide (List.take_of_length_le (by have := HN.out; omega))
      have hblt' : Hid (Blt w1.heap.size w1.heap.size (Lib.byteCells (M.joinL (words l))) wr) := hide (by have := hblt.out; rwa [hfin.out] at this)
      have hws := hbel.out.size
      go_wp2_with fail
      refine (Tryz.Builder_String_any w1.heap.size w1.heap.size _ _ hblt'.out hws).mono ?_
      rintro e w2 ⟨rfl, hb2⟩
      go_wp2_with fail
      go_ret2
      exact ⟨by rw [line_eq]; rfl, hb1.trans ((hbel.out.trans hb2).mono hw1)⟩

theorem tprint (v : Value) (l : List M.Val) (w : World) (h : IsVals w v l) (ht : Tab w) :
    Calls Tryz.prog 23 #[v] w fun e w' => e = .returned (.tuple #[.string (if M.likeF l = 0 then M.line l else ⟨#[]⟩), errV (M.likeF l)]) ∧ Below w.heap.size w w' := by
  by_cases hf : M.likeF l = 0
  · obtain ⟨b, off, cap, rfl, h1, h2, h3⟩ := h.some (likeF_len hf).1
    rw [if_pos hf, hf]
    exact tprint_walk b off cap l w h3 h1 h2 hf ht
  · rw [if_neg hf]
    exact tprint_bad v l w h hf

end Go.Proofs.YtlefhfmckimlaajGreatDoor

namespace Go.Proofs.YtlefhfmckimlaajGreatDoor.M

/-- one byte more -/
def hashC (h : Int) (c : UInt8) : Int := (31 * h + c.toNat) % 10007
def hashL (l : List UInt8) : Int := l.foldl hashC 7
def hash (s : ByteArray) : Int := hashL s.data.toList

theorem hashC_range (h : Int) (c : UInt8) : 0 ≤ hashC h c ∧ hashC h c ≤ 10006 := by unfold hashC; omega
theorem hashL_snoc (l : List UInt8) (c : UInt8) : hashL (l ++ [c]) = hashC (hashL l) c := by simp [hashL]
theorem hashL_range (l : List UInt8) : 0 ≤ hashL l ∧ hashL l ≤ 10006 := by
  by_cases h : l = []
  · subst h; exact ⟨by decide, by decide⟩
  · rw [← List.dropLast_concat_getLast h, hashL_snoc]; exact hashC_range _ _
theorem hash_range (s : ByteArray) : 0 ≤ hash s ∧ hash s ≤ 10006 := hashL_range _
/-- of two bytes behind the same bytes each has its own -/
theorem hashC_own {h : Int} {c d : UInt8} (e : hashC h c = hashC h d) : c = d := by
  unfold hashC at e
  have h1 := c.toNat_lt
  have h2 := d.toNat_lt
  exact UInt8.toNat_inj.1 (by omega)
theorem hash_one (c : UInt8) : hash ⟨#[c]⟩ = 217 + c.toNat := by
  have h1 := c.toNat_lt
  show (31 * 7 + (c.toNat : Int)) % 10007 = _
  omega

end Go.Proofs.YtlefhfmckimlaajGreatDoor.M
