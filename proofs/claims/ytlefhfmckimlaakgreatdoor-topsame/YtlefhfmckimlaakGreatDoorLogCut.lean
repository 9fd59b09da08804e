/-
  The library's cut at one byte; what parse of package log makes of a record; and the iterator over the whole lines of a text.
-/
import Derived.Test.YtlefhfmckimlaakGreatDoorLogWalks
set_option linter.unusedVariables false
namespace Go.Proofs.YtlefhfmckimlaakGreatDoor
open Go.RowKit Go.Shelf
attribute [local go_sem] Oper.semAt_some

theorem sliteMissC (s : ByteArray) (c : UInt8) (w : World) (hi : Lib.indexByte s.data.toList c = -1) :
    Calls Tryz.prog 127 #[.string s, .string ⟨#[c]⟩] w fun e w' => e = .returned (.tuple #[.string s, .string ⟨#[]⟩, .bool false]) ∧ Below w.heap.size w w' := by
  have HI : Hid (Calls Tryz.prog 154 #[.string s, .string ⟨#[c]⟩] w fun e w' => e = .returned (.int .i64 (-1)) ∧ w' = w) := hide (by have := Tryz.stringslite_Index_one s c w; rwa [hi] at this)
  clear hi
  go_enter Tryz.func127, Tryz.ntmps127
  go_wp2_with fail
  refine (unhide HI).mono ?_
  rintro e w1 ⟨rfl, rfl⟩
  go_wp2_with fail
  exact bodyPost_ret (v := .tuple #[.string s, .string ⟨#[]⟩, .bool false]) (by simp [results, Tryz.results127, go_sem]) rfl ⟨rfl, Below.refl _ _⟩
theorem sliteHitC (s : ByteArray) (c : UInt8) (i : Nat) (w : World) (hs : s.size ≤ maxLen) (hi : Lib.indexByte s.data.toList c = i) (hlt : i < s.size) :
    Calls Tryz.prog 127 #[.string s, .string ⟨#[c]⟩] w fun e w' => e = .returned (.tuple #[.string (s.extract 0 i), .string (s.extract (i + 1) s.size), .bool true]) ∧ Below w.heap.size w w' := by
  unfold maxLen at hs
  have HI : Hid (Calls Tryz.prog 154 #[.string s, .string ⟨#[c]⟩] w fun e w' => e = .returned (.int .i64 i) ∧ w' = w) := hide (by have := Tryz.stringslite_Index_one s c w; rwa [hi] at this)
  clear hi
  have h0 : (0 : Int) ≤ (i : Int) := by omega
  have h1 : (i : Int) + 1 ≤ (s.size : Int) := by omega
  have h2 : (i : Int) ≤ (s.size : Int) := by omega
  have h3 : (⟨#[c]⟩ : ByteArray).size = 1 := rfl
  go_enter Tryz.func127, Tryz.ntmps127
  go_wp2_with fail
  refine (unhide HI).mono ?_
  rintro e w1 ⟨rfl, rfl⟩
  go_wp2_with fail
  go_quiet (fail)
  go_wp2
  exact bodyPost_ret (v := .tuple #[.string (s.extract 0 i), .string (s.extract (i + 1) s.size), .bool true]) (by simp [results, Tryz.results127, go_sem]) rfl ⟨rfl, Go.below_drewN (Below.refl _ _) _⟩
/-- a text without that byte -/
theorem cutNo (l : List UInt8) (c : UInt8) (w : World) (h : c ∉ l) :
    Calls Tryz.prog 84 #[.string (bytesB l), .string ⟨#[c]⟩] w fun e w' => e = .returned (.tuple #[.string (bytesB l), .string ⟨#[]⟩, .bool false]) ∧ Below w.heap.size w w' := by
  have HS := hide (sliteMissC (bytesB l) c w (by rw [bytesB_list]; exact M.index_no l c h))
  generalize bytesB l = s at *
  clear h
  go_enter Tryz.func84, Tryz.ntmps84
  go_wp2_with fail
  refine (unhide HS).mono ?_
  rintro e w1 ⟨rfl, hb⟩
  go_wp2_with fail
  exact bodyPost_ret (v := .tuple #[.string s, .string ⟨#[]⟩, .bool false]) (by simp [results, Tryz.results84, go_sem]) rfl ⟨rfl, hb⟩
/-- a text with it: what stands ahead of it, and behind -/
theorem cutYes (p r : List UInt8) (c : UInt8) (w : World) (h : c ∉ p) (hs : (p ++ c :: r).length ≤ maxLen) :
    Calls Tryz.prog 84 #[.string (bytesB (p ++ c :: r)), .string ⟨#[c]⟩] w fun e w' => e = .returned (.tuple #[.string (bytesB p), .string (bytesB r), .bool true]) ∧ Below w.heap.size w w' := by
  have HS := hide (sliteHitC (bytesB (p ++ c :: r)) c p.length w (by rw [bytesB_size]; exact hs) (by rw [bytesB_list]; exact M.index_at p r c h) (by rw [bytesB_size]; simp))
  have e1 : (bytesB (p ++ c :: r)).extract 0 p.length = bytesB p := by
    apply WideShapes.bytes_inj
    simp [ByteArray.data_extract]
  have e2 : (bytesB (p ++ c :: r)).extract (p.length + 1) (bytesB (p ++ c :: r)).size = bytesB r := by
    apply WideShapes.bytes_inj
    rw [ByteArray.data_extract, Array.toList_extract, List.extract_eq_take_drop, bytesB_size]
    rw [List.take_of_length_le (by simp; omega)]
    simp
  rw [e1, e2] at HS
  generalize bytesB (p ++ c :: r) = s at *
  generalize bytesB p = x at *
  generalize bytesB r = y at *
  clear h hs e1 e2
  go_enter Tryz.func84, Tryz.ntmps84
  go_wp2_with fail
  refine (unhide HS).mono ?_
  rintro e w1 ⟨rfl, hb⟩
  go_wp2_with fail
  exact bodyPost_ret (v := .tuple #[.string x, .string y, .bool true]) (by simp [results, Tryz.results84, go_sem]) rfl ⟨rfl, hb⟩

/-- values stay while a box of what is asked is written -/
theorem vals_box {w w' : World} {v : Value} {l : List M.Val} {N : Nat} {who seq deed : Int} {a : Option Addr} {n cp : Nat} (h : IsVals w v l) (hx : AskBox w N who seq deed a n cp) (hk : ∀ k, k ≠ N → w'.heap[k]? = w.heap[k]?) : IsVals w' v l := by
  rcases h with h | h | ⟨b, off, cap, h1, h2, h3, h4, h5⟩
  · exact Or.inl h
  · exact Or.inr (Or.inl h)
  · have hne : b ≠ N := fun e => by
      subst e
      have q := (h5 0 h1).2.2.1
      rw [cell_of_row w b _ _ _ (0, 0) hx] at q
      match off, q with
      | 0, q => simp at q
      | 1, q => simp at q
      | k + 2, q => simp at q
    have hc : ∀ o, w'.cell? ⟨b, o, none⟩ = w.cell? ⟨b, o, none⟩ := fun o => by simp [World.cell?, hk b hne]
    exact Or.inr (Or.inr ⟨b, off, cap, h1, h2, h3, h4, fun i hi => by
      obtain ⟨g1, g2, g3, g4⟩ := h5 i hi
      exact ⟨(hc _).trans g1, (hc _).trans g2, (hc _).trans g3, g4⟩⟩)

/-- a record is read as it was -/
theorem lParse (x : M.Ask) (hx : M.RecOk x) (w : World) :
    Calls Tryz.prog 42 #[.string (bytesB (M.recL x))] w fun e w' => ∃ a n cp, e = .returned (aggA x.who x.seq x.deed a n cp) ∧ IsVals w' (.slice a n cp) x.t ∧ Below w.heap.size w w' := by
  obtain ⟨n1, n2, n3, n4⟩ := hx.nums
  have hl := hx.len.2
  unfold M.recE M.recL at hl
  simp only [List.length_append, List.length_cons, List.length_nil] at hl
  have hml : (200 : Nat) ≤ maxLen := by unfold maxLen; omega
  have I1 : Hid (∀ wx, Calls Tryz.prog 86 #[.string (bytesB (Lib.itoa x.who))] wx fun e w' => e = .returned (.int .i64 x.who) ∧ Below wx.heap.size wx w') := hide fun wx => num_back n1.1 n1.2 wx
  have I2 : Hid (∀ wx, Calls Tryz.prog 86 #[.string (bytesB (Lib.itoa x.seq))] wx fun e w' => e = .returned (.int .i64 x.seq) ∧ Below wx.heap.size wx w') := hide fun wx => num_back n2.1 n2.2 wx
  have I3 : Hid (∀ wx, Calls Tryz.prog 86 #[.string (bytesB (Lib.itoa x.deed))] wx fun e w' => e = .returned (.int .i64 x.deed) ∧ Below wx.heap.size wx w') := hide fun wx => num_back n3.1 n3.2 wx
  have C1 := hide fun wx => cutYes (Lib.itoa x.who) (Lib.itoa x.seq ++ 32 :: (Lib.itoa x.deed ++ 32 :: (M.line x.t).data.toList)) 32 wx (M.itoa_none n1.1 n1.2).1 (by simp only [List.length_append, List.length_cons]; omega)
  have C2 := hide fun wx => cutYes (Lib.itoa x.seq) (Lib.itoa x.deed ++ 32 :: (M.line x.t).data.toList) 32 wx (M.itoa_none n2.1 n2.2).1 (by simp only [List.length_append, List.length_cons]; omega)
  have C3 := hide fun wx => cutYes (Lib.itoa x.deed) (M.line x.t).data.toList 32 wx (M.itoa_none n3.1 n3.2).1 (by simp only [List.length_append, List.length_cons]; omega)
  have HP : Hid (∀ wx, Calls Tryz.prog 85 #[.string (bytesB (M.line x.t).data.toList)] wx fun e w' => ∃ a n cp, e = .returned (.tuple #[.slice a n cp, .nilIface]) ∧ IsVals w' (.slice a n cp) x.t ∧ Below wx.heap.size wx w') := hide fun wx => by
    have eb : bytesB (M.line x.t).data.toList = M.line x.t := bytes_eq _
    rw [eb]
    obtain ⟨r1, r2⟩ := M.read_line n4
    refine (tparse (M.line x.t) wx (by have := M.line_small n4; omega)).mono ?_
    rintro e w' ⟨⟨v, rfl, hv⟩, hb⟩
    rw [r1] at *
    rw [r2] at hv
    obtain ⟨a, n, cp, rfl⟩ := hv.isSlice
    exact ⟨a, n, cp, rfl, hv, hb⟩
  have HE : Hid (bytesB (M.recL x) = bytesB (Lib.itoa x.who ++ 32 :: (Lib.itoa x.seq ++ 32 :: (Lib.itoa x.deed ++ 32 :: (M.line x.t).data.toList)))) := hide rfl
  rw [HE.out]
  clear HE
  obtain ⟨who, seq, deed, t⟩ := x
  simp only at *
  generalize bytesB (Lib.itoa who ++ 32 :: (Lib.itoa seq ++ 32 :: (Lib.itoa deed ++ 32 :: (M.line t).data.toList))) = s0 at *
  generalize bytesB (Lib.itoa seq ++ 32 :: (Lib.itoa deed ++ 32 :: (M.line t).data.toList)) = s1 at *
  generalize bytesB (Lib.itoa deed ++ 32 :: (M.line t).data.toList) = s2 at *
  generalize bytesB (M.line t).data.toList = s3 at *
  generalize bytesB (Lib.itoa who) = b1 at *
  generalize bytesB (Lib.itoa seq) = b2 at *
  generalize bytesB (Lib.itoa deed) = b3 at *
  clear n1 n2 n3 n4 hl hml hx
  obtain ⟨W0, hW0⟩ : ∃ W0, W0 = w.alloc (.cells #[.int .i64 0, .int .i64 0, .int .i64 0, .slice none 0 0] 38) := ⟨_, rfl⟩
  have HX : Hid (∀ wx, Below W0.heap.size W0 wx → AskBox wx w.heap.size 0 0 0 none 0 0) := hide fun wx hb => by subst hW0; exact AskBox.new hb
  have HU : Hid (∀ wx, Below W0.heap.size W0 wx → Below w.heap.size w wx) := hide fun wx hb => by subst hW0; exact ((Below.refl _ _).alloc (Nat.le_refl _) _).trans (hb.mono (by simp))
  go_enter Tryz.func42, Tryz.ntmps42
  go_wp2_with fail
  rw [← hW0]
  clear hW0
  refine (C1.out _).mono ?_
  rintro e w1 ⟨rfl, hb1⟩
  have HB1 := hide hb1
  clear hb1
  go_wp2_with fail
  refine (C2.out _).mono ?_
  rintro e w2 ⟨rfl, hb2⟩
  have HB2 := hide (HB1.out.trans (hb2.mono HB1.out.size))
  clear hb2
  go_wp2_with fail
  refine (C3.out _).mono ?_
  rintro e w3 ⟨rfl, hb3⟩
  have HB3 := hide (HB2.out.trans (hb3.mono HB2.out.size))
  clear hb3
  go_wp2_with fail
  refine (HP.out _).mono ?_
  rintro e w4 ⟨a, n, cp, rfl, hv4, hb4⟩
  have HV4 := hide hv4
  have HB4 := hide (HB3.out.trans (hb4.mono HB3.out.size))
  clear hb4 hv4
  go_wp2_with fail
  refine (I1.out _).mono ?_
  rintro e w5 ⟨rfl, hb5⟩
  have HV5 := hide (HV4.out.stays hb5 (Nat.le_refl _))
  have HB5 := hide (HB4.out.trans (hb5.mono HB4.out.size))
  clear hb5
  go_wp2_with fail
  refine (I2.out _).mono ?_
  rintro e w6 ⟨rfl, hb6⟩
  have HV6 := hide (HV5.out.stays hb6 (Nat.le_refl _))
  have HB6 := hide (HB5.out.trans (hb6.mono HB5.out.size))
  clear hb6
  go_wp2_with fail
  refine (I3.out _).mono ?_
  rintro e w7 ⟨rfl, hb7⟩
  have HV7 := hide (HV6.out.stays hb7 (Nat.le_refl _))
  have HB7 := hide (HB6.out.trans (hb7.mono HB6.out.size))
  clear hb7
  have HX7 := hide (HX.out _ HB7.out)
  obtain ⟨x0, x1, x2, x3, xn⟩ := HX7.out.cells
  have xf : ∀ j, w7.frozen? ⟨w.heap.size, j, none⟩ = false := fun j => frozen_of_row w7 w.heap.size j _ _ HX7.out
  have xf0 := xf 0
  have xf1 := xf 1
  have xf2 := xf 2
  have xf3 := xf 3
  clear xf
  go_wp2_with fail
  refine bodyPost_ret (v := aggA who seq deed a n cp) (by simp [results, Tryz.results42, go_sem, x0, x1, x2, x3]) rfl ⟨a, n, cp, rfl, vals_box HV7.out HX7.out (fun k hk => ?_), ?_⟩
  · rw [heap_setCell_other _ _ _ _ hk, heap_setCell_other _ _ _ _ hk, heap_setCell_other _ _ _ _ hk, heap_setCell_other _ _ _ _ hk]
  · exact ((((HU.out _ HB7.out).setCell (by simp) _).setCell (by simp) _).setCell (by simp) _).setCell (by simp) _

end Go.Proofs.YtlefhfmckimlaakGreatDoor
