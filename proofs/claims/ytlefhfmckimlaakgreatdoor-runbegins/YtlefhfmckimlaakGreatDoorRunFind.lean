/-
  What read, take, count and print of package run do with their word, each as one law of its call.
-/
import Derived.Test.YtlefhfmckimlaakGreatDoorRunDesk
import Derived.Test.YtlefhfmckimlaakGreatDoorJDig
set_option linter.unusedVariables false
namespace Go.Proofs.YtlefhfmckimlaakGreatDoor
open Go.RowKit

section
variable {base D S b off cap : Nat} {v : Value} {L : List (List M.Val)} {w : World} {s : ByteArray}

theorem dig_itoa (n : Nat) : (⟨(Lib.itoa (n : Int)).toArray⟩ : ByteArray) = ⟨(Lib.decDigits n).toArray⟩ := by
  rw [Lib.itoa, if_neg (by omega), Int.toNat_natCast]

/-- one that is found by Read -/
theorem fRead (hs : Space base w S v L) (hL : M.Fine L) (hl : Wds w b off [s]) (hz : s.size ≤ 3000) (hv : EnvFrom base w) :
    Calls Tryz.prog 142 #[.func (.func 102) #[.pointer (some ⟨S, 0, none⟩)] #[], .slice (some ⟨b, off, none⟩) 1 cap] w fun e w' => (∃ r, e = .returned r ∧ Out (M.one1 L M.wRead s.data.toList).1 r) ∧ Below w.heap.size w w' := by
  have HS := hide hs
  have HF := hide hL
  have HV := hide hv.env
  by_cases he : M.readE s.data.toList = 0
  · have HT := hide (tup1 (cap := cap) hl hz he)
    rw [M.one1_read he]
    generalize M.readV s.data.toList = q at *
    have HPR := hide (M.getF_range q L)
    clear hs hl hz he hL hv
    by_cases hp : M.getF q L = 0
    · have HP : Hid (∀ wx x, Below w.heap.size w wx → IsVals wx x q → Calls Tryz.prog 102 #[.pointer (some ⟨S, 0, none⟩), x] wx fun e w' => ∃ r, e = .returned (.tuple #[r, .nilIface]) ∧ OwnT wx.heap.size w' r (M.getV q L) ∧ Below wx.heap.size wx w') := hide fun wx x hb hx => by
        have := read base S v x q L wx (Space.stays HS.out hb) HF.out hx
        rwa [hp] at this
      have HK := hide (M.getV_like HF.out hp)
      rw [if_neg (by simpa using hp)]
      clear hp
      go_enter Tryz.func142, Tryz.ntmps142
      go_wp2_with fail
      refine (unhide HT).mono ?_
      rintro e w1 ⟨g, c, x, rfl, hg, hx, hxo, hb1⟩
      have HB1 := hide hb1
      have HXO := hide hxo
      have gn := World.block_lt_of_cell? _ _ hx
      clear hb1 hxo
      dsimp only
      go_wp2_with fail
      refine (HP.out _ _ HB1.out HXO.out.vals).mono ?_
      rintro e w2 ⟨r, rfl, hr, hb2⟩
      have HB2 := hide (HB1.out.trans (hb2.mono HB1.out.size))
      have HPT : Hid (Calls Tryz.prog 81 #[r] w2 fun e w' => e = .returned (.tuple #[.string (M.line (M.getV q L)), .nilIface]) ∧ Below w2.heap.size w2 w') := hide (by
        have := tprint r (M.getV q L) w2 hr.vals (HV.out.stays HB2.out (Nat.le_refl _)).tab
        rwa [if_pos HK.out, HK.out] at this)
      clear hr hb2
      dsimp only
      go_wp2_with fail
      refine (unhide HPT).mono ?_
      rintro e w3 ⟨rfl, hb3⟩
      have HB3 := hide (HB2.out.trans (hb3.mono HB2.out.size))
      clear hb3
      dsimp only
      go_wp2_with fail
      go_ret2
      exact ⟨⟨_, rfl, Or.inl (by simp)⟩, HB3.out⟩
    · have HP : Hid (∀ wx x, Below w.heap.size w wx → IsVals wx x q → Calls Tryz.prog 102 #[.pointer (some ⟨S, 0, none⟩), x] wx fun e w' => ∃ r, e = .returned (.tuple #[r, .iface 87 (.int .i64 (M.getF q L))]) ∧ Below wx.heap.size wx w') := hide fun wx x hb hx => by
        have := read base S v x q L wx (Space.stays HS.out hb) HF.out hx
        rw [errV_bad hp] at this
        exact this.mono fun e w' ⟨r, h1, _, h2⟩ => ⟨r, h1, h2⟩
      rw [if_pos hp]
      have HE : Hid (1 ≤ M.getF q L ∧ M.getF q L ≤ 8) := hide (by have := HPR.out; omega)
      generalize M.getF q L = E at *
      clear hp
      go_enter Tryz.func142, Tryz.ntmps142
      go_wp2_with fail
      refine (unhide HT).mono ?_
      rintro e w1 ⟨g, c, x, rfl, hg, hx, hxo, hb1⟩
      have HB1 := hide hb1
      have HXO := hide hxo
      have gn := World.block_lt_of_cell? _ _ hx
      clear hb1 hxo
      dsimp only
      go_wp2_with fail
      refine (HP.out _ _ HB1.out HXO.out.vals).mono ?_
      rintro e w2 ⟨r, rfl, hb2⟩
      have HB2 := hide (HB1.out.trans (hb2.mono HB1.out.size))
      clear hb2
      dsimp only
      go_wp2_with fail
      go_ret2
      exact ⟨⟨_, rfl, Or.inr (Or.inr ⟨E, HE.out.1, HE.out.2, rfl, rfl⟩)⟩, HB2.out⟩
  · have HT := hide (tupBad (cap := cap) (n := 1) rfl (by decide) hl (by simpa using hz) ⟨s, by simp, he⟩)
    rw [M.one1_bad he]
    clear hs hl hz he hL hv
    go_enter Tryz.func142, Tryz.ntmps142
    go_wp2_with fail
    refine (unhide HT).mono ?_
    rintro e w1 ⟨m, rfl, hb1⟩
    have HB1 := hide hb1
    clear hb1
    dsimp only
    go_wp2_with fail
    go_ret2
    exact ⟨⟨_, rfl, Or.inr (Or.inl ⟨rfl, m, rfl⟩)⟩, HB1.out⟩

theorem M.one1_space {a : List UInt8} (h : M.readE a = 0) : (M.one1 L M.wTake a).2 = M.lessL (M.readV a) L := by rw [M.one1_take h]

/-- one that is found by Take -/
theorem fTake (hs : Space base w S v L) (hL : M.Fine L) (hl : Wds w b off [s]) (hz : s.size ≤ 3000) (hv : EnvFrom base w) :
    Calls Tryz.prog 142 #[.func (.func 54) #[.pointer (some ⟨S, 0, none⟩)] #[], .slice (some ⟨b, off, none⟩) 1 cap] w fun e w' => (∃ r, e = .returned r ∧ Out (M.one1 L M.wTake s.data.toList).1 r) ∧ Then base w w' S v (M.one1 L M.wTake s.data.toList).2 := by
  have HS := hide hs
  have HF := hide hL
  have HV := hide hv
  by_cases he : M.readE s.data.toList = 0
  · have HT := hide (tup1 (cap := cap) hl hz he)
    rw [M.one1_take he]
    generalize M.readV s.data.toList = q at *
    have HPR := hide (M.getF_range q L)
    clear hs hl hz he hL hv
    by_cases hp : M.getF q L = 0
    · have HP : Hid (∀ wx x, Below w.heap.size w wx → IsVals wx x q → Calls Tryz.prog 54 #[.pointer (some ⟨S, 0, none⟩), x] wx fun e w' => ∃ r v', e = .returned (.tuple #[r, .nilIface]) ∧ OwnT base w' r (M.getV q L) ∧ Space base w' S v' (M.lessL q L) ∧ Touch S v wx w' ∧ Near wx v v') := hide fun wx x hb hx => by
        have := take base S v x q L wx (Space.stays HS.out hb) HF.out hx
        rwa [hp] at this
      have HK := hide (M.getV_like HF.out hp)
      rw [if_neg (by simpa using hp)]
      clear hp
      go_enter Tryz.func142, Tryz.ntmps142
      go_wp2_with fail
      refine (unhide HT).mono ?_
      rintro e w1 ⟨g, c, x, rfl, hg, hx, hxo, hb1⟩
      have HB1 := hide hb1
      have HXO := hide hxo
      have gn := World.block_lt_of_cell? _ _ hx
      clear hb1 hxo
      dsimp only
      go_wp2_with fail
      refine (HP.out _ _ HB1.out HXO.out.vals).mono ?_
      rintro e w2 ⟨r, v2, rfl, hr, hs2, ht2, hn2⟩
      have HN2 : Hid (Then base w w2 S v (M.lessL q L)) := hide (Then.after HB1.out ⟨v2, hs2, ht2, hn2⟩)
      have HPT : Hid (Calls Tryz.prog 81 #[r] w2 fun e w' => e = .returned (.tuple #[.string (M.line (M.getV q L)), .nilIface]) ∧ Below w2.heap.size w2 w') := hide (by
        have hbase : Below base w w2 := (HB1.out.mono HS.out.room).trans (Sp.below (HS.out.stays HB1.out) ht2 (Nat.le_refl _))
        have := tprint r (M.getV q L) w2 hr.vals (HV.out w2 hbase).tab
        rwa [if_pos HK.out, HK.out] at this)
      clear hr hs2 ht2 hn2
      dsimp only
      go_wp2_with fail
      refine (unhide HPT).mono ?_
      rintro e w3 ⟨rfl, hb3⟩
      have HN3 := hide (HN2.out.then hb3)
      clear hb3
      dsimp only
      go_wp2_with fail
      go_ret2
      exact ⟨⟨_, rfl, Or.inl (by simp)⟩, HN3.out⟩
    · have HP : Hid (∀ wx x, Below w.heap.size w wx → IsVals wx x q → Calls Tryz.prog 54 #[.pointer (some ⟨S, 0, none⟩), x] wx fun e w' => ∃ r v', e = .returned (.tuple #[r, .iface 87 (.int .i64 (M.getF q L))]) ∧ Space base w' S v' (M.lessL q L) ∧ Touch S v wx w' ∧ Near wx v v') := hide fun wx x hb hx => by
        have := take base S v x q L wx (Space.stays HS.out hb) HF.out hx
        rw [errV_bad hp] at this
        exact this.mono fun e w' ⟨r, v', h1, _, h2⟩ => ⟨r, v', h1, h2⟩
      rw [if_pos hp]
      have HE : Hid (1 ≤ M.getF q L ∧ M.getF q L ≤ 8) := hide (by have := HPR.out; omega)
      generalize M.getF q L = E at *
      clear hp
      go_enter Tryz.func142, Tryz.ntmps142
      go_wp2_with fail
      refine (unhide HT).mono ?_
      rintro e w1 ⟨g, c, x, rfl, hg, hx, hxo, hb1⟩
      have HB1 := hide hb1
      have HXO := hide hxo
      have gn := World.block_lt_of_cell? _ _ hx
      clear hb1 hxo
      dsimp only
      go_wp2_with fail
      refine (HP.out _ _ HB1.out HXO.out.vals).mono ?_
      rintro e w2 ⟨r, v2, rfl, hs2, ht2, hn2⟩
      have HN2 : Hid (Then base w w2 S v (M.lessL q L)) := hide (Then.after HB1.out ⟨v2, hs2, ht2, hn2⟩)
      clear hs2 ht2 hn2
      dsimp only
      go_wp2_with fail
      go_ret2
      exact ⟨⟨_, rfl, Or.inr (Or.inr ⟨E, HE.out.1, HE.out.2, rfl, rfl⟩)⟩, HN2.out⟩
  · have HT := hide (tupBad (cap := cap) (n := 1) rfl (by decide) hl (by simpa using hz) ⟨s, by simp, he⟩)
    rw [M.one1_bad he]
    clear hs hl hz he hL hv
    go_enter Tryz.func142, Tryz.ntmps142
    go_wp2_with fail
    refine (unhide HT).mono ?_
    rintro e w1 ⟨m, rfl, hb1⟩
    have HB1 := hide hb1
    clear hb1
    dsimp only
    go_wp2_with fail
    go_ret2
    exact ⟨⟨_, rfl, Or.inr (Or.inl ⟨rfl, m, rfl⟩)⟩, Then.still HS.out HB1.out⟩

/-- a number that is made of one -/
theorem fCount (k : List UInt8) (m : List M.Val → Nat) (hv : EnvFrom base w) (hb : base ≤ w.heap.size) (hl : Wds w b off [s]) (hz : s.size ≤ 3000)
    (hk : ∀ a, M.readE a = 0 → M.one1 L k a = (Lib.decDigits (m (M.readV a)), L)) (hm : ∀ l, m l ≤ 1000000)
    (hC : ∀ wx x l, Below w.heap.size w wx → M.likeF l = 0 → IsVals wx x l → Calls Tryz.prog 145 #[.pointer (some ⟨S, 0, none⟩), x] wx fun e w' => e = .returned (.tuple #[.int .i64 (m l), .nilIface]) ∧ Below wx.heap.size wx w') :
    Calls Tryz.prog 144 #[.func (.func 145) #[.pointer (some ⟨S, 0, none⟩)] #[], .slice (some ⟨b, off, none⟩) 1 cap] w fun e w' => (∃ r, e = .returned r ∧ Out (M.one1 L k s.data.toList).1 r) ∧ Below w.heap.size w w' ∧ (M.one1 L k s.data.toList).2 = L := by
  have HV := hide hv.env
  by_cases he : M.readE s.data.toList = 0
  · have HT := hide (tup1 (cap := cap) hl hz he)
    rw [hk _ he]
    have HC := hide fun wx x hb => hC wx x (M.readV s.data.toList) hb (M.read_like he)
    have HM := hide (hm (M.readV s.data.toList))
    generalize M.readV s.data.toList = q at *
    generalize m q = N at *
    clear hl hz he hv hC hk hm
    go_enter Tryz.func144, Tryz.ntmps144
    go_wp2_with fail
    refine (unhide HT).mono ?_
    rintro e w1 ⟨g, c, x, rfl, hg, hx, hxo, hb1⟩
    have HB1 := hide hb1
    have HXO := hide hxo
    have gn := World.block_lt_of_cell? _ _ hx
    clear hb1 hxo
    dsimp only
    go_wp2_with fail
    refine (HC.out _ _ HB1.out HXO.out.vals).mono ?_
    rintro e w2 ⟨rfl, hb2⟩
    have HB2 := hide (HB1.out.trans (hb2.mono HB1.out.size))
    have HI := hide (itoaB (N : Int) w2 (by omega) (by have := HM.out; omega) (HV.out.stays HB2.out (Nat.le_refl _)).tab)
    rw [dig_itoa] at HI
    clear hb2
    dsimp only
    go_wp2_with fail
    refine (unhide HI).mono ?_
    rintro e w3 ⟨rfl, hb3⟩
    have HB3 := hide (HB2.out.trans (hb3.mono HB2.out.size))
    clear hb3
    dsimp only
    go_wp2_with fail
    go_ret2
    exact ⟨⟨_, rfl, Or.inl rfl⟩, HB3.out, by first | rfl | trivial⟩
  · have HT := hide (tupBad (cap := cap) (n := 1) rfl (by decide) hl (by simpa using hz) ⟨s, by simp, he⟩)
    rw [M.one1_bad he]
    clear hl hz he hv hC hk hm
    go_enter Tryz.func144, Tryz.ntmps144
    go_wp2_with fail
    refine (unhide HT).mono ?_
    rintro e w1 ⟨m, rfl, hb1⟩
    have HB1 := hide hb1
    clear hb1
    dsimp only
    go_wp2_with fail
    go_ret2
    exact ⟨⟨_, rfl, Or.inr (Or.inl ⟨rfl, m, rfl⟩)⟩, HB1.out, by first | rfl | trivial⟩
/-- .. by package digest -/
theorem fPrint (k : List UInt8) (m : List M.Val → Nat) (hv : EnvFrom base w) (hb : base ≤ w.heap.size) (hl : Wds w b off [s]) (hz : s.size ≤ 3000)
    (hk : ∀ a, M.readE a = 0 → M.one1 L k a = (Lib.decDigits (m (M.readV a)), L)) (hm : ∀ l, m l ≤ 1000000)
    (hC : ∀ wx x l, Below w.heap.size w wx → M.likeF l = 0 → IsVals wx x l → Calls Tryz.prog 146 #[x] wx fun e w' => e = .returned (.tuple #[.int .i64 (m l), .nilIface]) ∧ Below wx.heap.size wx w') :
    Calls Tryz.prog 144 #[.func (.func 146) #[] #[], .slice (some ⟨b, off, none⟩) 1 cap] w fun e w' => (∃ r, e = .returned r ∧ Out (M.one1 L k s.data.toList).1 r) ∧ Below w.heap.size w w' ∧ (M.one1 L k s.data.toList).2 = L := by
  have HV := hide hv.env
  by_cases he : M.readE s.data.toList = 0
  · have HT := hide (tup1 (cap := cap) hl hz he)
    rw [hk _ he]
    have HC := hide fun wx x hb => hC wx x (M.readV s.data.toList) hb (M.read_like he)
    have HM := hide (hm (M.readV s.data.toList))
    generalize M.readV s.data.toList = q at *
    generalize m q = N at *
    clear hl hz he hv hC hk hm
    go_enter Tryz.func144, Tryz.ntmps144
    go_wp2_with fail
    refine (unhide HT).mono ?_
    rintro e w1 ⟨g, c, x, rfl, hg, hx, hxo, hb1⟩
    have HB1 := hide hb1
    have HXO := hide hxo
    have gn := World.block_lt_of_cell? _ _ hx
    clear hb1 hxo
    dsimp only
    go_wp2_with fail
    refine (HC.out _ _ HB1.out HXO.out.vals).mono ?_
    rintro e w2 ⟨rfl, hb2⟩
    have HB2 := hide (HB1.out.trans (hb2.mono HB1.out.size))
    have HI := hide (itoaB (N : Int) w2 (by omega) (by have := HM.out; omega) (HV.out.stays HB2.out (Nat.le_refl _)).tab)
    rw [dig_itoa] at HI
    clear hb2
    dsimp only
    go_wp2_with fail
    refine (unhide HI).mono ?_
    rintro e w3 ⟨rfl, hb3⟩
    have HB3 := hide (HB2.out.trans (hb3.mono HB2.out.size))
    clear hb3
    dsimp only
    go_wp2_with fail
    go_ret2
    exact ⟨⟨_, rfl, Or.inl rfl⟩, HB3.out, by first | rfl | trivial⟩
  · have HT := hide (tupBad (cap := cap) (n := 1) rfl (by decide) hl (by simpa using hz) ⟨s, by simp, he⟩)
    rw [M.one1_bad he]
    clear hl hz he hv hC hk hm
    go_enter Tryz.func144, Tryz.ntmps144
    go_wp2_with fail
    refine (unhide HT).mono ?_
    rintro e w1 ⟨m, rfl, hb1⟩
    have HB1 := hide hb1
    clear hb1
    dsimp only
    go_wp2_with fail
    go_ret2
    exact ⟨⟨_, rfl, Or.inr (Or.inl ⟨rfl, m, rfl⟩)⟩, HB1.out, by first | rfl | trivial⟩

theorem dRead (hd : DeskAt w D S) (hs : Space base w S v L) (hL : M.Fine L) (hl : Wds w b off [s]) (hz : s.size ≤ 3000) (hv : EnvFrom base w) :
    Calls Tryz.prog 106 #[.pointer (some ⟨D, 0, none⟩), .slice (some ⟨b, off, none⟩) 1 cap] w fun e w' => (∃ r, e = .returned r ∧ Out (M.one1 L M.wRead s.data.toList).1 r) ∧ Then base w w' S v (M.one1 L M.wRead s.data.toList).2 := by
  have e2 : (M.one1 L M.wRead s.data.toList).2 = L := by
    by_cases he : M.readE s.data.toList = 0
    · rw [M.one1_read he]
    · rw [M.one1_bad he]
  rw [e2]
  have HC := hide (fRead (cap := cap) hs hL hl hz hv)
  have HS := hide hs
  obtain ⟨d0, dn⟩ := hd.cells
  generalize (M.one1 L M.wRead s.data.toList).1 = t at *
  clear hd hs hL hl hz hv e2
  go_enter Tryz.func106, Tryz.ntmps106
  go_wp2_with fail
  refine (unhide HC).mono ?_
  rintro e w1 ⟨⟨r, rfl, hr⟩, hb1⟩
  have HB1 := hide hb1
  clear hb1
  rcases hr with rfl | ⟨ht, n, rfl⟩ | ⟨E, h1, h8, ht, rfl⟩
  · dsimp only
    go_wp2_with fail
    go_ret2
    exact ⟨⟨_, rfl, Or.inl rfl⟩, Then.still HS.out HB1.out⟩
  · dsimp only
    go_wp2_with fail
    go_ret2
    exact ⟨⟨_, rfl, Or.inr (Or.inl ⟨by first | exact ht | rfl, n, rfl⟩)⟩, Then.still HS.out HB1.out⟩
  · dsimp only
    go_wp2_with fail
    go_ret2
    exact ⟨⟨_, rfl, Or.inr (Or.inr ⟨E, h1, h8, by first | exact ht | rfl, rfl⟩)⟩, Then.still HS.out HB1.out⟩

theorem dTake (hd : DeskAt w D S) (hs : Space base w S v L) (hL : M.Fine L) (hl : Wds w b off [s]) (hz : s.size ≤ 3000) (hv : EnvFrom base w) :
    Calls Tryz.prog 107 #[.pointer (some ⟨D, 0, none⟩), .slice (some ⟨b, off, none⟩) 1 cap] w fun e w' => (∃ r, e = .returned r ∧ Out (M.one1 L M.wTake s.data.toList).1 r) ∧ Then base w w' S v (M.one1 L M.wTake s.data.toList).2 := by
  have HC := hide (fTake (cap := cap) hs hL hl hz hv)
  obtain ⟨d0, dn⟩ := hd.cells
  generalize (M.one1 L M.wTake s.data.toList).1 = t at *
  generalize (M.one1 L M.wTake s.data.toList).2 = L2 at *
  clear hd hs hL hl hz hv
  go_enter Tryz.func107, Tryz.ntmps107
  go_wp2_with fail
  refine (unhide HC).mono ?_
  rintro e w1 ⟨⟨r, rfl, hr⟩, hn⟩
  have HN := hide hn
  clear hn
  rcases hr with rfl | ⟨ht, n, rfl⟩ | ⟨E, h1, h8, ht, rfl⟩
  · dsimp only
    go_wp2_with fail
    go_ret2
    exact ⟨⟨_, rfl, Or.inl rfl⟩, HN.out⟩
  · dsimp only
    go_wp2_with fail
    go_ret2
    exact ⟨⟨_, rfl, Or.inr (Or.inl ⟨by first | exact ht | rfl, n, rfl⟩)⟩, HN.out⟩
  · dsimp only
    go_wp2_with fail
    go_ret2
    exact ⟨⟨_, rfl, Or.inr (Or.inr ⟨E, h1, h8, by first | exact ht | rfl, rfl⟩)⟩, HN.out⟩

theorem dCount (hd : DeskAt w D S) (hs : Space base w S v L) (hL : M.Fine L) (hl : Wds w b off [s]) (hz : s.size ≤ 3000) (hv : EnvFrom base w) :
    Calls Tryz.prog 109 #[.pointer (some ⟨D, 0, none⟩), .slice (some ⟨b, off, none⟩) 1 cap] w fun e w' => (∃ r, e = .returned r ∧ Out (M.one1 L M.wCount s.data.toList).1 r) ∧ Then base w w' S v (M.one1 L M.wCount s.data.toList).2 := by
  have HC := hide (fCount (S := S) (cap := cap) M.wCount (fun l => M.many l L) hv hs.room hl hz (fun a h => M.one1_count h) (fun l => by have := many_le l L; have := hL.2; omega) (fun wx x l hb hk hx => count_ok base S v x l L wx (Space.stays hs hb) hL hx hk))
  have HS := hide hs
  obtain ⟨d0, dn⟩ := hd.cells
  generalize (M.one1 L M.wCount s.data.toList).1 = t at *
  generalize (M.one1 L M.wCount s.data.toList).2 = L2 at *
  clear hd hs hL hl hz hv
  go_enter Tryz.func109, Tryz.ntmps109
  go_wp2_with fail
  refine (unhide HC).mono ?_
  rintro e w1 ⟨⟨r, rfl, hr⟩, hb1, rfl⟩
  have HB1 := hide hb1
  clear hb1
  rcases hr with rfl | ⟨ht, n, rfl⟩ | ⟨E, h1, h8, ht, rfl⟩
  · dsimp only
    go_wp2_with fail
    go_ret2
    exact ⟨⟨_, rfl, Or.inl rfl⟩, Then.still HS.out HB1.out⟩
  · dsimp only
    go_wp2_with fail
    go_ret2
    exact ⟨⟨_, rfl, Or.inr (Or.inl ⟨by first | exact ht | rfl, n, rfl⟩)⟩, Then.still HS.out HB1.out⟩
  · dsimp only
    go_wp2_with fail
    go_ret2
    exact ⟨⟨_, rfl, Or.inr (Or.inr ⟨E, h1, h8, by first | exact ht | rfl, rfl⟩)⟩, Then.still HS.out HB1.out⟩

theorem dPrint (hs : Space base w S v L) (hl : Wds w b off [s]) (hz : s.size ≤ 3000) (hv : EnvFrom base w) :
    Calls Tryz.prog 110 #[.pointer (some ⟨D, 0, none⟩), .slice (some ⟨b, off, none⟩) 1 cap] w fun e w' => (∃ r, e = .returned r ∧ Out (M.one1 L M.wPrint s.data.toList).1 r) ∧ Then base w w' S v (M.one1 L M.wPrint s.data.toList).2 := by
  have HV := hide hv.env
  have HC := hide (fPrint (L := L) (cap := cap) M.wPrint (fun l => (M.hash (M.line l)).toNat) hv hs.room hl hz (fun a h => M.one1_print h) (fun l => by have := M.hash_range (M.line l); omega) (fun wx x l hb hk hx => by
    have h := dtupOk x l wx hx hk (HV.out.stays hb (Nat.le_refl _)).tab
    have e : (((M.hash (M.line l)).toNat : Nat) : Int) = M.hash (M.line l) := by have := M.hash_range (M.line l); omega
    rw [e]
    exact h))
  have HS := hide hs
  generalize (M.one1 L M.wPrint s.data.toList).1 = t at *
  generalize (M.one1 L M.wPrint s.data.toList).2 = L2 at *
  clear hs hl hz hv
  go_enter Tryz.func110, Tryz.ntmps110
  go_wp2_with fail
  refine (unhide HC).mono ?_
  rintro e w1 ⟨⟨r, rfl, hr⟩, hb1, rfl⟩
  have HB1 := hide hb1
  clear hb1
  rcases hr with rfl | ⟨ht, n, rfl⟩ | ⟨E, h1, h8, ht, rfl⟩
  · dsimp only
    go_wp2_with fail
    go_ret2
    exact ⟨⟨_, rfl, Or.inl rfl⟩, Then.still HS.out HB1.out⟩
  · dsimp only
    go_wp2_with fail
    go_ret2
    exact ⟨⟨_, rfl, Or.inr (Or.inl ⟨by first | exact ht | rfl, n, rfl⟩)⟩, Then.still HS.out HB1.out⟩
  · dsimp only
    go_wp2_with fail
    go_ret2
    exact ⟨⟨_, rfl, Or.inr (Or.inr ⟨E, h1, h8, by first | exact ht | rfl, rfl⟩)⟩, Then.still HS.out HB1.out⟩
end
end Go.Proofs.YtlefhfmckimlaakGreatDoor
