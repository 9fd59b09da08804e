/-
  What put and once of package run do with their words, each as one law of its call.
-/
import Derived.Test.YtlefhfmckimlaakGreatDoorRunDesk
set_option linter.unusedVariables false
namespace Go.Proofs.YtlefhfmckimlaakGreatDoor
open Go.RowKit

section
variable {base D S b off cap : Nat} {v : Value} {L : List (List M.Val)} {w : World} {s t : ByteArray}

set_option maxRecDepth 100000 in
set_option maxHeartbeats 1000000 in
theorem dPut (hd : DeskAt w D S) (hs : Space base w S v L) (hl : Wds w b off [s]) (hz : s.size ≤ 3000) :
    Calls Tryz.prog 105 #[.pointer (some ⟨D, 0, none⟩), .slice (some ⟨b, off, none⟩) 1 cap] w fun e w' => (∃ r, e = .returned r ∧ Out (M.one1 L M.wPut s.data.toList).1 r) ∧ Then base w w' S v (M.one1 L M.wPut s.data.toList).2 := by
  have HS := hide hs
  have HD := hide hd
  by_cases he : M.readE s.data.toList = 0
  · have HT := hide (tup1 (cap := cap) hl hz he)
    rw [M.one1_put he]
    generalize M.readV s.data.toList = q at *
    have HPR := hide (M.putF_range L q)
    clear hs hd hl hz he
    by_cases hp : M.putF L q = 0
    · have HP : Hid (∀ wx x, Below w.heap.size w wx → IsVals wx x q → Calls Tryz.prog 53 #[.pointer (some ⟨S, 0, none⟩), x] wx fun e w' => e = .returned .nilIface ∧ ∃ v', Space base w' S v' (M.putL L q) ∧ Touch S v wx w' ∧ Near wx v v') := hide fun wx x hb hx => by
        have := put base S v x q L wx (Space.stays HS.out hb) hx
        rwa [hp] at this
      rw [if_neg (by simpa using hp)]
      clear hp
      go_enter Tryz.func105, Tryz.ntmps105
      go_wp2_with fail
      refine (unhide HT).mono ?_
      rintro e w1 ⟨g, c, x, rfl, hg, hx, hxo, hb1⟩
      have HB1 := hide hb1
      have HXO := hide hxo
      have HX := hide hx
      obtain ⟨d0, dn⟩ := (HD.out.quiet hb1).cells
      have gn := World.block_lt_of_cell? _ _ hx
      clear hb1 hxo
      dsimp only
      go_wp2_with fail
      go_region_held3 (fun w' => w'.cell? ⟨D, 0, none⟩ = some (.pointer (some ⟨S, 0, none⟩)) ∧ w'.cell? ⟨g, 0, none⟩ = some x) (first | go_keep | assumption)
        (first
          | (go_at_call 53; refine (HP.out _ _ HB1.out.drew (HXO.out.vals.stays (Below.refl _ _).drew (Nat.le_refl _))).mono ?_; rintro e w3 ⟨rfl, v3, hs3, ht3, hn3⟩; have HT3 : Hid (Touch S v w1 w3) := hide (ht3.after (Below.refl _ _).drew); have HN3 : Hid (Then base w w3 S v (M.putL L q)) := hide (Then.after HB1.out ⟨v3, hs3, HT3.out, hn3.mono (Nat.le_refl _)⟩); have z1 := ((HD.out.quiet HB1.out).touch (HS.out.stays HB1.out) HT3.out).cells.1; have z2 := HS.out.high HB1.out hg HX.out HT3.out; clear hs3 ht3 hn3))
      go_wp2_with fail
      go_ret2
      exact ⟨⟨_, rfl, Or.inl rfl⟩, HN3.out⟩
    · have HP : Hid (∀ wx x, Below w.heap.size w wx → IsVals wx x q → Calls Tryz.prog 53 #[.pointer (some ⟨S, 0, none⟩), x] wx fun e w' => e = .returned (.iface 87 (.int .i64 (M.putF L q))) ∧ ∃ v', Space base w' S v' (M.putL L q) ∧ Touch S v wx w' ∧ Near wx v v') := hide fun wx x hb hx => by
        have := put base S v x q L wx (Space.stays HS.out hb) hx
        rwa [errV_bad hp] at this
      rw [if_pos hp]
      have HE : Hid (1 ≤ M.putF L q ∧ M.putF L q ≤ 8) := hide (by have := HPR.out; omega)
      generalize M.putF L q = E at *
      clear hp
      go_enter Tryz.func105, Tryz.ntmps105
      go_wp2_with fail
      refine (unhide HT).mono ?_
      rintro e w1 ⟨g, c, x, rfl, hg, hx, hxo, hb1⟩
      have HB1 := hide hb1
      have HXO := hide hxo
      have HX := hide hx
      obtain ⟨d0, dn⟩ := (HD.out.quiet hb1).cells
      have gn := World.block_lt_of_cell? _ _ hx
      clear hb1 hxo
      dsimp only
      go_wp2_with fail
      go_region_held3 (fun w' => w'.cell? ⟨D, 0, none⟩ = some (.pointer (some ⟨S, 0, none⟩)) ∧ w'.cell? ⟨g, 0, none⟩ = some x) (first | go_keep | assumption)
        (first
          | (go_at_call 53; refine (HP.out _ _ HB1.out.drew (HXO.out.vals.stays (Below.refl _ _).drew (Nat.le_refl _))).mono ?_; rintro e w3 ⟨rfl, v3, hs3, ht3, hn3⟩; have HT3 : Hid (Touch S v w1 w3) := hide (ht3.after (Below.refl _ _).drew); have HN3 : Hid (Then base w w3 S v (M.putL L q)) := hide (Then.after HB1.out ⟨v3, hs3, HT3.out, hn3.mono (Nat.le_refl _)⟩); have z1 := ((HD.out.quiet HB1.out).touch (HS.out.stays HB1.out) HT3.out).cells.1; have z2 := HS.out.high HB1.out hg HX.out HT3.out; clear hs3 ht3 hn3))
      go_wp2_with fail
      go_ret2
      exact ⟨⟨_, rfl, Or.inr (Or.inr ⟨E, HE.out.1, HE.out.2, rfl, rfl⟩)⟩, HN3.out⟩
  · have HT := hide (tupBad (cap := cap) (n := 1) rfl (by decide) hl (by simpa using hz) ⟨s, by simp, he⟩)
    rw [M.one1_bad he]
    clear hs hd hl hz he
    go_enter Tryz.func105, Tryz.ntmps105
    go_wp2_with fail
    refine (unhide HT).mono ?_
    rintro e w1 ⟨m, rfl, hb1⟩
    have HB1 := hide hb1
    clear hb1
    dsimp only
    go_wp2_with fail
    go_ret2
    exact ⟨⟨_, rfl, Or.inr (Or.inl ⟨rfl, m, rfl⟩)⟩, Then.still HS.out HB1.out⟩

theorem M.two1_ok {L : List (List M.Val)} {a b : List UInt8} (ha : M.readE a = 0) (hb : M.readE b = 0) : M.two1 L a b = (if M.onceF (M.readV a) L (M.readV b) ≠ 0 then M.errN (M.onceF (M.readV a) L (M.readV b)) else if M.onceB (M.readV a) L (M.readV b) = true then M.wYes else M.wNo, M.onceL (M.readV a) L (M.readV b)) := by
  have h1 := M.read_like ha
  unfold M.two1
  rw [if_neg (by simp [ha, hb])]
  unfold M.onceR
  by_cases ht : M.tupF (M.readV b) = 0
  · rw [if_neg (by simpa using ht)]
    by_cases hm : M.many (M.readV a) L = 0
    · rw [if_neg (by omega)]
      by_cases hp : M.putF L (M.readV b) = 0
      · obtain ⟨e1, e2, e3⟩ := once_put h1 ht hm hp
        rw [e1, e2, e3, if_neg (by simpa using hp), if_neg (by simp), if_pos rfl, putL_yes hp]
      · obtain ⟨e1, e2, e3⟩ := once_full h1 ht hm hp
        rw [e1, e2, e3, if_pos hp, if_pos hp]
    · obtain ⟨e1, e2, e3⟩ := once_fit h1 ht hm
      rw [e1, e2, e3, if_pos (by omega), if_neg (by simp), if_neg (by simp)]
  · obtain ⟨e1, e2, e3⟩ := once_tup (L := L) h1 ht
    rw [e1, e2, e3, if_pos ht, if_pos ht]

set_option maxRecDepth 100000 in
set_option maxHeartbeats 1000000 in
theorem dOnce (hd : DeskAt w D S) (hs : Space base w S v L) (hL : M.Fine L) (hl : Wds w b off [s, t]) (hz : s.size ≤ 3000) (hz2 : t.size ≤ 3000) :
    Calls Tryz.prog 108 #[.pointer (some ⟨D, 0, none⟩), .slice (some ⟨b, off, none⟩) 2 cap] w fun e w' => (∃ r, e = .returned r ∧ Out (M.two1 L s.data.toList t.data.toList).1 r) ∧ Then base w w' S v (M.two1 L s.data.toList t.data.toList).2 := by
  have HS := hide hs
  have HD := hide hd
  by_cases he : M.readE s.data.toList = 0 ∧ M.readE t.data.toList = 0
  · have HT := hide (tup2 (cap := cap) hl hz hz2 he.1 he.2)
    rw [M.two1_ok he.1 he.2]
    generalize M.readV s.data.toList = p at *
    generalize M.readV t.data.toList = q at *
    have HPR := hide (M.onceF_range p L q)
    have HF := hide hL
    clear hs hd hl hz he hL
    by_cases hp : M.onceF p L q = 0
    · have HP : Hid (∀ wx x y, Below w.heap.size w wx → IsVals wx x p → IsVals wx y q → Calls Tryz.prog 143 #[.pointer (some ⟨S, 0, none⟩), x, y] wx fun e w' => e = .returned (.tuple #[.bool (M.onceB p L q), .nilIface]) ∧ ∃ v', Space base w' S v' (M.onceL p L q) ∧ Touch S v wx w' ∧ Near wx v v') := hide fun wx x y hb hx hy => by
        have := oput base S v x y p q L wx (Space.stays HS.out hb) HF.out hx hy
        rwa [hp] at this
      rw [if_neg (by simpa using hp)]
      clear hp
      generalize M.onceB p L q = B at *
      cases B
      all_goals
        go_enter Tryz.func108, Tryz.ntmps108
        go_wp2_with fail
        refine (unhide HT).mono ?_
        rintro e w1 ⟨g, c, x, y, rfl, hg, hx, hy, hxo, hyo, hb1⟩
        have HB1 := hide hb1
        have HXO := hide hxo
        have HX := hide hx
        have HYO := hide hyo
        have HY := hide hy
        obtain ⟨d0, dn⟩ := (HD.out.quiet hb1).cells
        have gn := World.block_lt_of_cell? _ _ hx
        clear hb1 hxo hyo
        dsimp only
        go_wp2_with fail
        go_region_held3 (fun w' => w'.cell? ⟨D, 0, none⟩ = some (.pointer (some ⟨S, 0, none⟩)) ∧ w'.cell? ⟨g, 0, none⟩ = some x ∧ w'.cell? ⟨g, 1, none⟩ = some y) (first | go_keep | assumption)
          (first
            | (go_at_call 143; refine (HP.out _ _ _ HB1.out.drew (HXO.out.vals.stays (Below.refl _ _).drew (Nat.le_refl _)) (HYO.out.vals.stays (Below.refl _ _).drew (Nat.le_refl _))).mono ?_; rintro e w3 ⟨rfl, v3, hs3, ht3, hn3⟩; have HT3 : Hid (Touch S v w1 w3) := hide (ht3.after (Below.refl _ _).drew); have HN3 : Hid (Then base w w3 S v (M.onceL p L q)) := hide (Then.after HB1.out ⟨v3, hs3, HT3.out, hn3.mono (Nat.le_refl _)⟩); have z1 := ((HD.out.quiet HB1.out).touch (HS.out.stays HB1.out) HT3.out).cells.1; have z2 := HS.out.high HB1.out hg HX.out HT3.out; have z3 := HS.out.high HB1.out hg HY.out HT3.out; clear hs3 ht3 hn3))
        go_wp2_with fail
        go_ret2
        exact ⟨⟨_, rfl, Or.inl rfl⟩, HN3.out⟩
    · have HP : Hid (∀ wx x y, Below w.heap.size w wx → IsVals wx x p → IsVals wx y q → Calls Tryz.prog 143 #[.pointer (some ⟨S, 0, none⟩), x, y] wx fun e w' => e = .returned (.tuple #[.bool (M.onceB p L q), .iface 87 (.int .i64 (M.onceF p L q))]) ∧ ∃ v', Space base w' S v' (M.onceL p L q) ∧ Touch S v wx w' ∧ Near wx v v') := hide fun wx x y hb hx hy => by
        have := oput base S v x y p q L wx (Space.stays HS.out hb) HF.out hx hy
        rwa [errV_bad hp] at this
      rw [if_pos hp]
      have HE : Hid (1 ≤ M.onceF p L q ∧ M.onceF p L q ≤ 8) := hide (by have := HPR.out; omega)
      generalize M.onceF p L q = E at *
      generalize M.onceB p L q = B at *
      clear hp
      go_enter Tryz.func108, Tryz.ntmps108
      go_wp2_with fail
      refine (unhide HT).mono ?_
      rintro e w1 ⟨g, c, x, y, rfl, hg, hx, hy, hxo, hyo, hb1⟩
      have HB1 := hide hb1
      have HXO := hide hxo
      have HX := hide hx
      have HYO := hide hyo
      have HY := hide hy
      obtain ⟨d0, dn⟩ := (HD.out.quiet hb1).cells
      have gn := World.block_lt_of_cell? _ _ hx
      clear hb1 hxo hyo
      dsimp only
      go_wp2_with fail
      go_region_held3 (fun w' => w'.cell? ⟨D, 0, none⟩ = some (.pointer (some ⟨S, 0, none⟩)) ∧ w'.cell? ⟨g, 0, none⟩ = some x ∧ w'.cell? ⟨g, 1, none⟩ = some y) (first | go_keep | assumption)
        (first
          | (go_at_call 143; refine (HP.out _ _ _ HB1.out.drew (HXO.out.vals.stays (Below.refl _ _).drew (Nat.le_refl _)) (HYO.out.vals.stays (Below.refl _ _).drew (Nat.le_refl _))).mono ?_; rintro e w3 ⟨rfl, v3, hs3, ht3, hn3⟩; have HT3 : Hid (Touch S v w1 w3) := hide (ht3.after (Below.refl _ _).drew); have HN3 : Hid (Then base w w3 S v (M.onceL p L q)) := hide (Then.after HB1.out ⟨v3, hs3, HT3.out, hn3.mono (Nat.le_refl _)⟩); have z1 := ((HD.out.quiet HB1.out).touch (HS.out.stays HB1.out) HT3.out).cells.1; have z2 := HS.out.high HB1.out hg HX.out HT3.out; have z3 := HS.out.high HB1.out hg HY.out HT3.out; clear hs3 ht3 hn3))
      go_wp2_with fail
      go_ret2
      exact ⟨⟨_, rfl, Or.inr (Or.inr ⟨E, HE.out.1, HE.out.2, rfl, rfl⟩)⟩, HN3.out⟩
  · have hbad : ∃ y ∈ [s, t], M.readE y.data.toList ≠ 0 := by
      by_cases h1 : M.readE s.data.toList = 0
      · exact ⟨t, by simp, fun h2 => he ⟨h1, h2⟩⟩
      · exact ⟨s, by simp, h1⟩
    have HT := hide (tupBad (cap := cap) (n := 2) rfl (by decide) hl (fun x hx => by rcases List.mem_cons.1 hx with rfl | hx; exact hz; rw [List.mem_singleton.1 hx]; exact hz2) hbad)
    have e1 : M.two1 L s.data.toList t.data.toList = (M.wBad, L) := by
      unfold M.two1
      rw [if_pos]
      by_cases h1 : M.readE s.data.toList = 0
      · exact Or.inr fun h2 => he ⟨h1, h2⟩
      · exact Or.inl h1
    rw [e1]
    clear hs hd hl hz he hbad e1
    go_enter Tryz.func108, Tryz.ntmps108
    go_wp2_with fail
    refine (unhide HT).mono ?_
    rintro e w1 ⟨m, rfl, hb1⟩
    have HB1 := hide hb1
    clear hb1
    dsimp only
    go_wp2_with fail
    go_ret2
    exact ⟨⟨_, rfl, Or.inr (Or.inl ⟨rfl, m, rfl⟩)⟩, Then.still HS.out HB1.out⟩
end
end Go.Proofs.YtlefhfmckimlaakGreatDoor
