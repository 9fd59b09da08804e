/-
  What Told of package plain and Error of package tuplesame answer for an error that is nil or a number of package api.
  The walk of the Go function VaultTwice: it returns true, whatever comes in.
-/
import Derived.Test.YtlefhfmckimlaajDoorErrAs
import Derived.Test.YtlefhfmckimlaajDoorJ60A
namespace Go.Proofs.YtlefhfmckimlaajDoor
open Go.RowKit

theorem Hand.stays {w w' : World} {B : Nat} (h : Hand w) (hb : Below B w w') (hB : w.heap.size ≤ B) : Hand w' := by
  unfold Hand at h ⊢
  have hlt : 0 < w.heap.size := by
    rcases Nat.lt_or_ge 0 w.heap.size with h' | h'
    · exact h'
    · simp [World.cell?, Array.getElem?_eq_none h'] at h
  rw [hb.cell (p := ⟨0, 0, none⟩) (Nat.lt_of_lt_of_le hlt hB)]; exact h

theorem told_nil (w : World) : Calls Tryd.prog 32 #[.nilIface] w fun e w' => e = .returned (.int .i64 0) ∧ Below w.heap.size w w' := by
  go_enter Tryd.func32, Tryd.ntmps32
  go_wp2
  go_ret
  exact ⟨rfl, Below.refl _ _⟩

theorem told_one (n : Int) (w : World) (hg : Hand w) : Calls Tryd.prog 32 #[.iface 66 (.int .i64 n)] w fun e w' => e = .returned (.int .i64 n) ∧ Below w.heap.size w w' := by
  have hA := hide (as_hit n ⟨w.heap.size, 0, none⟩ (.int .i64 0) (w.alloc (.cells #[.int .i64 0] 66)) (hg.stays ((Below.refl _ _).alloc (Nat.le_refl _) _) (Nat.le_refl _)) (by simp) (by simp))
  clear hg
  go_enter Tryd.func32, Tryd.ntmps32
  go_wp2_with fail
  refine (unhide hA).mono ?_
  rintro e w1 ⟨rfl, rfl⟩
  go_wp2_with fail
  go_ret
  exact ⟨rfl, (((((Below.refl _ _).alloc (Nat.le_refl _) _).alloc (by simp) _).alloc (by simp; omega) _).alloc (by simp; omega) _).alloc (by simp; omega) _⟩

theorem told (n : Int) (w : World) (hg : Hand w) : Calls Tryd.prog 32 #[errV n] w fun e w' => e = .returned (.int .i64 n) ∧ Below w.heap.size w w' := by
  by_cases h : n = 0
  · subst h; exact told_nil w
  · rw [errV_bad h]; exact told_one n w hg

theorem sameErr (n d : Int) (w : World) (hg : Hand w) : Calls Tryd.prog 12 #[errV n, .int .i64 d] w fun e w' => e = .returned (.bool (n == d)) ∧ Below w.heap.size w w' := by
  have HG := hide hg
  clear hg
  go_enter Tryd.func12, Tryd.ntmps12
  go_wp2_with fail
  refine (told n _ HG.out).mono ?_
  rintro e w1 ⟨rfl, hb⟩
  go_wp2_with fail
  go_ret
  exact ⟨rfl, hb⟩

end Go.Proofs.YtlefhfmckimlaajDoor

set_option linter.unusedVariables false
namespace Go.Proofs.YtlefhfmckimlaajDoor.vaultTwice
open Go.RowKit

theorem ev_one {s : Int} (h0 : 0 ≤ s) (h1 : s < 257) (x : Int) : M.ev [s] x = s := by
  rw [M.ev_cons, M.ev_nil]; omega
/-- what the first Put answers -/
theorem put_one (a : ByteArray) (s : Int) : (M.vputE (M.Vlt.new 2 1) a s [] ≠ 0 ∧ (12 < a.size ∨ s < 0 ∨ 256 < s)) ∨ (M.vputE (M.Vlt.new 2 1) a s [] = 0 ∧ 0 ≤ s ∧ s < 257) := by
  by_cases h : 12 < a.size
  · exact Or.inl ⟨by rw [M.vputE_long h]; decide, Or.inl h⟩
  · by_cases hs : 0 ≤ s ∧ s < 257
    · have hd : M.dealE s [] ((M.Vlt.new 2 1).many : Nat) = 0 := M.dealE_0 (by rw [M.secE_few (M.inR_mk hs.1 hs.2) (by simp)]; rfl) (by decide) (by decide)
      exact Or.inr ⟨M.vputE_0 h rfl rfl hd (by decide), hs.1, hs.2⟩
    · have hi : M.inR s = false := decide_eq_false (by omega)
      have hd : M.dealE s [] ((M.Vlt.new 2 1).many : Nat) = 1 := by rw [M.dealE_sec (by rw [M.secE_s hi]; decide), M.secE_s hi]
      exact Or.inl ⟨by rw [M.vputE_deal h rfl rfl (by rw [hd]; decide), hd]; decide, by omega⟩
/-- what the others answer behind it -/
theorem then_all {a : ByteArray} {s : Int} (h : M.vputE (M.Vlt.new 2 1) a s [] = 0) (h0 : 0 ≤ s) (h1 : s < 257) (o : Int) :
    M.vputE (M.vputV (M.Vlt.new 2 1) a s []) a o [] = 7 ∧ M.partE (M.vputV (M.Vlt.new 2 1) a s []) a 2 = 0 ∧ M.partR (M.vputV (M.Vlt.new 2 1) a s []) a 2 = (2, s) ∧ M.getE' (M.vputV (M.Vlt.new 2 1) a s []) a [(2, s)] = 0 ∧ M.getR' (M.vputV (M.Vlt.new 2 1) a s []) a [(2, s)] = s := by
  have hg := M.vputV_same h
  obtain ⟨e1, e2⟩ := M.vputV_many (v := M.Vlt.new 2 1) (a := a) (s := s) (r := [])
  have e1' : (M.vputV (M.Vlt.new 2 1) a s []).many = 2 := e1
  have e2' : (M.vputV (M.Vlt.new 2 1) a s []).need = 1 := e2
  have hok : (M.vputV (M.Vlt.new 2 1) a s []).Ok := (M.Vlt.new_ok (by decide) (by decide) (by decide)).put
  have hs := (M.vputE_ok h).1
  have ht : M.trueB (M.commits [s]) 2 s = true := by
    rw [M.true_iff (p := [s]) (fun i hi => by
      have : i = 0 := by simpa using hi
      subst this
      exact h0) h0 h1, ev_one h0 h1]
    simp
  have hgl : M.goodL [s] [(2, s)] = [(2, s)] := by
    show M.goodS [s] [] (2, s) = _
    unfold M.goodS
    rw [if_pos ⟨rfl, ht⟩]; rfl
  refine ⟨M.vputE_there (by omega) (by rw [hg]; rfl), ?_, ?_, ?_⟩
  · unfold M.partE
    rw [hg, e1']
    exact if_pos (by decide)
  · unfold M.partR
    rw [hg, e1']
    simp only
    rw [if_pos (by decide), ev_one h0 h1]
  · exact M.get_tells hok hg (by simp) (by
      rw [e1']
      show (M.outB 2 (2, s) || false) = false
      unfold M.outB
      simp [M.inR_mk h0 h1]) (by rw [hgl, e2']; simp)

set_option maxRecDepth 100000 in
set_option maxHeartbeats 1000000 in
theorem walk (a : ByteArray) (s o : Int) (w : World) (ha : a.size ≤ maxLen) (hg : Hand w) :
    Calls Tryd.prog 4 #[.string a, .int .i64 s, .int .i64 o] w fun e w' => e = .returned (.bool true) ∧ Below w.heap.size w w' := by
  have HN := hide (vNew_ok w.heap.size 2 1 w (Nat.le_refl _) (by decide) (by decide) (by decide))
  have HPUT : Hid (∀ wx F V v o', VtIs w.heap.size wx F V v → Calls Tryd.prog 8 #[.pointer (some ⟨V, 0, none⟩), .string a, .int .i64 o', .slice none 0 0] wx fun e w' => e = .returned (errV (M.vputE v a o' [])) ∧ ∃ F', VtIs w.heap.size w' F' V (M.vputV v a o' []) ∧ Below w.heap.size wx w') := hide fun wx F V v o' h => by
    refine (vPut (r := []) h ha rfl (Nat.zero_le _) (fun q => absurd q (by simp)) (fun _ => ⟨rfl, rfl⟩)).mono ?_
    rintro e w' ⟨rfl, F', k1, k2, _⟩
    exact ⟨rfl, F', k1, k2.below h.lows h.base_le⟩
  have HPART : Hid (∀ wx F V v (x : Int), VtIs w.heap.size wx F V v → Calls Tryd.prog 9 #[.pointer (some ⟨V, 0, none⟩), .string a, .int .i64 x] wx fun e w' => e = .returned (.tuple #[.agg #[.int .i64 (M.partR v a x).1, .int .i64 (M.partR v a x).2], errV (M.partE v a x)]) ∧ Below wx.heap.size wx w') := hide fun wx F V v x h => vPart a x h ha
  have HGET : Hid (∀ wx F V v la ln lc l, VtIs w.heap.size wx F V v → ln = l.length → ln ≤ maxLen → AtP wx la l → Calls Tryd.prog 10 #[.pointer (some ⟨V, 0, none⟩), .string a, .slice la ln lc] wx fun e w' => e = .returned (.tuple #[.int .i64 (M.getR' v a l), errV (M.getE' v a l)]) ∧ Below wx.heap.size wx w') := hide fun wx F V v la ln lc l h h1 h2 h3 => vGet h ha h1 h2 h3
  have HSE : Hid (∀ wx (k : Int), k ≠ 0 → Below w.heap.size w wx → Calls Tryd.prog 12 #[.iface 66 (.int .i64 k), .int .i64 k] wx fun e w' => e = .returned (.bool true) ∧ Below wx.heap.size wx w') := hide fun wx k hk hb => by
    have := sameErr k k wx (hg.stays hb (Nat.le_refl _))
    rwa [show (k == k) = true by simp, errV_bad hk] at this
  have HP1 := hide (put_one a s)
  unfold maxLen at ha
  clear hg
  go_enter Tryd.func4, Tryd.ntmps4
  go_wp2_with fail
  refine (unhide HN).mono ?_
  rintro e w1 ⟨V, F, rfl, hV, _, hb1⟩
  have HV1 := hide hV
  have HB1 := hide hb1
  clear hV hb1 HN
  go_wp2_with fail
  have HX1 := hide (HPUT.out w1 F V _ s HV1.out)
  rcases HP1.out with ⟨q1, q2⟩ | ⟨q1, q2, q3⟩
  · rw [errV_bad q1, M.vputV_bad q1] at HX1
    have HQ := hide q2
    generalize M.vputE (M.Vlt.new 2 1) a s [] = E at HX1
    clear q1 q2 HP1
    refine (unhide HX1).mono ?_
    rintro e w2 ⟨rfl, F2, hV2, hb2⟩
    have HV2 := hide hV2
    have HB2 := hide (HB1.out.trans hb2)
    have HPA := hide (HPART.out w2 F2 V _ 1 hV2)
    rw [show M.partE (M.Vlt.new 2 1) a 1 = 5 from rfl, show M.partR (M.Vlt.new 2 1) a 1 = (0, 0) from rfl, errV_bad (show (5 : Int) ≠ 0 by decide)] at HPA
    clear hV2 hb2
    go_wp2_with fail
    refine (unhide HPA).mono ?_
    rintro e w3 ⟨rfl, hb3⟩
    have HB3 := hide (HB2.out.trans (hb3.mono HB2.out.size))
    have HS3 := hide (HSE.out (w3.alloc (.cells #[.int .i64 0, .int .i64 0] 31)) 5 (by decide) (HB3.out.alloc HB3.out.size _))
    clear hb3
    go_wp2_with fail
    refine (unhide HS3).mono ?_
    rintro e w4 ⟨rfl, hb4⟩
    have HB4 := hide ((HB3.out.alloc HB3.out.size (.cells #[.int .i64 0, .int .i64 0] 31)).trans (hb4.mono (Nat.le_trans HB3.out.size (by simp))))
    clear hb4
    have hx : (12 : Int) < (a.size : Int) ∨ (¬ (12 : Int) < (a.size : Int) ∧ s < 0) ∨ (¬ (12 : Int) < (a.size : Int) ∧ ¬ s < 0 ∧ 256 < s) := by have := HQ.out; omega
    rcases hx with h1 | ⟨h1, h2⟩ | ⟨h1, h2, h3⟩
    all_goals
      go_wp2_with fail
      go_ret
      exact ⟨rfl, HB4.out⟩
  · rw [q1, show errV 0 = Value.nilIface from rfl] at HX1
    obtain ⟨t1, t2, t3, t4, t5⟩ := then_all q1 q2 q3 o
    refine (unhide HX1).mono ?_
    rintro e w2 ⟨rfl, F2, hV2, hb2⟩
    have HB2 := hide (HB1.out.trans hb2)
    have HX2 := hide (HPUT.out w2 F2 V _ o hV2)
    rw [M.vputV_bad (v := M.vputV (M.Vlt.new 2 1) a s []) (a := a) (s := o) (r := []) (by rw [t1]; decide), t1, errV_bad (show (7 : Int) ≠ 0 by decide)] at HX2
    have HPA : Hid (∀ wx F, VtIs w.heap.size wx F V (M.vputV (M.Vlt.new 2 1) a s []) → Calls Tryd.prog 9 #[.pointer (some ⟨V, 0, none⟩), .string a, .int .i64 2] wx fun e w' => e = .returned (.tuple #[.agg #[.int .i64 2, .int .i64 s], .nilIface]) ∧ Below wx.heap.size wx w') := hide fun wx F h => by
      have := HPART.out wx F V _ 2 h
      rwa [t2, t3] at this
    have HGE : Hid (∀ wx F la lc, VtIs w.heap.size wx F V (M.vputV (M.Vlt.new 2 1) a s []) → AtP wx la [(2, s)] → Calls Tryd.prog 10 #[.pointer (some ⟨V, 0, none⟩), .string a, .slice la 1 lc] wx fun e w' => e = .returned (.tuple #[.int .i64 s, .nilIface]) ∧ Below wx.heap.size wx w') := hide fun wx F la lc h hat => by
      have := HGET.out wx F V _ la 1 lc [(2, s)] h rfl (by unfold maxLen; decide) hat
      rwa [t4, t5] at this
    clear hV2 hb2 q1 q2 q3 t1 t2 t3 t4 t5 HP1 HX1 HPUT HPART HGET
    go_wp2_with fail
    refine (unhide HX2).mono ?_
    rintro e w3 ⟨rfl, F3, hV3, hb3⟩
    have HV3 := hide hV3
    have HB3 := hide (HB2.out.trans hb3)
    clear hV3 hb3
    go_wp2_with fail
    refine (HPA.out _ _ HV3.out).mono ?_
    rintro e w4 ⟨rfl, hb4⟩
    have HB4 := hide (HB3.out.trans (hb4.mono HB3.out.size))
    have HV4 := hide (HV3.out.quiet hb4)
    clear hb4
    have HBA : Hid (Below w4.heap.size w4 ((w4.alloc (.cells #[.int .i64 2, .int .i64 s] 31)).alloc (.cells #[.int .i64 2, .int .i64 s] 31))) := hide (((Below.refl _ _).alloc (Nat.le_refl _) _).alloc (by simp) _)
    have HAT : Hid (AtP ((w4.alloc (.cells #[.int .i64 2, .int .i64 s] 31)).alloc (.cells #[.int .i64 2, .int .i64 s] 31)) (some ⟨w4.heap.size + 1, 0, none⟩) [(2, s)]) := hide (by
      have h3 := World.ownsRow_lit (base := w4.heap.size) (e := 31) (size := 2) (w4.alloc (.cells #[.int .i64 2, .int .i64 s] 31)) #[.int .i64 2, .int .i64 s] 1 (by simp) (by unfold maxLen; decide) rfl
      obtain ⟨a9, c9, e9, _, _, h9⟩ := atP_own (l := [(2, s)]) rfl h3
      cases e9
      simpa using h9)
    have HGX := hide (HGE.out _ _ (some ⟨w4.heap.size + 1, 0, none⟩) 1 (HV4.out.quiet HBA.out) HAT.out)
    go_wp2_with fail
    refine (unhide HGX).mono ?_
    rintro e w5 ⟨rfl, hb5⟩
    have HB5 := hide ((HB4.out.trans (HBA.out.mono HB4.out.size)).trans (hb5.mono (Nat.le_trans HB4.out.size HBA.out.size)))
    have c1 : w5.cell? ⟨w4.heap.size, 1, none⟩ = some (.int .i64 s) := (hb5.cell (p := ⟨w4.heap.size, 1, none⟩) (by simp; omega)).trans (by simp [go_sem])
    have HS5 := hide (HSE.out w5 7 (by decide) HB5.out)
    clear hb5
    go_wp2_with fail
    refine (unhide HS5).mono ?_
    rintro e w6 ⟨rfl, hb6⟩
    have c2 : w6.cell? ⟨w4.heap.size, 1, none⟩ = some (.int .i64 s) := (hb6.cell (p := ⟨w4.heap.size, 1, none⟩) (World.block_lt_of_cell? w5 _ c1)).trans c1
    have c3 := World.block_lt_of_cell? w6 _ c2
    have HB6 := hide (HB5.out.trans (hb6.mono HB5.out.size))
    clear hb6 c1
    go_wp2_with fail
    go_ret
    exact ⟨by simp, HB6.out⟩

end Go.Proofs.YtlefhfmckimlaajDoor.vaultTwice
