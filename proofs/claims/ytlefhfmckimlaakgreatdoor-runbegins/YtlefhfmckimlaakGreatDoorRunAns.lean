/-
  The library's split at a blank, and what answer of package run gives to a line, as one law of its call.
-/
import Derived.Test.YtlefhfmckimlaakGreatDoorRunDo
import Derived.Shelf.Strings.SplitCore
set_option linter.unusedVariables false
namespace Go.Proofs.YtlefhfmckimlaakGreatDoor
open Go.RowKit

theorem infoStr9 : (Tryz.prog.info? 9).map (fun i => (i.zero, i.size, i.bytes)) = some (some (.string ByteArray.empty), 1, 16) := by kernel_rfl
/-- the pieces of a text at a blank -/
def pieces (s : ByteArray) : List ByteArray := Lib.splitB ⟨#[32]⟩ 0 (Lib.countB s ⟨#[32]⟩) s
theorem pieces_lists (s : ByteArray) : lists (pieces s) = M.cutB 32 s.data.toList := M.split_cut 32 s
theorem pieces_len (s : ByteArray) : (pieces s).length = Lib.countB s ⟨#[32]⟩ + 1 := Lib.splitB_all ⟨#[32]⟩ (by decide) 0 _ s rfl
theorem pieces_size {s p : ByteArray} (h : p ∈ pieces s) : p.size ≤ s.size := by
  have h1 : p.data.toList ∈ M.cutB 32 s.data.toList := by rw [← pieces_lists]; exact List.mem_map.2 ⟨p, h, rfl⟩
  have h2 := (M.cutB_sizes 32 s.data.toList).1 _ h1
  rwa [← Lib.size_eq, ← Lib.size_eq] at h2
theorem genSplit1 (s : ByteArray) (w : World) (hs : s.size ≤ 3000) : Calls Tryz.prog 150 #[.string s, .string ⟨#[32]⟩, .int .i64 0, .int .i64 (-1)] w fun e w' =>
    e = .returned (.slice (some ⟨w.heap.size, 0, none⟩) (pieces s).length (pieces s).length) ∧ w' = w.alloc (.cells ((pieces s).map Value.string).toArray 9) := by
  have hle := Lib.countB_le ⟨#[32]⟩ (by decide) s.size s (Nat.le_refl _)
  have hlen := pieces_len s
  have c := Any.strings_genSplit_core Tryz.lays221 infoStr9 s ⟨#[32]⟩ 0 (-1) (Lib.countB s ⟨#[32]⟩ + 1) w (by omega) (by decide) (Nat.zero_le _)
    (fun x c hx => by
      have h := Tryz.strings_Index_one x 32 (w.alloc (.cells c 9))
      rw [← M.index_byte] at h
      exact h)
    (by
      have h := Tryz.strings_Count_one s 32 w
      have e : Lib.countB s ⟨#[32]⟩ = Lib.countByte s.data.toList 32 := Lib.count_one 32 s.data.toList
      rw [e]
      exact h)
    (by decide) (by decide) (by rw [if_pos (by decide)]; omega)
  rw [Nat.add_sub_cancel] at c
  have e2 : Lib.cellsOf (pieces s) (Lib.countB s ⟨#[32]⟩ + 1) = ((pieces s).map Value.string).toArray := by rw [← hlen]; exact Lib.cellsOf_full _
  have c2 : Calls Tryz.prog 150 #[.string s, .string ⟨#[32]⟩, .int .i64 0, .int .i64 (-1)] w fun e w' => e = .returned (.slice (some ⟨w.heap.size, 0, none⟩) (pieces s).length (Lib.countB s ⟨#[32]⟩ + 1)) ∧ w' = w.alloc (.cells (Lib.cellsOf (pieces s) (Lib.countB s ⟨#[32]⟩ + 1)) 9) := c
  rwa [e2, ← hlen] at c2
theorem split1 (s : ByteArray) (w : World) (hs : s.size ≤ 3000) : Calls Tryz.prog 113 #[.string s, .string ⟨#[32]⟩] w fun e w' =>
    e = .returned (.slice (some ⟨w.heap.size, 0, none⟩) (pieces s).length (pieces s).length) ∧ w' = w.alloc (.cells ((pieces s).map Value.string).toArray 9) := by
  have HG := hide (genSplit1 s w hs)
  clear hs
  go_enter Tryz.func113, Tryz.ntmps113
  go_wp2_with fail
  refine (unhide HG).mono ?_
  rintro e w1 ⟨rfl, rfl⟩
  dsimp only
  go_wp2_with fail
  go_ret
  exact ⟨rfl, rfl⟩

theorem out_form {t : List UInt8} {r : Value} (h : Out t r) : ∃ tx ev, r = .tuple #[.string tx, ev] := by
  rcases h with rfl | ⟨_, n, rfl⟩ | ⟨E, _, _, _, rfl⟩
  · exact ⟨_, _, rfl⟩
  · exact ⟨_, _, rfl⟩
  · exact ⟨_, _, rfl⟩

section
variable {base D S H : Nat} {v : Value} {L : List (List M.Val)} {w : World}

set_option maxRecDepth 100000 in
set_option maxHeartbeats 1000000 in
theorem rAnswer (s : ByteArray) (hd : Dk w D S H) (hs : Space base w S v L) (hL : M.Fine L) (hv : EnvFrom base w) (hz : s.size ≤ 3000) :
    Calls Tryz.prog 70 #[.pointer (some ⟨D, 0, none⟩), .string s] w fun e w' => e = .returned (.string ⟨(M.lineR L s.data.toList).1.toArray⟩) ∧ Then base w w' S v (M.lineR L s.data.toList).2 := by
  obtain ⟨p0, ws, hp⟩ : ∃ p0 ws, pieces s = p0 :: ws := by
    cases h : pieces s with
    | nil => have := pieces_len s; rw [h] at this; simp at this
    | cons a r => exact ⟨a, r, rfl⟩
  have hc : M.cutB 32 s.data.toList = p0.data.toList :: lists ws := by rw [← pieces_lists, hp]; rfl
  have HSP := hide (split1 s w hz)
  have hsz : ∀ x ∈ p0 :: ws, x.size ≤ 3000 := fun x hx => Nat.le_trans (pieces_size (hp ▸ hx)) hz
  rw [hp] at HSP
  rw [M.line_deed hc]
  obtain ⟨W, hW⟩ : ∃ W, W = w.alloc (.cells ((p0 :: ws).map Value.string).toArray 9) := ⟨_, rfl⟩
  rw [← hW] at HSP
  have HBW : Hid (Below w.heap.size w W) := hide (by rw [hW]; exact (Below.refl _ _).alloc (Nat.le_refl _) _)
  have hcell : ∀ i (h : i < (p0 :: ws).length), W.cell? ⟨w.heap.size, i, none⟩ = some (.string (p0 :: ws)[i]) := fun i h => by
    rw [hW, cell_of_row _ w.heap.size i _ _ (0, 0) (heap_alloc_new w _)]
    simp only [List.getElem?_toArray, List.getElem?_map, List.getElem?_eq_getElem h]
    rfl
  have c0 : W.cell? ⟨w.heap.size, 0, none⟩ = some (.string p0) := hcell 0 (by simp)
  have wn := World.block_lt_of_cell? _ _ c0
  have HD : Hid (∀ wx o, Below w.heap.size w wx → Wds wx w.heap.size o ws → Calls Tryz.prog 114 #[.pointer (some ⟨D, 0, none⟩), .string p0, .slice (some ⟨w.heap.size, o, none⟩) ws.length ws.length] wx fun e w' => (∃ r, e = .returned r ∧ Out (M.deedR L p0.data.toList (lists ws)).1 r) ∧ Then base wx w' S v (M.deedR L p0.data.toList (lists ws)).2) := hide fun wx o hb hw =>
    dDo (hd.quiet hb) (hs.stays hb) hL (hv.next (hb.mono hs.room)) rfl hw (hsz p0 (by simp)) (fun x hx => hsz x (by simp [hx]))
  have HW0 : Hid (∀ wx, Below W.heap.size W wx → ∀ o, (ws.length = 0 ∨ o = 1) → Wds wx w.heap.size o ws) := hide fun wx hb o ho i hi => by
    rcases ho with ho | rfl
    · omega
    · have := hcell (i + 1) (by simp; omega)
      rw [Nat.add_comm 1 i]
      exact (hb.cell (p := ⟨w.heap.size, i + 1, none⟩) wn).trans this
  have HV := hide hv
  have HS := hide hs
  have hwl : ws.length ≤ 3000 := by
    have h1 := Lib.countB_le ⟨#[32]⟩ (by decide) s.size s (Nat.le_refl _)
    have h2 := pieces_len s
    rw [hp, List.length_cons] at h2
    omega
  rw [List.length_cons] at HSP
  generalize hR : M.deedR L p0.data.toList (lists ws) = R at *
  generalize hNL : ws.length = N at *
  clear hd hs hL hv hz hc hsz hcell hW hR hp
  have HENV : Hid (∀ wx, Then base w wx S v R.2 → Env wx) := hide fun wx ⟨v', h1, h2, h3⟩ => HV.out wx (Sp.below HS.out h2 (Nat.le_refl _))
  have HZ0 : Hid (∀ wa wx, Below w.heap.size w wa → wa.cell? ⟨w.heap.size, 0, none⟩ = some (.string p0) → Then base wa.drew wx S v R.2 → wx.cell? ⟨w.heap.size, 0, none⟩ = some (.string p0)) := hide fun wa wx hb hc ⟨v', h1, h2, h3⟩ => HS.out.high hb (Nat.le_refl _) hc (h2.after (Below.refl _ _).drew)
  rcases Nat.eq_zero_or_pos N with hN | hN
  · subst hN
    have HWX : Hid (∀ wx, Below W.heap.size W wx → Wds wx w.heap.size 0 ws) := hide fun wx hb => HW0.out wx hb 0 (Or.inl rfl)
    clear HW0
    go_enter Tryz.func70, Tryz.ntmps70
    go_wp2_with fail
    refine (unhide HSP).mono ?_
    rintro e w1 ⟨rfl, rfl⟩
    dsimp only
    go_wp2_with fail
    have HWD := hide (HWX.out w1.drew ((Below.refl _ _).drew))
    go_region_held3 (fun w' => w'.cell? ⟨w.heap.size, 0, none⟩ = some (.string p0)) (first | go_keep | assumption)
      (first
        | (go_at_call 114; refine (HD.out _ 0 HBW.out.drew HWD.out).mono ?_; rintro e w2 ⟨⟨r, rfl, hr⟩, hn⟩; have HR := hide hr; have HN := hide (Then.after HBW.out.drew hn); have z0 : w2.cell? ⟨w.heap.size, 0, none⟩ = some (.string p0) := HZ0.out w1 w2 HBW.out c0 hn; obtain ⟨tx, ev, hrf⟩ : ∃ tx ev, r = .tuple #[.string tx, ev] := out_form hr; subst hrf; clear hr hn))
    rcases HR.out with hr | ⟨ht, n, hr⟩ | ⟨E, h1, h8, ht, hr⟩
    · have e1 : tx = ⟨R.1.toArray⟩ ∧ ev = .nilIface := by simpa using hr
      obtain ⟨rfl, rfl⟩ := e1
      go_wp2_with fail
      go_ret
      exact ⟨rfl, HN.out⟩
    · have e0 : tx = ⟨#[]⟩ ∧ ev = lineV n := by simpa using hr
      have e1 : ev = .iface 219 (.agg #[.iface 87 (.int .i64 n)]) := e0.2
      subst e1
      clear e0
      have HNM := hide (nameBad n w2 (HENV.out w2 HN.out).hand)
      have HT := hide ht
      clear hr ht
      go_wp2_with fail
      refine (unhide HNM).mono ?_
      rintro e w3 ⟨rfl, hb3⟩
      have HB3 := hide hb3
      clear hb3
      dsimp only
      go_wp2_with fail
      go_ret
      exact ⟨by rw [HT.out]; rfl, HN.out.then HB3.out⟩
    · have e0 : tx = ⟨#[]⟩ ∧ ev = .iface 87 (.int .i64 E) := by simpa using hr
      have e1 : ev = .iface 87 (.int .i64 E) := e0.2
      subst e1
      clear e0
      have HNM := hide (nameErr E w2 (HENV.out w2 HN.out).hand h1 h8)
      have HT := hide ht
      clear hr ht
      go_wp2_with fail
      refine (unhide HNM).mono ?_
      rintro e w3 ⟨rfl, hb3⟩
      have HB3 := hide hb3
      clear hb3
      dsimp only
      go_wp2_with fail
      go_ret
      exact ⟨by rw [HT.out]; rfl, HN.out.then HB3.out⟩
  · obtain ⟨K, rfl⟩ : ∃ K, N = K + 1 := ⟨N - 1, by omega⟩
    have q1 : (0 : Int) < (K : Int) + 1 + 1 := by omega
    have q2 : (1 : Int) ≤ (K : Int) + 1 + 1 := by omega
    have HWX : Hid (∀ wx, Below W.heap.size W wx → Wds wx w.heap.size 1 ws) := hide fun wx hb => HW0.out wx hb 1 (Or.inr rfl)
    clear HW0
    go_enter Tryz.func70, Tryz.ntmps70
    go_wp2_with fail
    refine (unhide HSP).mono ?_
    rintro e w1 ⟨rfl, rfl⟩
    dsimp only
    go_wp2_with fail
    have HWD := hide (HWX.out w1.drew ((Below.refl _ _).drew))
    go_region_held3 (fun w' => w'.cell? ⟨w.heap.size, 0, none⟩ = some (.string p0)) (first | go_keep | assumption)
      (first
        | (go_at_call 114; refine (HD.out _ 1 HBW.out.drew HWD.out).mono ?_; rintro e w2 ⟨⟨r, rfl, hr⟩, hn⟩; have HR := hide hr; have HN := hide (Then.after HBW.out.drew hn); have z0 : w2.cell? ⟨w.heap.size, 0, none⟩ = some (.string p0) := HZ0.out w1 w2 HBW.out c0 hn; obtain ⟨tx, ev, hrf⟩ : ∃ tx ev, r = .tuple #[.string tx, ev] := out_form hr; subst hrf; clear hr hn))
    rcases HR.out with hr | ⟨ht, n, hr⟩ | ⟨E, h1, h8, ht, hr⟩
    · have e1 : tx = ⟨R.1.toArray⟩ ∧ ev = .nilIface := by simpa using hr
      obtain ⟨rfl, rfl⟩ := e1
      go_wp2_with fail
      go_ret
      exact ⟨rfl, HN.out⟩
    · have e0 : tx = ⟨#[]⟩ ∧ ev = lineV n := by simpa using hr
      have e1 : ev = .iface 219 (.agg #[.iface 87 (.int .i64 n)]) := e0.2
      subst e1
      clear e0
      have HNM := hide (nameBad n w2 (HENV.out w2 HN.out).hand)
      have HT := hide ht
      clear hr ht
      go_wp2_with fail
      refine (unhide HNM).mono ?_
      rintro e w3 ⟨rfl, hb3⟩
      have HB3 := hide hb3
      clear hb3
      dsimp only
      go_wp2_with fail
      go_ret
      exact ⟨by rw [HT.out]; rfl, HN.out.then HB3.out⟩
    · have e0 : tx = ⟨#[]⟩ ∧ ev = .iface 87 (.int .i64 E) := by simpa using hr
      have e1 : ev = .iface 87 (.int .i64 E) := e0.2
      subst e1
      clear e0
      have HNM := hide (nameErr E w2 (HENV.out w2 HN.out).hand h1 h8)
      have HT := hide ht
      clear hr ht
      go_wp2_with fail
      refine (unhide HNM).mono ?_
      rintro e w3 ⟨rfl, hb3⟩
      have HB3 := hide hb3
      clear hb3
      dsimp only
      go_wp2_with fail
      go_ret
      exact ⟨by rw [HT.out]; rfl, HN.out.then HB3.out⟩
end
end Go.Proofs.YtlefhfmckimlaakGreatDoor
