/-
  The document's own Line at a first word that wants one tuple: put.
  The document's own Line at a first word that wants two tuples: once.
-/
import Derived.Test.YtlefhfmckimlaakGreatDoorJDSp
import Derived.Test.YtlefhfmckimlaakGreatDoorJRT
set_option linter.unusedVariables false
namespace Go.Proofs.YtlefhfmckimlaakGreatDoor
open Go.RowKit

/-- the words behind a first one -/
theorem docWords {s k : ByteArray} {ws : List ByteArray} {w : World} (hs : s.size ≤ 3000) (hp : pieces s = k :: ws) : Calls Tryz.prog 33 #[.string s, .int .u8 32] w fun e w' => ∃ g c, e = .returned (.slice (some ⟨g, 0, none⟩) (ws.length + 1) c) ∧ w.heap.size ≤ g ∧ w'.cell? ⟨g, 0, none⟩ = some (.string k) ∧ (∀ i (h : i < ws.length), w'.cell? ⟨g, i + 1, none⟩ = some (.string ws[i])) ∧ Below w.heap.size w w' := by
  have hC := docCut s w hs
  rw [hp] at hC
  refine hC.mono ?_
  rintro e w' ⟨g, c, rfl, hg, h2, hb⟩
  refine ⟨g, c, rfl, hg, h2 0 (by simp), fun i hi => ?_, hb⟩
  have := h2 (i + 1) (by simp; omega)
  rwa [Nat.zero_add] at this
theorem docSizes {s k : ByteArray} {ws : List ByteArray} (hs : s.size ≤ 3000) (hp : pieces s = k :: ws) : ∀ x ∈ ws, x.size ≤ 3000 := fun x hx => Nat.le_trans (pieces_size (by rw [hp]; simp [hx])) hs

section
variable {base R : Nat} {s t : ByteArray} {u : Value} {L : List (List M.Val)} {w : World}
set_option maxRecDepth 100000 in
set_option maxHeartbeats 4000000 in
theorem docPut (hs : s.size ≤ 3000) (hp : pieces s = bPut :: [t]) (hz : Zs base w R u L) (hL : M.Fine L) :
    Calls Tryz.prog 34 #[.pointer (some ⟨R, 0, none⟩), .string s] w fun e w' => e = .returned (.string ⟨(M.one1 L M.wPut t.data.toList).1.toArray⟩) ∧ ThenZ base w w' R u (M.one1 L M.wPut t.data.toList).2 := by
  have HC := hide (docWords (w := w) hs hp)
  have hts := docSizes hs hp t (by simp)
  have HR : Hid (∀ wx, Calls Tryz.prog 75 #[.string t] wx fun e w' => (∃ v, e = .returned (.tuple #[v, .int .i64 (M.readE t.data.toList)]) ∧ OwnT wx.heap.size w' v (M.readV t.data.toList)) ∧ Below wx.heap.size wx w') := hide fun wx => (rreadO t wx (by omega)).mono fun e w' ⟨⟨v, h1, h2, h3⟩, h4⟩ => ⟨⟨v, h1, h2, h3⟩, h4⟩
  have HZ := hide hz
  have HF := hide hL
  have HRM := hide hz.room
  obtain ⟨i0, hi, hz0, hz1, hz2⟩ := info_parts infoT
  have HI := hide (And.intro hi (And.intro hz0 (And.intro hz1 hz2)))
  simp only [List.length_cons, List.length_nil, Nat.zero_add] at HC
  unfold bPut at HC
  clear hi hz0 hz1 hz2 hz hL hs hp hts
  by_cases he : M.readE t.data.toList = 0
  · have HLK := hide (M.read_like he)
    rw [M.one1_put he]
    rw [he] at HR
    generalize M.readV t.data.toList = q at *
    clear he
    have HPR := hide (M.putF_range L q)
    by_cases hpf : M.putF L q = 0
    · rw [if_neg (by simpa using hpf)]
      go_enter Tryz.func34, Tryz.ntmps34
      go_wp2_with fail
      refine (unhide HC).mono ?_
      rintro e w1 ⟨g, c, rfl, hg, hc0, hcs, hb1⟩
      have c1 : w1.cell? ⟨g, 1, none⟩ = some (.string t) := hcs 0 (by simp)
      have HB1 := hide hb1
      have hgl := World.block_lt_of_cell? _ _ hc0
      have HC0 := hide hc0
      clear hb1 hcs
      dsimp only
      go_wp2_with fail
      refine wp_loop_rounds 2 ?_
      rw [rounds_succ]
      go_wp2_with fail
      refine (HR.out _).mono ?_
      rintro e w2 ⟨⟨v2, rfl, ho2⟩, hb2⟩
      obtain ⟨a2, c2, rfl⟩ := ho2.shape
      have HO2 := hide ho2
      have HB2 := hide hb2
      have hq5 := (likeF_len HLK.out).2
      have HNEW : Hid (∀ j u, [Value.slice a2 q.length c2][j]? = some u → (w2.alloc (.cells #[.slice a2 q.length c2] 32)).cell? ((⟨w2.heap.size, 0, none⟩ : Addr).add j) = some u) := hide (World.news_of_block (heap_alloc_new w2 _))
      clear ho2 hb2
      dsimp only
      go_wp2_with (at_builtin; (refine wpList_append_own _ rfl (.tmp 123) (.tmp 125) 76 rfl w2.heap.size 32 i0 (.slice none 0 0) 1 24 Tryz.underlying76 HI.out.1 HI.out.2.1 HI.out.2.2.1 HI.out.2.2.2 rfl (by decide) (.slice none 0 0) 0 [] rfl (World.ownsRow_nil _ _ _ _) ⟨w2.heap.size, 0, none⟩ 1 1 [.slice a2 q.length c2] rfl rfl HNEW.out (by simp [Value.oneCell']) (by unfold maxLen; omega) (by omega) (by simp) ?_))
      intro v3 w3 hown3 hgrow3 _
      have HB3 : Hid (Below w2.heap.size w2 w3) := hide (((Below.refl _ _).alloc (Nat.le_refl _) _).grown hgrow3 (by simp) (fun k hk => by cases hk))
      have hown3 : w3.ownsRow w2.heap.size 32 1 v3 1 [.slice a2 q.length c2] := hown3
      obtain ⟨g3, c3, hf3, hg3, hl3⟩ := hown3.form (by decide)
      subst hf3
      have z1 : w3.cell? ⟨g3, 0, none⟩ = some (.slice a2 q.length c2) := by rw [hown3.cellAt 0 (by decide)]; rfl
      have HZ1 := hide z1
      have HBW := hide (HB1.out.trans ((HB2.out.trans (HB3.out.mono HB2.out.size)).mono HB1.out.size))
      have z0 : w3.cell? ⟨g, 0, none⟩ = some (.string ⟨#[112, 117, 116]⟩) := ((HB2.out.trans (HB3.out.mono HB2.out.size)).cell (p := ⟨g, 0, none⟩) hgl).trans HC0.out
      have HZ0 := hide z0
      have HO3 : Hid (OwnT base w3 (.slice a2 q.length c2) q) := hide ((HO2.out.solid (Solid.below HB3.out)).mono (Nat.le_trans HRM.out HB1.out.size))
      have hgl3 := World.block_lt_of_cell? _ _ z0
      have HGH : Hid (w.heap.size ≤ g3) := hide (Nat.le_trans HB1.out.size (Nat.le_trans HB2.out.size hg3))
      have HZS := hide (Zs.stays HZ.out HBW.out)
      clear hown3 hgrow3 hc0 c1 hg3
      go_wp2_with fail
      rw [rounds_succ]
      have HP := hide (yput HZS.out HF.out HO3.out)
      rw [hpf] at HP
      clear hpf
      go_wp2_with fail
      refine (unhide HP).mono ?_
      rintro e w4 ⟨rfl, hn4⟩
      have HN4 := hide (ThenZ.after HBW.out hn4)
      clear hn4
      dsimp only
      go_wp2_with fail
      go_ret
      exact ⟨rfl, HN4.out⟩
    · rw [if_pos hpf]
      have HE : Hid (0 ≤ M.putF L q ∧ M.putF L q ≤ 8) := HPR
      have hne : (M.putF L q == 0) = false := by simpa using hpf
      go_enter Tryz.func34, Tryz.ntmps34
      go_wp2_with fail
      refine (unhide HC).mono ?_
      rintro e w1 ⟨g, c, rfl, hg, hc0, hcs, hb1⟩
      have c1 : w1.cell? ⟨g, 1, none⟩ = some (.string t) := hcs 0 (by simp)
      have HB1 := hide hb1
      have hgl := World.block_lt_of_cell? _ _ hc0
      have HC0 := hide hc0
      clear hb1 hcs
      dsimp only
      go_wp2_with fail
      refine wp_loop_rounds 2 ?_
      rw [rounds_succ]
      go_wp2_with fail
      refine (HR.out _).mono ?_
      rintro e w2 ⟨⟨v2, rfl, ho2⟩, hb2⟩
      obtain ⟨a2, c2, rfl⟩ := ho2.shape
      have HO2 := hide ho2
      have HB2 := hide hb2
      have hq5 := (likeF_len HLK.out).2
      have HNEW : Hid (∀ j u, [Value.slice a2 q.length c2][j]? = some u → (w2.alloc (.cells #[.slice a2 q.length c2] 32)).cell? ((⟨w2.heap.size, 0, none⟩ : Addr).add j) = some u) := hide (World.news_of_block (heap_alloc_new w2 _))
      clear ho2 hb2
      dsimp only
      go_wp2_with (at_builtin; (refine wpList_append_own _ rfl (.tmp 123) (.tmp 125) 76 rfl w2.heap.size 32 i0 (.slice none 0 0) 1 24 Tryz.underlying76 HI.out.1 HI.out.2.1 HI.out.2.2.1 HI.out.2.2.2 rfl (by decide) (.slice none 0 0) 0 [] rfl (World.ownsRow_nil _ _ _ _) ⟨w2.heap.size, 0, none⟩ 1 1 [.slice a2 q.length c2] rfl rfl HNEW.out (by simp [Value.oneCell']) (by unfold maxLen; omega) (by omega) (by simp) ?_))
      intro v3 w3 hown3 hgrow3 _
      have HB3 : Hid (Below w2.heap.size w2 w3) := hide (((Below.refl _ _).alloc (Nat.le_refl _) _).grown hgrow3 (by simp) (fun k hk => by cases hk))
      have hown3 : w3.ownsRow w2.heap.size 32 1 v3 1 [.slice a2 q.length c2] := hown3
      obtain ⟨g3, c3, hf3, hg3, hl3⟩ := hown3.form (by decide)
      subst hf3
      have z1 : w3.cell? ⟨g3, 0, none⟩ = some (.slice a2 q.length c2) := by rw [hown3.cellAt 0 (by decide)]; rfl
      have HZ1 := hide z1
      have HBW := hide (HB1.out.trans ((HB2.out.trans (HB3.out.mono HB2.out.size)).mono HB1.out.size))
      have z0 : w3.cell? ⟨g, 0, none⟩ = some (.string ⟨#[112, 117, 116]⟩) := ((HB2.out.trans (HB3.out.mono HB2.out.size)).cell (p := ⟨g, 0, none⟩) hgl).trans HC0.out
      have HZ0 := hide z0
      have HO3 : Hid (OwnT base w3 (.slice a2 q.length c2) q) := hide ((HO2.out.solid (Solid.below HB3.out)).mono (Nat.le_trans HRM.out HB1.out.size))
      have hgl3 := World.block_lt_of_cell? _ _ z0
      have HGH : Hid (w.heap.size ≤ g3) := hide (Nat.le_trans HB1.out.size (Nat.le_trans HB2.out.size hg3))
      have HZS := hide (Zs.stays HZ.out HBW.out)
      clear hown3 hgrow3 hc0 c1 hg3
      go_wp2_with fail
      rw [rounds_succ]
      have HP := hide (yput HZS.out HF.out HO3.out)
      have HNM := hide fun wx => rname (M.putF L q) wx HE.out.1 HE.out.2
      clear hpf
      go_wp2_with fail
      refine (unhide HP).mono ?_
      rintro e w4 ⟨rfl, hn4⟩
      have HN4 := hide (ThenZ.after HBW.out hn4)
      clear hn4
      dsimp only
      go_wp2_with fail
      refine (HNM.out _).mono ?_
      rintro e w5 ⟨rfl, hb5⟩
      have HN5 := hide (HN4.out.then hb5)
      clear hb5
      dsimp only
      go_wp2_with fail
      go_ret
      exact ⟨rfl, HN5.out⟩
  · rw [M.one1_bad he]
    have hne : (M.readE t.data.toList == 0) = false := by simpa using he
    generalize M.readE t.data.toList = E at *
    clear he
    go_enter Tryz.func34, Tryz.ntmps34
    go_wp2_with fail
    refine (unhide HC).mono ?_
    rintro e w1 ⟨g, c, rfl, hg, hc0, hcs, hb1⟩
    have c1 : w1.cell? ⟨g, 1, none⟩ = some (.string t) := hcs 0 (by simp)
    have HB1 := hide hb1
    clear hb1 hcs
    dsimp only
    go_wp2_with fail
    refine wp_loop_rounds 1 ?_
    rw [rounds_succ]
    go_wp2_with fail
    refine (HR.out _).mono ?_
    rintro e w2 ⟨⟨v2, rfl, ho2⟩, hb2⟩
    have HB2 := hide (HB1.out.trans (hb2.mono HB1.out.size))
    clear ho2 hb2
    dsimp only
    go_wp2_with fail
    go_ret
    exact ⟨rfl, ThenZ.still HZ.out HB2.out⟩

set_option maxRecDepth 100000 in
set_option maxHeartbeats 4000000 in
theorem docRead (hs : s.size ≤ 3000) (hp : pieces s = bRead :: [t]) (hz : Zs base w R u L) (hL : M.Fine L) :
    Calls Tryz.prog 34 #[.pointer (some ⟨R, 0, none⟩), .string s] w fun e w' => e = .returned (.string ⟨(M.one1 L M.wRead t.data.toList).1.toArray⟩) ∧ ThenZ base w w' R u (M.one1 L M.wRead t.data.toList).2 := by
  have HC := hide (docWords (w := w) hs hp)
  have hts := docSizes hs hp t (by simp)
  have HR : Hid (∀ wx, Calls Tryz.prog 75 #[.string t] wx fun e w' => (∃ v, e = .returned (.tuple #[v, .int .i64 (M.readE t.data.toList)]) ∧ OwnT wx.heap.size w' v (M.readV t.data.toList)) ∧ Below wx.heap.size wx w') := hide fun wx => (rreadO t wx (by omega)).mono fun e w' ⟨⟨v, h1, h2, h3⟩, h4⟩ => ⟨⟨v, h1, h2, h3⟩, h4⟩
  have HZ := hide hz
  have HF := hide hL
  have HRM := hide hz.room
  obtain ⟨i0, hi, hz0, hz1, hz2⟩ := info_parts infoT
  have HI := hide (And.intro hi (And.intro hz0 (And.intro hz1 hz2)))
  simp only [List.length_cons, List.length_nil, Nat.zero_add] at HC
  unfold bRead at HC
  clear hi hz0 hz1 hz2 hz hL hs hp hts
  by_cases he : M.readE t.data.toList = 0
  · have HLK := hide (M.read_like he)
    rw [M.one1_read he]
    rw [he] at HR
    generalize M.readV t.data.toList = q at *
    clear he
    have HPR := hide (M.getF_range q L)
    by_cases hpf : M.getF q L = 0
    · rw [if_neg (by simpa using hpf)]
      have HGL := hide (M.getV_like HF.out hpf)
      go_enter Tryz.func34, Tryz.ntmps34
      go_wp2_with fail
      refine (unhide HC).mono ?_
      rintro e w1 ⟨g, c, rfl, hg, hc0, hcs, hb1⟩
      have c1 : w1.cell? ⟨g, 1, none⟩ = some (.string t) := hcs 0 (by simp)
      have HB1 := hide hb1
      have hgl := World.block_lt_of_cell? _ _ hc0
      have HC0 := hide hc0
      clear hb1 hcs
      dsimp only
      go_wp2_with fail
      refine wp_loop_rounds 2 ?_
      rw [rounds_succ]
      go_wp2_with fail
      refine (HR.out _).mono ?_
      rintro e w2 ⟨⟨v2, rfl, ho2⟩, hb2⟩
      obtain ⟨a2, c2, rfl⟩ := ho2.shape
      have HO2 := hide ho2
      have HB2 := hide hb2
      have hq5 := (likeF_len HLK.out).2
      have HNEW : Hid (∀ j u, [Value.slice a2 q.length c2][j]? = some u → (w2.alloc (.cells #[.slice a2 q.length c2] 32)).cell? ((⟨w2.heap.size, 0, none⟩ : Addr).add j) = some u) := hide (World.news_of_block (heap_alloc_new w2 _))
      clear ho2 hb2
      dsimp only
      go_wp2_with (at_builtin; (refine wpList_append_own _ rfl (.tmp 123) (.tmp 125) 76 rfl w2.heap.size 32 i0 (.slice none 0 0) 1 24 Tryz.underlying76 HI.out.1 HI.out.2.1 HI.out.2.2.1 HI.out.2.2.2 rfl (by decide) (.slice none 0 0) 0 [] rfl (World.ownsRow_nil _ _ _ _) ⟨w2.heap.size, 0, none⟩ 1 1 [.slice a2 q.length c2] rfl rfl HNEW.out (by simp [Value.oneCell']) (by unfold maxLen; omega) (by omega) (by simp) ?_))
      intro v3 w3 hown3 hgrow3 _
      have HB3 : Hid (Below w2.heap.size w2 w3) := hide (((Below.refl _ _).alloc (Nat.le_refl _) _).grown hgrow3 (by simp) (fun k hk => by cases hk))
      have hown3 : w3.ownsRow w2.heap.size 32 1 v3 1 [.slice a2 q.length c2] := hown3
      obtain ⟨g3, c3, hf3, hg3, hl3⟩ := hown3.form (by decide)
      subst hf3
      have z1 : w3.cell? ⟨g3, 0, none⟩ = some (.slice a2 q.length c2) := by rw [hown3.cellAt 0 (by decide)]; rfl
      have HZ1 := hide z1
      have HBW := hide (HB1.out.trans ((HB2.out.trans (HB3.out.mono HB2.out.size)).mono HB1.out.size))
      have z0 : w3.cell? ⟨g, 0, none⟩ = some (.string ⟨#[114, 101, 97, 100]⟩) := ((HB2.out.trans (HB3.out.mono HB2.out.size)).cell (p := ⟨g, 0, none⟩) hgl).trans HC0.out
      have HZ0 := hide z0
      have HO3 : Hid (OwnT base w3 (.slice a2 q.length c2) q) := hide ((HO2.out.solid (Solid.below HB3.out)).mono (Nat.le_trans HRM.out HB1.out.size))
      have hgl3 := World.block_lt_of_cell? _ _ z0
      have HGH : Hid (w.heap.size ≤ g3) := hide (Nat.le_trans HB1.out.size (Nat.le_trans HB2.out.size hg3))
      have HZS := hide (Zs.stays HZ.out HBW.out)
      clear hown3 hgrow3 hc0 c1 hg3
      go_wp2_with fail
      rw [rounds_succ]
      have HP := hide fun wx (hb : Below w3.heap.size w3 wx) => yget0 (HZS.out.stays hb) HF.out (HO3.out.solid (Solid.below hb))
      rw [hpf] at HP
      clear hpf
      go_wp2_with fail
      go_region_held3 (fun w' => w'.cell? ⟨g3, 0, none⟩ = some (.slice a2 q.length c2) ∧ w'.cell? ⟨g, 0, none⟩ = some (.string ⟨#[114, 101, 97, 100]⟩)) (first | go_keep | assumption)
        (first
          | (go_at_call 49; refine (HP.out _ (Below.refl _ _).drew).mono ?_; rintro e w4 ⟨r, rfl, hr4, hn4⟩; have HN4 := hide (ThenZ.after HBW.out.drew hn4); have HR4 := hide hr4; have y1 := HZ.out.high HBW.out.drew HGH.out HZ1.out hn4; have y0 := HZ.out.high HBW.out.drew hg HZ0.out hn4; clear hr4 hn4))
      go_wp2_with fail
      refine (rline r (M.getV q L) w4 (HR4.out trivial) HGL.out).mono ?_
      rintro e w5 ⟨rfl, hb5⟩
      have HN5 := hide (HN4.out.then hb5)
      clear hb5
      dsimp only
      go_wp2_with fail
      go_ret
      exact ⟨by simp, HN5.out⟩
    · rw [if_pos hpf]
      have HE : Hid (0 ≤ M.getF q L ∧ M.getF q L ≤ 8) := HPR
      have hne : (M.getF q L == 0) = false := by simpa using hpf
      go_enter Tryz.func34, Tryz.ntmps34
      go_wp2_with fail
      refine (unhide HC).mono ?_
      rintro e w1 ⟨g, c, rfl, hg, hc0, hcs, hb1⟩
      have c1 : w1.cell? ⟨g, 1, none⟩ = some (.string t) := hcs 0 (by simp)
      have HB1 := hide hb1
      have hgl := World.block_lt_of_cell? _ _ hc0
      have HC0 := hide hc0
      clear hb1 hcs
      dsimp only
      go_wp2_with fail
      refine wp_loop_rounds 2 ?_
      rw [rounds_succ]
      go_wp2_with fail
      refine (HR.out _).mono ?_
      rintro e w2 ⟨⟨v2, rfl, ho2⟩, hb2⟩
      obtain ⟨a2, c2, rfl⟩ := ho2.shape
      have HO2 := hide ho2
      have HB2 := hide hb2
      have hq5 := (likeF_len HLK.out).2
      have HNEW : Hid (∀ j u, [Value.slice a2 q.length c2][j]? = some u → (w2.alloc (.cells #[.slice a2 q.length c2] 32)).cell? ((⟨w2.heap.size, 0, none⟩ : Addr).add j) = some u) := hide (World.news_of_block (heap_alloc_new w2 _))
      clear ho2 hb2
      dsimp only
      go_wp2_with (at_builtin; (refine wpList_append_own _ rfl (.tmp 123) (.tmp 125) 76 rfl w2.heap.size 32 i0 (.slice none 0 0) 1 24 Tryz.underlying76 HI.out.1 HI.out.2.1 HI.out.2.2.1 HI.out.2.2.2 rfl (by decide) (.slice none 0 0) 0 [] rfl (World.ownsRow_nil _ _ _ _) ⟨w2.heap.size, 0, none⟩ 1 1 [.slice a2 q.length c2] rfl rfl HNEW.out (by simp [Value.oneCell']) (by unfold maxLen; omega) (by omega) (by simp) ?_))
      intro v3 w3 hown3 hgrow3 _
      have HB3 : Hid (Below w2.heap.size w2 w3) := hide (((Below.refl _ _).alloc (Nat.le_refl _) _).grown hgrow3 (by simp) (fun k hk => by cases hk))
      have hown3 : w3.ownsRow w2.heap.size 32 1 v3 1 [.slice a2 q.length c2] := hown3
      obtain ⟨g3, c3, hf3, hg3, hl3⟩ := hown3.form (by decide)
      subst hf3
      have z1 : w3.cell? ⟨g3, 0, none⟩ = some (.slice a2 q.length c2) := by rw [hown3.cellAt 0 (by decide)]; rfl
      have HZ1 := hide z1
      have HBW := hide (HB1.out.trans ((HB2.out.trans (HB3.out.mono HB2.out.size)).mono HB1.out.size))
      have z0 : w3.cell? ⟨g, 0, none⟩ = some (.string ⟨#[114, 101, 97, 100]⟩) := ((HB2.out.trans (HB3.out.mono HB2.out.size)).cell (p := ⟨g, 0, none⟩) hgl).trans HC0.out
      have HZ0 := hide z0
      have HO3 : Hid (OwnT base w3 (.slice a2 q.length c2) q) := hide ((HO2.out.solid (Solid.below HB3.out)).mono (Nat.le_trans HRM.out HB1.out.size))
      have hgl3 := World.block_lt_of_cell? _ _ z0
      have HGH : Hid (w.heap.size ≤ g3) := hide (Nat.le_trans HB1.out.size (Nat.le_trans HB2.out.size hg3))
      have HZS := hide (Zs.stays HZ.out HBW.out)
      clear hown3 hgrow3 hc0 c1 hg3
      go_wp2_with fail
      rw [rounds_succ]
      have HP := hide fun wx (hb : Below w3.heap.size w3 wx) => yget0 (HZS.out.stays hb) HF.out (HO3.out.solid (Solid.below hb))
      have HNM := hide fun wx => rname (M.getF q L) wx HE.out.1 HE.out.2
      clear hpf
      go_wp2_with fail
      go_region_held3 (fun w' => w'.cell? ⟨g3, 0, none⟩ = some (.slice a2 q.length c2) ∧ w'.cell? ⟨g, 0, none⟩ = some (.string ⟨#[114, 101, 97, 100]⟩)) (first | go_keep | assumption)
        (first
          | (go_at_call 49; refine (HP.out _ (Below.refl _ _).drew).mono ?_; rintro e w4 ⟨r, rfl, hr4, hn4⟩; have HN4 := hide (ThenZ.after HBW.out.drew hn4); have y1 := HZ.out.high HBW.out.drew HGH.out HZ1.out hn4; have y0 := HZ.out.high HBW.out.drew hg HZ0.out hn4; clear hr4 hn4))
      go_wp2_with fail
      refine (HNM.out _).mono ?_
      rintro e w5 ⟨rfl, hb5⟩
      have HN5 := hide (HN4.out.then hb5)
      clear hb5
      dsimp only
      go_wp2_with fail
      go_ret
      exact ⟨rfl, HN5.out⟩
  · rw [M.one1_bad he]
    have hne : (M.readE t.data.toList == 0) = false := by simpa using he
    generalize M.readE t.data.toList = E at *
    clear he
    go_enter Tryz.func34, Tryz.ntmps34
    go_wp2_with fail
    refine (unhide HC).mono ?_
    rintro e w1 ⟨g, c, rfl, hg, hc0, hcs, hb1⟩
    have c1 : w1.cell? ⟨g, 1, none⟩ = some (.string t) := hcs 0 (by simp)
    have HB1 := hide hb1
    clear hb1 hcs
    dsimp only
    go_wp2_with fail
    refine wp_loop_rounds 1 ?_
    rw [rounds_succ]
    go_wp2_with fail
    refine (HR.out _).mono ?_
    rintro e w2 ⟨⟨v2, rfl, ho2⟩, hb2⟩
    have HB2 := hide (HB1.out.trans (hb2.mono HB1.out.size))
    clear ho2 hb2
    dsimp only
    go_wp2_with fail
    go_ret
    exact ⟨rfl, ThenZ.still HZ.out HB2.out⟩

set_option maxRecDepth 100000 in
set_option maxHeartbeats 4000000 in
theorem docTake (hs : s.size ≤ 3000) (hp : pieces s = bTake :: [t]) (hz : Zs base w R u L) (hL : M.Fine L) :
    Calls Tryz.prog 34 #[.pointer (some ⟨R, 0, none⟩), .string s] w fun e w' => e = .returned (.string ⟨(M.one1 L M.wTake t.data.toList).1.toArray⟩) ∧ ThenZ base w w' R u (M.one1 L M.wTake t.data.toList).2 := by
  have HC := hide (docWords (w := w) hs hp)
  have hts := docSizes hs hp t (by simp)
  have HR : Hid (∀ wx, Calls Tryz.prog 75 #[.string t] wx fun e w' => (∃ v, e = .returned (.tuple #[v, .int .i64 (M.readE t.data.toList)]) ∧ OwnT wx.heap.size w' v (M.readV t.data.toList)) ∧ Below wx.heap.size wx w') := hide fun wx => (rreadO t wx (by omega)).mono fun e w' ⟨⟨v, h1, h2, h3⟩, h4⟩ => ⟨⟨v, h1, h2, h3⟩, h4⟩
  have HZ := hide hz
  have HF := hide hL
  have HRM := hide hz.room
  obtain ⟨i0, hi, hz0, hz1, hz2⟩ := info_parts infoT
  have HI := hide (And.intro hi (And.intro hz0 (And.intro hz1 hz2)))
  simp only [List.length_cons, List.length_nil, Nat.zero_add] at HC
  unfold bTake at HC
  clear hi hz0 hz1 hz2 hz hL hs hp hts
  by_cases he : M.readE t.data.toList = 0
  · have HLK := hide (M.read_like he)
    rw [M.one1_take he]
    rw [he] at HR
    generalize M.readV t.data.toList = q at *
    clear he
    have HPR := hide (M.getF_range q L)
    by_cases hpf : M.getF q L = 0
    · rw [if_neg (by simpa using hpf)]
      have HGL := hide (M.getV_like HF.out hpf)
      go_enter Tryz.func34, Tryz.ntmps34
      go_wp2_with fail
      refine (unhide HC).mono ?_
      rintro e w1 ⟨g, c, rfl, hg, hc0, hcs, hb1⟩
      have c1 : w1.cell? ⟨g, 1, none⟩ = some (.string t) := hcs 0 (by simp)
      have HB1 := hide hb1
      have hgl := World.block_lt_of_cell? _ _ hc0
      have HC0 := hide hc0
      clear hb1 hcs
      dsimp only
      go_wp2_with fail
      refine wp_loop_rounds 2 ?_
      rw [rounds_succ]
      go_wp2_with fail
      refine (HR.out _).mono ?_
      rintro e w2 ⟨⟨v2, rfl, ho2⟩, hb2⟩
      obtain ⟨a2, c2, rfl⟩ := ho2.shape
      have HO2 := hide ho2
      have HB2 := hide hb2
      have hq5 := (likeF_len HLK.out).2
      have HNEW : Hid (∀ j u, [Value.slice a2 q.length c2][j]? = some u → (w2.alloc (.cells #[.slice a2 q.length c2] 32)).cell? ((⟨w2.heap.size, 0, none⟩ : Addr).add j) = some u) := hide (World.news_of_block (heap_alloc_new w2 _))
      clear ho2 hb2
      dsimp only
      go_wp2_with (at_builtin; (refine wpList_append_own _ rfl (.tmp 123) (.tmp 125) 76 rfl w2.heap.size 32 i0 (.slice none 0 0) 1 24 Tryz.underlying76 HI.out.1 HI.out.2.1 HI.out.2.2.1 HI.out.2.2.2 rfl (by decide) (.slice none 0 0) 0 [] rfl (World.ownsRow_nil _ _ _ _) ⟨w2.heap.size, 0, none⟩ 1 1 [.slice a2 q.length c2] rfl rfl HNEW.out (by simp [Value.oneCell']) (by unfold maxLen; omega) (by omega) (by simp) ?_))
      intro v3 w3 hown3 hgrow3 _
      have HB3 : Hid (Below w2.heap.size w2 w3) := hide (((Below.refl _ _).alloc (Nat.le_refl _) _).grown hgrow3 (by simp) (fun k hk => by cases hk))
      have hown3 : w3.ownsRow w2.heap.size 32 1 v3 1 [.slice a2 q.length c2] := hown3
      obtain ⟨g3, c3, hf3, hg3, hl3⟩ := hown3.form (by decide)
      subst hf3
      have z1 : w3.cell? ⟨g3, 0, none⟩ = some (.slice a2 q.length c2) := by rw [hown3.cellAt 0 (by decide)]; rfl
      have HZ1 := hide z1
      have HBW := hide (HB1.out.trans ((HB2.out.trans (HB3.out.mono HB2.out.size)).mono HB1.out.size))
      have z0 : w3.cell? ⟨g, 0, none⟩ = some (.string ⟨#[116, 97, 107, 101]⟩) := ((HB2.out.trans (HB3.out.mono HB2.out.size)).cell (p := ⟨g, 0, none⟩) hgl).trans HC0.out
      have HZ0 := hide z0
      have HO3 : Hid (OwnT base w3 (.slice a2 q.length c2) q) := hide ((HO2.out.solid (Solid.below HB3.out)).mono (Nat.le_trans HRM.out HB1.out.size))
      have hgl3 := World.block_lt_of_cell? _ _ z0
      have HGH : Hid (w.heap.size ≤ g3) := hide (Nat.le_trans HB1.out.size (Nat.le_trans HB2.out.size hg3))
      have HZS := hide (Zs.stays HZ.out HBW.out)
      clear hown3 hgrow3 hc0 c1 hg3
      go_wp2_with fail
      rw [rounds_succ]
      have HP := hide fun wx (hb : Below w3.heap.size w3 wx) => yget1 (HZS.out.stays hb) HF.out (HO3.out.solid (Solid.below hb))
      rw [hpf] at HP
      clear hpf
      go_wp2_with fail
      go_region_held3 (fun w' => w'.cell? ⟨g3, 0, none⟩ = some (.slice a2 q.length c2) ∧ w'.cell? ⟨g, 0, none⟩ = some (.string ⟨#[116, 97, 107, 101]⟩)) (first | go_keep | assumption)
        (first
          | (go_at_call 49; refine (HP.out _ (Below.refl _ _).drew).mono ?_; rintro e w4 ⟨r, rfl, hr4, hn4⟩; have HN4 := hide (ThenZ.after HBW.out.drew hn4); have HR4 := hide hr4; have y1 := HZ.out.high HBW.out.drew HGH.out HZ1.out hn4; have y0 := HZ.out.high HBW.out.drew hg HZ0.out hn4; clear hr4 hn4))
      go_wp2_with fail
      refine (rline r (M.getV q L) w4 (HR4.out trivial) HGL.out).mono ?_
      rintro e w5 ⟨rfl, hb5⟩
      have HN5 := hide (HN4.out.then hb5)
      clear hb5
      dsimp only
      go_wp2_with fail
      go_ret
      exact ⟨by simp, HN5.out⟩
    · rw [if_pos hpf]
      have HE : Hid (0 ≤ M.getF q L ∧ M.getF q L ≤ 8) := HPR
      have hne : (M.getF q L == 0) = false := by simpa using hpf
      go_enter Tryz.func34, Tryz.ntmps34
      go_wp2_with fail
      refine (unhide HC).mono ?_
      rintro e w1 ⟨g, c, rfl, hg, hc0, hcs, hb1⟩
      have c1 : w1.cell? ⟨g, 1, none⟩ = some (.string t) := hcs 0 (by simp)
      have HB1 := hide hb1
      have hgl := World.block_lt_of_cell? _ _ hc0
      have HC0 := hide hc0
      clear hb1 hcs
      dsimp only
      go_wp2_with fail
      refine wp_loop_rounds 2 ?_
      rw [rounds_succ]
      go_wp2_with fail
      refine (HR.out _).mono ?_
      rintro e w2 ⟨⟨v2, rfl, ho2⟩, hb2⟩
      obtain ⟨a2, c2, rfl⟩ := ho2.shape
      have HO2 := hide ho2
      have HB2 := hide hb2
      have hq5 := (likeF_len HLK.out).2
      have HNEW : Hid (∀ j u, [Value.slice a2 q.length c2][j]? = some u → (w2.alloc (.cells #[.slice a2 q.length c2] 32)).cell? ((⟨w2.heap.size, 0, none⟩ : Addr).add j) = some u) := hide (World.news_of_block (heap_alloc_new w2 _))
      clear ho2 hb2
      dsimp only
      go_wp2_with (at_builtin; (refine wpList_append_own _ rfl (.tmp 123) (.tmp 125) 76 rfl w2.heap.size 32 i0 (.slice none 0 0) 1 24 Tryz.underlying76 HI.out.1 HI.out.2.1 HI.out.2.2.1 HI.out.2.2.2 rfl (by decide) (.slice none 0 0) 0 [] rfl (World.ownsRow_nil _ _ _ _) ⟨w2.heap.size, 0, none⟩ 1 1 [.slice a2 q.length c2] rfl rfl HNEW.out (by simp [Value.oneCell']) (by unfold maxLen; omega) (by omega) (by simp) ?_))
      intro v3 w3 hown3 hgrow3 _
      have HB3 : Hid (Below w2.heap.size w2 w3) := hide (((Below.refl _ _).alloc (Nat.le_refl _) _).grown hgrow3 (by simp) (fun k hk => by cases hk))
      have hown3 : w3.ownsRow w2.heap.size 32 1 v3 1 [.slice a2 q.length c2] := hown3
      obtain ⟨g3, c3, hf3, hg3, hl3⟩ := hown3.form (by decide)
      subst hf3
      have z1 : w3.cell? ⟨g3, 0, none⟩ = some (.slice a2 q.length c2) := by rw [hown3.cellAt 0 (by decide)]; rfl
      have HZ1 := hide z1
      have HBW := hide (HB1.out.trans ((HB2.out.trans (HB3.out.mono HB2.out.size)).mono HB1.out.size))
      have z0 : w3.cell? ⟨g, 0, none⟩ = some (.string ⟨#[116, 97, 107, 101]⟩) := ((HB2.out.trans (HB3.out.mono HB2.out.size)).cell (p := ⟨g, 0, none⟩) hgl).trans HC0.out
      have HZ0 := hide z0
      have HO3 : Hid (OwnT base w3 (.slice a2 q.length c2) q) := hide ((HO2.out.solid (Solid.below HB3.out)).mono (Nat.le_trans HRM.out HB1.out.size))
      have hgl3 := World.block_lt_of_cell? _ _ z0
      have HGH : Hid (w.heap.size ≤ g3) := hide (Nat.le_trans HB1.out.size (Nat.le_trans HB2.out.size hg3))
      have HZS := hide (Zs.stays HZ.out HBW.out)
      clear hown3 hgrow3 hc0 c1 hg3
      go_wp2_with fail
      rw [rounds_succ]
      have HP := hide fun wx (hb : Below w3.heap.size w3 wx) => yget1 (HZS.out.stays hb) HF.out (HO3.out.solid (Solid.below hb))
      have HNM := hide fun wx => rname (M.getF q L) wx HE.out.1 HE.out.2
      clear hpf
      go_wp2_with fail
      go_region_held3 (fun w' => w'.cell? ⟨g3, 0, none⟩ = some (.slice a2 q.length c2) ∧ w'.cell? ⟨g, 0, none⟩ = some (.string ⟨#[116, 97, 107, 101]⟩)) (first | go_keep | assumption)
        (first
          | (go_at_call 49; refine (HP.out _ (Below.refl _ _).drew).mono ?_; rintro e w4 ⟨r, rfl, hr4, hn4⟩; have HN4 := hide (ThenZ.after HBW.out.drew hn4); have y1 := HZ.out.high HBW.out.drew HGH.out HZ1.out hn4; have y0 := HZ.out.high HBW.out.drew hg HZ0.out hn4; clear hr4 hn4))
      go_wp2_with fail
      refine (HNM.out _).mono ?_
      rintro e w5 ⟨rfl, hb5⟩
      have HN5 := hide (HN4.out.then hb5)
      clear hb5
      dsimp only
      go_wp2_with fail
      go_ret
      exact ⟨rfl, HN5.out⟩
  · rw [M.one1_bad he]
    have hne : (M.readE t.data.toList == 0) = false := by simpa using he
    generalize M.readE t.data.toList = E at *
    clear he
    go_enter Tryz.func34, Tryz.ntmps34
    go_wp2_with fail
    refine (unhide HC).mono ?_
    rintro e w1 ⟨g, c, rfl, hg, hc0, hcs, hb1⟩
    have c1 : w1.cell? ⟨g, 1, none⟩ = some (.string t) := hcs 0 (by simp)
    have HB1 := hide hb1
    clear hb1 hcs
    dsimp only
    go_wp2_with fail
    refine wp_loop_rounds 1 ?_
    rw [rounds_succ]
    go_wp2_with fail
    refine (HR.out _).mono ?_
    rintro e w2 ⟨⟨v2, rfl, ho2⟩, hb2⟩
    have HB2 := hide (HB1.out.trans (hb2.mono HB1.out.size))
    clear ho2 hb2
    dsimp only
    go_wp2_with fail
    go_ret
    exact ⟨rfl, ThenZ.still HZ.out HB2.out⟩

set_option maxRecDepth 100000 in
set_option maxHeartbeats 4000000 in
theorem docCount (hs : s.size ≤ 3000) (hp : pieces s = bCount :: [t]) (hz : Zs base w R u L) (hL : M.Fine L) :
    Calls Tryz.prog 34 #[.pointer (some ⟨R, 0, none⟩), .string s] w fun e w' => e = .returned (.string ⟨(M.one1 L M.wCount t.data.toList).1.toArray⟩) ∧ ThenZ base w w' R u (M.one1 L M.wCount t.data.toList).2 := by
  have HC := hide (docWords (w := w) hs hp)
  have hts := docSizes hs hp t (by simp)
  have HR : Hid (∀ wx, Calls Tryz.prog 75 #[.string t] wx fun e w' => (∃ v, e = .returned (.tuple #[v, .int .i64 (M.readE t.data.toList)]) ∧ OwnT wx.heap.size w' v (M.readV t.data.toList)) ∧ Below wx.heap.size wx w') := hide fun wx => (rreadO t wx (by omega)).mono fun e w' ⟨⟨v, h1, h2, h3⟩, h4⟩ => ⟨⟨v, h1, h2, h3⟩, h4⟩
  have HZ := hide hz
  have HF := hide hL
  have HRM := hide hz.room
  obtain ⟨i0, hi, hz0, hz1, hz2⟩ := info_parts infoT
  have HI := hide (And.intro hi (And.intro hz0 (And.intro hz1 hz2)))
  simp only [List.length_cons, List.length_nil, Nat.zero_add] at HC
  unfold bCount at HC
  clear hi hz0 hz1 hz2 hz hL hs hp hts
  by_cases he : M.readE t.data.toList = 0
  · have HLK := hide (M.read_like he)
    rw [M.one1_count he]
    rw [he] at HR
    generalize M.readV t.data.toList = q at *
    clear he
    go_enter Tryz.func34, Tryz.ntmps34
    go_wp2_with fail
    refine (unhide HC).mono ?_
    rintro e w1 ⟨g, c, rfl, hg, hc0, hcs, hb1⟩
    have c1 : w1.cell? ⟨g, 1, none⟩ = some (.string t) := hcs 0 (by simp)
    have HB1 := hide hb1
    have hgl := World.block_lt_of_cell? _ _ hc0
    have HC0 := hide hc0
    clear hb1 hcs
    dsimp only
    go_wp2_with fail
    refine wp_loop_rounds 2 ?_
    rw [rounds_succ]
    go_wp2_with fail
    refine (HR.out _).mono ?_
    rintro e w2 ⟨⟨v2, rfl, ho2⟩, hb2⟩
    obtain ⟨a2, c2, rfl⟩ := ho2.shape
    have HO2 := hide ho2
    have HB2 := hide hb2
    have hq5 := (likeF_len HLK.out).2
    have HNEW : Hid (∀ j u, [Value.slice a2 q.length c2][j]? = some u → (w2.alloc (.cells #[.slice a2 q.length c2] 32)).cell? ((⟨w2.heap.size, 0, none⟩ : Addr).add j) = some u) := hide (World.news_of_block (heap_alloc_new w2 _))
    clear ho2 hb2
    dsimp only
    go_wp2_with (at_builtin; (refine wpList_append_own _ rfl (.tmp 123) (.tmp 125) 76 rfl w2.heap.size 32 i0 (.slice none 0 0) 1 24 Tryz.underlying76 HI.out.1 HI.out.2.1 HI.out.2.2.1 HI.out.2.2.2 rfl (by decide) (.slice none 0 0) 0 [] rfl (World.ownsRow_nil _ _ _ _) ⟨w2.heap.size, 0, none⟩ 1 1 [.slice a2 q.length c2] rfl rfl HNEW.out (by simp [Value.oneCell']) (by unfold maxLen; omega) (by omega) (by simp) ?_))
    intro v3 w3 hown3 hgrow3 _
    have HB3 : Hid (Below w2.heap.size w2 w3) := hide (((Below.refl _ _).alloc (Nat.le_refl _) _).grown hgrow3 (by simp) (fun k hk => by cases hk))
    have hown3 : w3.ownsRow w2.heap.size 32 1 v3 1 [.slice a2 q.length c2] := hown3
    obtain ⟨g3, c3, hf3, hg3, hl3⟩ := hown3.form (by decide)
    subst hf3
    have z1 : w3.cell? ⟨g3, 0, none⟩ = some (.slice a2 q.length c2) := by rw [hown3.cellAt 0 (by decide)]; rfl
    have HZ1 := hide z1
    have HBW := hide (HB1.out.trans ((HB2.out.trans (HB3.out.mono HB2.out.size)).mono HB1.out.size))
    have z0 : w3.cell? ⟨g, 0, none⟩ = some (.string ⟨#[99, 111, 117, 110, 116]⟩) := ((HB2.out.trans (HB3.out.mono HB2.out.size)).cell (p := ⟨g, 0, none⟩) hgl).trans HC0.out
    have HZ0 := hide z0
    have HO3 : Hid (OwnT base w3 (.slice a2 q.length c2) q) := hide ((HO2.out.solid (Solid.below HB3.out)).mono (Nat.le_trans HRM.out HB1.out.size))
    have hgl3 := World.block_lt_of_cell? _ _ z0
    have HGH : Hid (w.heap.size ≤ g3) := hide (Nat.le_trans HB1.out.size (Nat.le_trans HB2.out.size hg3))
    have HZS := hide (Zs.stays HZ.out HBW.out)
    clear hown3 hgrow3 hc0 c1 hg3
    go_wp2_with fail
    rw [rounds_succ]
    have HP := hide (ycount HZS.out HF.out HO3.out HLK.out)
    have hm := many_le q L
    have hm20 := HF.out.2
    go_wp2_with fail
    refine (unhide HP).mono ?_
    rintro e w4 ⟨rfl, hb4⟩
    have HN4 := hide (ThenZ.still HZ.out (HBW.out.trans (hb4.mono HBW.out.size)))
    have HDG := hide (digits (M.many q L) (M.many q L : Int) w4 (by omega) (by omega) (by omega))
    rw [Int.toNat_natCast] at HDG
    clear hb4
    dsimp only
    go_wp2_with fail
    refine (unhide HDG).mono ?_
    rintro e w5 ⟨rfl, rfl⟩
    dsimp only
    go_wp2_with fail
    go_ret
    exact ⟨rfl, HN4.out⟩
  · rw [M.one1_bad he]
    have hne : (M.readE t.data.toList == 0) = false := by simpa using he
    generalize M.readE t.data.toList = E at *
    clear he
    go_enter Tryz.func34, Tryz.ntmps34
    go_wp2_with fail
    refine (unhide HC).mono ?_
    rintro e w1 ⟨g, c, rfl, hg, hc0, hcs, hb1⟩
    have c1 : w1.cell? ⟨g, 1, none⟩ = some (.string t) := hcs 0 (by simp)
    have HB1 := hide hb1
    clear hb1 hcs
    dsimp only
    go_wp2_with fail
    refine wp_loop_rounds 1 ?_
    rw [rounds_succ]
    go_wp2_with fail
    refine (HR.out _).mono ?_
    rintro e w2 ⟨⟨v2, rfl, ho2⟩, hb2⟩
    have HB2 := hide (HB1.out.trans (hb2.mono HB1.out.size))
    clear ho2 hb2
    dsimp only
    go_wp2_with fail
    go_ret
    exact ⟨rfl, ThenZ.still HZ.out HB2.out⟩

set_option maxRecDepth 100000 in
set_option maxHeartbeats 4000000 in
theorem docPrint (hs : s.size ≤ 3000) (hp : pieces s = bPrint :: [t]) (hz : Zs base w R u L) (hL : M.Fine L) :
    Calls Tryz.prog 34 #[.pointer (some ⟨R, 0, none⟩), .string s] w fun e w' => e = .returned (.string ⟨(M.one1 L M.wPrint t.data.toList).1.toArray⟩) ∧ ThenZ base w w' R u (M.one1 L M.wPrint t.data.toList).2 := by
  have HC := hide (docWords (w := w) hs hp)
  have hts := docSizes hs hp t (by simp)
  have HR : Hid (∀ wx, Calls Tryz.prog 75 #[.string t] wx fun e w' => (∃ v, e = .returned (.tuple #[v, .int .i64 (M.readE t.data.toList)]) ∧ OwnT wx.heap.size w' v (M.readV t.data.toList)) ∧ Below wx.heap.size wx w') := hide fun wx => (rreadO t wx (by omega)).mono fun e w' ⟨⟨v, h1, h2, h3⟩, h4⟩ => ⟨⟨v, h1, h2, h3⟩, h4⟩
  have HZ := hide hz
  have HF := hide hL
  have HRM := hide hz.room
  obtain ⟨i0, hi, hz0, hz1, hz2⟩ := info_parts infoT
  have HI := hide (And.intro hi (And.intro hz0 (And.intro hz1 hz2)))
  simp only [List.length_cons, List.length_nil, Nat.zero_add] at HC
  unfold bPrint at HC
  clear hi hz0 hz1 hz2 hz hL hs hp hts
  by_cases he : M.readE t.data.toList = 0
  · have HLK := hide (M.read_like he)
    rw [M.one1_print he]
    rw [he] at HR
    generalize M.readV t.data.toList = q at *
    clear he
    go_enter Tryz.func34, Tryz.ntmps34
    go_wp2_with fail
    refine (unhide HC).mono ?_
    rintro e w1 ⟨g, c, rfl, hg, hc0, hcs, hb1⟩
    have c1 : w1.cell? ⟨g, 1, none⟩ = some (.string t) := hcs 0 (by simp)
    have HB1 := hide hb1
    have hgl := World.block_lt_of_cell? _ _ hc0
    have HC0 := hide hc0
    clear hb1 hcs
    dsimp only
    go_wp2_with fail
    refine wp_loop_rounds 2 ?_
    rw [rounds_succ]
    go_wp2_with fail
    refine (HR.out _).mono ?_
    rintro e w2 ⟨⟨v2, rfl, ho2⟩, hb2⟩
    obtain ⟨a2, c2, rfl⟩ := ho2.shape
    have HO2 := hide ho2
    have HB2 := hide hb2
    have hq5 := (likeF_len HLK.out).2
    have HNEW : Hid (∀ j u, [Value.slice a2 q.length c2][j]? = some u → (w2.alloc (.cells #[.slice a2 q.length c2] 32)).cell? ((⟨w2.heap.size, 0, none⟩ : Addr).add j) = some u) := hide (World.news_of_block (heap_alloc_new w2 _))
    clear ho2 hb2
    dsimp only
    go_wp2_with (at_builtin; (refine wpList_append_own _ rfl (.tmp 123) (.tmp 125) 76 rfl w2.heap.size 32 i0 (.slice none 0 0) 1 24 Tryz.underlying76 HI.out.1 HI.out.2.1 HI.out.2.2.1 HI.out.2.2.2 rfl (by decide) (.slice none 0 0) 0 [] rfl (World.ownsRow_nil _ _ _ _) ⟨w2.heap.size, 0, none⟩ 1 1 [.slice a2 q.length c2] rfl rfl HNEW.out (by simp [Value.oneCell']) (by unfold maxLen; omega) (by omega) (by simp) ?_))
    intro v3 w3 hown3 hgrow3 _
    have HB3 : Hid (Below w2.heap.size w2 w3) := hide (((Below.refl _ _).alloc (Nat.le_refl _) _).grown hgrow3 (by simp) (fun k hk => by cases hk))
    have hown3 : w3.ownsRow w2.heap.size 32 1 v3 1 [.slice a2 q.length c2] := hown3
    obtain ⟨g3, c3, hf3, hg3, hl3⟩ := hown3.form (by decide)
    subst hf3
    have z1 : w3.cell? ⟨g3, 0, none⟩ = some (.slice a2 q.length c2) := by rw [hown3.cellAt 0 (by decide)]; rfl
    have HZ1 := hide z1
    have HBW := hide (HB1.out.trans ((HB2.out.trans (HB3.out.mono HB2.out.size)).mono HB1.out.size))
    have z0 : w3.cell? ⟨g, 0, none⟩ = some (.string ⟨#[112, 114, 105, 110, 116]⟩) := ((HB2.out.trans (HB3.out.mono HB2.out.size)).cell (p := ⟨g, 0, none⟩) hgl).trans HC0.out
    have HZ0 := hide z0
    have HO3 : Hid (OwnT base w3 (.slice a2 q.length c2) q) := hide ((HO2.out.solid (Solid.below HB3.out)).mono (Nat.le_trans HRM.out HB1.out.size))
    have hgl3 := World.block_lt_of_cell? _ _ z0
    have HGH : Hid (w.heap.size ≤ g3) := hide (Nat.le_trans HB1.out.size (Nat.le_trans HB2.out.size hg3))
    have HZS := hide (Zs.stays HZ.out HBW.out)
    clear hown3 hgrow3 hc0 c1 hg3
    go_wp2_with fail
    rw [rounds_succ]
    have HLN := hide (rline _ q w3 HO3.out.vals HLK.out)
    have hh := M.hash_range (M.line q)
    have hl70 := line_le HLK.out
    go_wp2_with fail
    refine (unhide HLN).mono ?_
    rintro e w4 ⟨rfl, hb4⟩
    have HN4 := hide (ThenZ.still HZ.out (HBW.out.trans (hb4.mono HBW.out.size)))
    have HH := hide (refHash (M.line q) w4 (by unfold maxLen; omega))
    have HDG := hide (digits (M.hash (M.line q)).toNat (M.hash (M.line q)) w4 rfl (by omega) (by omega))
    clear hb4
    dsimp only
    go_wp2_with fail
    refine (unhide HH).mono ?_
    rintro e w5 ⟨rfl, rfl⟩
    dsimp only
    go_wp2_with fail
    refine (unhide HDG).mono ?_
    rintro e w6 ⟨rfl, rfl⟩
    dsimp only
    go_wp2_with fail
    go_ret
    exact ⟨rfl, HN4.out⟩
  · rw [M.one1_bad he]
    have hne : (M.readE t.data.toList == 0) = false := by simpa using he
    generalize M.readE t.data.toList = E at *
    clear he
    go_enter Tryz.func34, Tryz.ntmps34
    go_wp2_with fail
    refine (unhide HC).mono ?_
    rintro e w1 ⟨g, c, rfl, hg, hc0, hcs, hb1⟩
    have c1 : w1.cell? ⟨g, 1, none⟩ = some (.string t) := hcs 0 (by simp)
    have HB1 := hide hb1
    clear hb1 hcs
    dsimp only
    go_wp2_with fail
    refine wp_loop_rounds 1 ?_
    rw [rounds_succ]
    go_wp2_with fail
    refine (HR.out _).mono ?_
    rintro e w2 ⟨⟨v2, rfl, ho2⟩, hb2⟩
    have HB2 := hide (HB1.out.trans (hb2.mono HB1.out.size))
    clear ho2 hb2
    dsimp only
    go_wp2_with fail
    go_ret
    exact ⟨rfl, ThenZ.still HZ.out HB2.out⟩

end
end Go.Proofs.YtlefhfmckimlaakGreatDoor

set_option linter.unusedVariables false
namespace Go.Proofs.YtlefhfmckimlaakGreatDoor
open Go.RowKit

section
variable {base R : Nat} {s t1 t2 : ByteArray} {u : Value} {L : List (List M.Val)} {w : World}
set_option maxRecDepth 100000 in
set_option maxHeartbeats 8000000 in
theorem docOnce (hs : s.size ≤ 3000) (hp : pieces s = bOnce :: [t1, t2]) (hz : Zs base w R u L) (hL : M.Fine L) :
    Calls Tryz.prog 34 #[.pointer (some ⟨R, 0, none⟩), .string s] w fun e w' => e = .returned (.string ⟨(M.two1 L t1.data.toList t2.data.toList).1.toArray⟩) ∧ ThenZ base w w' R u (M.two1 L t1.data.toList t2.data.toList).2 := by
  have HC := hide (docWords (w := w) hs hp)
  have hts1 := docSizes hs hp t1 (by simp)
  have hts2 := docSizes hs hp t2 (by simp)
  have HR1 : Hid (∀ wx, Calls Tryz.prog 75 #[.string t1] wx fun e w' => (∃ v, e = .returned (.tuple #[v, .int .i64 (M.readE t1.data.toList)]) ∧ OwnT wx.heap.size w' v (M.readV t1.data.toList)) ∧ Below wx.heap.size wx w') := hide fun wx => (rreadO t1 wx (by omega)).mono fun e w' ⟨⟨v, h1, h2, h3⟩, h4⟩ => ⟨⟨v, h1, h2, h3⟩, h4⟩
  have HR2 : Hid (∀ wx, Calls Tryz.prog 75 #[.string t2] wx fun e w' => (∃ v, e = .returned (.tuple #[v, .int .i64 (M.readE t2.data.toList)]) ∧ OwnT wx.heap.size w' v (M.readV t2.data.toList)) ∧ Below wx.heap.size wx w') := hide fun wx => (rreadO t2 wx (by omega)).mono fun e w' ⟨⟨v, h1, h2, h3⟩, h4⟩ => ⟨⟨v, h1, h2, h3⟩, h4⟩
  have HZ := hide hz
  have HF := hide hL
  have HRM := hide hz.room
  obtain ⟨i0, hi, hz0, hz1, hz2⟩ := info_parts infoT
  have HI := hide (And.intro hi (And.intro hz0 (And.intro hz1 hz2)))
  simp only [List.length_cons, List.length_nil, Nat.zero_add] at HC
  unfold bOnce at HC
  clear hi hz0 hz1 hz2 hz hL hs hp hts1 hts2
  by_cases he1 : M.readE t1.data.toList = 0
  · rw [he1] at HR1
    by_cases he2 : M.readE t2.data.toList = 0
    · rw [he2] at HR2
      have e1 : M.two1 L t1.data.toList t2.data.toList = M.onceR L (M.readV t1.data.toList) (M.readV t2.data.toList) := if_neg (by simp [he1, he2])
      rw [e1]
      have HLK := hide (M.read_like he1)
      have HLK2 := hide (M.read_like he2)
      generalize M.readV t1.data.toList = q1 at *
      generalize M.readV t2.data.toList = q2 at *
      unfold M.onceR
      clear he1 he2 e1
      by_cases hk : M.tupF q2 = 0
      · rw [if_neg (by simpa using hk)]
        by_cases hm : M.many q1 L = 0
        · rw [if_neg (by omega)]
          have hm2 : ¬ (0 : Int) < (M.many q1 L : Int) := by omega
          by_cases hpf : M.putF L q2 = 0
          · rw [if_neg (by simpa using hpf)]
            go_enter Tryz.func34, Tryz.ntmps34
            go_wp2_with fail
            refine (unhide HC).mono ?_
            rintro e w1 ⟨g, c, rfl, hg, hc0, hcs, hb1⟩
            have c1 : w1.cell? ⟨g, 1, none⟩ = some (.string t1) := hcs 0 (by simp)
            have c2' : w1.cell? ⟨g, 2, none⟩ = some (.string t2) := hcs 1 (by simp)
            have HB1 := hide hb1
            have hgl := World.block_lt_of_cell? _ _ hc0
            have HC0 := hide hc0
            have HC2 := hide c2'
            clear hb1 hcs
            dsimp only
            go_wp2_with fail
            refine wp_loop_rounds 3 ?_
            rw [rounds_succ]
            go_wp2_with fail
            refine (HR1.out _).mono ?_
            rintro e w2 ⟨⟨v2, rfl, ho2⟩, hb2⟩
            obtain ⟨a2, c2, rfl⟩ := ho2.shape
            have HO2 := hide ho2
            have HB2 := hide hb2
            have HNEW : Hid (∀ j u, [Value.slice a2 q1.length c2][j]? = some u → (w2.alloc (.cells #[.slice a2 q1.length c2] 32)).cell? ((⟨w2.heap.size, 0, none⟩ : Addr).add j) = some u) := hide (World.news_of_block (heap_alloc_new w2 _))
            clear ho2 hb2
            dsimp only
            go_wp2_with (at_builtin; (refine wpList_append_own _ rfl (.tmp 123) (.tmp 125) 76 rfl w2.heap.size 32 i0 (.slice none 0 0) 1 24 Tryz.underlying76 HI.out.1 HI.out.2.1 HI.out.2.2.1 HI.out.2.2.2 rfl (by decide) (.slice none 0 0) 0 [] rfl (World.ownsRow_nil _ _ _ _) ⟨w2.heap.size, 0, none⟩ 1 1 [.slice a2 q1.length c2] rfl rfl HNEW.out (by simp [Value.oneCell']) (by unfold maxLen; omega) (by omega) (by simp) ?_))
            intro v3 w3 hown3 hgrow3 _
            have HB3 : Hid (Below w2.heap.size w2 w3) := hide (((Below.refl _ _).alloc (Nat.le_refl _) _).grown hgrow3 (by simp) (fun k hk => by cases hk))
            have hown3 : w3.ownsRow w2.heap.size 32 1 v3 1 [.slice a2 q1.length c2] := hown3
            obtain ⟨g3, c3, hf3, hg3, hl3⟩ := hown3.form (by decide)
            subst hf3
            have HO3 := hide hown3
            have z2 : w3.cell? ⟨g, 2, none⟩ = some (.string t2) := ((HB2.out.trans (HB3.out.mono HB2.out.size)).cell (p := ⟨g, 2, none⟩) hgl).trans HC2.out
            have hgl3 := World.block_lt_of_cell? _ _ z2
            have HB13 := hide (HB2.out.trans (HB3.out.mono HB2.out.size))
            clear hown3 hgrow3 hc0 c1 hg3 c2'
            go_wp2_with fail
            rw [rounds_succ]
            go_wp2_with fail
            refine (HR2.out _).mono ?_
            rintro e w4 ⟨⟨v4, rfl, ho4⟩, hb4⟩
            obtain ⟨a4, c4, rfl⟩ := ho4.shape
            have HO4 := hide ho4
            have HB4 := hide hb4
            have hs23 := HB3.out.size
            have hs34 := hb4.size
            have HROW4 := hide ((owns_below HO3.out hb4).alloc (.cells #[.slice a4 q2.length c4] 32))
            have HNEW2 : Hid (∀ j u, [Value.slice a4 q2.length c4][j]? = some u → (w4.alloc (.cells #[.slice a4 q2.length c4] 32)).cell? ((⟨w4.heap.size, 0, none⟩ : Addr).add j) = some u) := hide (World.news_of_block (heap_alloc_new w4 _))
            clear ho4 hb4
            dsimp only
            go_wp2_with (at_builtin; (refine wpList_append_own _ rfl (.tmp 123) (.tmp 125) 76 rfl w2.heap.size 32 i0 (.slice none 0 0) 1 24 Tryz.underlying76 HI.out.1 HI.out.2.1 HI.out.2.2.1 HI.out.2.2.2 rfl (by decide) (.slice (some ⟨g3, 0, none⟩) 1 c3) 1 [.slice a2 q1.length c2] rfl HROW4.out ⟨w4.heap.size, 0, none⟩ 1 1 [.slice a4 q2.length c4] rfl rfl HNEW2.out (by simp [Value.oneCell']) (by unfold maxLen; omega) (by omega) (by simp; omega) ?_))
            intro v5 w5 hown5 hgrow5 _
            have HB5 : Hid (Below w2.heap.size w4 w5) := hide (((Below.refl _ _).alloc (by omega) _).grown hgrow5 (by simp; omega) (fun k hk => (HROW4.out.lt k hk).1))
            have HSOL : Hid (Solid w4 w5) := hide ((Solid.below ((Below.refl _ _).alloc (Nat.le_refl _) _)).trans (solid_grown HROW4.out hgrow5))
            have hown5 : w5.ownsRow w2.heap.size 32 1 v5 2 [.slice a2 q1.length c2, .slice a4 q2.length c4] := hown5
            obtain ⟨g5, c5, hf5, hg5, hl5⟩ := hown5.form (by decide)
            subst hf5
            have z10 : w5.cell? ⟨g5, 0, none⟩ = some (.slice a2 q1.length c2) := by rw [hown5.cellAt 0 (by decide)]; rfl
            have z11 : w5.cell? ⟨g5, 1, none⟩ = some (.slice a4 q2.length c4) := by rw [hown5.cellAt 1 (by decide)]; rfl
            have hg2 : g < w2.heap.size := Nat.lt_of_lt_of_le hgl HB2.out.size
            have HB15 : Hid (Below w1.heap.size w1 w5) := hide (((HB13.out.trans (HB4.out.mono HB13.out.size))).trans (HB5.out.mono HB2.out.size))
            have HBW := hide (HB1.out.trans (HB15.out.mono HB1.out.size))
            have z0 : w5.cell? ⟨g, 0, none⟩ = some (.string ⟨#[111, 110, 99, 101]⟩) := (HB15.out.cell (p := ⟨g, 0, none⟩) hgl).trans HC0.out
            have HQ1 : Hid (OwnT base w5 (.slice a2 q1.length c2) q1) := hide ((((HO2.out.solid (Solid.below HB3.out)).solid (Solid.below HB4.out)).solid HSOL.out).mono (Nat.le_trans HRM.out HB1.out.size))
            have HQ2 : Hid (OwnT base w5 (.slice a4 q2.length c4) q2) := hide ((HO4.out.solid HSOL.out).mono (Nat.le_trans HRM.out (Nat.le_trans HB1.out.size HB13.out.size)))
            have hgl5 := World.block_lt_of_cell? _ _ z0
            have hgl55 := World.block_lt_of_cell? _ _ z10
            have HZ10 := hide z10
            have HZ11 := hide z11
            have HZS := hide (Zs.stays HZ.out HBW.out)
            have HKT := hide (rtuple _ q2 w5 HQ2.out.vals)
            clear hown5 hgrow5 hg5
            go_wp2_with fail
            rw [rounds_succ]
            rw [hk] at HKT
            have HCT := hide fun wx (hb : Below w5.heap.size w5 wx) => ycount (HZS.out.stays hb) HF.out (HQ1.out.solid (Solid.below hb)) HLK.out
            have HPT := hide fun wx (hb : Below w5.heap.size w5 wx) => yput (HZS.out.stays hb) HF.out (HQ2.out.solid (Solid.below hb))
            rw [hpf] at HPT
            clear hk hpf
            go_wp2_with fail
            refine (unhide HKT).mono ?_
            rintro e w6 ⟨rfl, hb6⟩
            have HB6 := hide hb6
            have y0 : w6.cell? ⟨g5, 0, none⟩ = some (.slice a2 q1.length c2) := (hb6.cell (p := ⟨g5, 0, none⟩) hgl55).trans HZ10.out
            have y1 : w6.cell? ⟨g5, 1, none⟩ = some (.slice a4 q2.length c4) := (hb6.cell (p := ⟨g5, 1, none⟩) hgl55).trans HZ11.out
            clear hb6
            dsimp only
            go_wp2_with fail
            refine (HCT.out _ HB6.out).mono ?_
            rintro e w7 ⟨rfl, hb7⟩
            have HB7 := hide (HB6.out.trans (hb7.mono HB6.out.size))
            have x1 : w7.cell? ⟨g5, 1, none⟩ = some (.slice a4 q2.length c4) := (HB7.out.cell (p := ⟨g5, 1, none⟩) hgl55).trans HZ11.out
            clear hb7 z10 z11
            dsimp only
            go_wp2_with fail
            refine (HPT.out _ HB7.out).mono ?_
            rintro e w8 ⟨rfl, hn8⟩
            have HN8 := hide (ThenZ.after (HBW.out.trans (HB7.out.mono HBW.out.size)) hn8)
            clear hn8
            dsimp only
            go_wp2_with fail
            go_ret
            exact ⟨rfl, HN8.out⟩
          · rw [if_pos hpf]
            have HE := hide (M.putF_range L q2)
            have hpf2 := hpf
            have hne : (M.putF L q2 == 0) = false := by simpa using hpf
            go_enter Tryz.func34, Tryz.ntmps34
            go_wp2_with fail
            refine (unhide HC).mono ?_
            rintro e w1 ⟨g, c, rfl, hg, hc0, hcs, hb1⟩
            have c1 : w1.cell? ⟨g, 1, none⟩ = some (.string t1) := hcs 0 (by simp)
            have c2' : w1.cell? ⟨g, 2, none⟩ = some (.string t2) := hcs 1 (by simp)
            have HB1 := hide hb1
            have hgl := World.block_lt_of_cell? _ _ hc0
            have HC0 := hide hc0
            have HC2 := hide c2'
            clear hb1 hcs
            dsimp only
            go_wp2_with fail
            refine wp_loop_rounds 3 ?_
            rw [rounds_succ]
            go_wp2_with fail
            refine (HR1.out _).mono ?_
            rintro e w2 ⟨⟨v2, rfl, ho2⟩, hb2⟩
            obtain ⟨a2, c2, rfl⟩ := ho2.shape
            have HO2 := hide ho2
            have HB2 := hide hb2
            have HNEW : Hid (∀ j u, [Value.slice a2 q1.length c2][j]? = some u → (w2.alloc (.cells #[.slice a2 q1.length c2] 32)).cell? ((⟨w2.heap.size, 0, none⟩ : Addr).add j) = some u) := hide (World.news_of_block (heap_alloc_new w2 _))
            clear ho2 hb2
            dsimp only
            go_wp2_with (at_builtin; (refine wpList_append_own _ rfl (.tmp 123) (.tmp 125) 76 rfl w2.heap.size 32 i0 (.slice none 0 0) 1 24 Tryz.underlying76 HI.out.1 HI.out.2.1 HI.out.2.2.1 HI.out.2.2.2 rfl (by decide) (.slice none 0 0) 0 [] rfl (World.ownsRow_nil _ _ _ _) ⟨w2.heap.size, 0, none⟩ 1 1 [.slice a2 q1.length c2] rfl rfl HNEW.out (by simp [Value.oneCell']) (by unfold maxLen; omega) (by omega) (by simp) ?_))
            intro v3 w3 hown3 hgrow3 _
            have HB3 : Hid (Below w2.heap.size w2 w3) := hide (((Below.refl _ _).alloc (Nat.le_refl _) _).grown hgrow3 (by simp) (fun k hk => by cases hk))
            have hown3 : w3.ownsRow w2.heap.size 32 1 v3 1 [.slice a2 q1.length c2] := hown3
            obtain ⟨g3, c3, hf3, hg3, hl3⟩ := hown3.form (by decide)
            subst hf3
            have HO3 := hide hown3
            have z2 : w3.cell? ⟨g, 2, none⟩ = some (.string t2) := ((HB2.out.trans (HB3.out.mono HB2.out.size)).cell (p := ⟨g, 2, none⟩) hgl).trans HC2.out
            have hgl3 := World.block_lt_of_cell? _ _ z2
            have HB13 := hide (HB2.out.trans (HB3.out.mono HB2.out.size))
            clear hown3 hgrow3 hc0 c1 hg3 c2'
            go_wp2_with fail
            rw [rounds_succ]
            go_wp2_with fail
            refine (HR2.out _).mono ?_
            rintro e w4 ⟨⟨v4, rfl, ho4⟩, hb4⟩
            obtain ⟨a4, c4, rfl⟩ := ho4.shape
            have HO4 := hide ho4
            have HB4 := hide hb4
            have hs23 := HB3.out.size
            have hs34 := hb4.size
            have HROW4 := hide ((owns_below HO3.out hb4).alloc (.cells #[.slice a4 q2.length c4] 32))
            have HNEW2 : Hid (∀ j u, [Value.slice a4 q2.length c4][j]? = some u → (w4.alloc (.cells #[.slice a4 q2.length c4] 32)).cell? ((⟨w4.heap.size, 0, none⟩ : Addr).add j) = some u) := hide (World.news_of_block (heap_alloc_new w4 _))
            clear ho4 hb4
            dsimp only
            go_wp2_with (at_builtin; (refine wpList_append_own _ rfl (.tmp 123) (.tmp 125) 76 rfl w2.heap.size 32 i0 (.slice none 0 0) 1 24 Tryz.underlying76 HI.out.1 HI.out.2.1 HI.out.2.2.1 HI.out.2.2.2 rfl (by decide) (.slice (some ⟨g3, 0, none⟩) 1 c3) 1 [.slice a2 q1.length c2] rfl HROW4.out ⟨w4.heap.size, 0, none⟩ 1 1 [.slice a4 q2.length c4] rfl rfl HNEW2.out (by simp [Value.oneCell']) (by unfold maxLen; omega) (by omega) (by simp; omega) ?_))
            intro v5 w5 hown5 hgrow5 _
            have HB5 : Hid (Below w2.heap.size w4 w5) := hide (((Below.refl _ _).alloc (by omega) _).grown hgrow5 (by simp; omega) (fun k hk => (HROW4.out.lt k hk).1))
            have HSOL : Hid (Solid w4 w5) := hide ((Solid.below ((Below.refl _ _).alloc (Nat.le_refl _) _)).trans (solid_grown HROW4.out hgrow5))
            have hown5 : w5.ownsRow w2.heap.size 32 1 v5 2 [.slice a2 q1.length c2, .slice a4 q2.length c4] := hown5
            obtain ⟨g5, c5, hf5, hg5, hl5⟩ := hown5.form (by decide)
            subst hf5
            have z10 : w5.cell? ⟨g5, 0, none⟩ = some (.slice a2 q1.length c2) := by rw [hown5.cellAt 0 (by decide)]; rfl
            have z11 : w5.cell? ⟨g5, 1, none⟩ = some (.slice a4 q2.length c4) := by rw [hown5.cellAt 1 (by decide)]; rfl
            have hg2 : g < w2.heap.size := Nat.lt_of_lt_of_le hgl HB2.out.size
            have HB15 : Hid (Below w1.heap.size w1 w5) := hide (((HB13.out.trans (HB4.out.mono HB13.out.size))).trans (HB5.out.mono HB2.out.size))
            have HBW := hide (HB1.out.trans (HB15.out.mono HB1.out.size))
            have z0 : w5.cell? ⟨g, 0, none⟩ = some (.string ⟨#[111, 110, 99, 101]⟩) := (HB15.out.cell (p := ⟨g, 0, none⟩) hgl).trans HC0.out
            have HQ1 : Hid (OwnT base w5 (.slice a2 q1.length c2) q1) := hide ((((HO2.out.solid (Solid.below HB3.out)).solid (Solid.below HB4.out)).solid HSOL.out).mono (Nat.le_trans HRM.out HB1.out.size))
            have HQ2 : Hid (OwnT base w5 (.slice a4 q2.length c4) q2) := hide ((HO4.out.solid HSOL.out).mono (Nat.le_trans HRM.out (Nat.le_trans HB1.out.size HB13.out.size)))
            have hgl5 := World.block_lt_of_cell? _ _ z0
            have hgl55 := World.block_lt_of_cell? _ _ z10
            have HZ10 := hide z10
            have HZ11 := hide z11
            have HZS := hide (Zs.stays HZ.out HBW.out)
            have HKT := hide (rtuple _ q2 w5 HQ2.out.vals)
            clear hown5 hgrow5 hg5
            go_wp2_with fail
            rw [rounds_succ]
            rw [hk] at HKT
            have HCT := hide fun wx (hb : Below w5.heap.size w5 wx) => ycount (HZS.out.stays hb) HF.out (HQ1.out.solid (Solid.below hb)) HLK.out
            have HPT := hide fun wx (hb : Below w5.heap.size w5 wx) => yput (HZS.out.stays hb) HF.out (HQ2.out.solid (Solid.below hb))
            have HNM := hide fun wx => rname (M.putF L q2) wx HE.out.1 HE.out.2
            clear hk hpf
            go_wp2_with fail
            refine (unhide HKT).mono ?_
            rintro e w6 ⟨rfl, hb6⟩
            have HB6 := hide hb6
            have y0 : w6.cell? ⟨g5, 0, none⟩ = some (.slice a2 q1.length c2) := (hb6.cell (p := ⟨g5, 0, none⟩) hgl55).trans HZ10.out
            have y1 : w6.cell? ⟨g5, 1, none⟩ = some (.slice a4 q2.length c4) := (hb6.cell (p := ⟨g5, 1, none⟩) hgl55).trans HZ11.out
            clear hb6
            dsimp only
            go_wp2_with fail
            refine (HCT.out _ HB6.out).mono ?_
            rintro e w7 ⟨rfl, hb7⟩
            have HB7 := hide (HB6.out.trans (hb7.mono HB6.out.size))
            have x1 : w7.cell? ⟨g5, 1, none⟩ = some (.slice a4 q2.length c4) := (HB7.out.cell (p := ⟨g5, 1, none⟩) hgl55).trans HZ11.out
            clear hb7 z10 z11
            dsimp only
            go_wp2_with fail
            refine (HPT.out _ HB7.out).mono ?_
            rintro e w8 ⟨rfl, hn8⟩
            have HN8 := hide (ThenZ.after (HBW.out.trans (HB7.out.mono HBW.out.size)) hn8)
            clear hn8
            dsimp only
            go_wp2_with fail
            refine (HNM.out _).mono ?_
            rintro e w9 ⟨rfl, hb9⟩
            have HN9 := hide (HN8.out.then hb9)
            clear hb9
            dsimp only
            go_wp2_with fail
            go_ret
            exact ⟨rfl, by rw [putL_no hpf2] at HN9; exact HN9.out⟩
        · rw [if_pos (by omega)]
          have hm2 : (0 : Int) < (M.many q1 L : Int) := by omega
          go_enter Tryz.func34, Tryz.ntmps34
          go_wp2_with fail
          refine (unhide HC).mono ?_
          rintro e w1 ⟨g, c, rfl, hg, hc0, hcs, hb1⟩
          have c1 : w1.cell? ⟨g, 1, none⟩ = some (.string t1) := hcs 0 (by simp)
          have c2' : w1.cell? ⟨g, 2, none⟩ = some (.string t2) := hcs 1 (by simp)
          have HB1 := hide hb1
          have hgl := World.block_lt_of_cell? _ _ hc0
          have HC0 := hide hc0
          have HC2 := hide c2'
          clear hb1 hcs
          dsimp only
          go_wp2_with fail
          refine wp_loop_rounds 3 ?_
          rw [rounds_succ]
          go_wp2_with fail
          refine (HR1.out _).mono ?_
          rintro e w2 ⟨⟨v2, rfl, ho2⟩, hb2⟩
          obtain ⟨a2, c2, rfl⟩ := ho2.shape
          have HO2 := hide ho2
          have HB2 := hide hb2
          have HNEW : Hid (∀ j u, [Value.slice a2 q1.length c2][j]? = some u → (w2.alloc (.cells #[.slice a2 q1.length c2] 32)).cell? ((⟨w2.heap.size, 0, none⟩ : Addr).add j) = some u) := hide (World.news_of_block (heap_alloc_new w2 _))
          clear ho2 hb2
          dsimp only
          go_wp2_with (at_builtin; (refine wpList_append_own _ rfl (.tmp 123) (.tmp 125) 76 rfl w2.heap.size 32 i0 (.slice none 0 0) 1 24 Tryz.underlying76 HI.out.1 HI.out.2.1 HI.out.2.2.1 HI.out.2.2.2 rfl (by decide) (.slice none 0 0) 0 [] rfl (World.ownsRow_nil _ _ _ _) ⟨w2.heap.size, 0, none⟩ 1 1 [.slice a2 q1.length c2] rfl rfl HNEW.out (by simp [Value.oneCell']) (by unfold maxLen; omega) (by omega) (by simp) ?_))
          intro v3 w3 hown3 hgrow3 _
          have HB3 : Hid (Below w2.heap.size w2 w3) := hide (((Below.refl _ _).alloc (Nat.le_refl _) _).grown hgrow3 (by simp) (fun k hk => by cases hk))
          have hown3 : w3.ownsRow w2.heap.size 32 1 v3 1 [.slice a2 q1.length c2] := hown3
          obtain ⟨g3, c3, hf3, hg3, hl3⟩ := hown3.form (by decide)
          subst hf3
          have HO3 := hide hown3
          have z2 : w3.cell? ⟨g, 2, none⟩ = some (.string t2) := ((HB2.out.trans (HB3.out.mono HB2.out.size)).cell (p := ⟨g, 2, none⟩) hgl).trans HC2.out
          have hgl3 := World.block_lt_of_cell? _ _ z2
          have HB13 := hide (HB2.out.trans (HB3.out.mono HB2.out.size))
          clear hown3 hgrow3 hc0 c1 hg3 c2'
          go_wp2_with fail
          rw [rounds_succ]
          go_wp2_with fail
          refine (HR2.out _).mono ?_
          rintro e w4 ⟨⟨v4, rfl, ho4⟩, hb4⟩
          obtain ⟨a4, c4, rfl⟩ := ho4.shape
          have HO4 := hide ho4
          have HB4 := hide hb4
          have hs23 := HB3.out.size
          have hs34 := hb4.size
          have HROW4 := hide ((owns_below HO3.out hb4).alloc (.cells #[.slice a4 q2.length c4] 32))
          have HNEW2 : Hid (∀ j u, [Value.slice a4 q2.length c4][j]? = some u → (w4.alloc (.cells #[.slice a4 q2.length c4] 32)).cell? ((⟨w4.heap.size, 0, none⟩ : Addr).add j) = some u) := hide (World.news_of_block (heap_alloc_new w4 _))
          clear ho4 hb4
          dsimp only
          go_wp2_with (at_builtin; (refine wpList_append_own _ rfl (.tmp 123) (.tmp 125) 76 rfl w2.heap.size 32 i0 (.slice none 0 0) 1 24 Tryz.underlying76 HI.out.1 HI.out.2.1 HI.out.2.2.1 HI.out.2.2.2 rfl (by decide) (.slice (some ⟨g3, 0, none⟩) 1 c3) 1 [.slice a2 q1.length c2] rfl HROW4.out ⟨w4.heap.size, 0, none⟩ 1 1 [.slice a4 q2.length c4] rfl rfl HNEW2.out (by simp [Value.oneCell']) (by unfold maxLen; omega) (by omega) (by simp; omega) ?_))
          intro v5 w5 hown5 hgrow5 _
          have HB5 : Hid (Below w2.heap.size w4 w5) := hide (((Below.refl _ _).alloc (by omega) _).grown hgrow5 (by simp; omega) (fun k hk => (HROW4.out.lt k hk).1))
          have HSOL : Hid (Solid w4 w5) := hide ((Solid.below ((Below.refl _ _).alloc (Nat.le_refl _) _)).trans (solid_grown HROW4.out hgrow5))
          have hown5 : w5.ownsRow w2.heap.size 32 1 v5 2 [.slice a2 q1.length c2, .slice a4 q2.length c4] := hown5
          obtain ⟨g5, c5, hf5, hg5, hl5⟩ := hown5.form (by decide)
          subst hf5
          have z10 : w5.cell? ⟨g5, 0, none⟩ = some (.slice a2 q1.length c2) := by rw [hown5.cellAt 0 (by decide)]; rfl
          have z11 : w5.cell? ⟨g5, 1, none⟩ = some (.slice a4 q2.length c4) := by rw [hown5.cellAt 1 (by decide)]; rfl
          have hg2 : g < w2.heap.size := Nat.lt_of_lt_of_le hgl HB2.out.size
          have HB15 : Hid (Below w1.heap.size w1 w5) := hide (((HB13.out.trans (HB4.out.mono HB13.out.size))).trans (HB5.out.mono HB2.out.size))
          have HBW := hide (HB1.out.trans (HB15.out.mono HB1.out.size))
          have z0 : w5.cell? ⟨g, 0, none⟩ = some (.string ⟨#[111, 110, 99, 101]⟩) := (HB15.out.cell (p := ⟨g, 0, none⟩) hgl).trans HC0.out
          have HQ1 : Hid (OwnT base w5 (.slice a2 q1.length c2) q1) := hide ((((HO2.out.solid (Solid.below HB3.out)).solid (Solid.below HB4.out)).solid HSOL.out).mono (Nat.le_trans HRM.out HB1.out.size))
          have HQ2 : Hid (OwnT base w5 (.slice a4 q2.length c4) q2) := hide ((HO4.out.solid HSOL.out).mono (Nat.le_trans HRM.out (Nat.le_trans HB1.out.size HB13.out.size)))
          have hgl5 := World.block_lt_of_cell? _ _ z0
          have hgl55 := World.block_lt_of_cell? _ _ z10
          have HZ10 := hide z10
          have HZ11 := hide z11
          have HZS := hide (Zs.stays HZ.out HBW.out)
          have HKT := hide (rtuple _ q2 w5 HQ2.out.vals)
          clear hown5 hgrow5 hg5
          go_wp2_with fail
          rw [rounds_succ]
          rw [hk] at HKT
          have HCT := hide fun wx (hb : Below w5.heap.size w5 wx) => ycount (HZS.out.stays hb) HF.out (HQ1.out.solid (Solid.below hb)) HLK.out
          have HPT := hide fun wx (hb : Below w5.heap.size w5 wx) => yput (HZS.out.stays hb) HF.out (HQ2.out.solid (Solid.below hb))
          clear hk
          go_wp2_with fail
          refine (unhide HKT).mono ?_
          rintro e w6 ⟨rfl, hb6⟩
          have HB6 := hide hb6
          have y0 : w6.cell? ⟨g5, 0, none⟩ = some (.slice a2 q1.length c2) := (hb6.cell (p := ⟨g5, 0, none⟩) hgl55).trans HZ10.out
          have y1 : w6.cell? ⟨g5, 1, none⟩ = some (.slice a4 q2.length c4) := (hb6.cell (p := ⟨g5, 1, none⟩) hgl55).trans HZ11.out
          clear hb6
          dsimp only
          go_wp2_with fail
          refine (HCT.out _ HB6.out).mono ?_
          rintro e w7 ⟨rfl, hb7⟩
          have HB7 := hide (HB6.out.trans (hb7.mono HB6.out.size))
          have x1 : w7.cell? ⟨g5, 1, none⟩ = some (.slice a4 q2.length c4) := (HB7.out.cell (p := ⟨g5, 1, none⟩) hgl55).trans HZ11.out
          clear hb7 z10 z11
          dsimp only
          go_wp2_with fail
          go_ret
          exact ⟨rfl, ThenZ.still HZ.out (HBW.out.trans (HB7.out.mono HBW.out.size))⟩
      · rw [if_pos hk]
        have HE := hide (M.tupF_range q2)
        have hne : (M.tupF q2 == 0) = false := by simpa using hk
        go_enter Tryz.func34, Tryz.ntmps34
        go_wp2_with fail
        refine (unhide HC).mono ?_
        rintro e w1 ⟨g, c, rfl, hg, hc0, hcs, hb1⟩
        have c1 : w1.cell? ⟨g, 1, none⟩ = some (.string t1) := hcs 0 (by simp)
        have c2' : w1.cell? ⟨g, 2, none⟩ = some (.string t2) := hcs 1 (by simp)
        have HB1 := hide hb1
        have hgl := World.block_lt_of_cell? _ _ hc0
        have HC0 := hide hc0
        have HC2 := hide c2'
        clear hb1 hcs
        dsimp only
        go_wp2_with fail
        refine wp_loop_rounds 3 ?_
        rw [rounds_succ]
        go_wp2_with fail
        refine (HR1.out _).mono ?_
        rintro e w2 ⟨⟨v2, rfl, ho2⟩, hb2⟩
        obtain ⟨a2, c2, rfl⟩ := ho2.shape
        have HO2 := hide ho2
        have HB2 := hide hb2
        have HNEW : Hid (∀ j u, [Value.slice a2 q1.length c2][j]? = some u → (w2.alloc (.cells #[.slice a2 q1.length c2] 32)).cell? ((⟨w2.heap.size, 0, none⟩ : Addr).add j) = some u) := hide (World.news_of_block (heap_alloc_new w2 _))
        clear ho2 hb2
        dsimp only
        go_wp2_with (at_builtin; (refine wpList_append_own _ rfl (.tmp 123) (.tmp 125) 76 rfl w2.heap.size 32 i0 (.slice none 0 0) 1 24 Tryz.underlying76 HI.out.1 HI.out.2.1 HI.out.2.2.1 HI.out.2.2.2 rfl (by decide) (.slice none 0 0) 0 [] rfl (World.ownsRow_nil _ _ _ _) ⟨w2.heap.size, 0, none⟩ 1 1 [.slice a2 q1.length c2] rfl rfl HNEW.out (by simp [Value.oneCell']) (by unfold maxLen; omega) (by omega) (by simp) ?_))
        intro v3 w3 hown3 hgrow3 _
        have HB3 : Hid (Below w2.heap.size w2 w3) := hide (((Below.refl _ _).alloc (Nat.le_refl _) _).grown hgrow3 (by simp) (fun k hk => by cases hk))
        have hown3 : w3.ownsRow w2.heap.size 32 1 v3 1 [.slice a2 q1.length c2] := hown3
        obtain ⟨g3, c3, hf3, hg3, hl3⟩ := hown3.form (by decide)
        subst hf3
        have HO3 := hide hown3
        have z2 : w3.cell? ⟨g, 2, none⟩ = some (.string t2) := ((HB2.out.trans (HB3.out.mono HB2.out.size)).cell (p := ⟨g, 2, none⟩) hgl).trans HC2.out
        have hgl3 := World.block_lt_of_cell? _ _ z2
        have HB13 := hide (HB2.out.trans (HB3.out.mono HB2.out.size))
        clear hown3 hgrow3 hc0 c1 hg3 c2'
        go_wp2_with fail
        rw [rounds_succ]
        go_wp2_with fail
        refine (HR2.out _).mono ?_
        rintro e w4 ⟨⟨v4, rfl, ho4⟩, hb4⟩
        obtain ⟨a4, c4, rfl⟩ := ho4.shape
        have HO4 := hide ho4
        have HB4 := hide hb4
        have hs23 := HB3.out.size
        have hs34 := hb4.size
        have HROW4 := hide ((owns_below HO3.out hb4).alloc (.cells #[.slice a4 q2.length c4] 32))
        have HNEW2 : Hid (∀ j u, [Value.slice a4 q2.length c4][j]? = some u → (w4.alloc (.cells #[.slice a4 q2.length c4] 32)).cell? ((⟨w4.heap.size, 0, none⟩ : Addr).add j) = some u) := hide (World.news_of_block (heap_alloc_new w4 _))
        clear ho4 hb4
        dsimp only
        go_wp2_with (at_builtin; (refine wpList_append_own _ rfl (.tmp 123) (.tmp 125) 76 rfl w2.heap.size 32 i0 (.slice none 0 0) 1 24 Tryz.underlying76 HI.out.1 HI.out.2.1 HI.out.2.2.1 HI.out.2.2.2 rfl (by decide) (.slice (some ⟨g3, 0, none⟩) 1 c3) 1 [.slice a2 q1.length c2] rfl HROW4.out ⟨w4.heap.size, 0, none⟩ 1 1 [.slice a4 q2.length c4] rfl rfl HNEW2.out (by simp [Value.oneCell']) (by unfold maxLen; omega) (by omega) (by simp; omega) ?_))
        intro v5 w5 hown5 hgrow5 _
        have HB5 : Hid (Below w2.heap.size w4 w5) := hide (((Below.refl _ _).alloc (by omega) _).grown hgrow5 (by simp; omega) (fun k hk => (HROW4.out.lt k hk).1))
        have HSOL : Hid (Solid w4 w5) := hide ((Solid.below ((Below.refl _ _).alloc (Nat.le_refl _) _)).trans (solid_grown HROW4.out hgrow5))
        have hown5 : w5.ownsRow w2.heap.size 32 1 v5 2 [.slice a2 q1.length c2, .slice a4 q2.length c4] := hown5
        obtain ⟨g5, c5, hf5, hg5, hl5⟩ := hown5.form (by decide)
        subst hf5
        have z10 : w5.cell? ⟨g5, 0, none⟩ = some (.slice a2 q1.length c2) := by rw [hown5.cellAt 0 (by decide)]; rfl
        have z11 : w5.cell? ⟨g5, 1, none⟩ = some (.slice a4 q2.length c4) := by rw [hown5.cellAt 1 (by decide)]; rfl
        have hg2 : g < w2.heap.size := Nat.lt_of_lt_of_le hgl HB2.out.size
        have HB15 : Hid (Below w1.heap.size w1 w5) := hide (((HB13.out.trans (HB4.out.mono HB13.out.size))).trans (HB5.out.mono HB2.out.size))
        have HBW := hide (HB1.out.trans (HB15.out.mono HB1.out.size))
        have z0 : w5.cell? ⟨g, 0, none⟩ = some (.string ⟨#[111, 110, 99, 101]⟩) := (HB15.out.cell (p := ⟨g, 0, none⟩) hgl).trans HC0.out
        have HQ1 : Hid (OwnT base w5 (.slice a2 q1.length c2) q1) := hide ((((HO2.out.solid (Solid.below HB3.out)).solid (Solid.below HB4.out)).solid HSOL.out).mono (Nat.le_trans HRM.out HB1.out.size))
        have HQ2 : Hid (OwnT base w5 (.slice a4 q2.length c4) q2) := hide ((HO4.out.solid HSOL.out).mono (Nat.le_trans HRM.out (Nat.le_trans HB1.out.size HB13.out.size)))
        have hgl5 := World.block_lt_of_cell? _ _ z0
        have hgl55 := World.block_lt_of_cell? _ _ z10
        have HZ10 := hide z10
        have HZ11 := hide z11
        have HZS := hide (Zs.stays HZ.out HBW.out)
        have HKT := hide (rtuple _ q2 w5 HQ2.out.vals)
        clear hown5 hgrow5 hg5
        go_wp2_with fail
        rw [rounds_succ]
        have HNM := hide fun wx => rname (M.tupF q2) wx HE.out.1 HE.out.2
        clear hk
        go_wp2_with fail
        refine (unhide HKT).mono ?_
        rintro e w6 ⟨rfl, hb6⟩
        have HB6 := hide hb6
        clear hb6
        dsimp only
        go_wp2_with fail
        refine (HNM.out _).mono ?_
        rintro e w7 ⟨rfl, hb7⟩
        have HB7 := hide (HB6.out.trans (hb7.mono HB6.out.size))
        clear hb7
        dsimp only
        go_wp2_with fail
        go_ret
        exact ⟨rfl, ThenZ.still HZ.out (HBW.out.trans (HB7.out.mono HBW.out.size))⟩
    · have e1 : M.two1 L t1.data.toList t2.data.toList = (M.wBad, L) := if_pos (Or.inr he2)
      rw [e1]
      have hne : (M.readE t2.data.toList == 0) = false := by simpa using he2
      generalize M.readE t2.data.toList = E2 at *
      generalize M.readV t1.data.toList = q1 at *
      clear he1 he2 e1
      go_enter Tryz.func34, Tryz.ntmps34
      go_wp2_with fail
      refine (unhide HC).mono ?_
      rintro e w1 ⟨g, c, rfl, hg, hc0, hcs, hb1⟩
      have c1 : w1.cell? ⟨g, 1, none⟩ = some (.string t1) := hcs 0 (by simp)
      have c2' : w1.cell? ⟨g, 2, none⟩ = some (.string t2) := hcs 1 (by simp)
      have HB1 := hide hb1
      have hgl := World.block_lt_of_cell? _ _ hc0
      have HC0 := hide hc0
      have HC2 := hide c2'
      clear hb1 hcs
      dsimp only
      go_wp2_with fail
      refine wp_loop_rounds 3 ?_
      rw [rounds_succ]
      go_wp2_with fail
      refine (HR1.out _).mono ?_
      rintro e w2 ⟨⟨v2, rfl, ho2⟩, hb2⟩
      obtain ⟨a2, c2, rfl⟩ := ho2.shape
      have HO2 := hide ho2
      have HB2 := hide hb2
      have HNEW : Hid (∀ j u, [Value.slice a2 q1.length c2][j]? = some u → (w2.alloc (.cells #[.slice a2 q1.length c2] 32)).cell? ((⟨w2.heap.size, 0, none⟩ : Addr).add j) = some u) := hide (World.news_of_block (heap_alloc_new w2 _))
      clear ho2 hb2
      dsimp only
      go_wp2_with (at_builtin; (refine wpList_append_own _ rfl (.tmp 123) (.tmp 125) 76 rfl w2.heap.size 32 i0 (.slice none 0 0) 1 24 Tryz.underlying76 HI.out.1 HI.out.2.1 HI.out.2.2.1 HI.out.2.2.2 rfl (by decide) (.slice none 0 0) 0 [] rfl (World.ownsRow_nil _ _ _ _) ⟨w2.heap.size, 0, none⟩ 1 1 [.slice a2 q1.length c2] rfl rfl HNEW.out (by simp [Value.oneCell']) (by unfold maxLen; omega) (by omega) (by simp) ?_))
      intro v3 w3 hown3 hgrow3 _
      have HB3 : Hid (Below w2.heap.size w2 w3) := hide (((Below.refl _ _).alloc (Nat.le_refl _) _).grown hgrow3 (by simp) (fun k hk => by cases hk))
      have hown3 : w3.ownsRow w2.heap.size 32 1 v3 1 [.slice a2 q1.length c2] := hown3
      obtain ⟨g3, c3, hf3, hg3, hl3⟩ := hown3.form (by decide)
      subst hf3
      have HO3 := hide hown3
      have z2 : w3.cell? ⟨g, 2, none⟩ = some (.string t2) := ((HB2.out.trans (HB3.out.mono HB2.out.size)).cell (p := ⟨g, 2, none⟩) hgl).trans HC2.out
      have hgl3 := World.block_lt_of_cell? _ _ z2
      have HB13 := hide (HB2.out.trans (HB3.out.mono HB2.out.size))
      clear hown3 hgrow3 hc0 c1 hg3 c2'
      go_wp2_with fail
      rw [rounds_succ]
      go_wp2_with fail
      refine (HR2.out _).mono ?_
      rintro e w4 ⟨⟨v4, rfl, ho4⟩, hb4⟩
      have HBX := hide (HB1.out.trans ((HB13.out.trans (hb4.mono HB13.out.size)).mono HB1.out.size))
      clear ho4 hb4
      dsimp only
      go_wp2_with fail
      go_ret
      exact ⟨rfl, ThenZ.still HZ.out HBX.out⟩
  · have e1 : M.two1 L t1.data.toList t2.data.toList = (M.wBad, L) := if_pos (Or.inl he1)
    rw [e1]
    have hne : (M.readE t1.data.toList == 0) = false := by simpa using he1
    generalize M.readE t1.data.toList = E1 at *
    clear he1 e1
    go_enter Tryz.func34, Tryz.ntmps34
    go_wp2_with fail
    refine (unhide HC).mono ?_
    rintro e w1 ⟨g, c, rfl, hg, hc0, hcs, hb1⟩
    have c1 : w1.cell? ⟨g, 1, none⟩ = some (.string t1) := hcs 0 (by simp)
    have c2' : w1.cell? ⟨g, 2, none⟩ = some (.string t2) := hcs 1 (by simp)
    have HB1 := hide hb1
    have hgl := World.block_lt_of_cell? _ _ hc0
    have HC0 := hide hc0
    have HC2 := hide c2'
    clear hb1 hcs
    dsimp only
    go_wp2_with fail
    refine wp_loop_rounds 3 ?_
    rw [rounds_succ]
    go_wp2_with fail
    refine (HR1.out _).mono ?_
    rintro e w2 ⟨⟨v2, rfl, ho2⟩, hb2⟩
    have HBX := hide (HB1.out.trans (hb2.mono HB1.out.size))
    clear ho2 hb2
    dsimp only
    go_wp2_with fail
    go_ret
    exact ⟨rfl, ThenZ.still HZ.out HBX.out⟩
end
end Go.Proofs.YtlefhfmckimlaakGreatDoor
