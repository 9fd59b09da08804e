/-
  What New, Do, Sync, Fail, Crash, Mark, Bytes and Safe of package log do, whatever comes in, each as one law of its call.
-/
import Derived.Test.YtlefhfmckimlaakGreatDoorLogCrash
set_option linter.unusedVariables false
namespace Go.Proofs.YtlefhfmckimlaakGreatDoor
open Go.RowKit

namespace M
section
variable {R : List Rul} {g : Lg} {l : List Ask} {half : List UInt8} {a : Ask}
theorem agB_n (h0 : (doR R g.cop a).1 = 0) : (doR R g.cop a).2.2.n = g.cop.n ↔ agB g.cop a = true := by
  rcases doR_ways R g.cop a with h1 | ⟨h1, h2⟩ | ⟨h1, h2, h3⟩ | ⟨h1, h2, h3, h4⟩ | ⟨h1, h2, h3, h4⟩
  · rw [doR_bad h1] at h0; exact absurd h0 h1
  · rw [doR_again h1 h2, agB_ok h1, h2]; simp
  · rw [doR_state h1 h2 h3] at h0; exact absurd h0 (by simp)
  · rw [doR_did h1 h2 h3 h4, agB_ok h1, h2]
    constructor
    · intro e; have : g.cop.n + 1 = g.cop.n := e; omega
    · intro e; cases e
  · rw [doR_denied h1 h2 h3 h4] at h0; exact absurd h0 (by simp)
/-- what is done may be in a record -/
theorem rec_ok (hg : g.Ok R) (h0 : (doR R g.cop a).1 = 0) (h2 : (doR R g.cop a).2.2.n ≠ g.cop.n) (hl : g.cs.length ≤ 31) : RecOk a ∧ (doR R g.cop a).2.2.n = g.cop.n + 1 := by
  rcases doR_ways R g.cop a with h1 | ⟨h1, q2⟩ | ⟨h1, q2, h3⟩ | ⟨h1, q2, h3, h4⟩ | ⟨h1, q2, h3, h4⟩
  · rw [doR_bad h1] at h0; exact absurd h0 h1
  · rw [doR_again h1 q2] at h2; exact absurd rfl h2
  · rw [doR_state h1 q2 h3] at h0; exact absurd h0 (by simp)
  · obtain ⟨o1, o2⟩ := hg.cop_ok
    have g0 := o1.lo a.who
    have g1 := o1.hi a.who
    exact ⟨⟨h1, by omega, by omega⟩, by rw [doR_did h1 q2 h3 h4]; rfl⟩
  · rw [doR_denied h1 q2 h3 h4] at h0; exact absurd h0 (by simp)
theorem Recs.did (h : Recs R g l half) (hh : half = []) (ha : RecOk a) (h0 : (doR R g.cop a).1 = 0) (hn : (doR R g.cop a).2.2.n = g.cop.n + 1) (lf : Int) (hgh : g.half = 0) :
    Recs R { g with cs := g.cs ++ [(doR R g.cop a).2.2], ms := g.ms ++ [g.bytes + (recE a).length], left := lf } (l ++ [a]) half := by
  have hc := h.cop
  refine ⟨fun b hb => ?_, ?_, ?_, ?_, h.hal, h.no⟩
  · rcases List.mem_append.1 hb with q | q
    · exact h.each b q
    · rw [List.mem_singleton.1 q]; exact ha
  · show g.cs ++ [_] = _
    rw [csOf_snoc, h.cs, hc]; rfl
  · show g.ms ++ [_] = _
    rw [msOf_snoc, h.bytes, h.ms, hh]; simp
  · rw [hc] at h0 hn
    exact dones_snoc _ _ _ h.dones h0 hn
theorem Recs.stopped (h : Recs R g l half) (ha : RecOk a) : Recs R { g with half := (recE a).length / 2, stop := true } l ((recE a).take ((recE a).length / 2)) := by
  refine ⟨h.each, h.cs, h.ms, h.dones, ?_, fun e => ?_⟩
  · show _ / 2 = _
    rw [List.length_take]; omega
  · have hl := ha.len.1
    have e1 : (recE a).take ((recE a).length / 2) = (recL a).take ((recE a).length / 2) := by
      have e3 : (recE a).length = (recL a).length + 1 := by simp [recE]
      have e4 : (recE a).length / 2 ≤ (recL a).length := by omega
      generalize (recE a).length / 2 = q at *
      unfold recE
      rw [List.take_append_of_le_length e4]
    rw [e1] at e
    exact ha.no_end (List.mem_of_mem_take e)
theorem Recs.same {g' : Lg} (h : Recs R g l half) (h1 : g'.cs = g.cs) (h2 : g'.ms = g.ms) (h3 : g'.half = g.half) : Recs R g' l half := ⟨h.each, h1.trans h.cs, h2.trans h.ms, h.dones, h3.trans h.hal, h.no⟩
theorem Recs.none (h : Recs R g l half) (hs : g.half = 0) : half = [] := List.length_eq_zero_iff.1 (by rw [← h.hal]; exact hs)
end
end M

section
variable {base : Nat} {w w' : World} {F : Nat → Prop} {J : Nat} {g : M.Lg} {R : List M.Rul} {a : Option Addr} {n cp : Nat}

/-- values stay while a log's struct is written -/
theorem lgVals {C : Nat} {uv v : Value} {K : ByteArray} {sf lf : Int} {st : Bool} {l : List M.Val} (hl : LgC base w J C uv K sf lf st R) (h : IsVals w v l) (ht : Tch (fun k => k = J) w w') : IsVals w' v l := by
  rcases h with h | h | ⟨b, off, cap, h1, h2, h3, h4, h5⟩
  · exact Or.inl h
  · exact Or.inr (Or.inl h)
  · have hne : b ≠ J := fun e => by
      subst e
      obtain ⟨q1, q2, q3, _⟩ := h5 0 h1
      rw [cell_of_row w b _ _ _ (0, 0) hl.heap] at q1 q2 q3
      obtain ⟨ra, rc, hrv, _⟩ := hl.rules.at
      rw [hrv] at q1 q2 q3
      match off, q1, q2, q3 with
      | 0, q1, _, _ => simp at q1
      | 1, q1, _, _ => simp at q1
      | 2, q1, _, _ => simp at q1
      | 3, _, _, q3 => simp at q3
      | 4, _, q2, _ => simp at q2
      | 5, q1, _, _ => simp at q1
      | k + 6, q1, _, _ => simp at q1
    have hc : ∀ o, w'.cell? ⟨b, o, none⟩ = w.cell? ⟨b, o, none⟩ := fun o => by simp [World.cell?, ht.block b (h5.block h1) hne]
    exact Or.inr (Or.inr ⟨b, off, cap, h1, h2, h3, h4, fun i hi => by
      obtain ⟨g1, g2, g3, g4⟩ := h5 i hi
      exact ⟨(hc _).trans g1, (hc _).trans g2, (hc _).trans g3, g4⟩⟩)

theorem lDo (x : M.Ask) (h : LgIs base w F J g R) (hv : IsVals w (.slice a n cp) x.t) (ht : TabFrom base w) :
    Calls Tryz.prog 9 #[.pointer (some ⟨J, 0, none⟩), aggA x.who x.seq x.deed a n cp] w fun e w' => ∃ k, 2 ≤ k ∧ k ≤ 1000000 ∧ e = .returned (.tuple #[.string (M.lgDo R g x k).2.1, errV (M.lgDo R g x k).1]) ∧ ∃ F', LgIs base w' F' J (M.lgDo R g x k).2.2 R ∧ Tch F w w' ∧ Grows w F F' := by
  obtain ⟨C, uv, Fc, l, half, rfl, hl, hc, hu, hr⟩ := h.is
  have hok := h.ok
  have hfew := hok.few
  have hlen := hok.len
  have hbytes := hok.bytes_le
  have hbz := hr.bytes
  obtain ⟨o1, o2⟩ := hok.cop_ok
  have HA : ∀ wx, Below w.heap.size w wx → Calls Tryz.prog 37 #[.pointer (some ⟨C, 0, none⟩), aggA x.who x.seq x.deed a n cp] wx fun e w' => e = .returned (.tuple #[.bool (M.agB g.cop x), errV (M.doR R g.cop x).1]) ∧ Below wx.heap.size wx w' := fun wx hw => mAgain x (hc.quiet hw) (hv.stays hw (Nat.le_refl _)) (by omega)
  have still : ∀ {s : ByteArray} {E : Value} {e : Ending} {w' : World}, e = .returned (.tuple #[.string s, E]) ∧ Below w.heap.size w w' → e = .returned (.tuple #[.string s, E]) ∧ ∃ F', LgIs base w' F' J g R ∧ Tch (lgF J uv Fc) w w' ∧ Grows w (lgF J uv Fc) F' := fun he => ⟨he.1, _, h.quiet he.2, Tch.of_below he.2, Grows.refl _ _⟩
  cases hs : g.stop
  · rw [hs] at hl
    by_cases h0 : (M.doR R g.cop x).1 = 0
    · by_cases h2 : (M.doR R g.cop x).2.2.n = g.cop.n
      · -- the last one again
        have hb := (M.agB_n h0).1 h2
        have hcs : (M.doR R g.cop x).2.2 = g.cop := by
          rcases M.doR_n h0 with ⟨_, q⟩ | ⟨q, _⟩
          · exact q
          · omega
        rw [hb, h0] at HA
        have HD : ∀ wx, Below w.heap.size w wx → Calls Tryz.prog 28 #[.pointer (some ⟨C, 0, none⟩), aggA x.who x.seq x.deed a n cp] wx fun e w' => e = .returned (.tuple #[.string (M.doR R g.cop x).2.1, .nilIface]) ∧ ∃ F', CpIs base w' F' C g.cop R ∧ Tch Fc wx w' ∧ Grows wx Fc F' := fun wx hw => by
          have := mDo x (hc.quiet hw) (hv.stays hw (Nat.le_refl _)) (by omega) (ht.next (hw.mono hl.base_le))
          rwa [h0, hcs] at this
        refine (lDo_again hl _ HA HD hc hu).mono ?_
        rintro e w' ⟨rfl, q1, F', q2, q3, q4, q5⟩
        refine ⟨2, Nat.le_refl _, by decide, ?_⟩
        rw [M.lgDo_again hs h0 h2]
        exact ⟨rfl, _, ⟨hok, h.fine, h.left, C, uv, F', l, half, rfl, by rw [hs]; exact q1, q2, q3, hr⟩, q4, q5⟩
      · have hb : M.agB g.cop x = false := by
          cases e : M.agB g.cop x
          · rfl
          · exact absurd ((M.agB_n h0).2 e) h2
        obtain ⟨hrec, hnn⟩ := M.rec_ok hok h0 h2 (by omega)
        have hk := hrec.len
        rw [hb, h0] at HA
        have HR : ∀ wx, Below w.heap.size w wx → Calls Tryz.prog 39 #[aggA x.who x.seq x.deed a n cp] wx fun e w' => e = .returned (.string (bytesB (M.recE x))) ∧ Below wx.heap.size wx w' := fun wx hw => lRecord x hrec a n cp wx (hv.stays hw (Nat.le_refl _)) (ht _ (hw.mono hl.base_le))
        have hcnt := hr.count
        have hll := hr.len
        have hcnt2 : (bytesB (M.keptL l ++ half)).data.toList.count 10 = l.length := by rw [bytesB_list]; exact hcnt
        have hKz : (bytesB (M.keptL l ++ half)).size ≤ 100000000 := by rw [bytesB_size]; omega
        have hsz : (bytesB (M.recE x)).size ≤ 1000 := by rw [bytesB_size]; omega
        have hhf := hok.whole hs
        have hhn := hr.none hhf
        by_cases h3 : 31 ≤ g.cs.length
        · -- it is full
          refine (lDo_wrote hl 4 _ (fun wx w' => w' = wx) HA HR (fun wx hw => lWrite_full (hl.quiet hw) l.length hcnt2 (by omega) _)).mono ?_
          rintro e w' ⟨rfl, wx, q1, rfl⟩
          refine ⟨2, Nat.le_refl _, by decide, ?_⟩
          rw [M.lgDo_full hs h0 h2 h3]
          exact still ⟨by rw [errV_bad (show (4 : Int) ≠ 0 by decide)], q1⟩
        · by_cases h4 : g.left = 0
          · -- it stops
            rw [h4] at hl
            refine (lDo_wrote hl 6 _ _ HA HR (fun wx hw => lWrite_stop (hl.quiet hw) hKz l.length hcnt2 (by omega) _ hsz)).mono ?_
            rintro e w' ⟨rfl, wx, q1, q2, q3⟩
            refine ⟨(M.recE x).length, hk.1, by omega, ?_⟩
            have hact := hok.act (a := x) (n := (M.recE x).length) hk.1 (by omega)
            rw [M.lgDo_last hs h0 h2 h3 h4] at hact ⊢
            have eK : bytesB (M.keptL l ++ half) ++ (bytesB (M.recE x)).extract 0 ((bytesB (M.recE x)).size / 2) = bytesB (M.keptL l ++ (M.recE x).take ((M.recE x).length / 2)) := by
              apply WideShapes.bytes_inj
              rw [hhn, bytesB_size]
              simp [ByteArray.data_append, ByteArray.data_extract]
            rw [eK] at q2
            refine ⟨by rw [errV_bad (show (6 : Int) ≠ 0 by decide)], _, ⟨hact, h.fine, h.left, C, uv, Fc, l, _, rfl, ?_, (hc.quiet q1).logged (hl.quiet q1) q3, hu, hr.stopped hrec⟩, (LgC.tch q3).after q1, Grows.refl _ _⟩
            show LgC base w' J C uv _ g.safe g.left true R
            rw [h4]; exact q2
          · -- it is done
            have HD : ∀ wx, Tch (fun k => k = J) w wx → CpIs base wx Fc C g.cop R → Calls Tryz.prog 28 #[.pointer (some ⟨C, 0, none⟩), aggA x.who x.seq x.deed a n cp] wx fun e w' => e = .returned (.tuple #[.string (M.doR R g.cop x).2.1, .nilIface]) ∧ ∃ F', CpIs base w' F' C (M.doR R g.cop x).2.2 R ∧ Tch Fc wx w' ∧ Grows wx Fc F' := fun wx hw hcx => by
              have := mDo x hcx (lgVals hl hv hw) (by omega) (ht.next (hw.below (fun k hk => by rw [hk]; exact hl.lo) hl.base_le))
              rwa [h0] at this
            refine (lDo_did hl _ _ HA HR (fun wx hw => lWrite_ok (hl.quiet hw) h.left hKz l.length hcnt2 (by omega) h4 _ hsz) HD hc hu).mono ?_
            rintro e w' ⟨rfl, q1, F', q2, q3, q4, q5⟩
            refine ⟨(M.recE x).length, hk.1, by omega, ?_⟩
            have hact := hok.act (a := x) (n := (M.recE x).length) hk.1 (by omega)
            rw [M.lgDo_did hs h0 h2 h3 h4] at hact ⊢
            have eK : bytesB (M.keptL l ++ half) ++ bytesB (M.recE x) = bytesB (M.keptL (l ++ [x]) ++ half) := by
              rw [bytesB_append, M.keptL_snoc, hhn]; simp
            rw [eK] at q1
            refine ⟨rfl, _, ⟨hact, h.fine, ?_, C, uv, F', l ++ [x], half, rfl, ?_, ?_, q3, hr.did hhn hrec h0 hnn _ hhf⟩, q4, q5⟩
            · show M.lessS g.left ≤ _
              have := h.left
              unfold M.lessS; split <;> omega
            · show LgC base w' J C uv _ g.safe (M.lessS g.left) g.stop R
              rw [hs]; exact q1
            · have e : M.Lg.cop { g with cs := g.cs ++ [(M.doR R g.cop x).2.2], ms := g.ms ++ [g.bytes + (M.recE x).length], left := M.lessS g.left } = (M.doR R g.cop x).2.2 := by unfold M.Lg.cop; exact List.getLastD_concat
              rw [e]; exact q2
    · refine (lDo_bad hl _ _ (fun wx hw => by have := HA wx hw; rwa [errV_bad h0] at this)).mono ?_
      rintro e w' he
      refine ⟨2, Nat.le_refl _, by decide, ?_⟩
      rw [M.lgDo_bad hs h0, errV_bad h0]
      exact still he
  · rw [hs] at hl
    refine (lDo_stop hl).mono ?_
    rintro e w' he
    refine ⟨2, Nat.le_refl _, by decide, ?_⟩
    rw [M.lgDo_stop hs, errV_bad (show (6 : Int) ≠ 0 by decide)]
    exact still he

theorem lSync (h : LgIs base w F J g R) :
    Calls Tryz.prog 10 #[.pointer (some ⟨J, 0, none⟩)] w fun e w' => e = .returned (errV (M.lgSync g).1) ∧ ∃ F', LgIs base w' F' J (M.lgSync g).2 R ∧ Tch F w w' ∧ Grows w F F' := by
  obtain ⟨C, uv, Fc, l, half, rfl, hl, hc, hu, hr⟩ := h.is
  have hok := h.ok.sync
  have hbytes := h.ok.bytes_le
  have hbz := hr.bytes
  unfold M.lgSync at hok ⊢
  cases hs : g.stop
  · rw [hs] at hl hok
    simp only [Bool.false_eq_true, if_false] at hok ⊢
    by_cases h4 : g.left = 0
    · rw [if_pos h4] at hok ⊢
      rw [h4] at hl
      refine (lSync_last hl).mono ?_
      rintro e w' ⟨rfl, q1, q2⟩
      refine ⟨by rw [errV_bad (show (6 : Int) ≠ 0 by decide)], _, ⟨hok, h.fine, h.left, C, uv, Fc, l, half, rfl, ?_, hc.logged hl q2, hu, hr.same rfl rfl rfl⟩, LgC.tch q2, Grows.refl _ _⟩
      show LgC base w' J C uv _ g.safe g.left true R
      rw [h4]; exact q1
    · rw [if_neg h4] at hok ⊢
      refine (lSync_ok hl h.left h4 (by rw [bytesB_size]; omega)).mono ?_
      rintro e w' ⟨rfl, q1, q2⟩
      refine ⟨rfl, _, ⟨hok, h.fine, ?_, C, uv, Fc, l, half, rfl, ?_, hc.logged hl q2, hu, hr.same rfl rfl rfl⟩, LgC.tch q2, Grows.refl _ _⟩
      · show M.lessS g.left ≤ _
        have := h.left
        unfold M.lessS; split <;> omega
      · show LgC base w' J C uv _ ((g.bytes : Nat) : Int) (M.lessS g.left) false R
        rw [hbz, ← bytesB_size]; exact q1
  · rw [hs] at hl
    simp only [if_true]
    refine (lSync_no hl).mono ?_
    rintro e w' ⟨rfl, rfl⟩
    exact ⟨by rw [errV_bad (show (6 : Int) ≠ 0 by decide)], _, h, Tch.refl _ _, Grows.refl _ _⟩
theorem lFail (m : Int) (hm : m ≤ 9223372036854775807) (h : LgIs base w F J g R) :
    Calls Tryz.prog 18 #[.pointer (some ⟨J, 0, none⟩), .int .i64 m] w fun e w' => e = .returned (.tuple #[]) ∧ ∃ F', LgIs base w' F' J (M.lgFail g m) R ∧ Tch F w w' ∧ Grows w F F' := by
  obtain ⟨C, uv, Fc, l, half, rfl, hl, hc, hu, hr⟩ := h.is
  refine (lFailC hl m).mono ?_
  rintro e w' ⟨rfl, q1, q2⟩
  exact ⟨rfl, _, ⟨h.ok.fail m, h.fine, hm, C, uv, Fc, l, half, rfl, q1, hc.logged hl q2, hu, hr.same rfl rfl rfl⟩, LgC.tch q2, Grows.refl _ _⟩
theorem lCrash (m : Int) (h : LgIs base w F J g R) (ht : TabFrom base w) :
    Calls Tryz.prog 11 #[.pointer (some ⟨J, 0, none⟩), .int .i64 m] w fun e w' => e = .returned (.tuple #[]) ∧ ∃ F', LgIs base w' F' J (M.lgCrash g m) R ∧ Tch F w w' ∧ Grows w F F' := by
  obtain ⟨C, uv, Fc, l, half, rfl, hl, hc, hu, hr⟩ := h.is
  have hok := h.ok
  have hbz := hr.bytes
  have hlen := hr.len
  have hfew := hok.few
  have hll := hok.len
  have hbytes := hok.bytes_le
  have hsl := hok.safe_le
  obtain ⟨r1, r2⟩ := hr.crash m
  obtain ⟨q, hq⟩ : ∃ q, q = l.take (M.cntW (M.lgHigh g m) l) := ⟨_, rfl⟩
  rw [← hq] at r1 r2
  obtain ⟨xs, hxs⟩ : ∃ xs : List Rk, asOf xs = q := by
    have he : ∀ a ∈ q, M.RecOk a := r1.each
    clear hq r1 r2
    induction q with
    | nil => exact ⟨[], rfl⟩
    | cons b q ih =>
      obtain ⟨ys, hy⟩ := ih (fun a ha => he a (by simp [ha]))
      exact ⟨⟨b, he b (by simp)⟩ :: ys, by simp [asOf] at hy ⊢; exact hy⟩
  have hlns : M.lns ((M.keptL l ++ half).take (M.lgHigh g m)) = texts xs := by
    rw [M.lns_take l half _ hr.each hr.no, ← hq, ← hxs]
    simp [texts, asOf]
  have hxl : xs.length ≤ 30 := by
    have : xs.length = q.length := by rw [← hxs, asOf_len]
    rw [this, hq, List.length_take]
    omega
  refine (lCrashC hl h.fine m (by omega) (by omega) (M.lgHigh g m) (by unfold M.lgHigh; rw [hbz]) xs hlns hxl ht).mono ?_
  rintro e w' ⟨rfl, C', F', q1, q2, q3, q4⟩
  have hu2 : ∀ k, uv.ownBlock = some k → ¬ F' k := fun k hk hF => by
    obtain ⟨_, c, fr, hh⟩ := hl.row hk
    have := heap_lt hh
    have := q3 k hF
    omega
  refine ⟨rfl, lgF J uv F', ⟨hok.crash m, h.fine, ?_, C', uv, F', q, [], rfl, ?_, ?_, hu2, r1⟩, LgC.tch q4, fun k hk => ?_⟩
  · show (-1 : Int) ≤ _
    decide
  · rw [hxs] at q1
    rw [r2, List.append_nil]
    exact q1
  · rw [r1.cop, ← hxs]; exact q2
  · rcases hk with rfl | hk | hk
    · exact Or.inl (Or.inl rfl)
    · exact Or.inl (Or.inr (Or.inl hk))
    · exact Or.inr (q3 k hk)
theorem lMark (h : LgIs base w F J g R) (ht : TabFrom base w) :
    Calls Tryz.prog 12 #[.pointer (some ⟨J, 0, none⟩)] w fun e w' => e = .returned (.tuple #[.int .i64 g.cop.n, .int .i64 (M.mark g.cop.l)]) ∧ Below w.heap.size w w' := by
  obtain ⟨C, uv, Fc, l, half, rfl, hl, hc, hu, hr⟩ := h.is
  exact lMarkC hl hc ht
theorem lBytes (h : LgIs base w F J g R) :
    Calls Tryz.prog 13 #[.pointer (some ⟨J, 0, none⟩)] w fun e w' => e = .returned (.int .i64 g.bytes) ∧ Below w.heap.size w w' := by
  obtain ⟨C, uv, Fc, l, half, rfl, hl, hc, hu, hr⟩ := h.is
  have := lBytesC hl
  rwa [bytesB_size, ← hr.bytes] at this
theorem lSafe (h : LgIs base w F J g R) :
    Calls Tryz.prog 14 #[.pointer (some ⟨J, 0, none⟩)] w fun e w' => e = .returned (.int .i64 g.safe) ∧ Below w.heap.size w w' := by
  obtain ⟨C, uv, Fc, l, half, rfl, hl, hc, hu, hr⟩ := h.is
  exact lSafeC hl
end

end Go.Proofs.YtlefhfmckimlaakGreatDoor
