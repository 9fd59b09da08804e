/-
  What Do of package crowd does, as one law of its call.
-/
import Derived.Test.YtlefhfmckimlaakGreatDoorCrdNew
import Derived.Deep.RegionHeld3
set_option linter.unusedVariables false
namespace Go.Proofs.YtlefhfmckimlaakGreatDoor
open Go.RowKit
attribute [local go_sem ↓] Go.wp_at_zero Go.wp_at_succ

theorem txt_eq {x s : ByteArray} : (x.toList == s.toList) = true ↔ x = s := by
  rw [ByteArray.toList_eq, ByteArray.toList_eq]
  constructor
  · intro h; exact WideShapes.bytes_inj (by simpa using h)
  · intro h; subst h; simp
theorem infoSt : (Tryz.prog.info? 9).map (fun i => (i.zero, i.size, i.bytes)) = some (some (.string ⟨#[]⟩), 1, 16) := by kernel_rfl
theorem Cw.congr {base : Nat} {w : World} {K : Nat} {v : Value} {nd : Int} {Cs : List Nat} {Fs : Nat → Nat → Prop} {st st' : Nat → M.Cop} {R : List M.Rul} (h : Cw base w K v nd Cs Fs st R) (he : ∀ i, i < Cs.length → st i = st' i) : Cw base w K v nd Cs Fs st' R :=
  ⟨h.lo, h.heap, h.row, fun i hi => by rw [← he i hi]; exact h.cps i hi, h.off⟩
/-- where a copy's pointer lies -/
theorem Cw.ptr {base : Nat} {w : World} {K : Nat} {ao : Option Addr} {n cp : Nat} {nd : Int} {Cs : List Nat} {Fs : Nat → Nat → Prop} {st : Nat → M.Cop} {R : List M.Rul} (h : Cw base w K (.slice ao n cp) nd Cs Fs st R) (hn : Cs.length = n) (h0 : 0 < n) : ∃ g, ao = some ⟨g, 0, none⟩ ∧ ∀ i (hi : i < Cs.length), w.cell? ⟨g, i, none⟩ = some (.pointer (some ⟨Cs[i], 0, none⟩)) := by
  rcases h.row.2 with ⟨hv, q⟩ | ⟨g, cap, cur, hv, _⟩
  · omega
  · simp only [Value.slice.injEq] at hv
    refine ⟨g, hv.1, fun i hi => ?_⟩
    have := h.row.cells (g := g) (by rw [hv.1]; rfl) i _ (ptrs_at hi)
    rw [WideShapes.add_plain] at this
    simpa using this
theorem ptr_at {base : Nat} {w : World} {K g n cp i C : Nat} {nd : Int} {Cs : List Nat} {Fs : Nat → Nat → Prop} {st : Nat → M.Cop} {R : List M.Rul} (h : Cw base w K (.slice (some ⟨g, 0, none⟩) n cp) nd Cs Fs st R) (hn : Cs.length = n) (hC : Cs[i]? = some C) : w.cell? ⟨g, i, none⟩ = some (.pointer (some ⟨C, 0, none⟩)) := by
  obtain ⟨hi, hC'⟩ := List.getElem?_eq_some_iff.1 hC
  obtain ⟨g2, e, hp⟩ := h.ptr hn (by omega)
  simp only [Option.some.injEq, Addr.mk.injEq, and_true] at e
  subst e
  rw [← hC']
  exact hp i hi
theorem Cw.cp {base : Nat} {w : World} {K i C : Nat} {v : Value} {nd : Int} {Cs : List Nat} {Fs : Nat → Nat → Prop} {st : Nat → M.Cop} {R : List M.Rul} (h : Cw base w K v nd Cs Fs st R) (hC : Cs[i]? = some C) : CpIs base w (Fs i) C (st i) R := by
  obtain ⟨hi, rfl⟩ := List.getElem?_eq_some_iff.1 hC
  exact h.cps i hi
theorem Cw.stepAt {base : Nat} {w w' : World} {K i C : Nat} {v : Value} {nd : Int} {Cs : List Nat} {Fs : Nat → Nat → Prop} {st : Nat → M.Cop} {R : List M.Rul} {F' : Nat → Prop} {c' : M.Cop} (h : Cw base w K v nd Cs Fs st R) (hi : Cs[i]? = some C) (hC : CpIs base w' F' C c' R) (ht : Tch (Fs i) w w') (hg : Grows w (Fs i) F') :
    Cw base w' K v nd Cs (upd Fs i F') (upd st i c') R ∧ Tch (cwF K v Cs.length Fs) w w' ∧ Grows w (cwF K v Cs.length Fs) (cwF K v Cs.length (upd Fs i F')) := by
  obtain ⟨hi', rfl⟩ := List.getElem?_eq_some_iff.1 hi
  exact h.step hi' hC ht hg
/-- while a row of texts grows -/
theorem Cw.grownS {base b0 : Nat} {w w' : World} {K q : Nat} {v u : Value} {nd : Int} {Cs : List Nat} {Fs : Nat → Nat → Prop} {st : Nat → M.Cop} {R : List M.Rul} {xs : List Value} (h : Cw base w K v nd Cs Fs st R) (hr : w.ownsRow b0 9 1 u q xs) (hg : w.grownBy w' u.ownBlock) : Cw base w' K v nd Cs Fs st R ∧ Tch (fun i => u.ownBlock = some i) w w' := by
  have hT : Tch (fun i => u.ownBlock = some i) w w' := ⟨hg.os, hg.tape, hg.output, hg.size, fun i hi hn => hg.block i hi (fun e => hn e.symm), fun b cur fr hb => (hg.block b (heap_lt hb) (fun e => by
    obtain ⟨_, cc, fr', hh⟩ := ownsRow_tag hr e.symm
    rw [hh] at hb
    exact absurd (tag_eq hb) (by decide))).trans hb⟩
  refine ⟨h.keep hT (fun i hi e => ?_), hT⟩
  obtain ⟨_, cc, fr, hb⟩ := ownsRow_tag hr (g := i) e
  rcases hi with rfl | hi | ⟨q, hq, hi⟩
  · rw [h.heap] at hb; exact absurd (tag_eq hb) (by decide)
  · obtain ⟨_, cc, fr', hh⟩ := ownsRow_tag h.row hi
    rw [hh] at hb; exact absurd (tag_eq hb) (by decide)
  · exact (h.cps q hq).other hb (by decide) (by decide) (by decide) (by decide) hi
/-- behind some of the calls -/
def stK (c c' : M.Cop) (k : Nat) : Nat → M.Cop := fun j => if j < k then c' else c
theorem stK_here (c c' : M.Cop) (k : Nat) : stK c c' k k = c := if_neg (Nat.lt_irrefl _)
theorem stK_next (c c' : M.Cop) (k : Nat) : upd (stK c c' k) k c' = stK c c' (k + 1) := by
  funext j
  unfold upd stK
  by_cases e : j = k
  · subst e; rw [if_pos rfl, if_pos (Nat.lt_succ_self _)]
  · rw [if_neg e]
    by_cases h : j < k
    · rw [if_pos h, if_pos (by omega)]
    · rw [if_neg h, if_neg (by omega)]

section
variable {base : Nat} {w : World} {F : Nat → Prop} {K n : Nat} {c : M.Cop} {R : List M.Rul} {who seq deed : Int} {a : Option Addr} {m cp : Nat} {t : List M.Val} {la : Option Addr} {lm lc : Nat} {lie : List ByteArray}

theorem crDo_more (h : CwIs base w F K n c R) (hm : n < lm) (hlm : lm ≤ maxLen) :
    Calls Tryz.prog 29 #[.pointer (some ⟨K, 0, none⟩), aggA who seq deed a m cp, .slice la lm lc] w fun e w' => e = .returned (.tuple #[.string M.sNo, errV 3]) ∧ Below w.heap.size w w' := by
  obtain ⟨v, Cs, Fs, hn, _, hc⟩ := h.is
  obtain ⟨ao, cap, rfl⟩ := hc.shape
  have hb : Below w.heap.size w (w.alloc (.cells #[.int .i64 who, .int .i64 seq, .int .i64 deed, .slice a m cp] 38)) := (Below.refl _ _).alloc (Nat.le_refl _) _
  obtain ⟨c0, _, cn, _⟩ := (hc.quiet hb).cells
  have HB := hide hb
  rw [hn] at c0
  have i1 : (n : Int) < (lm : Int) := by omega
  unfold maxLen at hlm
  have := h.seven
  clear hc h hb hn
  go_enter Tryz.func29, Tryz.ntmps29
  go_wp2_with fail
  go_ret2
  exact ⟨rfl, HB.out⟩
theorem crDo_bad (h : CwIs base w (F) K n c R) (hv : ∀ wx, Tch F w wx → IsVals wx (.slice a m cp) t) (hlm : lm ≤ n) (hn : c.n < 1000) (ht : TabFrom base w) (hE : (M.doR R c ⟨who, seq, deed, t⟩).1 ≠ 0) :
    Calls Tryz.prog 29 #[.pointer (some ⟨K, 0, none⟩), aggA who seq deed a m cp, .slice la lm lc] w fun e w' => e = .returned (.tuple #[.string M.sNo, errV (M.doR R c ⟨who, seq, deed, t⟩).1]) ∧ ∃ F', CwIs base w' F' K n c R ∧ Tch F w w' ∧ Grows w F F' := by
  have HB : Hid (∀ o, Below w.heap.size w (w.alloc o)) := hide fun o => (Below.refl _ _).alloc (Nat.le_refl _) o
  obtain ⟨v, Cs, Fs, hlen, hFF, hc⟩ := h.is
  obtain ⟨ao, cap, rfl⟩ := hc.shape
  rw [hlen] at hc hFF
  subst hFF
  have hn1 := h.one
  have hn7 := h.seven
  obtain ⟨g, rfl, _⟩ := hc.ptr hlen (by omega)
  have HLEN := hide hlen
  have HC := hide hc
  have HIS := hide h
  have HX : Hid (AskBox (w.alloc (.cells #[.int .i64 who, .int .i64 seq, .int .i64 deed, .slice a m cp] 38)) w.heap.size who seq deed a m cp) := hide (AskBox.new (Below.refl _ _))
  obtain ⟨c0, _, cn, _⟩ := (hc.quiet (HB.out (.cells #[.int .i64 who, .int .i64 seq, .int .i64 deed, .slice a m cp] 38))).cells
  have i1 : ¬ (n : Int) < (lm : Int) := by omega
  have HDO : Hid (∀ wx F' C, Below w.heap.size w wx → CpIs base wx F' C c R → Calls Tryz.prog 28 #[.pointer (some ⟨C, 0, none⟩), aggA who seq deed a m cp] wx fun e w' => e = .returned (.tuple #[.string M.sNo, .iface 87 (.int .i64 (M.doR R c ⟨who, seq, deed, t⟩).1)]) ∧ ∃ F2, CpIs base w' F2 C c R ∧ Tch F' wx w' ∧ Grows wx F' F2) := hide fun wx F' C hb hC => by
    have := mDo ⟨who, seq, deed, t⟩ hC (hv wx (Tch.of_below hb)) hn (ht.next (hb.mono hc.base_le))
    rwa [(M.doR_err hE).1, (M.doR_err hE).2, errV_bad hE] at this
  rw [errV_bad hE]
  generalize (M.doR R c ⟨who, seq, deed, t⟩).1 = E at *
  clear hv ht hE hc h hlen
  go_enter Tryz.func29, Tryz.ntmps29
  go_wp2_with fail
  go_loopw [26] (fun i wr => i = .int .i64 0 ∧ wr = w.alloc (.cells #[.int .i64 who, .int .i64 seq, .int .i64 deed, .slice a m cp] 38)) (fun _ _ => 0)
  case atStart => exact ⟨rfl, rfl⟩
  case round =>
    obtain ⟨rfl, hwr⟩ := hrel
    have HB1 : Hid (Below w.heap.size w wr) := hide (by rw [hwr]; exact HB.out _)
    have HX1 : Hid (AskBox wr w.heap.size who seq deed a m cp) := hide (by rw [hwr]; exact HX.out)
    have HW1 := hide (HC.out.quiet HB1.out)
    clear c0 cn hwr
    obtain ⟨c0, _, cn, _⟩ := HW1.out.cells
    have j1 : (0 : Int) < (n : Int) := by omega
    obtain ⟨C0, hC0⟩ : ∃ C0, Cs[0]? = some C0 := ⟨_, List.getElem?_eq_getElem (by have := HLEN.out; omega)⟩
    have p0 := ptr_at HW1.out HLEN.out hC0
    obtain ⟨b0, b1, b2, b3, bn⟩ := HX1.out.cells
    have HCP : Hid (CpIs base wr (Fs 0) C0 c R) := hide (HW1.out.cp hC0)
    have HD0 := hide (HDO.out wr.drew _ _ HB1.out.drew (HCP.out.quiet ((Below.refl _ _).drew)))
    have HC0 := hide hC0
    have gn : g < wr.heap.size := World.block_lt_of_cell? wr _ p0
    clear hC0
    go_wp2_with fail
    go_region_held3 (fun w' => w'.cell? ⟨K, 0, none⟩ = some (.slice (some ⟨g, 0, none⟩) n cap) ∧ w'.cell? ⟨g, 0, none⟩ = some (.pointer (some ⟨C0, 0, none⟩)) ∧ w'.cell? ⟨w.heap.size, 0, none⟩ = some (.int .i64 who) ∧ w'.cell? ⟨w.heap.size, 1, none⟩ = some (.int .i64 seq) ∧ w'.cell? ⟨w.heap.size, 2, none⟩ = some (.int .i64 deed) ∧ w'.cell? ⟨w.heap.size, 3, none⟩ = some (.slice a m cp)) (first | go_keep | assumption)
      (first
        | (go_at_call 28; refine (unhide HD0).mono ?_; rintro e w2 ⟨rfl, F2, hC2, ht2, hg2⟩; have HS2 := hide (Cw.stepAt (w := wr.drew) (c' := c) (HW1.out.quiet ((Below.refl _ _).drew)) HC0.out hC2 ht2 hg2); have HX2 : Hid (AskBox w2 w.heap.size who seq deed a m cp) := hide ((ht2.block _ (heap_lt HX1.out) ((HCP.out.quiet ((Below.refl _ _).drew)).other (w := wr.drew) HX1.out (by decide) (by decide) (by decide) (by decide))).trans HX1.out); obtain ⟨q0, q1, qn, _⟩ := HS2.out.1.cells; obtain ⟨d0, d1, d2, d3, dn⟩ := HX2.out.cells; have r0 : w2.cell? ⟨g, 0, none⟩ = some (.pointer (some ⟨C0, 0, none⟩)) := ptr_at HS2.out.1 HLEN.out HC0.out; clear hC2 ht2 hg2))
    go_wp2_with fail
    go_ret2
    have e : upd (fun _ => c) 0 c = fun _ => c := by funext j; unfold upd; split <;> rfl
    obtain ⟨s1, s2, s3⟩ := HS2.out
    rw [e] at s1
    rw [HLEN.out] at s2 s3
    refine ⟨rfl, _, ⟨HIS.out.ok, HIS.out.fine, HIS.out.one, HIS.out.seven, _, Cs, _, HLEN.out, rfl, s1⟩, s2.after HB1.out.drew, fun i hi => (s3 i hi).imp id (fun q => Nat.le_trans HB1.out.size q)⟩

set_option maxHeartbeats 2000000 in
set_option maxRecDepth 100000 in
theorem crDo_ok (h : CwIs base w F K n c R) (hv : ∀ wx, Tch F w wx → IsVals wx (.slice a m cp) t) (hl : ∀ wx, Tch F w wx → AtS wx la lie) (hll : lm = lie.length) (hlm : lm ≤ n) (hn : c.n < 1000) (ht : TabFrom base w) (hE : (M.doR R c ⟨who, seq, deed, t⟩).1 = 0) :
    Calls Tryz.prog 29 #[.pointer (some ⟨K, 0, none⟩), aggA who seq deed a m cp, .slice la lm lc] w fun e w' => e = .returned (.tuple #[.string (M.winS (M.sayL n lie (M.doR R c ⟨who, seq, deed, t⟩).2.1) (M.need n)), errV (M.winE (M.sayL n lie (M.doR R c ⟨who, seq, deed, t⟩).2.1) (M.need n))]) ∧ ∃ F', CwIs base w' F' K n (M.doR R c ⟨who, seq, deed, t⟩).2.2 R ∧ Tch F w w' ∧ Grows w F F' := by
  obtain ⟨i0, hi, hz0, hz1, hz2⟩ := info_parts infoSt
  have HI := hide (And.intro hi (And.intro hz0 (And.intro hz1 hz2)))
  have HB : Hid (∀ o, Below w.heap.size w (w.alloc o)) := hide fun o => (Below.refl _ _).alloc (Nat.le_refl _) o
  obtain ⟨v, Cs, Fs, hlen, hFF, hc⟩ := h.is
  obtain ⟨ao, cap, rfl⟩ := hc.shape
  rw [hlen] at hc hFF
  subst hFF
  have hn1 := h.one
  have hn7 := h.seven
  obtain ⟨g, rfl, _⟩ := hc.ptr hlen (by omega)
  have HLEN := hide hlen
  have HC := hide hc
  have HIS := hide h
  have HX : Hid (AskBox (w.alloc (.cells #[.int .i64 who, .int .i64 seq, .int .i64 deed, .slice a m cp] 38)) w.heap.size who seq deed a m cp) := hide (AskBox.new (Below.refl _ _))
  obtain ⟨c0, _, cn, _⟩ := (hc.quiet (HB.out (.cells #[.int .i64 who, .int .i64 seq, .int .i64 deed, .slice a m cp] 38))).cells
  have i1 : ¬ (n : Int) < (lm : Int) := by omega
  obtain ⟨s0, hs0⟩ : ∃ s0, s0 = (M.doR R c ⟨who, seq, deed, t⟩).2.1 := ⟨_, rfl⟩
  obtain ⟨c', hc'⟩ : ∃ c', c' = (M.doR R c ⟨who, seq, deed, t⟩).2.2 := ⟨_, rfl⟩
  have HDO : Hid (∀ wx F' C, Tch (cwF K (.slice (some ⟨g, 0, none⟩) n cap) n Fs) w wx → CpIs base wx F' C c R → Calls Tryz.prog 28 #[.pointer (some ⟨C, 0, none⟩), aggA who seq deed a m cp] wx fun e w' => e = .returned (.tuple #[.string s0, .nilIface]) ∧ ∃ F2, CpIs base w' F2 C c' R ∧ Tch F' wx w' ∧ Grows wx F' F2) := hide fun wx F' C hb hC => by
    have := mDo ⟨who, seq, deed, t⟩ hC (hv wx hb) hn (ht.next (hb.below h.lows hc.base_le))
    rw [hE, ← hs0, ← hc'] at this
    exact this
  have HSZ : Hid (s0.size ≤ reachBytes) := hide (by have := M.doR_small (R := R) (a := ⟨who, seq, deed, t⟩) h.ok; rw [← hs0] at this; exact Nat.le_trans this (by decide))
  have HOK' : Hid c'.Ok := hide (by rw [hc']; exact h.ok.next)
  have HLIE := hide hl
  have HLL := hide hll
  rw [← hs0, ← hc']
  clear hi hz0 hz1 hz2 hv ht hE hc h hlen hl hll hs0 hc'
  go_enter Tryz.func29, Tryz.ntmps29
  have HX0 := HX
  go_wp2_with fail
  go_loopw [8, 26] (fun sv i wr => ∃ (k : Nat) (va : Option Addr) (vc : Nat) (Fs' : Nat → Nat → Prop), sv = .slice va k vc ∧ i = .int .i64 k ∧ k ≤ n ∧ Hid (Cw base wr K (.slice (some ⟨g, 0, none⟩) n cap) (M.need n) Cs Fs' (stK c c' k) R) ∧ Hid (wr.ownsRow w.heap.size 9 1 (.slice va k vc) k (cellsS (M.sayL k lie s0))) ∧ Hid (AskBox wr w.heap.size who seq deed a m cp) ∧ Hid (Tch (cwF K (.slice (some ⟨g, 0, none⟩) n cap) n Fs) w wr) ∧ Hid (Grows w (cwF K (.slice (some ⟨g, 0, none⟩) n cap) n Fs) (cwF K (.slice (some ⟨g, 0, none⟩) n cap) n Fs'))) (fun _ i _ => n - (intOf i).toNat)
  case atStart => exact ⟨0, none, 0, Fs, rfl, rfl, Nat.zero_le _, hide ((HC.out.quiet (HB.out _)).congr (fun i _ => rfl)), hide (World.ownsRow_nil _ _ _ _), HX, hide (Tch.of_below (HB.out _)), hide (Grows.refl _ _)⟩
  case round =>
    obtain ⟨k, va, vc, Fs', rfl, rfl, hk, hC, hO, hX, hT, hG⟩ := hrel
    clear c0 cn
    obtain ⟨z0, z1, zn, _⟩ := hC.out.cells
    by_cases hlt : k < n
    · have j1 : (k : Int) < (n : Int) := by omega
      have j0 : (0 : Int) ≤ (k : Int) := by omega
      obtain ⟨C0, hC0⟩ : ∃ C0, Cs[k]? = some C0 := ⟨_, List.getElem?_eq_getElem (by have := HLEN.out; omega)⟩
      have p0 := ptr_at hC.out HLEN.out hC0
      obtain ⟨b0, b1, b2, b3, bn⟩ := hX.out.cells
      have HCP : Hid (CpIs base wr (Fs' k) C0 c R) := hide (by have := hC.out.cp hC0; rwa [stK_here] at this)
      have HD0 := hide (HDO.out wr.drew _ _ (hT.out.then ((Below.refl _ _).drew)) (HCP.out.quiet ((Below.refl _ _).drew)))
      have HC0 := hide hC0
      have gn : g < wr.heap.size := World.block_lt_of_cell? wr _ p0
      clear hC0
      go_wp2_with fail
      go_region_held3 (fun w' => w'.cell? ⟨K, 0, none⟩ = some (.slice (some ⟨g, 0, none⟩) n cap) ∧ w'.cell? ⟨g, k, none⟩ = some (.pointer (some ⟨C0, 0, none⟩)) ∧ w'.cell? ⟨w.heap.size, 0, none⟩ = some (.int .i64 who) ∧ w'.cell? ⟨w.heap.size, 1, none⟩ = some (.int .i64 seq) ∧ w'.cell? ⟨w.heap.size, 2, none⟩ = some (.int .i64 deed) ∧ w'.cell? ⟨w.heap.size, 3, none⟩ = some (.slice a m cp)) (first | go_keep | assumption)
        (first
          | (go_at_call 28; refine (unhide HD0).mono ?_; rintro e w2 ⟨rfl, F2, hC2, ht2, hg2⟩; have HT2 := hide ht2; have HS2 := hide (Cw.stepAt (w := wr.drew) (c' := c') (hC.out.quiet ((Below.refl _ _).drew)) HC0.out hC2 ht2 hg2); have HX2 : Hid (AskBox w2 w.heap.size who seq deed a m cp) := hide ((ht2.block _ (heap_lt hX.out) ((HCP.out.quiet ((Below.refl _ _).drew)).other (w := wr.drew) hX.out (by decide) (by decide) (by decide) (by decide))).trans hX.out); obtain ⟨q0, q1, qn, _⟩ := HS2.out.1.cells; obtain ⟨d0, d1, d2, d3, dn⟩ := HX2.out.cells; have r0 : w2.cell? ⟨g, k, none⟩ = some (.pointer (some ⟨C0, 0, none⟩)) := ptr_at HS2.out.1 HLEN.out HC0.out; clear hC2 ht2 hg2))
      have HTT : Hid (Tch (cwF K (.slice (some ⟨g, 0, none⟩) n cap) n Fs) w w2) := hide (by
        have := HS2.out.2.1
        rw [HLEN.out] at this
        exact hT.out.trans hG.out (this.after ((Below.refl _ _).drew)))
      have HGG : Hid (Grows w (cwF K (.slice (some ⟨g, 0, none⟩) n cap) n Fs) (cwF K (.slice (some ⟨g, 0, none⟩) n cap) n (upd Fs' k F2))) := hide (by
        have := HS2.out.2.2
        rw [HLEN.out] at this
        exact hG.out.trans hT.out.size this)
      have HW2 : Hid (Cw base w2 K (.slice (some ⟨g, 0, none⟩) n cap) (M.need n) Cs (upd Fs' k F2) (stK c c' (k + 1)) R) := hide (by have := HS2.out.1; rwa [stK_next] at this)
      have HR2 : Hid (w2.ownsRow w.heap.size 9 1 (.slice va k vc) k (cellsS (M.sayL k lie s0))) := hide (ownsRow_at hO.out (fun b hb => by
        obtain ⟨_, cc, fr, hh⟩ := ownsRow_tag hO.out hb
        exact HT2.out.block b (heap_lt hh) ((HCP.out.quiet ((Below.refl _ _).drew)).other (w := wr.drew) hh (by decide) (by decide) (by decide) (by decide))))
      have HBL : Hid (w.heap.size ≤ w2.heap.size) := hide HTT.out.size
      have HRA : Hid (∀ y : ByteArray, (w2.alloc (.cells #[.string y] 9)).ownsRow w.heap.size 9 1 (.slice va k vc) k (cellsS (M.sayL k lie s0))) := hide fun y => ownsRow_at HR2.out (fun b hb => by
        obtain ⟨_, cc, fr, hh⟩ := ownsRow_tag HR2.out hb
        exact ((Below.refl w2.heap.size w2).alloc (Nat.le_refl _) _).block b (heap_lt hh))
      have HNA : Hid (∀ y : ByteArray, ∀ j u, [Value.string y][j]? = some u → (w2.alloc (.cells #[.string y] 9)).cell? ((⟨w2.heap.size, 0, none⟩ : Addr).add j) = some u) := hide fun y => World.news_of_block (heap_alloc_new w2 _)
      have HFIN : Hid (∀ (ans : ByteArray) (g3 k3 : Nat) (w3 : World), ans = M.sayA lie s0 k → w3.ownsRow w.heap.size 9 1 (.slice (some ⟨g3, 0, none⟩) (k + 1) k3) (k + 1) (cellsS (M.sayL k lie s0) ++ [.string ans]) → (w2.alloc (.cells #[.string ans] 9)).grownBy w3 (Value.slice va k vc).ownBlock → Cw base w3 K (.slice (some ⟨g, 0, none⟩) n cap) (M.need n) Cs (upd Fs' k F2) (stK c c' (k + 1)) R ∧ w3.ownsRow w.heap.size 9 1 (.slice (some ⟨g3, 0, none⟩) (k + 1) k3) (k + 1) (cellsS (M.sayL (k + 1) lie s0)) ∧ AskBox w3 w.heap.size who seq deed a m cp ∧ Tch (cwF K (.slice (some ⟨g, 0, none⟩) n cap) n Fs) w w3) := hide fun ans g3 k3 w3 he ho hg => by
        have hb : Below w2.heap.size w2 (w2.alloc (.cells #[.string ans] 9)) := (Below.refl _ _).alloc (Nat.le_refl _) _
        obtain ⟨v1, v2⟩ := (HW2.out.quiet hb).grownS (HRA.out ans) hg
        have hx : AskBox (w2.alloc (.cells #[.string ans] 9)) w.heap.size who seq deed a m cp := (hb.block _ (heap_lt HX2.out)).trans HX2.out
        refine ⟨v1, ?_, (v2.block _ (heap_lt hx) (fun e => ?_)).trans hx, (HTT.out.then hb).trans (fun i hi => Or.inr (ownsRow_tag (HRA.out ans) hi).1) v2⟩
        · rw [M.sayL_next, ← he]
          have e : cellsS (M.sayL k lie s0 ++ [ans]) = cellsS (M.sayL k lie s0) ++ [.string ans] := by simp [cellsS]
          rw [e]; exact ho
        · obtain ⟨_, cc, fr, hh⟩ := ownsRow_tag (HRA.out ans) e
          have := hx.symm.trans hh
          exact absurd (tag_eq (hx.symm ▸ hh)) (by decide)
      clear b0 b1 b2 b3 bn p0 z0 z1 zn gn d0 d1 d2 d3 dn q0 q1 qn r0 HS2
      by_cases hlk : k < lm
      · have j2 : (k : Int) < (lm : Int) := by omega
        have hkl : k < lie.length := HLL.out ▸ hlk
        obtain ⟨lb, lo, rfl, hlie⟩ := HLIE.out w2 HTT.out (by omega)
        obtain ⟨x2, xs⟩ := hlie k hkl
        by_cases hno : lie[k] = M.sNo
        · have HA : Hid (s0 = M.sayA lie s0 k) := hide (M.sayA_true hkl hno).symm
          rw [hno] at x2
          have x2' : w2.cell? ⟨lb, lo + k, none⟩ = some (.string ⟨#[]⟩) := x2
          clear hno x2 hlie xs
          have HRW := hide (HRA.out s0)
          have HNW := hide (HNA.out s0)
          go_wp2_with (at_builtin; refine wpList_append_lies _ rfl (.tmp 59) (.tmp 61) 70 rfl w.heap.size 9 i0 (.string ⟨#[]⟩) 1 16 Tryz.underlying70 HI.out.1 HI.out.2.1 HI.out.2.2.1 HI.out.2.2.2 rfl (by decide) (.slice va k vc) k (cellsS (M.sayL k lie s0)) rfl HRW.out ⟨w2.heap.size, 0, none⟩ 1 1 [.string s0] rfl rfl HNW.out (by intro u hu; simp at hu; subst hu; rfl) (by decide) (by unfold maxLen; omega) (by omega) (Nat.le_trans HBL.out (by simp)) (w2.heap.size + 1) (by simp) ?_)
          intro g3 k3 w3 hown3 hgrow3 hat3 hlt3
          have HF3 := hide (HFIN.out s0 g3 k3 w3 HA.out hown3 hgrow3)
          clear hown3 hgrow3 hat3
          go_wp2_with fail
          go_roundw
          case rel =>
            obtain ⟨u1, u2, u3, u4⟩ := HF3.out
            exact ⟨k + 1, some ⟨g3, 0, none⟩, k3, upd Fs' k F2, rfl, by go_num, by omega, hide u1, hide u2, hide u3, hide u4, HGG⟩
          case measure => simp [intOf]; omega
        · have HA : Hid (lie[k] = M.sayA lie s0 k) := hide (M.sayA_lie hkl hno).symm
          have hne : (lie[k].toList == (⟨#[]⟩ : ByteArray).toList) = false := by
            cases hq : (lie[k].toList == (⟨#[]⟩ : ByteArray).toList)
            · rfl
            · exact absurd (txt_eq.1 hq) hno
          have hne2 : (lie[k].toList == []) = false := by
            rw [show (⟨#[]⟩ : ByteArray).toList = [] by simp [ByteArray.toList_eq]] at hne
            exact hne
          generalize lie[k] = y at *
          clear hno hlie xs
          have HRW := hide (HRA.out y)
          have HNW := hide (HNA.out y)
          go_wp2_with (at_builtin; refine wpList_append_lies _ rfl (.tmp 59) (.tmp 61) 70 rfl w.heap.size 9 i0 (.string ⟨#[]⟩) 1 16 Tryz.underlying70 HI.out.1 HI.out.2.1 HI.out.2.2.1 HI.out.2.2.2 rfl (by decide) (.slice va k vc) k (cellsS (M.sayL k lie s0)) rfl HRW.out ⟨w2.heap.size, 0, none⟩ 1 1 [.string y] rfl rfl HNW.out (by intro u hu; simp at hu; subst hu; rfl) (by decide) (by unfold maxLen; omega) (by omega) (Nat.le_trans HBL.out (by simp)) (w2.heap.size + 1) (by simp) ?_)
          intro g3 k3 w3 hown3 hgrow3 hat3 hlt3
          have HF3 := hide (HFIN.out y g3 k3 w3 HA.out hown3 hgrow3)
          clear hown3 hgrow3 hat3
          go_wp2_with fail
          go_roundw
          case rel =>
            obtain ⟨u1, u2, u3, u4⟩ := HF3.out
            exact ⟨k + 1, some ⟨g3, 0, none⟩, k3, upd Fs' k F2, rfl, by go_num, by omega, hide u1, hide u2, hide u3, hide u4, HGG⟩
          case measure => simp [intOf]; omega
      · have j2 : ¬ (k : Int) < (lm : Int) := by omega
        have HA : Hid (s0 = M.sayA lie s0 k) := hide (M.sayA_none (by rw [← HLL.out]; omega)).symm
        have HRW := hide (HRA.out s0)
        have HNW := hide (HNA.out s0)
        go_wp2_with (at_builtin; refine wpList_append_lies _ rfl (.tmp 59) (.tmp 61) 70 rfl w.heap.size 9 i0 (.string ⟨#[]⟩) 1 16 Tryz.underlying70 HI.out.1 HI.out.2.1 HI.out.2.2.1 HI.out.2.2.2 rfl (by decide) (.slice va k vc) k (cellsS (M.sayL k lie s0)) rfl HRW.out ⟨w2.heap.size, 0, none⟩ 1 1 [.string s0] rfl rfl HNW.out (by intro u hu; simp at hu; subst hu; rfl) (by decide) (by unfold maxLen; omega) (by omega) (Nat.le_trans HBL.out (by simp)) (w2.heap.size + 1) (by simp) ?_)
        intro g3 k3 w3 hown3 hgrow3 hat3 hlt3
        have HF3 := hide (HFIN.out s0 g3 k3 w3 HA.out hown3 hgrow3)
        clear hown3 hgrow3 hat3
        go_wp2_with fail
        go_roundw
        case rel =>
          obtain ⟨u1, u2, u3, u4⟩ := HF3.out
          exact ⟨k + 1, some ⟨g3, 0, none⟩, k3, upd Fs' k F2, rfl, by go_num, by omega, hide u1, hide u2, hide u3, hide u4, HGG⟩
        case measure => simp [intOf]; omega
    · have hkn : k = n := by omega
      have j1 : ¬ (n : Int) < (n : Int) := by omega
      have HW : Hid (Calls Tryz.prog 62 #[.slice va n vc, .int .i64 (M.need n)] wr fun e w' => e = .returned (.tuple #[.string (M.winS (M.sayL n lie s0) (M.need n)), errV (M.winE (M.sayL n lie s0) (M.need n))]) ∧ Below wr.heap.size wr w') := hide (by
        have hrow := hO.out
        rw [hkn] at hrow
        obtain ⟨a', cap', e, _, _, hat⟩ := atS_own (l := M.sayL n lie s0) (M.sayL_len n lie s0).symm (fun x hx => by
          obtain ⟨q, hq, rfl⟩ := List.mem_map.1 hx
          by_cases hql : q < lie.length
          · obtain ⟨lb, lo, _, hlie⟩ := HLIE.out wr hT.out (by omega)
            by_cases hno : lie[q] = M.sNo
            · rw [M.sayA_true hql hno]; exact HSZ.out
            · rw [M.sayA_lie hql hno]; exact (hlie q hql).2
          · rw [M.sayA_none (by omega)]; exact HSZ.out) hrow
        cases e
        exact vWin va n vc (M.sayL n lie s0) (M.need n) wr (M.sayL_len n lie s0).symm (by unfold maxLen; omega) hat)
      have HFIN : Hid (∀ w', Below wr.heap.size wr w' → ∃ F', CwIs base w' F' K n c' R ∧ Tch (cwF K (.slice (some ⟨g, 0, none⟩) n cap) n Fs) w w' ∧ Grows w (cwF K (.slice (some ⟨g, 0, none⟩) n cap) n Fs) F') := hide fun w' hb => ⟨_, ⟨HOK'.out, HIS.out.fine, HIS.out.one, HIS.out.seven, .slice (some ⟨g, 0, none⟩) n cap, Cs, Fs', HLEN.out, rfl, ((hC.out.quiet hb).congr (fun i hi => by unfold stK; rw [if_pos (by rw [hkn, ← HLEN.out]; exact hi)]))⟩, hT.out.then hb, hG.out⟩
      obtain ⟨ws, hws⟩ : ∃ ws, ws = M.winS (M.sayL n lie s0) (M.need n) := ⟨_, rfl⟩
      obtain ⟨we, hwe⟩ : ∃ we, we = errV (M.winE (M.sayL n lie s0) (M.need n)) := ⟨_, rfl⟩
      rw [← hws, ← hwe] at HW
      have HWS := hide hws
      have HWE := hide hwe
      rw [hkn]
      clear hkn hws hwe
      go_wp2_with fail
      refine (unhide HW).mono ?_
      rintro e w3 ⟨rfl, hb3⟩
      have HB3 := hide hb3
      clear hb3
      go_wp2_with fail
      go_ret2
      exact ⟨by rw [← HWS.out, ← HWE.out]; rfl, HFIN.out _ HB3.out⟩
end

end Go.Proofs.YtlefhfmckimlaakGreatDoor
