/-
  What Get of package vault does, as one law of its call.
  What Put and Get of package vault do, whatever comes in, each as one law of its call.
  Texts that lie in memory behind a slice: what a walk is told of some that came in, that they stay while only new memory is written, and a row of them that a call puts together itself. For any program.
-/
import Derived.Test.YtlefhfmckimlaajGreatDoorJ60A
import Derived.Test.YtlefhfmckimlaajGreatDoorJ58A
import Derived.Deep.RegionHeld3
import Derived.Test.YtlefhfmckimlaajGreatDoorJ55A
import Derived.Test.YtlefhfmckimlaajGreatDoorJ59A
import Derived.Deep.Slices
import Derived.Deep.Strs
import Derived.ChangeSame
import Derived.Below
import Derived.WideShapes
import Derived.ProofKit
import Derived.Laws.OwnMore
import Derived.OwnWalk
import Derived.SizedLaws
set_option linter.unusedVariables false
namespace Go.Proofs.YtlefhfmckimlaajGreatDoor
open Go.RowKit Go.WideMaps Go.Maps

section
variable {base : Nat} {w : World} {F : Nat → Prop} {V : Nat} {v : M.Vlt} {a : ByteArray} {la : Option Addr} {ln lc : Nat} {l : List (Int × Int)}
abbrev Pv (V : Nat) : Obj := .cells #[.pointer (some ⟨V, 0, none⟩)] 25
theorem vGet_no (h : VtIs base w F V v) (ha : a.size ≤ maxLen) (hg : v.g a = none) :
    Calls Tryz.prog 10 #[.pointer (some ⟨V, 0, none⟩), .string a, .slice la ln lc] w fun e w' => e = .returned (.tuple #[.int .i64 0, errV 5]) ∧ Below w.heap.size w w' := by
  obtain ⟨B, K, rfl, hc⟩ := h.is
  have HQ := hide (hc.quiet ((Below.refl _ _).alloc (Nat.le_refl _) (Pv V)))
  obtain ⟨c0, c1, c2, cn⟩ := HQ.out.cells
  have hlk := HQ.out.lookNo a ha hg
  rw [errV_bad (by decide)]
  clear h hc hg HQ
  go_enter Tryz.func10, Tryz.ntmps10
  go_wp2_with fail
  go_ret2
  exact ⟨rfl, ((Below.refl _ _).alloc (Nat.le_refl _) _).alloc (by simp) _⟩
theorem vGet_full (h : VtIs base w F V v) (ha : a.size ≤ maxLen) {p : List Int} (hg : v.g a = some p) (hm : ln ≤ maxLen) (h3 : 30 < ln) :
    Calls Tryz.prog 10 #[.pointer (some ⟨V, 0, none⟩), .string a, .slice la ln lc] w fun e w' => e = .returned (.tuple #[.int .i64 0, errV 4]) ∧ Below w.heap.size w w' := by
  obtain ⟨B, K, rfl, hc⟩ := h.is
  have HQ := hide (hc.quiet ((Below.refl _ _).alloc (Nat.le_refl _) (Pv V)))
  obtain ⟨c0, c1, c2, cn⟩ := HQ.out.cells
  obtain ⟨sa, sc, ca, cc, hlk, _, _⟩ := HQ.out.lookYes a ha hg
  rw [errV_bad (by decide)]
  have i1 : (30 : Int) < (ln : Int) := by omega
  unfold maxLen at hm
  clear h hc hg HQ
  go_enter Tryz.func10, Tryz.ntmps10
  go_wp2_with fail
  go_ret2
  exact ⟨rfl, ((Below.refl _ _).alloc (Nat.le_refl _) _).alloc (by simp) _⟩
set_option maxRecDepth 100000 in
set_option maxHeartbeats 2000000 in
theorem vGet_some (h : VtIs base w F V v) (ha : a.size ≤ maxLen) {p : List Int} (hg : v.g a = some p) (hn : ln = l.length) (h3 : ¬ 30 < ln) (hl : AtP w la l) (E R : Int)
    (hE : (l.any (M.outB v.many) = true ∧ E = 1 ∧ R = 0) ∨ (l.any (M.outB v.many) = false ∧ (M.goodL p l).length < v.need ∧ E = 5 ∧ R = 0) ∨ (l.any (M.outB v.many) = false ∧ ¬ (M.goodL p l).length < v.need ∧ E = 0 ∧ R = M.next ((M.goodL p l).take v.need) 0)) :
    Calls Tryz.prog 10 #[.pointer (some ⟨V, 0, none⟩), .string a, .slice la ln lc] w fun e w' => e = .returned (.tuple #[.int .i64 R, errV E]) ∧ Below w.heap.size w w' := by
  obtain ⟨B, K, rfl, hc⟩ := h.is
  have HVB : Hid (∀ wx, Below w.heap.size w wx → Vt base wx V B v K) := hide fun wx hb => hc.quiet hb
  have HQ := hide (hc.quiet ((Below.refl _ _).alloc (Nat.le_refl _) (Pv V)))
  obtain ⟨c0, c1, c2, cn⟩ := HQ.out.cells
  obtain ⟨sa, sc, ca, cc, hlk, _, hat⟩ := HQ.out.lookYes a ha hg
  obtain ⟨n1, hcE, hmE⟩ := h.ok.nums hg
  obtain ⟨hpn, hpf⟩ := h.ok.kept a p hg
  have o1 := h.ok.one
  have o2 := h.ok.le
  have o7 := h.ok.seven
  -- the world behind the two boxes
  obtain ⟨W, hW⟩ : ∃ W, W = (w.alloc (Pv V)).alloc (.cells #[.slice sa v.many sc, .slice ca p.length cc] 73) := ⟨_, rfl⟩
  have HBW : Hid (Below w.heap.size w W) := hide (by rw [hW]; exact ((Below.refl _ _).alloc (Nat.le_refl _) _).alloc (by simp) _)
  have HX : Hid (∀ wx, Below W.heap.size W wx → wx.cell? ⟨w.heap.size, 0, none⟩ = some (.pointer (some ⟨V, 0, none⟩)) ∧ wx.cell? ⟨w.heap.size + 1, 0, none⟩ = some (.slice sa v.many sc) ∧ wx.cell? ⟨w.heap.size + 1, 1, none⟩ = some (.slice ca p.length cc) ∧ w.heap.size + 1 < wx.heap.size) := hide fun wx hb => by
    have e0 : W.heap.size = w.heap.size + 2 := by rw [hW]; simp
    have e1 : W.cell? ⟨w.heap.size, 0, none⟩ = some (.pointer (some ⟨V, 0, none⟩)) := by rw [hW]; simp [go_sem, Pv]
    have e2 : W.cell? ⟨w.heap.size + 1, 0, none⟩ = some (.slice sa v.many sc) := by rw [hW]; simp [go_sem, Pv]
    have e3 : W.cell? ⟨w.heap.size + 1, 1, none⟩ = some (.slice ca p.length cc) := by rw [hW]; simp [go_sem, Pv]
    refine ⟨(hb.cell (p := ⟨w.heap.size, 0, none⟩) (by simp; omega)).trans e1, (hb.cell (p := ⟨w.heap.size + 1, 0, none⟩) (by simp; omega)).trans e2, (hb.cell (p := ⟨w.heap.size + 1, 1, none⟩) (by simp; omega)).trans e3, ?_⟩
    have := hb.size
    omega
  have HOUT : Hid (Calls Tryz.prog 28 #[.slice la ln lc, .func (.func 29) #[] #[.pointer (some ⟨w.heap.size, 0, none⟩)]] W fun e w' => e = .returned (.bool (l.any (M.outB v.many))) ∧ Below W.heap.size W w') := hide (anyP 29 w.heap.size (M.outB v.many) la ln lc l W (enters_of Tryz.func29 (by kernel_rfl) rfl) hn (by omega) (hl.stays HBW.out (Nat.le_refl _)) (fun wr hb x y => isOut w.heap.size V v.many x y wr (HX.out wr hb).1 (HVB.out wr (HBW.out.trans (hb.mono HBW.out.size))).cells.1))
  have HLS := hide hl
  have HATW : Hid (AtI W ca (M.commits p)) := hide (hat.stays (w' := W) (B := (w.alloc (Pv V)).heap.size) (by rw [hW]; exact (Below.refl _ _).alloc (Nat.le_refl _) _) (Nat.le_refl _))
  have hp7 : p.length ≤ 7 := by omega
  have HEE := hide hE
  have HGP : Hid (l.any (M.outB v.many) = false → M.GoodP p v.many (M.goodL p l)) := hide fun hno => by
    have := M.GoodP.all (fun i hi => (n1 i hi).1) hno l.length (Nat.le_refl _)
    rwa [List.take_length] at this
  have HHON : Hid (l.any (M.outB v.many) = false → ∀ wx, Below W.heap.size W wx → Calls Tryz.prog 32 #[aggK (.slice sa v.many sc) (.slice ca p.length cc), .slice la ln lc] wx fun e w' => ∃ ga gc, e = .returned (.slice ga (M.goodL p l).length gc) ∧ w'.ownsRow wx.heap.size 37 2 (.slice ga (M.goodL p l).length gc) (M.goodL p l).length (flatP (M.goodL p l)) ∧ Below wx.heap.size wx w') := hide fun hno wx hb => vHonest hn (by omega) ((hl.stays HBW.out (Nat.le_refl _)).stays hb (Nat.le_refl _)) (HATW.out.stays hb (Nat.le_refl _)) hp7 hmE (fun k hk => by
    rw [List.any_eq_false] at hno
    obtain ⟨⟨r1, r2⟩, r3, r4⟩ := M.outB_no (many := v.many) (q := l[k]) (by simpa using hno l[k] (List.getElem_mem hk))
    exact ⟨M.inR_mk (by omega) (by omega), M.inR_mk r3 r4⟩)
  have HJ : Hid (l.any (M.outB v.many) = false → ∀ wx B9 (ga : Option Addr) (gc : Nat), wx.ownsRow B9 37 2 (.slice ga (M.goodL p l).length gc) (M.goodL p l).length (flatP (M.goodL p l)) → Calls Tryz.prog 31 #[.slice ga (M.goodL p l).length gc, .int .i64 v.need] wx fun e w' => e = .returned (.tuple #[.int .i64 R, errV E]) ∧ Below wx.heap.size wx w') := hide fun hno wx B9 ga gc hrow => by
    obtain ⟨a9, c9, e9, hcap, hcm, h9⟩ := atP_own rfl hrow
    cases e9
    have hj := sJoin ga _ gc (M.goodL p l) v.need wx rfl hcap hcm h9
    rcases hE with ⟨q1, _⟩ | ⟨_, q2, q3, q4⟩ | ⟨_, q2, q3, q4⟩
    · rw [hno] at q1; cases q1
    · obtain ⟨f1, f2⟩ := (HGP.out hno).few o7 (by omega) q2
      rw [f1, f2] at hj
      rw [q3, q4]
      exact hj
    · obtain ⟨f1, f2⟩ := (HGP.out hno).join o7 o1 (by omega)
      rw [f1, f2] at hj
      rw [q3, q4]
      exact hj
  have i1 : ¬ (30 : Int) < (ln : Int) := by omega
  have h30 : ln ≤ 30 := by omega
  clear h hc hg hn hl hE HQ hat n1 hcE hmE hpn hpf h3
  go_enter Tryz.func10, Tryz.ntmps10
  go_wp2_with fail
  rw [← hW]
  clear hW
  rcases HEE.out with ⟨q1, q2, q3⟩ | q
  · subst q2 q3
    rw [q1] at HOUT
    clear q1
    refine (unhide HOUT).mono ?_
    rintro e w1 ⟨rfl, hb1⟩
    have HB1 := hide (HBW.out.trans (hb1.mono HBW.out.size))
    clear hb1
    go_wp2_with fail
    go_ret2
    exact ⟨rfl, HB1.out⟩
  · have hno : l.any (M.outB v.many) = false := by rcases q with ⟨q, _⟩ | ⟨q, _⟩ <;> exact q
    have HH := hide (HHON.out hno)
    have HJJ := hide (HJ.out hno)
    rw [hno] at HOUT
    clear hno q HHON HJ HEE HGP
    obtain ⟨er, her⟩ : ∃ er, er = errV E := ⟨_, rfl⟩
    rw [← her] at HJJ
    have HER := hide her
    clear her
    obtain ⟨G, hG⟩ : ∃ G, G = M.goodL p l := ⟨_, rfl⟩
    rw [← hG] at HH HJJ
    obtain ⟨gn, hgn⟩ : ∃ gn, gn = G.length := ⟨_, rfl⟩
    rw [← hgn] at HH HJJ
    clear hG hgn
    refine (unhide HOUT).mono ?_
    rintro e w1 ⟨rfl, hb1⟩
    have HB1 := hide hb1
    clear hb1 c0 c1 c2 cn
    have HBV : Hid (∀ wx, Below W.heap.size W wx → Below w.heap.size w wx) := hide fun wx hb => HBW.out.trans (hb.mono HBW.out.size)
    obtain ⟨x0, x1, x2, x3⟩ := HX.out w1 HB1.out
    obtain ⟨c0, c1, c2, cn⟩ := (HVB.out w1 (HBV.out w1 HB1.out)).cells
    go_wp2_with fail
    go_region_held3 (fun w' => w'.cell? ⟨w.heap.size, 0, none⟩ = some (.pointer (some ⟨V, 0, none⟩)) ∧ w'.cell? ⟨V, 1, none⟩ = some (.int .i64 v.need) ∧ w'.cell? ⟨w.heap.size + 1, 0, none⟩ = some (.slice sa v.many sc) ∧ w'.cell? ⟨w.heap.size + 1, 1, none⟩ = some (.slice ca p.length cc)) (first | go_keep | assumption)
      (first
        | (go_at_call 32; refine (HH.out _ HB1.out.drew).mono ?_; rintro e w5 ⟨ga, gc, rfl, hr5, hb5⟩; have HB5 := hide (HB1.out.drew.trans (hb5.mono HB1.out.size)); obtain ⟨t0, t1, t2, t3⟩ := HX.out w5 HB5.out; obtain ⟨s0, s1, s2, s3⟩ := (HVB.out w5 (HBV.out w5 HB5.out)).cells; have HJK := hide (HJJ.out w5 _ ga gc hr5); clear hr5 hb5)
        | (go_at_call 31; refine (unhide HJK).mono ?_; rintro e w6 ⟨rfl, hb6⟩; have HB6 := hide (HB5.out.trans (hb6.mono HB5.out.size)); clear t0 t1 t2 t3 s0 s1 s2 s3; obtain ⟨t0, t1, t2, t3⟩ := HX.out w6 HB6.out; obtain ⟨s0, s1, s2, s3⟩ := (HVB.out w6 (HBV.out w6 HB6.out)).cells; clear hb6))
    go_wp2_with fail
    go_ret2
    exact ⟨by rw [← HER.out]; rfl, HBV.out _ HB6.out⟩
end

end Go.Proofs.YtlefhfmckimlaajGreatDoor

set_option linter.unusedVariables false
namespace Go.Proofs.YtlefhfmckimlaajGreatDoor
open Go.RowKit

section
variable {base : Nat} {w : World} {F : Nat → Prop} {V : Nat} {v : M.Vlt} {a : ByteArray} {s : Int} {ra : Option Addr} {rn rc : Nat} {r : List Int} {la : Option Addr} {ln lc : Nat} {l : List (Int × Int)}
theorem vPut (h : VtIs base w F V v) (ha : a.size ≤ maxLen) (hn : rn = r.length) (hm : rn ≤ maxLen) (hl : AtI w ra r) (ht : Tidy ra rn rc) :
    Calls Tryz.prog 8 #[.pointer (some ⟨V, 0, none⟩), .string a, .int .i64 s, .slice ra rn rc] w fun e w' => e = .returned (errV (M.vputE v a s r)) ∧ ∃ F', VtIs base w' F' V (M.vputV v a s r) ∧ Tc F w w' ∧ Gr w F F' := by
  have still : ∀ {E : Int} {e : Ending} {w' : World}, M.vputE v a s r = E → E ≠ 0 → (e = .returned (errV E) ∧ Below w.heap.size w w') → e = .returned (errV (M.vputE v a s r)) ∧ ∃ F', VtIs base w' F' V (M.vputV v a s r) ∧ Tc F w w' ∧ Gr w F F' := fun he h0 hx => by
    rw [M.vputV_bad (by rw [he]; exact h0), he]
    exact ⟨hx.1, F, h.quiet hx.2, Tc.of_below hx.2, Gr.refl _ _⟩
  rcases M.vputE_ways v a s r with q | ⟨q1, q2⟩ | ⟨q1, q2, q3⟩ | ⟨q1, q2, q3, q4⟩ | ⟨q1, q2, q3, q4, q5⟩ | ⟨q1, q2, q3, q4, q5⟩
  · exact (vPut_long h ha q).mono fun _ _ he => still (M.vputE_long q) (by decide) he
  · exact (vPut_there h q1 q2).mono fun _ _ he => still (M.vputE_there q1 q2) (by decide) he
  · exact (vPut_shape h q1 q2 hn hm q3).mono fun _ _ he => still (M.vputE_shape q1 q2 q3) (by decide) he
  · exact (vPut_deal h q1 q2 hn hm hl ht q3 q4).mono fun _ _ he => still (M.vputE_deal q1 q2 q3 q4) q4 he
  · exact (vPut_full h q1 q2 hn hm hl ht q3 q4 q5).mono fun _ _ he => still (M.vputE_full q1 q2 q3 q4 q5) (by decide) he
  · rw [M.vputE_0 q1 q2 q3 q4 q5]
    exact vPut_did h q1 q2 hn hm hl ht q3 q4 q5
theorem vGet (h : VtIs base w F V v) (ha : a.size ≤ maxLen) (hn : ln = l.length) (hm : ln ≤ maxLen) (hl : AtP w la l) :
    Calls Tryz.prog 10 #[.pointer (some ⟨V, 0, none⟩), .string a, .slice la ln lc] w fun e w' => e = .returned (.tuple #[.int .i64 (M.getR' v a l), errV (M.getE' v a l)]) ∧ Below w.heap.size w w' := by
  cases hg : v.g a with
  | none =>
    have e := M.getE_no (l := l) hg
    rw [M.getR_bad (by rw [e]; decide), e]
    exact vGet_no h ha hg
  | some p =>
    by_cases h3 : 30 < ln
    · have e := M.getE_full (l := l) hg (by omega)
      rw [M.getR_bad (by rw [e]; decide), e]
      exact vGet_full h ha hg hm h3
    · refine vGet_some h ha hg hn h3 hl _ _ ?_
      have h3' : ¬ 30 < l.length := by omega
      cases hx : l.any (M.outB v.many)
      · by_cases hy : (M.goodL p l).length < v.need
        · have e := M.getE_few hg h3' hx hy
          exact Or.inr (Or.inl ⟨rfl, hy, e, M.getR_bad (by rw [e]; decide)⟩)
        · have e := M.getE_0 hg h3' hx hy
          exact Or.inr (Or.inr ⟨rfl, hy, e, M.getR_ok hg e⟩)
      · have e := M.getE_out hg h3' hx
        exact Or.inl ⟨rfl, e, M.getR_bad (by rw [e]; decide)⟩
end

end Go.Proofs.YtlefhfmckimlaajGreatDoor

namespace Go.Proofs.YtlefhfmckimlaajGreatDoor
open Go.RowKit Go.Deep

/-- the texts l lie in w from cell off of block b on -/
def LieS (w : World) (b off : Nat) (l : List ByteArray) : Prop := ∀ i (h : i < l.length), w.cell? ⟨b, off + i, none⟩ = some (.string l[i]) ∧ l[i].size ≤ reachBytes
/-- where a slice has its texts: nowhere, if there are none -/
def AtS (w : World) (a : Option Addr) (l : List ByteArray) : Prop := 0 < l.length → ∃ b off, a = some ⟨b, off, none⟩ ∧ LieS w b off l
theorem LieS.stays {w w' : World} {b off B : Nat} {l : List ByteArray} (h : LieS w b off l) (hb : Below B w w') (hB : w.heap.size ≤ B) : LieS w' b off l := fun i hi => by
  obtain ⟨g, g2⟩ := h i hi
  exact ⟨(hb.cell (p := ⟨b, off + i, none⟩) (Nat.lt_of_lt_of_le (World.block_lt_of_cell? w _ g) hB)).trans g, g2⟩
theorem AtS.stays {w w' : World} {a : Option Addr} {B : Nat} {l : List ByteArray} (h : AtS w a l) (hb : Below B w w') (hB : w.heap.size ≤ B) : AtS w' a l := fun h0 => by
  obtain ⟨b, off, e, g⟩ := h h0
  exact ⟨b, off, e, g.stays hb hB⟩

theorem weightsAll_mem {H : Type} {P : Program} {e : TypeId} : ∀ {L : List (DataW H)} {d : DataW H}, d ∈ L → ∀ m ∈ d.weights P e, m ∈ DataW.weightsAll P e L
  | d0 :: L, d, h, m, hm => by
    simp only [DataW.weightsAll, List.mem_append]
    rcases List.mem_cons.1 h with rfl | h
    · exact Or.inl hm
    · exact Or.inr (weightsAll_mem h m hm)
  | [], _, h, _, _ => by cases h
/-- an argument's own sizes, out of all of them -/
theorem sized_at {H : Type} {P : Program} {ts : List TypeId} {ds : List (DataW H)} (h : (DataW.weightsEach P ts ds).all (· ≤ reachBytes) = true) {j : Nat} {t : TypeId} {d : DataW H} (ht : ts[j]? = some t) (hd : ds[j]? = some d) : ∀ m ∈ d.weights P t, m ≤ reachBytes := fun m hm => by
  simpa using List.all_eq_true.1 h m (DataW.weights_mem_each ht hd m hm)
/-- an argument of type []string -/
theorem open_strs {H : Type} {enc : TypeId × Value → H} {P : Program} {w : World} {tt t : TypeId} {a : Option Addr} {len cap : Nat} {d : DataW H} {p : List MemPlace}
    (htt : P.underlying tt = some (.slice t)) (ct : P.cellsOf t = 1) (ht : P.underlying t = some .string) (h : DataW.Trod enc P w 0 (fun _ => true) true tt (.slice a len cap) d p) (hw : ∀ m ∈ d.weights P tt, m ≤ reachBytes) :
    ∃ l : List ByteArray, len = l.length ∧ len ≤ cap ∧ cap ≤ maxLen ∧ AtS w a l ∧ (a = none → len = 0 ∧ cap = 0) := by
  obtain ⟨fuel, hf⟩ := h
  rcases open_slice1 htt ct hf with ⟨hcs, hd⟩ | ⟨x, len', cap', m, n, V, D, Pl, hcs, _, hl, hm, hmm, hd, hx⟩
  · simp [Value.cells] at hcs
    obtain ⟨rfl, rfl, rfl⟩ := hcs
    exact ⟨[], rfl, Nat.zero_le _, Nat.zero_le _, fun h => absurd h (by decide), fun _ => ⟨rfl, rfl⟩⟩
  · simp [Value.cells] at hcs
    obtain ⟨rfl, rfl, rfl⟩ := hcs
    have hmc : m = cap := by rw [hmm]; simp
    have each : ∀ i, i < len → ∃ z : ByteArray, w.cell? (x.add i) = some (.string z) ∧ z.size ≤ reachBytes := by
      intro i hi
      obtain ⟨h1, h2⟩ := hx i (by omega)
      obtain ⟨z, hz, hdz, _⟩ := DataW.trod_string ht h2
      simp at hz
      rw [hz] at h1
      have hdi : D i = .lit (.string z.data.toList) := by simpa using congrArg Prod.fst hdz
      refine ⟨z, h1, hw _ ?_⟩
      rw [(Prod.mk.inj hd).1]
      simp only [DataW.weights, htt, List.mem_cons, List.mem_append]
      refine Or.inr (Or.inl (weightsAll_mem (d := D i) (List.mem_map.2 ⟨i, List.mem_range.2 hi, rfl⟩) _ ?_))
      rw [hdi]
      simp [DataW.weights]
    rcases Nat.eq_zero_or_pos len with h0 | h0
    · subst h0; exact ⟨[], rfl, hl, by omega, fun h => absurd h (by simp), fun e => by cases e⟩
    haveI : Inhabited ByteArray := ⟨⟨#[]⟩⟩
    obtain ⟨f, hfe⟩ := choose_lt each
    obtain ⟨b, off, spot⟩ := x
    have hspot : spot = none := by simpa [Addr.add] using World.cell?_spot (hfe 0 h0).1
    subst hspot
    have hll : ((List.range len).map f).length = len := by simp
    refine ⟨(List.range len).map f, hll.symm, hl, by omega, fun _ => ⟨b, off, rfl, fun i hi => ?_⟩, fun e => by cases e⟩
    have hi' : i < len := by rw [hll] at hi; exact hi
    have e : ((List.range len).map f)[i] = f i := by simp
    rw [e]
    have g := hfe i hi'
    rw [WideShapes.add_plain] at g
    exact g

/-- the cells of some texts, in a row -/
def cellsS (l : List ByteArray) : List Value := l.map fun z => .string z
theorem cellsS_len (l : List ByteArray) : (cellsS l).length = l.length := by simp [cellsS]
theorem cellsS_at {l : List ByteArray} {j : Nat} (h : j < l.length) : (cellsS l)[j]? = some (.string l[j]) := by simp [cellsS, h]
theorem cellsS_oneCell (l : List ByteArray) : ∀ u ∈ cellsS l, u.oneCell' = true := fun u h => by
  simp only [cellsS, List.mem_map] at h
  obtain ⟨z, _, rfl⟩ := h
  rfl
theorem cellsS_set (l : List ByteArray) (j : Nat) (x : ByteArray) : cellsS (l.set j x) = (cellsS l).set j (.string x) := by unfold cellsS; rw [List.map_set]
/-- texts that a call has put together itself -/
theorem atS_own {w : World} {base : Nat} {e : TypeId} {v : Value} {m : Nat} {l : List ByteArray} (hm : m = l.length) (hs : ∀ x ∈ l, x.size ≤ reachBytes) (h : w.ownsRow base e 1 v m (cellsS l)) : ∃ a cap, v = .slice a m cap ∧ m ≤ cap ∧ cap ≤ maxLen ∧ AtS w a l := by
  have hc := h
  rcases h.2 with ⟨hv, hn⟩ | ⟨g, cap, cur, hv, _, _, hn, hcm, _⟩
  · exact ⟨none, 0, by rw [hv, hn], by omega, Nat.zero_le _, fun h0 => by omega⟩
  · refine ⟨some ⟨g, 0, none⟩, cap, hv, hn, hcm, fun _ => ⟨g, 0, rfl, fun i hi => ?_⟩⟩
    have g1 := hc.cells (g := g) (by rw [hv]; rfl) _ _ (cellsS_at hi)
    rw [WideShapes.add_plain] at g1
    exact ⟨g1, hs _ (List.getElem_mem hi)⟩
/-- the cells of texts that lie somewhere -/
theorem AtS.news {w : World} {ad : Addr} {l : List ByteArray} (h : AtS w (some ad) l) : ∀ j u, (cellsS l)[j]? = some u → w.cell? (ad.add j) = some u := fun j u hu => by
  have hj : j < l.length := by
    have := (List.getElem?_eq_some_iff.1 hu).1
    rwa [cellsS_len] at this
  obtain ⟨b, off, e, g⟩ := h (by omega)
  cases e
  rw [cellsS_at hj] at hu
  cases hu
  rw [WideShapes.add_plain]
  exact (g j hj).1

end Go.Proofs.YtlefhfmckimlaajGreatDoor
