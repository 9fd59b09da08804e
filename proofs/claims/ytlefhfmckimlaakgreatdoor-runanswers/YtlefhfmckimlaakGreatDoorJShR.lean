/-
  What the document's own In and Power do, each as one law of its call.
  What the document's own Factors, At and Points do, each as one law of its call.
  What the document's own Dealt, Deal and Join do, and tuplesame.Shares at lists that are the same: each as one law of its call.
  A row of the call's own, to which a slice that came in is appended, be it nil or not: as one law for the walk.
  What the document's own Deal does, as one law of its call.
-/
import Derived.Test.YtlefhfmckimlaakGreatDoorJPMem
import Derived.BigQuiet
import Derived.Deep.QuietTactic
import Derived.Test.YtlefhfmckimlaakGreatDoorShareDeal2
import Derived.WalkSmall
import Derived.Laws.AppendOwnNone
import Derived.Laws.AppendOwn
namespace Go.Proofs.YtlefhfmckimlaakGreatDoor.Md
open Go.RowKit

/-- a number of the chapter's -/
def inB (a : Int) : Bool := decide (0 ≤ a ∧ a < 257)
theorem inB_yes {a : Int} (h : inB a = true) : 0 ≤ a ∧ a < 257 := of_decide_eq_true h
theorem inB_no {a : Int} (h : inB a = false) : a < 0 ∨ 257 ≤ a := by have := of_decide_eq_false h; omega

theorem refIn (a : Int) (w : World) : Calls Tryz.prog 116 #[.int .i64 a] w fun e w' => e = .returned (.bool (inB a)) ∧ w' = w := by
  cases h : inB a
  · rcases inB_no h with h1 | h1
    · clear h
      go_enter Tryz.func116, Tryz.ntmps116
      go_wp2
      go_ret
      exact ⟨rfl, rfl⟩
    · clear h
      have h0 : 0 ≤ a := by omega
      go_enter Tryz.func116, Tryz.ntmps116
      go_wp2
      go_ret
      exact ⟨by simp; omega, rfl⟩
  · obtain ⟨h0, h1⟩ := inB_yes h
    clear h
    go_enter Tryz.func116, Tryz.ntmps116
    go_wp2
    go_ret
    exact ⟨by simp; omega, rfl⟩


end Go.Proofs.YtlefhfmckimlaakGreatDoor.Md

set_option linter.unusedVariables false
namespace Go.Proofs.YtlefhfmckimlaakGreatDoor
open Go.RowKit

theorem rIn (a : Int) (w : World) : Calls Tryz.prog 116 #[.int .i64 a] w fun e w' => e = .returned (.bool (M.inR a)) ∧ w' = w := Md.refIn a w

theorem rFac (a : Option Addr) (n cap : Nat) (p : List Int) (w : World) (hn : n = p.length) (hm : n ≤ maxLen) (hl : AtI w a p) :
    Calls Tryz.prog 117 #[.slice a n cap] w fun e w' => e = .returned (.int .i64 (M.facE p)) ∧ w' = w := by
  unfold maxLen at hm
  by_cases h7 : 7 < n
  · have h7' : (7 : Int) < n := by omega
    rw [M.facE_many (hn ▸ h7)]
    clear hn hl
    go_enter Tryz.func117, Tryz.ntmps117
    go_wp2
    go_ret
    exact ⟨rfl, rfl⟩
  · have h7' : ¬ (7 : Int) < n := by omega
    rw [M.facE_few (hn ▸ h7)]
    have HL := hide hl
    have HN := hide hn
    clear hl hn
    go_enter Tryz.func117, Tryz.ntmps117
    go_wp2
    go_loop [3] (fun i => ∃ k : Nat, k ≤ n ∧ i = .int .i64 k ∧ Hid (M.first (M.facF p) k = 0)) (fun i => n - (intOf i).toNat)
    case atStart => exact ⟨0, Nat.zero_le _, rfl, hide rfl⟩
    case round =>
      obtain ⟨k, hk, rfl, hno⟩ := hrel
      by_cases hlt : k < n
      · have hkl : k < p.length := HN.out ▸ hlt
        obtain ⟨b, off, rfl, hlie⟩ := HL.out (by omega)
        have c1 := hlie k hkl
        have HF := hide (M.facF_at hkl)
        clear hlie
        generalize hz : p[k] = z at c1 HF
        clear hz
        cases hb : M.inR z
        · have HC : Hid (∀ w, Calls Tryz.prog 116 #[.int .i64 z] w fun e w' => e = .returned (.bool false) ∧ w' = w) := hide fun w => by have := rIn z w; rwa [hb] at this
          have hfin : Hid (M.first (M.facF p) p.length = 1) := hide (by
            have h1 := HF.out
            rw [hb] at h1
            rw [M.first_bad hkl hno.out (by rw [h1]; decide), h1]; rfl)
          clear hb
          go_wp2_with fail
          refine (unhide HC _).mono ?_
          rintro e w1 ⟨rfl, rfl⟩
          go_wp2_with fail
          go_ret
          exact ⟨by rw [hfin.out]; rfl, rfl⟩
        · have HC : Hid (∀ w, Calls Tryz.prog 116 #[.int .i64 z] w fun e w' => e = .returned (.bool true) ∧ w' = w) := hide fun w => by have := rIn z w; rwa [hb] at this
          have HS : Hid (M.first (M.facF p) (k + 1) = 0) := hide (by rw [M.first_next hno.out, HF.out, if_pos hb])
          clear hb
          go_wp2_with fail
          refine (unhide HC _).mono ?_
          rintro e w1 ⟨rfl, rfl⟩
          go_wp2_with fail
          go_round
          case rel => exact ⟨k + 1, by omega, by go_num, HS⟩
          case measure => simp [intOf]; omega
      · have hfin : Hid (M.first (M.facF p) p.length = 0) := hide (by rw [← HN.out, show n = k by omega]; exact hno.out)
        go_wp2
        go_ret
        exact ⟨by rw [hfin.out]; rfl, rfl⟩

theorem rAt (a : Option Addr) (n cap : Nat) (p : List Int) (x : Int) (w : World) (hn : n = p.length) (hl : AtI w a p) (hf : M.facE p = 0) (hx0 : 0 ≤ x) (hx1 : x < 257) :
    Calls Tryz.prog 118 #[.slice a n cap, .int .i64 x] w fun e w' => e = .returned (.int .i64 (M.ev p x)) ∧ w' = w := by
  obtain ⟨h7, hr⟩ := M.facE_ok hf
  have h7n : n ≤ 7 := by omega
  have HL := hide hl
  have HN := hide hn
  have HR := hide hr
  clear hl hn hr hf h7
  go_enter Tryz.func118, Tryz.ntmps118
  go_wp2
  go_loop [5, 6, 7] (fun ss st si => ∃ (k : Nat) (s t : Int), ss = .int .i64 s ∧ st = .int .i64 t ∧ si = .int .i64 k ∧ k ≤ n ∧ (0 ≤ s ∧ s < 257) ∧ (0 ≤ t ∧ t < 257) ∧ Hid (s = M.ev (p.take k) x) ∧ Hid (t = M.upI x k)) (fun _ _ si => n - (intOf si).toNat)
  case atStart => exact ⟨0, 0, 1, rfl, rfl, rfl, Nat.zero_le _, by decide, by decide, hide rfl, hide rfl⟩
  case round =>
    obtain ⟨k, s, t, rfl, rfl, rfl, hk, ⟨s0, s1⟩, ⟨t0, t1⟩, hs, ht⟩ := hrel
    by_cases hlt : k < n
    · have hkl : k < p.length := by have := HN.out; omega
      obtain ⟨b, off, rfl, hlie⟩ := HL.out (by omega)
      have c1 := hlie k hkl
      obtain ⟨z0, z1⟩ := HR.out k hkl
      have HS : Hid (M.ev (p.take (k + 1)) x = (M.ev (p.take k) x + p[k] * M.upI x k) % 257) := hide (by
        rw [List.take_succ_eq_append_getElem hkl, M.ev_snoc, List.length_take, Nat.min_eq_left (by omega)])
      have HT := hide (M.upI_succ x k)
      clear hlie
      generalize p[k] = z at c1 z0 z1 HS
      obtain ⟨p0, p1⟩ := prod_range z0 z1 t0 t1
      obtain ⟨q0, q1⟩ := prod_range t0 t1 hx0 hx1
      go_wp2
      go_round
      case rel => exact ⟨k + 1, (s + z * t) % 257, t * x % 257, rfl, rfl, by go_num, by omega, by omega, by omega, hide (by rw [HS.out, hs.out, ht.out]), hide (by rw [HT.out, ht.out])⟩
      case measure => simp [intOf]; omega
    · have hfin : Hid (s = M.ev p x) := hide (by rw [hs.out, List.take_of_length_le (by have := HN.out; omega)])
      clear hs
      go_wp2
      go_ret
      exact ⟨by rw [hfin.out]; rfl, rfl⟩

end Go.Proofs.YtlefhfmckimlaakGreatDoor

set_option linter.unusedVariables false
namespace Go.Proofs.YtlefhfmckimlaakGreatDoor
open Go.RowKit

theorem pairIn (a b : Int) (w : World) : (Op.equalIn 10000 148 (.agg #[.int .i64 a, .int .i64 b]) (.agg #[.int .i64 a, .int .i64 b])).run Tryz.prog w = .ok true w := by
  go_simp
theorem pairNe (a b : Int) (w : World) : (binOp .neq 148 (.agg #[.int .i64 a, .int .i64 b]) (.agg #[.int .i64 a, .int .i64 b])).run Tryz.prog w = .ok (.bool false) w := by
  rw [run_neq_struct, pairIn]; rfl


theorem rDealt (s : Int) (a : Option Addr) (n cap : Nat) (r : List Int) (m : Int) (w : World) (hn : n = r.length) (hm : n ≤ maxLen) (hl : AtI w a r) :
    Calls Tryz.prog 72 #[.int .i64 s, .slice a n cap, .int .i64 m] w fun e w' => e = .returned (.int .i64 (M.dealE s r m)) ∧ w' = w := by
  have hF := rFac a n cap r w hn hm hl
  unfold maxLen at hm
  cases hs : M.inR s
  · have e1 := M.secE_s (r := r) hs
    rw [M.dealE_sec (by rw [e1]; decide), e1]
    have HS : Hid (∀ wx, Calls Tryz.prog 116 #[.int .i64 s] wx fun e w' => e = .returned (.bool false) ∧ w' = wx) := hide fun wx => by have := rIn s wx; rwa [hs] at this
    clear hF hn hl hs e1
    go_enter Tryz.func72, Tryz.ntmps72
    go_wp2_with fail
    refine (HS.out _).mono ?_
    rintro e w1 ⟨rfl, hw⟩
    obtain rfl := hw.symm
    go_wp2_with fail
    go_ret
    exact ⟨rfl, rfl⟩
  · have HS : Hid (∀ wx, Calls Tryz.prog 116 #[.int .i64 s] wx fun e w' => e = .returned (.bool true) ∧ w' = wx) := hide fun wx => by have := rIn s wx; rwa [hs] at this
    by_cases h6 : 6 < n
    · have e1 := M.secE_many hs (hn ▸ h6)
      have h6' : (6 : Int) < n := by omega
      rw [M.dealE_sec (by rw [e1]; decide), e1]
      clear hF hn hl hs e1
      go_enter Tryz.func72, Tryz.ntmps72
      go_wp2_with fail
      refine (HS.out _).mono ?_
      rintro e w1 ⟨rfl, hw⟩
      obtain rfl := hw.symm
      go_wp2_with fail
      go_ret
      exact ⟨rfl, rfl⟩
    · have h6' : ¬ (6 : Int) < n := by omega
      have e1 : M.secE s r = M.facE r := by rw [M.secE_few hs (hn ▸ h6), M.facE_few (by omega)]
      by_cases hf : M.facE r = 0
      · have hsec : M.secE s r = 0 := by rw [e1]; exact hf
        rw [hf] at hF
        have HF := hide hF
        have hq : (m < 1 ∧ M.dealE s r m = 1) ∨ (¬ m < 1 ∧ 7 < m ∧ M.dealE s r m = 1) ∨ (¬ m < 1 ∧ ¬ 7 < m ∧ m ≤ (n : Int) ∧ M.dealE s r m = 3) ∨ (¬ m < 1 ∧ ¬ 7 < m ∧ ¬ m ≤ (n : Int) ∧ M.dealE s r m = 0) := by
          by_cases q1 : m < 1
          · exact Or.inl ⟨q1, M.dealE_cnt hsec (decide_eq_false (by omega))⟩
          · by_cases q2 : 7 < m
            · exact Or.inr (Or.inl ⟨q1, q2, M.dealE_cnt hsec (decide_eq_false (by omega))⟩)
            · by_cases q3 : m ≤ (n : Int)
              · exact Or.inr (Or.inr (Or.inl ⟨q1, q2, q3, M.dealE_few hsec (M.cntB_mk (by omega) (by omega)) (by omega)⟩))
              · exact Or.inr (Or.inr (Or.inr ⟨q1, q2, q3, M.dealE_0 hsec (M.cntB_mk (by omega) (by omega)) (by omega)⟩))
        clear hF hn hl hs e1 hf hsec
        rcases hq with ⟨q1, q4⟩ | ⟨q1, q2, q4⟩ | ⟨q1, q2, q3, q4⟩ | ⟨q1, q2, q3, q4⟩
        all_goals
          rw [q4]
          clear q4
          go_enter Tryz.func72, Tryz.ntmps72
          go_wp2_with fail
          refine (HS.out _).mono ?_
          rintro e w1 ⟨rfl, hw⟩
          obtain rfl := hw.symm
          go_wp2_with fail
          refine (unhide HF).mono ?_
          rintro e w1 ⟨rfl, hw⟩
          obtain rfl := hw.symm
          go_wp2_with fail
          go_ret
          exact ⟨rfl, rfl⟩
      · rw [M.dealE_sec (by rw [e1]; exact hf), e1]
        generalize M.facE r = f at hF hf ⊢
        have HF := hide hF
        have hf' : (f == 0) = false := by simpa using hf
        clear hF hn hl hs e1 hf
        go_enter Tryz.func72, Tryz.ntmps72
        go_wp2_with fail
        refine (HS.out _).mono ?_
        rintro e w1 ⟨rfl, hw⟩
        obtain rfl := hw.symm
        go_wp2_with fail
        refine (unhide HF).mono ?_
        rintro e w1 ⟨rfl, hw⟩
        obtain rfl := hw.symm
        go_wp2_with fail
        go_ret
        exact ⟨rfl, rfl⟩


end Go.Proofs.YtlefhfmckimlaakGreatDoor

set_option linter.unusedVariables false
namespace Go.Proofs.YtlefhfmckimlaakGreatDoor
open Go

theorem append_tidy {P : Program} (w : World) {ops : Array Oper} {rest : List Oper} {o : Oper} {a : Act} {Q : Exit → Act → World → Prop} (hgd : o.guard = none) (s x : Operand) (t : TypeId)
    (ho : o.op = .call { callee := .builtin .append, args := #[s, x], argTypes := #[t, t] })
    (base : Nat) (e : TypeId) (i : TypeInfo) (z : Value) (size bytes : Nat) (ht : P.underlying t = some (.slice e)) (hi : P.info? e = some i) (hz : i.zero = some z)
    (hsize : i.size = size) (hby : i.bytes = bytes) (hzs : z.cells.size = size) (hsz : 0 < size)
    (v : Value) (n : Nat) (xs : List Value) (hs : a.eval s = v) (hown : w.ownsRow base e size v n xs)
    (ad : Option Addr) (m c : Nat) (news : List Value) (hx : a.eval x = .slice ad m c) (htidy : ad = none → m = 0 ∧ c = 0) (hl : news.length = m * size) (hnews : ∀ ad', ad = some ad' → ∀ j u, news[j]? = some u → w.cell? (ad'.add j) = some u) (h1 : ∀ u ∈ news, u.oneCell' = true)
    (h63 : n + m ≤ maxLen) (hbytes : (n + m) * bytes ≤ 140737488355328) (hbase : base ≤ w.heap.size)
    (h : ∀ v' w', w'.ownsRow base e size v' (n + m) (xs ++ news) → w.grownBy w' v.ownBlock → wpList P ops Q rest (a.put o.dst v') w') : wpList P ops Q (o :: rest) a w := by
  cases ad with
  | none =>
    obtain ⟨rfl, rfl⟩ := htidy rfl
    have hnil : news = [] := List.length_eq_zero_iff.1 (by rw [hl, Nat.zero_mul])
    subst hnil
    exact wpList_append_own_none hgd s x t ho base e i size ht hi v n xs hs hown hx (h v w (by rw [List.append_nil]; exact hown) ⟨rfl, rfl, rfl, Nat.le_refl _, fun _ _ _ => rfl⟩)
  | some ad' =>
    exact wpList_append_own w hgd s x t ho base e i z size bytes ht hi hz hsize hby hzs hsz v n xs hs hown ad' m c news hx hl (hnews ad' rfl) h1 h63 hbytes hbase fun v' w' g1 g2 _ => h v' w' g1 g2

end Go.Proofs.YtlefhfmckimlaakGreatDoor

set_option linter.unusedVariables false
namespace Go.Proofs.YtlefhfmckimlaakGreatDoor
open Go.RowKit

theorem row_lower {w : World} {base b2 n k : Nat} {e : TypeId} {v : Value} {xs : List Value} (h : w.ownsRow base e k v n xs) (hb : b2 ≤ base) : w.ownsRow b2 e k v n xs := by
  refine ⟨h.1, ?_⟩
  rcases h.2 with q | ⟨g, cap, cur, hv, hg, hh, r⟩
  · exact Or.inl q
  · exact Or.inr ⟨g, cap, cur, hv, Nat.le_trans hb hg, hh, r⟩
set_option maxRecDepth 100000 in
set_option maxHeartbeats 2000000 in
/-- .. and whose the row is -/
theorem rDealO (s : Int) (a : Option Addr) (n cap : Nat) (r : List Int) (m : Nat) (w : World) (hn : n = r.length) (hl : AtI w a r) (ht : Tidy a n cap) (hf : M.secE s r = 0) (h7 : m ≤ 7) :
    Calls Tryz.prog 74 #[.int .i64 s, .slice a n cap, .int .i64 m] w fun e w' => (∃ v c, e = .returned (.slice v m c) ∧ w'.ownsRow w.heap.size 148 2 (.slice v m c) m (flatP (M.deal (s :: r) m))) ∧ Below w.heap.size w w' := by
  obtain ⟨i0, hi, hz0, hz1, hz2⟩ := info_parts infoInt
  have HI := hide (And.intro hi (And.intro hz0 (And.intro hz1 hz2)))
  obtain ⟨i1, gi, gz0, gz1, gz2⟩ := info_parts infoP
  have GI := hide (And.intro gi (And.intro gz0 (And.intro gz1 gz2)))
  obtain ⟨⟨s0, s1⟩, hr6, hfr⟩ := M.secE_ok hf
  have HF := hide (M.facE_cons s0 s1 hr6 hfr)
  have hn6 : n ≤ 6 := by omega
  have HR := hide hn
  have HT := hide ht
  have HLIT : Hid ((w.alloc (.cells #[.int .i64 s] 3)).ownsRow w.heap.size 3 1 (.slice (some ⟨w.heap.size, 0, none⟩) 1 1) 1 (#[Value.int .i64 s] : Array Value).toList) := hide (World.ownsRow_lit w #[.int .i64 s] 1 (Nat.le_refl _) (by decide) rfl)
  have HB1 : Hid (Below w.heap.size w (w.alloc (.cells #[.int .i64 s] 3))) := hide ((Below.refl _ w).alloc (Nat.le_refl _) _)
  have HNEW : Hid (∀ ad, a = some ad → ∀ j u, (cellsI r)[j]? = some u → (w.alloc (.cells #[.int .i64 s] 3)).cell? (ad.add j) = some u) := hide fun ad e => by
    subst e
    exact (hl.stays HB1.out (Nat.le_refl _)).news
  have HLEN : Hid ((cellsI r).length = n * 1) := hide (by rw [cellsI_len, ← hn, Nat.mul_one])
  clear hi hz0 hz1 hz2 gi gz0 gz1 gz2 hn hl ht hf s0 s1 hr6 hfr
  go_enter Tryz.func74, Tryz.ntmps74
  go_wp2_with (at_builtin; refine append_tidy _ rfl (.tmp 12) (.tmp 13) 24 rfl w.heap.size 3 i0 (.int .i64 0) 1 8 Tryz.underlying24 HI.out.1 HI.out.2.1 HI.out.2.2.1 HI.out.2.2.2 rfl (by decide) (.slice (some ⟨w.heap.size, 0, none⟩) 1 1) 1 _ rfl HLIT.out a n cap (cellsI r) rfl HT.out HLEN.out HNEW.out (cellsI_oneCell r) (by unfold maxLen; omega) (by omega) (by simp) ?_)
  intro v1 w2 hown hgrow
  have HB2 := hide (HB1.out.grown hgrow (by simp) (fun j hj => (HLIT.out.lt j hj).1))
  have hlen : 1 + n = (s :: r).length := by rw [List.length_cons, HR.out]; omega
  obtain ⟨a1, c1, rfl, _, _, hat⟩ := atI_own (l := s :: r) hlen hown
  have HAT : Hid (∀ (k : Nat) (wx : World), k < m → Below w2.heap.size w2 wx → Calls Tryz.prog 118 #[.slice a1 (1 + n) c1, .int .i64 ((k : Int) + 1)] wx fun e w' => e = .returned (.int .i64 (M.ev (s :: r) ((k : Int) + 1))) ∧ w' = wx) := hide fun k wx hk hb =>
    rAt a1 (1 + n) c1 (s :: r) ((k : Int) + 1) wx hlen (hat.stays hb (Nat.le_refl _)) HF.out (by omega) (by omega)
  clear hown hgrow hat hlen HLIT HNEW HLEN HT HB1
  go_wp2
  go_loopw [8, 9] (fun sv si wr => ∃ (v : Value) (k : Nat), v = sv ∧ si = .int .i64 ((k : Int) + 1) ∧ k ≤ m ∧ Hid (wr.ownsRow w2.heap.size 148 2 v k (flatP (M.deal (s :: r) k))) ∧ Hid (Below w2.heap.size w2 wr)) (fun _ si _ => m + 2 - (intOf si).toNat)
  case atStart => exact ⟨_, 0, rfl, rfl, Nat.zero_le _, hide (World.ownsRow_nil _ _ _ _), hide (Below.refl _ _)⟩
  case round =>
    obtain ⟨v, k, rfl, rfl, hk, hown, hbel⟩ := hrel
    by_cases hkm : k < m
    · have HC := hide (HAT.out k wr hkm hbel.out)
      have HD := hide (M.deal_succ (s :: r) k)
      have hz2 : w2.heap.size ≤ wr.heap.size := hbel.out.size
      have hkm' : (k : Int) + 1 ≤ (m : Int) := by omega
      generalize M.ev (s :: r) ((k : Int) + 1) = y at HC HD
      go_wp2_with fail
      refine (unhide HC).mono ?_
      rintro e w3 ⟨rfl, hw⟩
      obtain rfl := hw.symm
      have HROW : Hid ((wr.alloc (.cells #[.int .i64 ((k : Int) + 1), .int .i64 y] 148)).ownsRow w2.heap.size 148 2 v k (flatP (M.deal (s :: r) k))) := hide (hown.out.alloc _)
      have HNEW : Hid (∀ j u, [Value.int .i64 ((k : Int) + 1), .int .i64 y][j]? = some u → (wr.alloc (.cells #[.int .i64 ((k : Int) + 1), .int .i64 y] 148)).cell? ((⟨wr.heap.size, 0, none⟩ : Addr).add j) = some u) := hide (World.news_of_block (World.alloc_heap_new wr _))
      go_wp2_with (at_builtin; (refine wpList_append_own _ rfl (.tmp 20) (.tmp 26) 145 rfl w2.heap.size 148 i1 (.agg #[.int .i64 0, .int .i64 0]) 2 16 Tryz.underlying145 GI.out.1 GI.out.2.1 GI.out.2.2.1 GI.out.2.2.2 rfl (by decide) v k (flatP (M.deal (s :: r) k)) rfl HROW.out ⟨wr.heap.size, 0, none⟩ 1 1 [.int .i64 ((k : Int) + 1), .int .i64 y] rfl rfl HNEW.out (flatP_oneCell [((k : Int) + 1, y)]) (by unfold maxLen; omega) (by omega) (Nat.le_trans hz2 (by simp)) ?_))
      intro v' w3 hown' hgrow _
      have HO := hide hown'
      have HB3 := hide ((hbel.out.alloc hz2 _).grown hgrow (Nat.le_trans hz2 (by simp)) (fun j hj => (HROW.out.lt j hj).1))
      clear hown' hgrow
      go_wp2
      go_roundw
      case rel => exact ⟨_, k + 1, rfl, by go_num, by omega, hide (by rw [HD.out, flatP_append]; exact HO.out), HB3⟩
      case measure => simp [intOf]; omega
    · have hkm' : k = m := by omega
      subst hkm'
      obtain ⟨av, cv, rfl, _⟩ := atP_own (M.deal_len (s :: r) k).symm hown.out
      go_wp2_with fail
      go_ret
      exact ⟨⟨_, _, rfl, row_lower hown.out HB2.out.size⟩, HB2.out.trans (hbel.out.mono HB2.out.size)⟩
theorem rDeal (s : Int) (a : Option Addr) (n cap : Nat) (r : List Int) (m : Nat) (w : World) (hn : n = r.length) (hl : AtI w a r) (ht : Tidy a n cap) (hf : M.secE s r = 0) (h7 : m ≤ 7) :
    Calls Tryz.prog 74 #[.int .i64 s, .slice a n cap, .int .i64 m] w fun e w' => (∃ v c, e = .returned (.slice v m c) ∧ m ≤ c ∧ c ≤ maxLen ∧ AtP w' v (M.deal (s :: r) m)) ∧ Below w.heap.size w w' := by
  refine (rDealO s a n cap r m w hn hl ht hf h7).mono ?_
  rintro e w' ⟨⟨v, c, rfl, ho⟩, hb⟩
  obtain ⟨av, cv, e1, h1, h2, h3⟩ := atP_own (M.deal_len (s :: r) m).symm ho
  cases e1
  exact ⟨⟨_, _, rfl, h1, h2, h3⟩, hb⟩

end Go.Proofs.YtlefhfmckimlaakGreatDoor
