/-
  Plain facts for the Go function LogStops: what a log answers that is told to stop, step by step; and the law's own first log.
-/
import Derived.Test.YtlefhfmckimlaakGreatDoorLogCalls
import Derived.Test.YtlefhfmckimlaakGreatDoorJErr
set_option linter.unusedVariables false
namespace Go.Proofs.YtlefhfmckimlaakGreatDoor.logStops
open Go.RowKit

def anyV : M.Val := ⟨2, 0, ⟨#[]⟩⟩
def numV (n : Int) : M.Val := ⟨0, n, ⟨#[]⟩⟩
def R1 : List M.Rul := [⟨0, -1, [anyV], true⟩]
def xP (who seq n : Int) : M.Ask := ⟨who, seq, 0, [numV n]⟩
def xB (seq : Int) : M.Ask := ⟨1, seq, 0, []⟩
theorem fine1 : M.rulE R1 = 0 := by decide +kernel
theorem fault_num {n : Int} : (numV n).fault = if n < -1000000 ∨ 1000000 < n then 1 else 0 := by
  show M.fault 0 n ⟨#[]⟩ = _
  unfold M.fault M.faultN
  rw [if_pos rfl]
  split <;> rfl
theorem tup_num {n : Int} (hn : 0 ≤ n ∧ n ≤ 1000000) : M.tupF [numV n] = 0 := by
  have h0 : (numV n).fault = 0 := by rw [fault_num, if_neg (by omega)]
  have h1 : M.likeF [numV n] = 0 := by
    unfold M.likeF
    rw [if_neg (by simp), if_neg (by simp)]
    unfold M.firstF
    rw [if_neg (by simpa using h0)]
    rfl
  unfold M.tupF
  rw [h1]; rfl
theorem ask_bad (seq : Int) : M.askF (xB seq) = 5 := by
  rw [M.askF_put (a := xB seq) (by show ¬ ((1 : Int) < 0 ∨ 1000000 < (1 : Int) ∨ (0 : Int) < 0 ∨ 2 < (0 : Int)); omega) rfl]
  rfl
theorem ask_put {who seq n : Int} (hw : 0 ≤ who ∧ who ≤ 1000000) (hn : 0 ≤ n ∧ n ≤ 1000000) : M.askF (xP who seq n) = 0 := by
  rw [M.askF_put (a := xP who seq n) (by show ¬ (who < 0 ∨ 1000000 < who ∨ (0 : Int) < 0 ∨ 2 < (0 : Int)); omega) rfl]
  exact tup_num hn
theorem may_put {who n : Int} (hw : 0 ≤ who ∧ who ≤ 1000000) (hn : 0 ≤ n ∧ n ≤ 1000000) : M.mayR R1 who 0 [numV n] = true := by
  have he : M.mayE R1 who 0 [numV n] = 0 := by rw [M.mayE_tup fine1 (decide_eq_true ⟨hw.1, hw.2, by decide, by decide⟩)]; exact tup_num hn
  have hs : M.spotR R1 who 0 [numV n] = 0 := M.spotR_hit (by decide) (fun j hj => by omega) rfl
  rw [M.mayR_hit he (by rw [hs]; decide)]
  simp only [hs]
  rfl
theorem do_put {c : M.Cop} {who seq n : Int} (hw : 0 ≤ who ∧ who ≤ 1000000) (hn : 0 ≤ n ∧ n ≤ 1000000) (hl : c.l.length < 20) (hs : seq = (c.g who).1 + 1) : M.doR R1 c (xP who seq n) = (0, M.sOk, c.did (xP who seq n) M.sOk (c.l ++ [[numV n]])) := by
  have hal : M.allowB R1 c.l (xP who seq n) = true := by
    unfold M.allowB
    rw [if_pos (show (xP who seq n).deed = 0 from rfl)]
    exact may_put hw hn
  have hp : M.putF c.l (xP who seq n).t = 0 := putF_ok (tup_num hn) hl
  rw [M.doR_did (ask_put hw hn) (M.again_no hs) hs hal]
  unfold M.deedS M.deedL
  rw [if_pos (show (xP who seq n).deed = 0 from rfl), if_pos (show (xP who seq n).deed = 0 from rfl), if_pos hp, putL_yes hp]
  rfl

/-- where a log stands that stops at a step -/
structure Sg (after j : Nat) (g : M.Lg) : Prop where
  st : g.stop = decide (after < j)
  left : j ≤ after → g.left = (after : Int) - j
  few : g.cs.length ≤ 16
  all : ∀ c ∈ g.cs, (c.g 2).1 = 0 ∧ c.l.length ≤ c.n
/-- .. in the law's first loop -/
structure Lo (after i : Nat) (g : M.Lg) : Prop where
  sg : Sg after i g
  at' : i ≤ after → (g.cop.g 1).1 = i ∧ g.cs.length = i + 1
section
variable {after i j : Nat} {g : M.Lg}
theorem Lo.start (after : Nat) : Lo after 0 (M.lgFail M.Lg.new (after : Int)) :=
  ⟨⟨by simp [M.lgFail, M.Lg.new], fun _ => by simp [M.lgFail], by simp [M.lgFail, M.Lg.new], fun c hc => by
    have : c = M.Cop.new := by simpa [M.lgFail, M.Lg.new] using hc
    subst this
    exact ⟨rfl, Nat.le_refl _⟩⟩, fun _ => ⟨rfl, rfl⟩⟩
theorem cop_mem (hg : g.Ok R1) : g.cop ∈ g.cs := by rw [hg.cop_at]; exact List.getElem_mem _
/-- one round -/
theorem Lo.step (hg : g.Ok R1) (h : Lo after i g) (ha : after ≤ 15) (hi : i < 15) (k0 k : Nat) :
    (M.lgDo R1 g (xB ((i : Int) + 1)) k0).2.2 = g ∧ Lo after (i + 1) (M.lgDo R1 g (xP 1 ((i : Int) + 1) i) k).2.2 ∧
    ((after < i ∧ (M.lgDo R1 g (xB ((i : Int) + 1)) k0).1 = 6 ∧ (M.lgDo R1 g (xP 1 ((i : Int) + 1) i) k).1 = 6) ∨
     (i = after ∧ (M.lgDo R1 g (xB ((i : Int) + 1)) k0).1 = 5 ∧ (M.lgDo R1 g (xP 1 ((i : Int) + 1) i) k).1 = 6) ∨
     (i < after ∧ (M.lgDo R1 g (xB ((i : Int) + 1)) k0).1 = 5 ∧ (M.lgDo R1 g (xP 1 ((i : Int) + 1) i) k).1 = 0)) := by
  by_cases q : after < i
  · have hs : g.stop = true := by rw [h.sg.st]; exact decide_eq_true q
    rw [M.lgDo_stop hs, M.lgDo_stop hs]
    refine ⟨rfl, ⟨⟨by rw [hs]; exact (decide_eq_true (by omega)).symm, fun e => by omega, h.sg.few, h.sg.all⟩, fun e => by omega⟩, Or.inl ⟨q, rfl, rfl⟩⟩
  · have hs : g.stop = false := by rw [h.sg.st]; exact decide_eq_false q
    have hleft := h.sg.left (by omega)
    obtain ⟨h1, h2⟩ := h.at' (by omega)
    have hbad : M.lgDo R1 g (xB ((i : Int) + 1)) k0 = (5, M.sNo, g) := by
      have hd : (M.doR R1 g.cop (xB ((i : Int) + 1))).1 = 5 := by rw [M.doR_bad (by rw [ask_bad]; decide)]; exact ask_bad ((i : Int) + 1)
      rw [M.lgDo_bad hs (by rw [hd]; decide), hd]
    obtain ⟨a1, a2⟩ := h.sg.all g.cop (cop_mem hg)
    have hn := hg.cop_ok.2
    have hd := do_put (c := g.cop) (who := 1) (seq := (i : Int) + 1) (n := (i : Int)) (by decide) (by omega) (by omega) (by rw [h1])
    have d1 : (M.doR R1 g.cop (xP 1 ((i : Int) + 1) i)).1 = 0 := by rw [hd]
    have d2 : (M.doR R1 g.cop (xP 1 ((i : Int) + 1) i)).2.2.n ≠ g.cop.n := by rw [hd]; show g.cop.n + 1 ≠ g.cop.n; omega
    rw [hbad]
    by_cases q2 : i = after
    · have hl0 : g.left = 0 := by rw [hleft]; omega
      rw [M.lgDo_last hs d1 d2 (by omega) hl0]
      exact ⟨rfl, ⟨⟨(decide_eq_true (by omega)).symm, fun e => by omega, h.sg.few, h.sg.all⟩, fun e => by omega⟩, Or.inr (Or.inl ⟨q2, rfl, rfl⟩)⟩
    · have hl0 : g.left ≠ 0 := by rw [hleft]; omega
      rw [M.lgDo_did hs d1 d2 (by omega) hl0, hd]
      refine ⟨rfl, ⟨⟨?_, fun e => ?_, ?_, fun c hc => ?_⟩, fun e => ⟨?_, ?_⟩⟩, Or.inr (Or.inr ⟨by omega, rfl, rfl⟩)⟩
      · show g.stop = _; rw [hs]; exact (decide_eq_false (by omega)).symm
      · show M.lessS g.left = _; unfold M.lessS; rw [hleft, if_pos (by omega)]; omega
      · show (g.cs ++ [_]).length ≤ 16; simp; omega
      · rcases List.mem_append.1 hc with q3 | q3
        · exact h.sg.all c q3
        · rw [List.mem_singleton.1 q3]
          refine ⟨?_, ?_⟩
          · show (M.upG g.cop.g (xP 1 ((i : Int) + 1) i) M.sOk 2).1 = 0
            rw [M.upG_other (by show (2 : Int) ≠ 1; decide)]; exact a1
          · show (g.cop.l ++ [_]).length ≤ g.cop.n + 1; simp; omega
      · show ((g.cs ++ [_]).getLastD M.Cop.new |>.g 1).1 = _
        rw [List.getLastD_concat]
        show (M.upG g.cop.g (xP 1 ((i : Int) + 1) i) M.sOk (xP 1 ((i : Int) + 1) i).who).1 = _
        rw [M.upG_same]; simp [xP]
      · show (g.cs ++ [_]).length = _; simp; omega
/-- a Sync -/
theorem Sg.sync (hg : g.Ok R1) (h : Sg after j g) : Sg after (j + 1) (M.lgSync g).2 ∧ (M.lgSync g).1 = if after ≤ j then 6 else 0 := by
  unfold M.lgSync
  by_cases q : after < j
  · have hs : g.stop = true := by rw [h.st]; exact decide_eq_true q
    rw [if_pos hs, if_pos (by omega)]
    exact ⟨⟨by rw [hs]; exact (decide_eq_true (by omega)).symm, fun e => by omega, h.few, h.all⟩, rfl⟩
  · have hs : g.stop = false := by rw [h.st]; exact decide_eq_false q
    have hleft := h.left (by omega)
    rw [if_neg (by simp [hs])]
    by_cases q2 : j = after
    · rw [if_pos (by rw [hleft]; omega), if_pos (by omega)]
      exact ⟨⟨(decide_eq_true (by omega)).symm, fun e => by omega, h.few, h.all⟩, rfl⟩
    · rw [if_neg (by rw [hleft]; omega), if_neg (by omega)]
      refine ⟨⟨?_, fun e => ?_, h.few, h.all⟩, rfl⟩
      · show g.stop = _; rw [hs]; exact (decide_eq_false (by omega)).symm
      · show M.lessS g.left = _; unfold M.lessS; rw [hleft, if_pos (by omega)]; omega
/-- behind a crash all goes on -/
theorem Sg.goes (hg : g.Ok R1) (h : Sg after j g) (keep : Int) (k : Nat) :
    (M.lgDo R1 (M.lgCrash g keep) (xP 2 1 3) k).1 = 0 ∧ (M.lgDo R1 (M.lgCrash g keep) (xP 2 1 3) k).2.1 = M.sOk ∧ (M.lgDo R1 (M.lgCrash g keep) (xP 2 1 3) k).2.2.cop.n = (M.lgCrash g keep).cop.n + 1 ∧
    (M.lgSync (M.lgDo R1 (M.lgCrash g keep) (xP 2 1 3) k).2.2).1 = 0 ∧ (M.lgSync (M.lgDo R1 (M.lgCrash g keep) (xP 2 1 3) k).2.2).2.cop.n = (M.lgCrash g keep).cop.n + 1 ∧ (M.lgSync (M.lgDo R1 (M.lgCrash g keep) (xP 2 1 3) k).2.2).2.safe = (M.lgSync (M.lgDo R1 (M.lgCrash g keep) (xP 2 1 3) k).2.2).2.bytes := by
  have ho := hg.crash keep
  obtain ⟨g1, hg1⟩ : ∃ g1, g1 = M.lgCrash g keep := ⟨_, rfl⟩
  have hcs : ∀ c ∈ g1.cs, c ∈ g.cs := fun c hc => by
    rw [hg1] at hc
    exact List.mem_of_mem_take hc
  have hlen : g1.cs.length ≤ 16 := by
    have : g1.cs.length ≤ g.cs.length := by rw [hg1]; exact List.length_take_le' _ _
    have := h.few
    omega
  have hst : g1.stop = false := by rw [hg1]; rfl
  have hlf : g1.left = -1 := by rw [hg1]; rfl
  rw [← hg1] at ho ⊢
  obtain ⟨a1, a2⟩ := h.all g1.cop (hcs _ (cop_mem ho))
  have hn := ho.cop_ok.2
  have hd := do_put (c := g1.cop) (who := 2) (seq := 1) (n := 3) (by decide) (by decide) (by omega) (by rw [a1]; rfl)
  have d1 : (M.doR R1 g1.cop (xP 2 1 3)).1 = 0 := by rw [hd]
  have d2 : (M.doR R1 g1.cop (xP 2 1 3)).2.2.n ≠ g1.cop.n := by rw [hd]; show g1.cop.n + 1 ≠ g1.cop.n; omega
  have e := M.lgDo_did (n := k) hst d1 d2 (by omega) (by rw [hlf]; decide)
  rw [hd] at e
  simp only at e
  obtain ⟨g2, hg2⟩ : ∃ g2, g2 = (M.lgDo R1 g1 (xP 2 1 3) k).2.2 := ⟨_, rfl⟩
  have c2 : g2.cop.n = g1.cop.n + 1 := by
    rw [hg2, e]
    show ((g1.cs ++ [_]).getLastD M.Cop.new).n = _
    rw [List.getLastD_concat]; rfl
  have s2 : g2.stop = false := by rw [hg2, e]; exact hst
  have l2 : g2.left = -1 := by rw [hg2, e]; show M.lessS g1.left = _; rw [hlf]; rfl
  have y : M.lgSync g2 = (0, { g2 with safe := g2.bytes, left := M.lessS g2.left }) := by
    unfold M.lgSync
    rw [if_neg (by simp [s2]), if_neg (by rw [l2]; decide)]
  rw [← hg2, y]
  exact ⟨by rw [e], by rw [e], c2, rfl, c2, rfl⟩
end

/-- the blocks of the law's own -/
abbrev Sv : Obj := .cells #[.int .i64 2, .int .i64 0, .string ⟨#[]⟩] 31
abbrev Rv (b : Nat) : Obj := .cells #[.int .i64 0, .int .i64 (-1), .slice (some ⟨b, 0, none⟩) 1 1, .bool true] 34
abbrev Nv (n : Int) : Obj := .cells #[.int .i64 0, .int .i64 n, .string ⟨#[]⟩] 31
theorem own_any (w : World) : OwnT w.heap.size (w.alloc Sv) (.slice (some ⟨w.heap.size, 0, none⟩) 1 1) [anyV] :=
  ⟨World.ownsRow_lit (base := w.heap.size) (e := 31) (size := 3) w #[.int .i64 2, .int .i64 0, .string ⟨#[]⟩] 1 (Nat.le_refl _) (by unfold maxLen; decide) rfl, fun x hx => by
    rw [List.mem_singleton.1 hx]; unfold maxLen; decide⟩
theorem rules1 (w : World) : AtR ((w.alloc Sv).alloc (Rv w.heap.size)) (some ⟨w.heap.size + 1, 0, none⟩) R1 := by
  have h2 : IsVals ((w.alloc Sv).alloc (Rv w.heap.size)) (.slice (some ⟨w.heap.size, 0, none⟩) 1 1) [anyV] := (own_any w).vals.stays ((Below.refl _ _).alloc (Nat.le_refl _) _) (Nat.le_refl _)
  have h3 := World.ownsRow_lit (base := w.heap.size) (e := 34) (size := 4) (w.alloc Sv) #[.int .i64 0, .int .i64 (-1), .slice (some ⟨w.heap.size, 0, none⟩) 1 1, .bool true] 1 (by simp) (by unfold maxLen; decide) rfl
  obtain ⟨a, c, e, h4⟩ := atR_own (l := R1) rfl (show RowR ((w.alloc Sv).alloc (Rv w.heap.size)) _ R1 from ⟨_, _, rfl, h2, rfl⟩) h3
  cases e
  simpa using h4
theorem log1 (w : World) :
    Calls Tryz.prog 8 #[.slice (some ⟨w.heap.size + 1, 0, none⟩) 1 1] ((w.alloc Sv).alloc (Rv w.heap.size)) fun e w' => ∃ J F, e = .returned (.tuple #[.pointer (some ⟨J, 0, none⟩), .nilIface]) ∧ LgIs w.heap.size w' F J M.Lg.new R1 ∧ Below w.heap.size w w' := by
  have hb : Below w.heap.size w ((w.alloc Sv).alloc (Rv w.heap.size)) := ((Below.refl _ _).alloc (Nat.le_refl _) _).alloc (by simp) _
  refine (lNew_ok w.heap.size (some ⟨w.heap.size + 1, 0, none⟩) 1 1 R1 _ hb.size rfl (by unfold maxLen; decide) (rules1 w) fine1).mono ?_
  rintro e w' ⟨J, F, rfl, h1, _, h3⟩
  exact ⟨J, F, rfl, h1, hb.trans (h3.mono hb.size)⟩
/-- the log of a law that came in with w -/
def At (w wx : World) (J : Nat) (g : M.Lg) : Prop := (∃ F, LgIs w.heap.size wx F J g R1) ∧ Below w.heap.size w wx
section
variable {w wx : World} {J : Nat} {g : M.Lg}
theorem At.quiet (h : At w wx J g) {w' : World} (hb : Below wx.heap.size wx w') : At w w' J g := by
  obtain ⟨⟨F, h1⟩, h2⟩ := h
  exact ⟨⟨F, h1.quiet hb⟩, h2.trans (hb.mono h2.size)⟩
theorem At.ok (h : At w wx J g) : g.Ok R1 := by
  obtain ⟨⟨F, h1⟩, h2⟩ := h
  exact h1.ok
theorem At.put (h : At w wx J g) (who seq n : Int) (ht : Tab w) : Calls Tryz.prog 9 #[.pointer (some ⟨J, 0, none⟩), aggA who seq 0 (some ⟨wx.heap.size, 0, none⟩) 1 1] (wx.alloc (Nv n)) fun e w' => ∃ k, 2 ≤ k ∧ e = .returned (.tuple #[.string (M.lgDo R1 g (xP who seq n) k).2.1, errV (M.lgDo R1 g (xP who seq n) k).1]) ∧ At w w' J (M.lgDo R1 g (xP who seq n) k).2.2 := by
  have hb : Below wx.heap.size wx (wx.alloc (Nv n)) := (Below.refl _ _).alloc (Nat.le_refl _) _
  obtain ⟨⟨F, h1⟩, h2⟩ := h.quiet hb
  have hown : OwnT wx.heap.size (wx.alloc (Nv n)) (.slice (some ⟨wx.heap.size, 0, none⟩) 1 1) [numV n] :=
    ⟨World.ownsRow_lit (base := wx.heap.size) (e := 31) (size := 3) wx #[.int .i64 0, .int .i64 n, .string ⟨#[]⟩] 1 (Nat.le_refl _) (by unfold maxLen; decide) rfl, fun x hx => by
      rw [List.mem_singleton.1 hx]; show (0 : Nat) ≤ _; exact Nat.zero_le _⟩
  refine (lDo (xP who seq n) h1 hown.vals (fun wy hy => ht.stays (h2.trans hy) (Nat.le_refl _))).mono ?_
  rintro e w' ⟨k, hk, _, rfl, F', r1, r2, _⟩
  exact ⟨k, hk, rfl, ⟨F', r1⟩, h2.trans (r2.below h1.lows h2.size)⟩
theorem At.bad (h : At w wx J g) (seq : Int) (ht : Tab w) : Calls Tryz.prog 9 #[.pointer (some ⟨J, 0, none⟩), aggA 1 seq 0 none 0 0] wx fun e w' => ∃ k, 2 ≤ k ∧ e = .returned (.tuple #[.string (M.lgDo R1 g (xB seq) k).2.1, errV (M.lgDo R1 g (xB seq) k).1]) ∧ At w w' J (M.lgDo R1 g (xB seq) k).2.2 := by
  obtain ⟨⟨F, h1⟩, h2⟩ := h
  refine (lDo (xB seq) h1 (Or.inl ⟨rfl, rfl⟩) (fun wy hy => ht.stays (h2.trans hy) (Nat.le_refl _))).mono ?_
  rintro e w' ⟨k, hk, _, rfl, F', r1, r2, _⟩
  exact ⟨k, hk, rfl, ⟨F', r1⟩, h2.trans (r2.below h1.lows h2.size)⟩
theorem At.sync (h : At w wx J g) : Calls Tryz.prog 10 #[.pointer (some ⟨J, 0, none⟩)] wx fun e w' => e = .returned (errV (M.lgSync g).1) ∧ At w w' J (M.lgSync g).2 := by
  obtain ⟨⟨F, h1⟩, h2⟩ := h
  refine (lSync h1).mono ?_
  rintro e w' ⟨rfl, F', r1, r2, _⟩
  exact ⟨rfl, ⟨F', r1⟩, h2.trans (r2.below h1.lows h2.size)⟩
theorem At.fail (h : At w wx J g) (m : Int) (hm : m ≤ 9223372036854775807) : Calls Tryz.prog 18 #[.pointer (some ⟨J, 0, none⟩), .int .i64 m] wx fun e w' => e = .returned (.tuple #[]) ∧ At w w' J (M.lgFail g m) := by
  obtain ⟨⟨F, h1⟩, h2⟩ := h
  refine (lFail m hm h1).mono ?_
  rintro e w' ⟨rfl, F', r1, r2, _⟩
  exact ⟨rfl, ⟨F', r1⟩, h2.trans (r2.below h1.lows h2.size)⟩
theorem At.crash (h : At w wx J g) (m : Int) (ht : Tab w) : Calls Tryz.prog 11 #[.pointer (some ⟨J, 0, none⟩), .int .i64 m] wx fun e w' => e = .returned (.tuple #[]) ∧ At w w' J (M.lgCrash g m) := by
  obtain ⟨⟨F, h1⟩, h2⟩ := h
  refine (lCrash m h1 (fun wy hy => ht.stays (h2.trans hy) (Nat.le_refl _))).mono ?_
  rintro e w' ⟨rfl, F', r1, r2, _⟩
  exact ⟨rfl, ⟨F', r1⟩, h2.trans (r2.below h1.lows h2.size)⟩
theorem At.mark (h : At w wx J g) (ht : Tab w) : Calls Tryz.prog 12 #[.pointer (some ⟨J, 0, none⟩)] wx fun e w' => e = .returned (.tuple #[.int .i64 g.cop.n, .int .i64 (M.mark g.cop.l)]) ∧ At w w' J g := by
  obtain ⟨⟨F, h1⟩, h2⟩ := h
  refine (lMark h1 (fun wy hy => ht.stays (h2.trans hy) (Nat.le_refl _))).mono ?_
  rintro e w' ⟨rfl, hb⟩
  exact ⟨rfl, ⟨F, h1.quiet hb⟩, h2.trans (hb.mono h2.size)⟩
theorem At.bytes (h : At w wx J g) : Calls Tryz.prog 13 #[.pointer (some ⟨J, 0, none⟩)] wx fun e w' => e = .returned (.int .i64 g.bytes) ∧ At w w' J g := by
  obtain ⟨⟨F, h1⟩, h2⟩ := h
  refine (lBytes h1).mono ?_
  rintro e w' ⟨rfl, hb⟩
  exact ⟨rfl, ⟨F, h1.quiet hb⟩, h2.trans (hb.mono h2.size)⟩
theorem At.safe (h : At w wx J g) : Calls Tryz.prog 14 #[.pointer (some ⟨J, 0, none⟩)] wx fun e w' => e = .returned (.int .i64 g.safe) ∧ At w w' J g := by
  obtain ⟨⟨F, h1⟩, h2⟩ := h
  refine (lSafe h1).mono ?_
  rintro e w' ⟨rfl, hb⟩
  exact ⟨rfl, ⟨F, h1.quiet hb⟩, h2.trans (hb.mono h2.size)⟩
end

end Go.Proofs.YtlefhfmckimlaakGreatDoor.logStops
