/-
  The search for true shares, as the Go function VaultPlays does it: a loop of its round.
-/
import Derived.Test.YtlefhfmckimlaajDoorVaultPlaysA
import Derived.BigQuiet
import Derived.Deep.QuietTactic
import Derived.Deep.RegionHeld3
import Derived.Deep.CutRange
set_option linter.unusedVariables false
namespace Go.Proofs.YtlefhfmckimlaajDoor.vaultPlays
open Go.RowKit
attribute [local go_sem ↓] Go.wp_at_zero Go.wp_at_succ

set_option maxHeartbeats 4000000 in
set_option maxRecDepth 1000000 in
theorem blk4 {Q : Exit → Act → World → Prop} {w wz : World} {m : Nat} {F : Nat → Prop} {V : Nat} {v : M.Vlt} {ha : Option Addr} {hc : Nat} {ba : Option Addr} {bc : Nat} {ca : Option Addr} {cc hn : Nat} {H : List ByteArray} {P : List (List Int)} {xs ys : List Value} {a : ByteArray} {z E2 : Int} {q : Nat} {p : List Int} {ya : Option Addr} {yn yc : Nat} {l : List (Int × Int)}
    (c1 c2 c3 c4 c5 c6 c7 c8 c9 c10 c11 c12 c14 c15 c16 c17 c18 c20 c21 c22 c24 c25 c27 c30 c31 c32 c33 c34 c35 c36 c37 c38 c39 c40 c41 c42 c43 c44 c45 c46 c47 c48 c49 c50 c51 c52 c53 c54 c55 c56 c57 c58 c59 c60 c61 c62 c63 c64 c65 c66 c67 c68 c69 c70 c71 c72 c73 c74 c75 c76 c77 c78 c79 c80 c81 c82 c83 c84 c85 c86 c87 c88 c89 c90 c91 c92 c93 c94 c95 c96 c97 c98 c99 c100 c101 c102 c103 c104 c105 c106 c107 c108 c109 c110 c111 c112 c113 c114 c115 c116 c117 c118 c119 c120 c121 c122 c123 c124 c125 c126 c127 c128 c129 c130 c131 c132 c133 c134 c135 c136 c137 c138 c139 c140 c141 c142 c143 c144 c145 c146 c147 c148 c149 c150 c151 c152 c153 c154 c155 c156 c157 c158 c159 c160 c161 c162 c163 c164 c165 c166 c167 c168 c169 c170 c171 c172 c173 c174 c175 c176 c177 c178 c179 c180 c181 c182 c183 c184 c185 c186 c187 c188 c189 c190 c191 c192 c193 c194 c195 c196 c197 c198 c199 c200 c201 c202 c203 c204 c205 c206 c207 c208 c209 c210 c211 c212 c213 c214 c215 c216 c217 c218 c219 c220 c221 c222 c223 c224 c225 c226 c227 c228 c229 c230 c231 c232 c233 c234 c235 c236 c237 c238 c239 c240 c241 c242 c243 c244 c245 c246 c247 c248 c249 c250 c251 c252 c253 c254 c255 c256 c257 c258 c259 c260 c261 c262 c263 c264 c265 c266 c267 c268 c269 c270 c271 c272 c273 c274 c275 c276 c277 c278 c279 c280 c281 c282 c283 c284 c285 c286 c287 c288 c289 c290 c291 c292 c293 c294 c295 c296 c297 c298 c299 c300 c301 c302 c303 c304 c305 c306 c307 c308 c309 c310 c311 c312 c313 c314 c315 c316 c317 c318 c319 c320 c321 c322 c323 c324 c325 c326 c327 c328 c329 c330 c331 c332 c333 c334 c335 c336 c337 c338 c339 c340 c341 c342 c343 c344 c345 c346 c347 c348 c349 c350 c351 c352 c353 c354 c355 c356 c357 c358 c359 c360 c361 c362 c363 c364 c365 c366 c367 c368 c369 c370 c371 c372 c373 c374 c375 c376 c377 c378 c379 c380 c381 c382 c383 c384 : Value) (h7 : m ≤ 7) (hm : v.many = m) (hpl : P.length = hn) (h20 : hn ≤ 20) (hyn : yn = l.length) (hym : yn ≤ 9223372036854775807) (hya : AtP w ya l) (hE0 : E2 = 0 → 0 ≤ z ∧ yn ≤ 30) (hp : 0 ≤ z → z = q ∧ q < hn ∧ P[q]? = some p ∧ v.g a = some p) (hK : Vp w wz F V v (.slice ha hn hc) H (.slice ba hn bc) xs (P.map fun p => M.deal p m) (.slice ca hn cc) ys (P.map M.commits))
    (hQ : ∀ (u29 u30 u31 u32 u33 u191 u192 u193 u194 u195 u196 u197 u198 u199 u200 u201 u202 u203 u204 u205 u206 u207 u208 u209 u210 u211 u212 u213 u214 u215 u216 u217 u218 u219 u220 u221 u222 u223 u224 u225 u226 u227 u228 u229 u230 u231 u232 u233 u234 u235 u236 u237 u238 u239 u240 u241 u242 u243 u244 u245 u246 u247 u248 u249 u250 u251 u252 u253 u254 u255 u256 u257 u258 u259 u260 u261 u262 u263 u264 u265 u266 : Value) (w' : World) (e : Int) (ga : Option Addr) (gc gn j : Nat) (G : List (Int × Int)), gn ≤ 30 → G.length = gn → GoodW m p l E2 e j G → (e = 0 → l.length ≤ j) → w'.ownsRow w.heap.size 31 2 (.slice ga gn gc) gn (flatP G) → Vp w w' F V v (.slice ha hn hc) H (.slice ba hn bc) xs (P.map fun p => M.deal p m) (.slice ca hn cc) ys (P.map M.commits) → Q .normal ⟨#[.int .i64 m, c1, c2, c3, c4, c5, c6, c7, c8, c9, c10, c11, c12, .int .i64 e, c14, c15, c16, c17, c18, .slice ca hn cc, c20, c21, c22, .int .i64 z, c24, c25, .slice ya yn yc, c27, .slice ga gn gc, u29, u30, u31, u32, u33, c34, c35, c36, c37, c38, c39, c40, c41, c42, c43, c44, c45, c46, c47, c48, c49, c50, c51, c52, c53, c54, c55, c56, c57, c58, c59, c60, c61, c62, c63, c64, c65, c66, c67, c68, c69, c70, c71, c72, c73, c74, c75, c76, c77, c78, c79, c80, c81, c82, c83, c84, c85, c86, c87, c88, c89, c90, c91, c92, c93, c94, c95, c96, c97, c98, c99, c100, c101, c102, c103, c104, c105, c106, c107, c108, c109, c110, c111, c112, c113, c114, c115, c116, c117, c118, c119, c120, c121, c122, c123, c124, c125, c126, c127, c128, c129, c130, c131, c132, c133, c134, c135, c136, c137, c138, c139, c140, c141, c142, c143, c144, c145, c146, c147, c148, c149, c150, c151, c152, c153, c154, c155, c156, c157, c158, c159, c160, c161, c162, c163, c164, c165, c166, c167, c168, c169, c170, c171, c172, c173, c174, c175, c176, c177, c178, c179, c180, c181, c182, c183, c184, c185, c186, c187, c188, c189, c190, u191, u192, u193, u194, u195, u196, u197, u198, u199, u200, u201, u202, u203, u204, u205, u206, u207, u208, u209, u210, u211, u212, u213, u214, u215, u216, u217, u218, u219, u220, u221, u222, u223, u224, u225, u226, u227, u228, u229, u230, u231, u232, u233, u234, u235, u236, u237, u238, u239, u240, u241, u242, u243, u244, u245, u246, u247, u248, u249, u250, u251, u252, u253, u254, u255, u256, u257, u258, u259, u260, u261, u262, u263, u264, u265, u266, c267, c268, c269, c270, c271, c272, c273, c274, c275, c276, c277, c278, c279, c280, c281, c282, c283, c284, c285, c286, c287, c288, c289, c290, c291, c292, c293, c294, c295, c296, c297, c298, c299, c300, c301, c302, c303, c304, c305, c306, c307, c308, c309, c310, c311, c312, c313, c314, c315, c316, c317, c318, c319, c320, c321, c322, c323, c324, c325, c326, c327, c328, c329, c330, c331, c332, c333, c334, c335, c336, c337, c338, c339, c340, c341, c342, c343, c344, c345, c346, c347, c348, c349, c350, c351, c352, c353, c354, c355, c356, c357, c358, c359, c360, c361, c362, c363, c364, c365, c366, c367, c368, c369, c370, c371, c372, c373, c374, c375, c376, c377, c378, c379, c380, c381, c382, c383, c384], []⟩ w') :
    Code.wp Tryd.prog ((Tryd.f5.body.bind (blockAt 4)).getD .skip) Q ⟨#[.int .i64 m, c1, c2, c3, c4, c5, c6, c7, c8, c9, c10, c11, c12, .int .i64 E2, c14, c15, c16, c17, c18, .slice ca hn cc, c20, c21, c22, .int .i64 z, c24, c25, .slice ya yn yc, c27, .slice none 0 0, .int .i64 0, c30, c31, c32, c33, c34, c35, c36, c37, c38, c39, c40, c41, c42, c43, c44, c45, c46, c47, c48, c49, c50, c51, c52, c53, c54, c55, c56, c57, c58, c59, c60, c61, c62, c63, c64, c65, c66, c67, c68, c69, c70, c71, c72, c73, c74, c75, c76, c77, c78, c79, c80, c81, c82, c83, c84, c85, c86, c87, c88, c89, c90, c91, c92, c93, c94, c95, c96, c97, c98, c99, c100, c101, c102, c103, c104, c105, c106, c107, c108, c109, c110, c111, c112, c113, c114, c115, c116, c117, c118, c119, c120, c121, c122, c123, c124, c125, c126, c127, c128, c129, c130, c131, c132, c133, c134, c135, c136, c137, c138, c139, c140, c141, c142, c143, c144, c145, c146, c147, c148, c149, c150, c151, c152, c153, c154, c155, c156, c157, c158, c159, c160, c161, c162, c163, c164, c165, c166, c167, c168, c169, c170, c171, c172, c173, c174, c175, c176, c177, c178, c179, c180, c181, c182, c183, c184, c185, c186, c187, c188, c189, c190, c191, c192, c193, c194, c195, c196, c197, c198, c199, c200, c201, c202, c203, c204, c205, c206, c207, c208, c209, c210, c211, c212, c213, c214, c215, c216, c217, c218, c219, c220, c221, c222, c223, c224, c225, c226, c227, c228, c229, c230, c231, c232, c233, c234, c235, c236, c237, c238, c239, c240, c241, c242, c243, c244, c245, c246, c247, c248, c249, c250, c251, c252, c253, c254, c255, c256, c257, c258, c259, c260, c261, c262, c263, c264, c265, c266, c267, c268, c269, c270, c271, c272, c273, c274, c275, c276, c277, c278, c279, c280, c281, c282, c283, c284, c285, c286, c287, c288, c289, c290, c291, c292, c293, c294, c295, c296, c297, c298, c299, c300, c301, c302, c303, c304, c305, c306, c307, c308, c309, c310, c311, c312, c313, c314, c315, c316, c317, c318, c319, c320, c321, c322, c323, c324, c325, c326, c327, c328, c329, c330, c331, c332, c333, c334, c335, c336, c337, c338, c339, c340, c341, c342, c343, c344, c345, c346, c347, c348, c349, c350, c351, c352, c353, c354, c355, c356, c357, c358, c359, c360, c361, c362, c363, c364, c365, c366, c367, c368, c369, c370, c371, c372, c373, c374, c375, c376, c377, c378, c379, c380, c381, c382, c383, c384], []⟩ wz := by
  conv => arg 2; whnf
  have HQ := hide hQ
  have HK := hide hK
  have HYN := hide hyn
  have HYA := hide hya
  have HE0 := hide hE0
  have HP := hide hp
  have HM := hide hm
  have HPL := hide hpl
  obtain ⟨tP, hi, hz0, hz1, hz2⟩ := info_parts infoP
  have PI := hide (And.intro hi (And.intro hz0 (And.intro hz1 hz2)))
  clear hQ hK hyn hya hE0 hp hm hpl hi hz0 hz1 hz2
  go_wp2_with fail
  go_loopw [13, 28, 29] (fun se sg sj wx => ∃ (j : Nat) (e : Int) (ga : Option Addr) (gc gn : Nat) (G : List (Int × Int)), se = .int .i64 e ∧ sg = .slice ga gn gc ∧ sj = .int .i64 j ∧ j ≤ yn ∧ gn ≤ j ∧ gn ≤ 30 ∧ Hid (G.length = gn) ∧ Hid (GoodW m p l E2 e j G) ∧ Hid (wx.ownsRow wz.heap.size 31 2 (.slice ga gn gc) gn (flatP G)) ∧ Hid (Below wz.heap.size wz wx)) (fun _ _ sj _ => yn - (intOf sj).toNat)
  case atStart => exact ⟨0, E2, none, 0, 0, [], rfl, rfl, rfl, Nat.zero_le _, Nat.zero_le _, Nat.zero_le _, hide rfl, hide (GoodW.start m p l E2), hide (World.ownsRow_nil _ _ _ _), hide (Below.refl _ _)⟩
  case round =>
    obtain ⟨j, e, ga, gc, gn, G, rfl, rfl, rfl, hjy, hgj, hg30, hGL, hGW, hGR, hGB⟩ := hrel
    go_upto_region 55 with fail
    go_cut [198] from 191 to 198 (fun s wx => ∃ Bd : Bool, s = .bool Bd ∧ Hid (Bd = decide (j < yn ∧ e = 0)) ∧ wx = wr)
    case first =>
      by_cases d1 : j < yn
      · have y1 : (j : Int) < (yn : Int) := by omega
        by_cases d2 : e = 0
        · have HX : Hid (true = decide (j < yn ∧ e = 0)) := hide (by rw [decide_eq_true ⟨d1, d2⟩])
          have y2 : (e == 0) = true := by simpa using d2
          clear d2
          go_wp2_with fail
          go_meet
          case rel => exact ⟨true, rfl, HX, rfl⟩
        · have HX : Hid (false = decide (j < yn ∧ e = 0)) := hide (by rw [decide_eq_false (fun h => d2 h.2)])
          have y2 : (e == 0) = false := by simpa using d2
          clear d2
          go_wp2_with fail
          go_meet
          case rel => exact ⟨false, rfl, HX, rfl⟩
      · have y1 : ¬ (j : Int) < (yn : Int) := by omega
        have HX : Hid (false = decide (j < yn ∧ e = 0)) := hide (by rw [decide_eq_false (fun h => d1 h.1)])
        go_wp2_with fail
        go_meet
        case rel => exact ⟨false, rfl, HX, rfl⟩
    case rest =>
      obtain ⟨Bd, rfl, hBd, hwx⟩ := hcut
      obtain rfl := hwx.symm
      cases Bd
      · have HJ : Hid (e = 0 → l.length ≤ j) := hide fun h0 => by
          have := of_decide_eq_false hBd.out.symm
          have := HYN.out
          by_cases hj : j < yn
          · exact absurd ⟨hj, h0⟩ (of_decide_eq_false hBd.out.symm)
          · omega
        clear hBd
        go_wp2_with fail
        exact HQ.out _ _ _ _ _ _ _ _ _ _ _ _ _ _ _ _ _ _ _ _ _ _ _ _ _ _ _ _ _ _ _ _ _ _ _ _ _ _ _ _ _ _ _ _ _ _ _ _ _ _ _ _ _ _ _ _ _ _ _ _ _ _ _ _ _ _ _ _ _ _ _ _ _ _ _ _ _ _ _ _ _ _ _ _ _ _ _ _ hg30 hGL.out hGW.out HJ.out (row_lower hGR.out HK.out.bel.size) (HK.out.quiet hGB.out)
      · have hb2 := of_decide_eq_true hBd.out.symm
        obtain ⟨hjn, rfl⟩ := hb2
        clear hBd
        have hjl : j < l.length := by have := HYN.out; omega
        obtain ⟨z0, yn30⟩ := HE0.out hGW.out.good.1
        obtain ⟨b4, o4, rfl, hlie⟩ := HYA.out (by omega)
        have HBW : Hid (∀ wy, Below wz.heap.size wz wy → Below w.heap.size w wy) := hide fun wy hy => HK.out.bel.trans (hy.mono HK.out.bel.size)
        have HIT : Hid (∀ wy, Below wz.heap.size wz wy → wy.cell? ⟨b4, o4 + j * 2, none⟩ = some (.int .i64 l[j].1) ∧ wy.cell? ⟨b4, o4 + j * 2 + 1, none⟩ = some (.int .i64 l[j].2)) := hide fun wy hy => (hlie.stays (HBW.out wy hy) (Nat.le_refl _)) j hjl
        have HOUT : Hid (M.outB m l[j] = true → GoodW m p l E2 1 (j + 1) G) := hide fun h => hGW.out.out hjl h
        have HNX : Hid (M.outB m l[j] = false → GoodW m p l E2 0 (j + 1) (M.goodS p G l[j])) := hide fun h => hGW.out.next hjl h
        clear hlie
        obtain ⟨it, hit⟩ : ∃ it, it = l[j] := ⟨_, rfl⟩
        rw [← hit] at HIT HOUT HNX
        clear hit
        obtain ⟨X, Y⟩ := it
        have HOB : Hid (M.outB m (X, Y) = (decide (X < 1) || decide ((m : Int) < X) || !M.inR Y)) := hide rfl
        obtain ⟨x0, x1⟩ : wr.cell? ⟨b4, o4 + j * 2, none⟩ = some (.int .i64 X) ∧ wr.cell? ⟨b4, o4 + j * 2 + 1, none⟩ = some (.int .i64 Y) := HIT.out _ hGB.out
        obtain ⟨bi, hbi⟩ : ∃ bi, bi = M.inR Y := ⟨_, rfl⟩
        have HBI := hide hbi
        have HIN2 : Hid (∀ wx, Calls Tryd.prog 16 #[.int .i64 Y] wx fun e w' => e = .returned (.bool bi) ∧ w' = wx) := hide (fun wx => by rw [hbi]; exact rIn _ wx)
        clear hbi
        have y1 : (0 : Int) ≤ (j : Int) := by omega
        have y2 : (j : Int) < (yn : Int) := by omega
        go_wp2_with fail
        refine (HIN2.out _).mono ?_
        rintro e w10 ⟨rfl, hw10⟩
        obtain rfl := hw10.symm
        by_cases e1 : X < 1 ∨ (m : Int) < X ∨ bi = false
        · have HO : Hid (GoodW m p l E2 1 (j + 1) G) := hide (HOUT.out (by
            rw [HOB.out]
            rcases e1 with h | h | h
            · simp [h]
            · simp [h]
            · rw [← HBI.out, h]; simp))
          have hx : X < 1 ∨ (¬ X < 1 ∧ (m : Int) < X) ∨ (¬ X < 1 ∧ ¬ (m : Int) < X ∧ bi = false) := by
            rcases e1 with h | h | h
            · exact Or.inl h
            · by_cases h2 : X < 1
              · exact Or.inl h2
              · exact Or.inr (Or.inl ⟨h2, h⟩)
            · by_cases h2 : X < 1
              · exact Or.inl h2
              · by_cases h3 : (m : Int) < X
                · exact Or.inr (Or.inl ⟨h2, h3⟩)
                · exact Or.inr (Or.inr ⟨h2, h3, h⟩)
          clear e1
          rcases hx with h | ⟨h, h'⟩ | ⟨h, h', rfl⟩
          all_goals
            go_wp2_with fail
            go_roundw
            case rel => exact ⟨j + 1, 1, ga, gc, gn, G, rfl, rfl, by go_num, by omega, by omega, by omega, hGL, HO, hGR, hGB⟩
            case measure => simp [intOf]; omega
        · have e2 : ¬ X < 1 := fun h => e1 (Or.inl h)
          have e3 : ¬ (m : Int) < X := fun h => e1 (Or.inr (Or.inl h))
          have e4 : bi = true := by
            cases bi
            · exact absurd (Or.inr (Or.inr rfl)) e1
            · rfl
          subst e4
          clear e1
          have HNX2 : Hid (GoodW m p l E2 0 (j + 1) (M.goodS p G (X, Y))) := hide (HNX.out (by
            rw [HOB.out, ← HBI.out, decide_eq_false e2, decide_eq_false e3]; rfl))
          have HYR : Hid (0 ≤ Y ∧ Y < 257) := hide (M.inR_yes HBI.out.symm)
          clear HNX HOUT HOB HBI HIN2
          go_wp2_with fail
          go_loopw [31, 32] (fun sh si wx => ∃ (i : Nat) (hb : Bool), sh = .bool hb ∧ si = .int .i64 i ∧ i ≤ gn ∧ Hid (hb = M.hasB (G.take i) X) ∧ Hid (wx.ownsRow wz.heap.size 31 2 (.slice ga gn gc) gn (flatP G)) ∧ Hid (Below wz.heap.size wz wx)) (fun _ si _ => gn - (intOf si).toNat)
          case atStart => exact ⟨0, false, rfl, rfl, Nat.zero_le _, hide (by simp [M.hasB]), hGR, hGB⟩
          case round =>
            clear x0 x1
            obtain ⟨i, hb, rfl, rfl, hin, hHB, hGR2, hGB2⟩ := hrel
            obtain ⟨x0, x1⟩ : wr.cell? ⟨b4, o4 + j * 2, none⟩ = some (.int .i64 X) ∧ wr.cell? ⟨b4, o4 + j * 2 + 1, none⟩ = some (.int .i64 Y) := HIT.out _ hGB2.out
            by_cases hig : i < gn
            · have hiG : i < G.length := by have := hGL.out; omega
              have y3 : (0 : Int) ≤ (i : Int) := by omega
              have y4 : (i : Int) < (gn : Int) := by omega
              obtain ⟨gg, rfl, hcl⟩ := row_cells hGR2.out (by rw [hGR2.out.1]; omega)
              have g0 := hcl (i * 2) _ (flatP_at G i hiG).1
              have HTK : Hid (M.hasB (G.take (i + 1)) X = (hb || G[i].1 == X)) := hide (by rw [has_take hiG, ← hHB.out])
              generalize G[i].1 = U at *
              clear hcl
              cases hb
              · go_wp2_with fail
                go_quiet (fail)
                go_wp2_with fail
                go_roundw
                case rel => exact ⟨i + 1, U == X, rfl, by go_num, by omega, hide (by rw [HTK.out]; rfl), hide (rowV_at hGR2.out (fun _ _ => rfl)), hide (Go.below_drewN hGB2.out _)⟩
                case measure => simp [intOf]; omega
              · go_wp2_with fail
                go_quiet (fail)
                go_wp2_with fail
                go_roundw
                case rel => exact ⟨i + 1, true, rfl, by go_num, by omega, hide (by rw [HTK.out]; rfl), hide (rowV_at hGR2.out (fun _ _ => rfl)), hide (Go.below_drewN hGB2.out _)⟩
                case measure => simp [intOf]; omega
            · have y4 : ¬ (i : Int) < (gn : Int) := by omega
              have HHB : Hid (hb = M.hasB G X) := hide (by
                have := hHB.out
                rwa [List.take_of_length_le (by have := hGL.out; omega)] at this)
              clear hHB hGR hGB
              obtain ⟨hzq, hqn, hPq, hgp⟩ := HP.out z0
              subst hzq
              have HKW := hide (HK.out.quiet hGB2.out)
              obtain ⟨gC, aC, cpC, rfl, k0, hAC⟩ := HKW.out.comAt (by rw [List.length_map]; exact HPL.out) (c := M.commits p) (j := q) (by rw [List.getElem?_map, hPq]; rfl)
              have HTR : Hid (∀ wx, Below wr.heap.size wr wx → Calls Tryd.prog 17 #[.slice aC (M.commits p).length cpC, .agg #[.int .i64 X, .int .i64 Y]] wx fun e w' => e = .returned (.bool (M.trueB (M.commits p) X Y)) ∧ Below wx.heap.size wx w') := hide fun wx hb => rTrue aC _ cpC (M.commits p) X Y wx rfl (hAC.stays hb (Nat.le_refl _)) (HK.out.vt.ok.nums hgp).2.2 (by omega) (by omega) HYR.out.1 HYR.out.2
              have HTB : Hid (M.takeB p G (X, Y) = (M.trueB (M.commits p) X Y && !hb)) := hide (by rw [HHB.out]; rfl)
              obtain ⟨bt, hbt⟩ : ∃ bt, bt = M.trueB (M.commits p) X Y := ⟨_, rfl⟩
              rw [← hbt] at HTR HTB
              obtain ⟨cn, hcn⟩ : ∃ cn, cn = (M.commits p).length := ⟨_, rfl⟩
              rw [← hcn] at HTR k0
              have y5 : (0 : Int) ≤ (q : Int) := by omega
              have y6 : (q : Int) < (hn : Int) := by omega
              clear hPq hgp hAC hbt hcn HHB
              have HT0 := hide (HTR.out wr.drew ((Below.refl _ _).drew))
              have k1 := World.block_lt_of_cell? wr _ k0
              have x2 := World.block_lt_of_cell? wr _ x0
              go_wp2_with fail
              go_region_held3 (fun w' => w'.cell? ⟨gC, q, none⟩ = some (.slice aC cn cpC) ∧ w'.cell? ⟨b4, o4 + j * 2, none⟩ = some (.int .i64 X) ∧ w'.cell? ⟨b4, o4 + j * 2 + 1, none⟩ = some (.int .i64 Y)) (first | go_keep | assumption)
                (first
                  | (go_at_call 17; refine (unhide HT0).mono ?_; rintro e w2 ⟨rfl, hb2⟩; have HB2 := hide hb2; have p0 : w2.cell? ⟨gC, q, none⟩ = some (.slice aC cn cpC) := (hb2.cell (p := ⟨gC, q, none⟩) k1).trans k0; have p1 : w2.cell? ⟨b4, o4 + j * 2, none⟩ = some (.int .i64 X) := (hb2.cell (p := ⟨b4, o4 + j * 2, none⟩) x2).trans x0; have p2 : w2.cell? ⟨b4, o4 + j * 2 + 1, none⟩ = some (.int .i64 Y) := (hb2.cell (p := ⟨b4, o4 + j * 2 + 1, none⟩) x2).trans x1; clear hb2))
              have HGB3 : Hid (Below wz.heap.size wz w2) := hide (hGB2.out.trans (Below.mono (((Below.refl _ _).drew).trans HB2.out) hGB2.out.size))
              have HGR3 : Hid (w2.ownsRow wz.heap.size 31 2 (.slice ga gn gc) gn (flatP G)) := hide (rowV_at hGR2.out (fun g hg => by
                obtain ⟨_, cx, fr, hh⟩ := rowV_tag hGR2.out hg
                exact (((Below.refl wr.heap.size wr).drew).trans HB2.out).block g (heapV_lt hh)))
              clear HTR HT0 k0 k1 x0 x1 x2 p0 HKW hGR2 hGB2 HB2
              by_cases hbb : bt = true ∧ hb = false
              · obtain ⟨rfl, rfl⟩ := hbb
                have HNX3 : Hid (GoodW m p l E2 0 (j + 1) (G ++ [(X, Y)])) := hide (by
                  have := HNX2.out
                  rwa [M.goodS_yes (by rw [HTB.out]; rfl)] at this)
                have HNW : Hid (∀ jj u, [Value.int .i64 X, .int .i64 Y][jj]? = some u → (w2.alloc (.cells #[.int .i64 X, .int .i64 Y] 31)).cell? ((⟨w2.heap.size, 0, none⟩ : Addr).add jj) = some u) := hide (World.news_of_block (heap_alloc_new w2 _))
                have HRW : Hid ((w2.alloc (.cells #[.int .i64 X, .int .i64 Y] 31)).ownsRow wz.heap.size 31 2 (.slice ga gn gc) gn (flatP G)) := hide (HGR3.out.alloc _)
                have HZ : Hid (wz.heap.size ≤ w2.heap.size) := hide HGB3.out.size
                go_wp2_with (at_builtin; refine wpList_append_lies _ rfl (.tmp 260) (.tmp 265) 23 rfl wz.heap.size 31 tP (.agg #[.int .i64 0, .int .i64 0]) 2 16 Tryd.underlying23 PI.out.1 PI.out.2.1 PI.out.2.2.1 PI.out.2.2.2 rfl (by decide) (.slice ga gn gc) gn (flatP G) rfl HRW.out ⟨w2.heap.size, 0, none⟩ 1 1 [.int .i64 X, .int .i64 Y] rfl rfl HNW.out (flatP_oneCell [(X, Y)]) (by decide) (by unfold maxLen; omega) (by omega) (Nat.le_trans HZ.out (by simp)) (w2.heap.size + 1) (by simp) ?_)
                intro g3 k3 w3 hown3 hgrow3 hat3 hlt3
                have HO3 : Hid (w3.ownsRow wz.heap.size 31 2 (.slice (some ⟨g3, 0, none⟩) (gn + 1) k3) (gn + 1) (flatP (G ++ [(X, Y)]))) := hide (by rw [flatP_append]; exact hown3)
                have HB3 := hide ((HGB3.out.alloc HGB3.out.size _).grown hgrow3 (Nat.le_trans HGB3.out.size (by simp)) (fun b hb => (HRW.out.lt b hb).1))
                clear hown3 hgrow3 hat3 hlt3
                go_wp2_with fail
                go_roundw
                case rel => exact ⟨j + 1, 0, some ⟨g3, 0, none⟩, k3, gn + 1, G ++ [(X, Y)], rfl, rfl, by go_num, by omega, by omega, by omega, hide (by rw [List.length_append, hGL.out]; rfl), HNX3, HO3, HB3⟩
                case measure => simp [intOf]; omega
              · have HNX3 : Hid (GoodW m p l E2 0 (j + 1) G) := hide (by
                  have := HNX2.out
                  rwa [M.goodS_no (by
                    rw [HTB.out]
                    cases bt
                    · rfl
                    · cases hb
                      · exact absurd ⟨rfl, rfl⟩ hbb
                      · rfl)] at this)
                have hx : bt = false ∨ (bt = true ∧ hb = true) := by
                  cases bt
                  · exact Or.inl rfl
                  · cases hb
                    · exact absurd ⟨rfl, rfl⟩ hbb
                    · exact Or.inr ⟨rfl, rfl⟩
                clear hbb
                rcases hx with rfl | ⟨rfl, rfl⟩
                all_goals
                  go_wp2_with fail
                  go_roundw
                  case rel => exact ⟨j + 1, 0, ga, gc, gn, G, rfl, rfl, by go_num, by omega, by omega, by omega, hGL, HNX3, HGR3, HGB3⟩
                  case measure => simp [intOf]; omega

end Go.Proofs.YtlefhfmckimlaajDoor.vaultPlays
