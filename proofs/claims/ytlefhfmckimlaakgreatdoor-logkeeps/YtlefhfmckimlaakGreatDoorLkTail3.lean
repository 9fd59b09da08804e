/-
  What follows one that is asked, as the Go function LogKeeps does it: the end of its inner round.
-/
import Derived.Test.YtlefhfmckimlaakGreatDoorLkCode
import Derived.BigQuiet
import Derived.Deep.QuietTactic
import Derived.Deep.CutRange
import Derived.Deep.CutBlock
import Derived.Deep.AppendLies
set_option linter.unusedVariables false
set_option linter.unusedSimpArgs false
namespace Go.Proofs.YtlefhfmckimlaakGreatDoor.logKeeps
open Go.RowKit
attribute [local go_sem ↓] Go.wp_at_zero Go.wp_at_succ

set_option maxHeartbeats 4000000 in
set_option maxRecDepth 1000000 in
theorem tl3 {Q : Exit → Act → World → Prop} {w wz : World} {J p : Nat} {gd dc gm mc : Nat} {Cs : Nat → Nat} {g g2 : M.Lg} {ra : Option Addr} {rn rc : Nat} {R : List M.Rul} {q bb CN : Nat} {WS SS : ByteArray} {WE E : Int} {Ag : Bool} {EV : Value} {cc2 : M.Cop}
    (c0 c1 c2 c3 c4 c5 c6 c7 c8 c9 c10 c11 c12 c13 c14 c15 c16 c17 c18 c19 c20 c22 c23 c27 c28 c29 c37 c38 c39 c40 c41 c42 c43 c44 c45 c46 c47 c48 c49 c50 c51 c52 c53 c54 c55 c56 c57 c58 c59 c60 c61 c62 c63 c64 c65 c66 c67 c68 c69 c70 c71 c72 c73 c74 c75 c76 c77 c78 c79 c80 c81 c82 c83 c84 c85 c86 c87 c88 c89 c90 c91 c92 c93 c94 c95 c96 c97 c98 c99 c100 c101 c102 c103 c104 c105 c106 c107 c108 c109 c110 c111 c112 c113 c114 c115 c116 c117 c118 c119 c120 c121 c122 c123 c124 c125 c126 c127 c128 c129 c130 c131 c132 c133 c134 c135 c136 c137 c138 c139 c140 c141 c142 c143 c144 c145 c146 c147 c148 c149 c150 c151 c152 c153 c154 c155 c156 c157 c158 c159 c160 c161 c162 c163 c164 c165 c166 c167 c168 c169 c170 c171 c172 c173 c174 c175 c176 c177 c178 c179 c180 c181 c182 c183 c184 c185 c186 c187 c188 c189 c190 c191 c192 c193 c194 c195 c196 c197 c198 c199 c200 c201 c202 c203 c204 c205 c206 c207 c208 c209 c210 c211 c212 c213 c214 c215 c216 c217 c218 c219 c220 c221 c222 c223 c224 c225 c226 c227 c228 c229 c230 c231 c232 c233 c234 c235 c236 c237 c238 c239 c240 c241 c242 c243 c244 c245 c246 c247 c248 c249 c250 c251 c252 c253 c254 c255 c256 c257 c258 c259 c260 c261 c262 c263 c264 c265 c266 c267 c268 c269 c270 c271 c272 c273 c274 c275 c276 c277 c278 c279 c280 c281 c282 c283 c284 c285 c286 c287 c288 c289 c290 c291 c292 c293 c294 c295 c296 c297 c298 c299 c300 c301 c302 c303 c304 c305 c306 c307 c308 c309 c310 c311 c312 c313 c314 c315 c316 c317 c318 c319 c320 c321 c322 c323 c324 c325 c326 c327 c328 c329 c330 c331 c332 c333 c334 c335 c336 c337 c338 c339 c340 c341 c342 c343 c344 c345 c346 c347 c348 c349 c350 c351 c352 c353 c354 c355 c356 c357 c358 c359 c360 c361 c362 c363 c364 c365 c366 c367 c368 c369 c370 c371 c372 c373 c374 c375 c376 c377 c378 c379 c380 c381 c382 c383 c384 c385 c386 c387 c388 c389 c390 c391 c392 c393 c394 c395 c396 c397 c398 c399 c400 : Value) {x y : Code} {K : Act → World → Prop} (hC : (((Tryz.f3.body.bind (blockAt 3)).bind (tailAt 38)).getD .skip) = .seq x y) (hKK : ∀ a w, y.wp Tryz.prog Q a w → K a w) (hq : q < 9223372036854775807) (hbb : bb ≤ 32000000) (hp0 : 0 < p) (hp31 : p ≤ 31) (hpc : p = g.cs.length) (hpm : p = g.ms.length) (hEV : EV = errV E) (hCN : Cs p = CN)
    (hW : (E = 6 ∧ SS = M.sNo ∧ g2.cs = g.cs ∧ g2.ms = g.ms) ∨ (E ≠ 0 ∧ E = WE ∧ SS = M.sNo ∧ WS = M.sNo ∧ g2.cs = g.cs ∧ g2.ms = g.ms) ∨ (E = 0 ∧ WE = 0 ∧ SS = WS ∧ Ag = true ∧ g2.cs = g.cs ∧ g2.ms = g.ms ∧ g2.bytes = bb) ∨ (E = 0 ∧ WE = 0 ∧ SS = WS ∧ Ag = false ∧ g2.cs = g.cs ++ [cc2] ∧ g2.ms = g.ms ++ [g2.bytes] ∧ bb + 2 ≤ g2.bytes ∧ p < 31))
    (hH : Hand w) (hT : Tab w) (hK : Lk w wz J (.slice (some ⟨gd, 0, none⟩) p dc) (.slice (some ⟨gm, 0, none⟩) p mc) p Cs (g.cs ++ [cc2]) g.ms g2 ra rn rc R)
    (hQ : ∀ (u23 u37 u38 u39 u40 u41 u234 u235 u236 u237 u238 u239 u240 u241 u242 u243 u244 u245 u246 u247 u248 u249 u250 u251 u252 u253 u254 u255 u256 u257 u258 u259 u260 u261 u262 u263 u264 u265 u266 u267 u268 u269 u270 u271 u272 u273 u274 u275 u276 u277 u278 u279 u280 u281 u282 u283 u284 u285 u286 u287 u288 u289 u290 u291 u292 u293 u294 u295 u296 u297 u298 u299 u300 u301 u302 u303 u304 u305 u306 u307 u308 u309 : Value) (w' : World) (gd' dc' gm' mc' p' : Nat), p' = g2.cs.length → Lk w w' J (.slice (some ⟨gd', 0, none⟩) p' dc') (.slice (some ⟨gm', 0, none⟩) p' mc') p' Cs g2.cs g2.ms g2 ra rn rc R → Q .normal ⟨#[c0, c1, c2, c3, c4, c5, c6, c7, c8, c9, c10, c11, c12, c13, c14, c15, c16, c17, c18, c19, c20, .pointer (some ⟨J, 0, none⟩), c22, u23, .slice (some ⟨gd', 0, none⟩) p' dc', .slice (some ⟨gm', 0, none⟩) p' mc', .int .i64 ((q : Int) + 1), c27, c28, c29, .pointer (some ⟨CN, 0, none⟩), .string WS, .int .i64 WE, .bool Ag, .int .i64 (bb : Nat), .string SS, EV, u37, u38, u39, u40, u41, c42, c43, c44, c45, c46, c47, c48, c49, c50, c51, c52, c53, c54, c55, c56, c57, c58, c59, c60, c61, c62, c63, c64, c65, c66, c67, c68, c69, c70, c71, c72, c73, c74, c75, c76, c77, c78, c79, c80, c81, c82, c83, c84, c85, c86, c87, c88, c89, c90, c91, c92, c93, c94, c95, c96, c97, c98, c99, c100, c101, c102, c103, c104, c105, c106, c107, c108, c109, c110, c111, c112, c113, c114, c115, c116, c117, c118, c119, c120, c121, c122, c123, c124, c125, c126, c127, c128, c129, c130, c131, c132, c133, c134, c135, c136, c137, c138, c139, c140, c141, c142, c143, c144, c145, c146, c147, c148, c149, c150, c151, c152, c153, c154, c155, c156, c157, c158, c159, c160, c161, c162, c163, c164, c165, c166, c167, c168, c169, c170, c171, c172, c173, c174, c175, c176, c177, c178, c179, c180, c181, c182, c183, c184, c185, c186, c187, c188, c189, c190, c191, c192, c193, c194, c195, c196, c197, c198, c199, c200, c201, c202, c203, c204, c205, c206, c207, c208, c209, c210, c211, c212, c213, c214, c215, c216, c217, c218, c219, c220, c221, c222, c223, c224, c225, c226, c227, c228, c229, c230, c231, c232, c233, u234, u235, u236, u237, u238, u239, u240, u241, u242, u243, u244, u245, u246, u247, u248, u249, u250, u251, u252, u253, u254, u255, u256, u257, u258, u259, u260, u261, u262, u263, u264, u265, u266, u267, u268, u269, u270, u271, u272, u273, u274, u275, u276, u277, u278, u279, u280, u281, u282, u283, u284, u285, u286, u287, u288, u289, u290, u291, u292, u293, u294, u295, u296, u297, u298, u299, u300, u301, u302, u303, u304, u305, u306, u307, u308, u309, c310, c311, c312, c313, c314, c315, c316, c317, c318, c319, c320, c321, c322, c323, c324, c325, c326, c327, c328, c329, c330, c331, c332, c333, c334, c335, c336, c337, c338, c339, c340, c341, c342, c343, c344, c345, c346, c347, c348, c349, c350, c351, c352, c353, c354, c355, c356, c357, c358, c359, c360, c361, c362, c363, c364, c365, c366, c367, c368, c369, c370, c371, c372, c373, c374, c375, c376, c377, c378, c379, c380, c381, c382, c383, c384, c385, c386, c387, c388, c389, c390, c391, c392, c393, c394, c395, c396, c397, c398, c399, c400], []⟩ w') :
    x.wp Tryz.prog (Exit.then K Q) ⟨#[c0, c1, c2, c3, c4, c5, c6, c7, c8, c9, c10, c11, c12, c13, c14, c15, c16, c17, c18, c19, c20, .pointer (some ⟨J, 0, none⟩), c22, c23, .slice (some ⟨gd, 0, none⟩) p dc, .slice (some ⟨gm, 0, none⟩) p mc, .int .i64 (q : Nat), c27, c28, c29, .pointer (some ⟨CN, 0, none⟩), .string WS, .int .i64 WE, .bool Ag, .int .i64 (bb : Nat), .string SS, EV, c37, c38, c39, c40, c41, c42, c43, c44, c45, c46, c47, c48, c49, c50, c51, c52, c53, c54, c55, c56, c57, c58, c59, c60, c61, c62, c63, c64, c65, c66, c67, c68, c69, c70, c71, c72, c73, c74, c75, c76, c77, c78, c79, c80, c81, c82, c83, c84, c85, c86, c87, c88, c89, c90, c91, c92, c93, c94, c95, c96, c97, c98, c99, c100, c101, c102, c103, c104, c105, c106, c107, c108, c109, c110, c111, c112, c113, c114, c115, c116, c117, c118, c119, c120, c121, c122, c123, c124, c125, c126, c127, c128, c129, c130, c131, c132, c133, c134, c135, c136, c137, c138, c139, c140, c141, c142, c143, c144, c145, c146, c147, c148, c149, c150, c151, c152, c153, c154, c155, c156, c157, c158, c159, c160, c161, c162, c163, c164, c165, c166, c167, c168, c169, c170, c171, c172, c173, c174, c175, c176, c177, c178, c179, c180, c181, c182, c183, c184, c185, c186, c187, c188, c189, c190, c191, c192, c193, c194, c195, c196, c197, c198, c199, c200, c201, c202, c203, c204, c205, c206, c207, c208, c209, c210, c211, c212, c213, c214, c215, c216, c217, c218, c219, c220, c221, c222, c223, c224, c225, c226, c227, c228, c229, c230, c231, c232, c233, c234, c235, c236, c237, c238, c239, c240, c241, c242, c243, c244, c245, c246, c247, c248, c249, c250, c251, c252, c253, c254, c255, c256, c257, c258, c259, c260, c261, c262, c263, c264, c265, c266, c267, c268, c269, c270, c271, c272, c273, c274, c275, c276, c277, c278, c279, c280, c281, c282, c283, c284, c285, c286, c287, c288, c289, c290, c291, c292, c293, c294, c295, c296, c297, c298, c299, c300, c301, c302, c303, c304, c305, c306, c307, c308, c309, c310, c311, c312, c313, c314, c315, c316, c317, c318, c319, c320, c321, c322, c323, c324, c325, c326, c327, c328, c329, c330, c331, c332, c333, c334, c335, c336, c337, c338, c339, c340, c341, c342, c343, c344, c345, c346, c347, c348, c349, c350, c351, c352, c353, c354, c355, c356, c357, c358, c359, c360, c361, c362, c363, c364, c365, c366, c367, c368, c369, c370, c371, c372, c373, c374, c375, c376, c377, c378, c379, c380, c381, c382, c383, c384, c385, c386, c387, c388, c389, c390, c391, c392, c393, c394, c395, c396, c397, c398, c399, c400], []⟩ wz := by
  conv at hC => lhs; whnf
  cases hC
  have HQ := hide hQ
  have HH := hide hH
  have HT := hide hT
  have HPC := hide hpc
  have HPM := hide hpm
  have HCN := hide hCN
  have HK := hide hK
  have HEV := hide hEV
  have HW := hide hW
  have HC6 : Hid (Calls Tryz.prog 16 #[EV, .int .i64 6] wz fun e w' => e = .returned (.bool (E == 6)) ∧ Lk w w' J (.slice (some ⟨gd, 0, none⟩) p dc) (.slice (some ⟨gm, 0, none⟩) p mc) p Cs (g.cs ++ [cc2]) g.ms g2 ra rn rc R) := hide (by rw [hEV]; exact hK.same hH E 6)
  have HCW : Hid (∀ wx, Lk w wx J (.slice (some ⟨gd, 0, none⟩) p dc) (.slice (some ⟨gm, 0, none⟩) p mc) p Cs (g.cs ++ [cc2]) g.ms g2 ra rn rc R → Calls Tryz.prog 16 #[EV, .int .i64 WE] wx fun e w' => e = .returned (.bool (E == WE)) ∧ Lk w w' J (.slice (some ⟨gd, 0, none⟩) p dc) (.slice (some ⟨gm, 0, none⟩) p mc) p Cs (g.cs ++ [cc2]) g.ms g2 ra rn rc R) := hide fun wx hx => by rw [hEV]; exact hx.same hH E WE
  have q0 : (0 : Int) ≤ (q : Int) := by omega
  have q1 : (q : Int) < 9223372036854775807 := by omega
  clear hQ hH hT hpc hpm hCN hEV hW hK hq
  obtain ⟨b6, hb6⟩ : ∃ b6 : Bool, (E == 6) = b6 := ⟨_, rfl⟩
  obtain ⟨bW, hbW⟩ : ∃ bW : Bool, (E == WE) = bW := ⟨_, rfl⟩
  rw [hb6] at HC6
  rw [hbW] at HCW
  have HN : Hid ((b6 = true ∧ SS = M.sNo) ∨ (b6 = false ∧ bW = true ∧ SS = WS)) := hide (by
    rcases HW.out with ⟨h1, h2, _⟩ | ⟨h1, h2, h3, h4, _⟩ | ⟨h1, h2, h3, _⟩ | ⟨h1, h2, h3, _⟩
    · exact Or.inl ⟨by rw [← hb6, h1]; rfl, h2⟩
    · cases b6
      · exact Or.inr ⟨rfl, by rw [← hbW, h2]; simp, by rw [h3, h4]⟩
      · exact Or.inl ⟨rfl, h3⟩
    · exact Or.inr ⟨by rw [← hb6, h1]; rfl, by rw [← hbW, h1, h2]; rfl, h3⟩
    · exact Or.inr ⟨by rw [← hb6, h1]; rfl, by rw [← hbW, h1, h2]; rfl, h3⟩)
  clear hb6 hbW
  go_wp2_with fail
  clear q0 q1
  refine (unhide HC6).mono ?_
  rintro e w1 ⟨rfl, hK1⟩
  dsimp only
  have HC2 := hide (HCW.out _ hK1)
  clear hK1 HC6 HCW HK
  go_wp2_with fail
  refine (unhide HC2).mono ?_
  rintro e w2 ⟨rfl, hK2⟩
  dsimp only
  have HK2 := hide hK2
  clear hK2 HC2
  go_upto_region 41 with fail
  go_cut [258] from 241 to 286 (fun s wx => s = .bool false ∧ wx = w2)
  case first =>
    rcases HN.out with ⟨n1, n2⟩ | ⟨n1, n2, n3⟩
    · clear HN HW
      subst n1 n2
      go_wp2_with fail
      go_meet
      case rel => exact ⟨by first | rfl | (rw [ByteArray.toList_eq]; rfl), rfl⟩
    · clear HN HW
      subst n1 n2 n3
      go_wp2_with fail
      go_meet
      case rel => exact ⟨rfl, rfl⟩
  case rest =>
    obtain ⟨rfl, hw2⟩ := hcut
    obtain rfl := hw2.symm
    clear HN
    have HEN : Hid ((E ≠ 0 ∧ ∃ vv, EV = .iface 87 vv) ∨ (E = 0 ∧ EV = .nilIface)) := hide (by
      by_cases h : E = 0
      · subst h; exact Or.inr ⟨rfl, HEV.out⟩
      · exact Or.inl ⟨h, .int .i64 E, by rw [HEV.out, errV_bad h]⟩)
    go_upto_region 43 with fail
    go_cut [264] from 259 to 286 (fun s wx => ∃ B : Bool, s = .bool B ∧ Hid (B = (decide (E = 0) && !Ag)) ∧ wx = w2)
    case first =>
      rcases HEN.out with ⟨h1, vv, h2⟩ | ⟨h1, h2⟩
      · have HB : Hid (false = (decide (E = 0) && !Ag)) := hide (by simp [h1])
        clear HEV HEN HW h1
        subst h2
        go_wp2_with fail
        go_meet
        case rel => exact ⟨false, rfl, HB, rfl⟩
      · have HB : Hid ((!Ag) = (decide (E = 0) && !Ag)) := hide (by simp [h1])
        clear HEV HEN HW h1
        subst h2
        go_wp2_with fail
        go_meet
        case rel => exact ⟨!Ag, rfl, HB, rfl⟩
    case rest =>
      obtain ⟨B, rfl, HB, hw2⟩ := hcut
      obtain rfl := hw2.symm
      -- what becomes of the rows
      obtain ⟨gd2, dc2, gm2, mc2, e1, e2, ⟨d1, d2⟩, ⟨m1, m2⟩, hrows⟩ := HK2.out.rows hp0 (by have := HPM.out; omega)
      simp only [Value.slice.injEq, Option.some.injEq, Addr.mk.injEq, and_true, true_and] at e1 e2
      obtain ⟨rfl, rfl⟩ := e1
      obtain ⟨rfl, hx9, rfl⟩ := e2
      unfold maxLen at d2 m2
      clear hx9 hrows
      go_upto_if 264 with fail
      go_cut [10, 24, 25] from 259 to 309 (fun s10 s24 s25 wx => ∃ p' gd' dc' gm' mc' : Nat, s10 = c10 ∧ s24 = .slice (some ⟨gd', 0, none⟩) p' dc' ∧ s25 = .slice (some ⟨gm', 0, none⟩) p' mc' ∧ Hid (p' = g2.cs.length) ∧ Hid (Lk w wx J (.slice (some ⟨gd', 0, none⟩) p' dc') (.slice (some ⟨gm', 0, none⟩) p' mc') p' Cs g2.cs g2.ms g2 ra rn rc R))
      case first =>
        have less : ∀ wx, g2.cs = g.cs → g2.ms = g.ms → Lk w wx J (.slice (some ⟨gd, 0, none⟩) p dc) (.slice (some ⟨gm, 0, none⟩) p mc) p Cs (g.cs ++ [cc2]) g.ms g2 ra rn rc R → Lk w wx J (.slice (some ⟨gd, 0, none⟩) p dc) (.slice (some ⟨gm, 0, none⟩) p mc) p Cs g2.cs g2.ms g2 ra rn rc R := fun wx k1 k2 k => by
          have := k.less (Nat.le_refl p)
          rw [HPC.out, List.take_left' rfl, ← HPC.out] at this
          rw [k1, k2]; exact this
        have HLS := hide less
        clear less
        rcases HW.out with ⟨h1, x1, h3, h4⟩ | ⟨h1, x1, x2, x3, h3, h4⟩ | ⟨h1, x1, x2, h5, h3, h4, h6⟩ | ⟨h1, x1, x2, h5, h3, h4, h6, h7⟩
        · clear x1
          have hBF : B = false := by rw [HB.out, h1]; rfl
          have HP2 : Hid (p = g2.cs.length) := hide (by rw [h3]; exact HPC.out)
          have HL2 := hide (HLS.out _ h3 h4 HK2.out)
          have hE0 : E ≠ 0 := by rw [h1]; decide
          rcases HEN.out with ⟨_, vv, k2⟩ | ⟨k1, _⟩
          · clear HW HB HEV HEN HLS h1 h3 h4 hE0
            subst hBF k2
            go_wp2_with fail
            go_meet
            case rel => exact ⟨p, gd, dc, gm, mc, rfl, rfl, rfl, HP2, HL2⟩
          · exact absurd k1 hE0
        · clear x1 x2 x3
          have hBF : B = false := by rw [HB.out]; simp [h1]
          have HP2 : Hid (p = g2.cs.length) := hide (by rw [h3]; exact HPC.out)
          have HL2 := hide (HLS.out _ h3 h4 HK2.out)
          rcases HEN.out with ⟨_, vv, k2⟩ | ⟨k1, _⟩
          · clear HW HB HEV HEN HLS h1 h3 h4
            subst hBF k2
            go_wp2_with fail
            go_meet
            case rel => exact ⟨p, gd, dc, gm, mc, rfl, rfl, rfl, HP2, HL2⟩
          · exact absurd k1 h1
        · clear x1 x2
          have hBF : B = false := by rw [HB.out, h5]; simp
          have HP2 : Hid (p = g2.cs.length) := hide (by rw [h3]; exact HPC.out)
          have HL2 := hide (HLS.out _ h3 h4 HK2.out)
          have HBY := hide HL2.out.bytes
          rw [h6] at HBY
          rcases HEN.out with ⟨k1, _⟩ | ⟨_, k2⟩
          · exact absurd h1 k1
          · clear HW HB HEV HEN HLS h1 h3 h4 h6
            subst hBF k2 h5
            go_wp2_with fail
            refine (unhide HBY).mono ?_
            rintro e w3 ⟨rfl, hK3⟩
            dsimp only
            have HK3 := hide hK3
            clear hK3 HBY HL2
            go_wp2_with fail
            go_meet
            case rel => exact ⟨p, gd, dc, gm, mc, rfl, rfl, rfl, HP2, HK3⟩
        · clear x1 x2
          have hBT : B = true := by rw [HB.out, h1, h5]; rfl
          have HBY := hide HK2.out.bytes
          obtain ⟨B2, hB2⟩ : ∃ B2 : Int, (bb : Int) + 2 = B2 := ⟨_, rfl⟩
          have hB3 : IntKind.i64.wrap B2 = B2 := IntWalk.i64_in _ ⟨by omega, by omega⟩
          have hby : ¬ (g2.bytes : Int) < B2 := by omega
          have HP2 : Hid (Unit → p + 1 = g2.cs.length) := hide (fun _ => by rw [h3]; simp; exact HPC.out)
          have HCM : Hid (Unit → g2.cs = g.cs ++ [cc2] ∧ g2.ms = g.ms ++ [g2.bytes]) := hide (fun _ => ⟨h3, h4⟩)
          obtain ⟨yb, hyb⟩ : ∃ yb, yb = g2.bytes := ⟨_, rfl⟩
          rw [← hyb] at HBY hby
          have HCM2 : Hid (Unit → g2.cs = g.cs ++ [cc2] ∧ g2.ms = g.ms ++ [yb]) := hide (fun _ => by rw [hyb]; exact HCM.out ())
          clear HCM
          have HCM := HCM2
          clear HCM2
          have HYB : Hid (Unit → yb = g2.bytes) := hide (fun _ => hyb)
          clear HW HB HEV HEN HLS h1 h3 h4 h6 hyb h7
          subst hBT h5
          go_wp2_with fail
          refine (unhide HBY).mono ?_
          rintro e w3 ⟨rfl, hK3⟩
          dsimp only
          have HK3 := hide hK3
          clear hK3 HBY HK2
          go_upto_region 46 with fail
          obtain ⟨i0, hi, hz0, hz1, hz2⟩ := info_parts infoPC
          have HI := hide (And.intro hi (And.intro hz0 (And.intro hz1 hz2)))
          obtain ⟨j0, hj, hy0, hy1, hy2⟩ := info_parts infoIn
          have HJ := hide (And.intro hj (And.intro hy0 (And.intro hy1 hy2)))
          have HRW : Hid ((w3.alloc (.cells #[.pointer (some ⟨CN, 0, none⟩)] 46)).ownsRow w.heap.size 46 1 (.slice (some ⟨gd, 0, none⟩) p dc) p (ptrC p Cs)) := hide (HK3.out.quiet ((Below.refl _ _).alloc (Nat.le_refl _) _)).rowD
          have HNW : Hid (∀ j u, [Value.pointer (some ⟨CN, 0, none⟩)][j]? = some u → (w3.alloc (.cells #[.pointer (some ⟨CN, 0, none⟩)] 46)).cell? ((⟨w3.heap.size, 0, none⟩ : Addr).add j) = some u) := hide (World.news_of_block (heap_alloc_new w3 _))
          have HBL : Hid (w.heap.size ≤ w3.heap.size) := hide HK3.out.bel.size
          clear hi hz0 hz1 hz2 hj hy0 hy1 hy2
          go_wp2_with (at_builtin; refine wpList_append_lies _ rfl (.tmp 270) (.tmp 272) 48 rfl w.heap.size 46 i0 (.pointer none) 1 8 Tryz.underlying48 HI.out.1 HI.out.2.1 HI.out.2.2.1 HI.out.2.2.2 rfl (by decide) (.slice (some ⟨gd, 0, none⟩) p dc) p (ptrC p Cs) rfl HRW.out ⟨w3.heap.size, 0, none⟩ 1 1 [.pointer (some ⟨CN, 0, none⟩)] rfl rfl HNW.out (by intro u hu; simp at hu; subst hu; rfl) (by decide) (by unfold maxLen; omega) (by omega) (Nat.le_trans HBL.out (by simp)) (w3.heap.size + 1) (by simp) ?_)
          intro g4 k4 w4 hown4 hgrow4 hat4 hlt4
          have HK4 := hide (HK3.out.addD (by simp; have := HPC.out; omega) hgrow4 (by rw [HCN.out]; exact hown4) hat4)
          clear hown4 hgrow4 hat4 HRW HNW HK3 HBL
          have HB4 := hide HK4.out.bytes
          rw [← HYB.out ()] at HB4
          go_wp2_with fail
          refine (unhide HB4).mono ?_
          rintro e w5 ⟨rfl, hK5⟩
          dsimp only
          have HK5 := hide hK5
          have HRM : Hid ((w5.alloc (.cells #[.int .i64 yb] 3)).ownsRow w.heap.size 3 1 (.slice (some ⟨gm, 0, none⟩) p mc) p (cellsN g.ms)) := hide (by have := (hK5.quiet ((Below.refl _ _).alloc (Nat.le_refl _) (.cells #[.int .i64 yb] 3))).rowM; rwa [← HPM.out] at this)
          have HNM : Hid (∀ j u, [Value.int .i64 (yb : Int)][j]? = some u → (w5.alloc (.cells #[.int .i64 yb] 3)).cell? ((⟨w5.heap.size, 0, none⟩ : Addr).add j) = some u) := hide (World.news_of_block (heap_alloc_new w5 _))
          have HBL : Hid (w.heap.size ≤ w5.heap.size) := hide hK5.bel.size
          clear hK5 HB4 HK4
          go_wp2_with (at_builtin; refine wpList_append_lies _ rfl (.tmp 274) (.tmp 277) 24 rfl w.heap.size 3 j0 (.int .i64 0) 1 8 Tryz.underlying24 HJ.out.1 HJ.out.2.1 HJ.out.2.2.1 HJ.out.2.2.2 rfl (by decide) (.slice (some ⟨gm, 0, none⟩) p mc) p (cellsN g.ms) rfl HRM.out ⟨w5.heap.size, 0, none⟩ 1 1 [.int .i64 yb] rfl rfl HNM.out (by intro u hu; simp at hu; subst hu; rfl) (by decide) (by unfold maxLen; omega) (by omega) (Nat.le_trans HBL.out (by simp)) (w5.heap.size + 1) (by simp) ?_)
          intro g6 k6 w6 hown6 hgrow6 hat6 hlt6
          have HK6 := hide (HK5.out.addM HPM.out.symm hgrow6 hown6 hat6)
          rw [← (HCM.out ()).1, ← (HCM.out ()).2] at HK6
          clear hown6 hgrow6 hat6 HRM HNM HK5 HBL
          go_wp2_with fail
          go_meet
          case rel => exact ⟨p + 1, g4, k4, g6, k6, rfl, rfl, rfl, hide (HP2.out ()), HK6⟩
      case rest =>
        obtain ⟨p2, gd3, dc3, gm3, mc3, hs10, rfl, rfl, HP2, HK3⟩ := hcut
        obtain rfl := hs10
        clear HK2 HW HEV HEN HB
        have HOK := hide HK3.out.ok
        have hp20 : 0 < p2 := by have := HOK.out.len; have := HOK.out.pos; have := HP2.out; omega
        have hp231 : p2 ≤ 31 := by have := HOK.out.len; have := HOK.out.few; have := HP2.out; omega
        obtain ⟨r, rfl⟩ : ∃ r, p2 = r + 1 := ⟨p2 - 1, by omega⟩
        have hr : r < g2.cs.length := by have := HP2.out; omega
        have HCP : Hid (g2.cop = g2.cs[r]) := hide (by
          rw [HOK.out.cop_at]
          congr 1
          have := HP2.out
          omega)
        have HMK := hide (HK3.out.jmark HT.out)
        rw [HCP.out] at HMK
        obtain ⟨y1, hy1⟩ : ∃ y1 : Nat, y1 = g2.cs[r].n := ⟨_, rfl⟩
        obtain ⟨y2, hy2⟩ : ∃ y2, y2 = M.mark g2.cs[r].l := ⟨_, rfl⟩
        have HRM : Hid (∀ wx, Lk w wx J (.slice (some ⟨gd3, 0, none⟩) (r + 1) dc3) (.slice (some ⟨gm3, 0, none⟩) (r + 1) mc3) (r + 1) Cs g2.cs g2.ms g2 ra rn rc R → Calls Tryz.prog 21 #[.pointer (some ⟨Cs r, 0, none⟩)] wx fun e w' => e = .returned (.tuple #[.int .i64 y1, .int .i64 y2]) ∧ Lk w w' J (.slice (some ⟨gd3, 0, none⟩) (r + 1) dc3) (.slice (some ⟨gm3, 0, none⟩) (r + 1) mc3) (r + 1) Cs g2.cs g2.ms g2 ra rn rc R) := hide fun wx hx => by rw [hy1, hy2]; exact hx.rmark hr
        rw [← hy1, ← hy2] at HMK
        clear hy1 hy2 HCP
        go_wp2_with fail
        refine (unhide HMK).mono ?_
        rintro e w7 ⟨rfl, hK7⟩
        dsimp only
        obtain ⟨gd4, dc4, gm4, mc4, e1, e2, ⟨d3, d4⟩, _, hrows⟩ := hK7.rows hp20 (by have := HOK.out.pos; exact this)
        simp only [Value.slice.injEq, Option.some.injEq, Addr.mk.injEq, and_true, true_and] at e1
        obtain ⟨rfl, rfl⟩ := e1
        have n1 := (hrows _ (Below.refl _ _)).1 r (by omega)
        have nl := World.block_lt_of_cell? _ _ n1
        unfold maxLen at d4
        have HR7 := hide (HRM.out _ hK7)
        clear e2 hrows hK7 HMK HRM HK3
        go_wp2_with fail
        refine (unhide HR7).mono ?_
        rintro e w8 ⟨rfl, hK8⟩
        dsimp only
        have HK8 := hide hK8
        clear hK8 HR7 n1 nl
        go_wp2_with fail
        refine HQ.out _ _ _ _ _ _ _ _ _ _ _ _ _ _ _ _ _ _ _ _ _ _ _ _ _ _ _ _ _ _ _ _ _ _ _ _ _ _ _ _ _ _ _ _ _ _ _ _ _ _ _ _ _ _ _ _ _ _ _ _ _ _ _ _ _ _ _ _ _ _ _ _ _ _ _ _ _ _ _ _ _ _ _ _ _ _ _ _ HP2.out HK8.out

end Go.Proofs.YtlefhfmckimlaakGreatDoor.logKeeps
