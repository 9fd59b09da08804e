/-
  The search for what is left, as the Go function LogKeeps does it: a loop of its round.
-/
import Derived.Test.YtlefhfmckimlaakGreatDoorLkCode
import Derived.BigQuiet
import Derived.Deep.QuietTactic
import Derived.Deep.CutRange
import Derived.Deep.CutBlock
set_option linter.unusedVariables false
set_option linter.unusedSimpArgs false
namespace Go.Proofs.YtlefhfmckimlaakGreatDoor.logKeeps
open Go.RowKit
attribute [local go_sem ↓] Go.wp_at_zero Go.wp_at_succ

set_option maxHeartbeats 4000000 in
set_option maxRecDepth 1000000 in
theorem blk4 {Q : Exit → Act → World → Prop} {w wz : World} {J p : Nat} {gd dc gm mc hi : Nat} {Cs : Nat → Nat} {g g1 : M.Lg} {ra : Option Addr} {rn rc : Nat} {R : List M.Rul}
    (c0 c1 c2 c3 c4 c5 c6 c7 c8 c9 c10 c11 c12 c13 c14 c15 c16 c17 c18 c19 c20 c21 c22 c23 c24 c26 c27 c28 c29 c30 c31 c32 c33 c34 c35 c36 c37 c38 c39 c40 c41 c42 c43 c44 c48 c49 c50 c51 c52 c53 c54 c55 c56 c57 c58 c59 c60 c61 c62 c63 c64 c65 c66 c67 c68 c69 c70 c71 c72 c73 c74 c75 c76 c77 c78 c79 c80 c81 c82 c83 c84 c85 c86 c87 c88 c89 c90 c91 c92 c93 c94 c95 c96 c97 c98 c99 c100 c101 c102 c103 c104 c105 c106 c107 c108 c109 c110 c111 c112 c113 c114 c115 c116 c117 c118 c119 c120 c121 c122 c123 c124 c125 c126 c127 c128 c129 c130 c131 c132 c133 c134 c135 c136 c137 c138 c139 c140 c141 c142 c143 c144 c145 c146 c147 c148 c149 c150 c151 c152 c153 c154 c155 c156 c157 c158 c159 c160 c161 c162 c163 c164 c165 c166 c167 c168 c169 c170 c171 c172 c173 c174 c175 c176 c177 c178 c179 c180 c181 c182 c183 c184 c185 c186 c187 c188 c189 c190 c191 c192 c193 c194 c195 c196 c197 c198 c199 c200 c201 c202 c203 c204 c205 c206 c207 c208 c209 c210 c211 c212 c213 c214 c215 c216 c217 c218 c219 c220 c221 c222 c223 c224 c225 c226 c227 c228 c229 c230 c231 c232 c233 c234 c235 c236 c237 c238 c239 c240 c241 c242 c243 c244 c245 c246 c247 c248 c249 c250 c251 c252 c253 c254 c255 c256 c257 c258 c259 c260 c261 c262 c263 c264 c265 c266 c267 c268 c269 c270 c271 c272 c273 c274 c275 c276 c277 c278 c279 c280 c281 c282 c283 c284 c285 c286 c287 c288 c289 c290 c291 c292 c293 c294 c295 c296 c297 c298 c299 c300 c301 c302 c303 c304 c305 c306 c307 c308 c309 c310 c311 c312 c313 c314 c315 c316 c317 c318 c319 c320 c321 c322 c323 c324 c325 c326 c327 c328 c329 c330 c331 c332 c333 c334 c335 c336 c337 c338 c339 c340 c341 c342 c343 c344 c345 c346 c347 c348 c349 c350 c351 c352 c353 c354 c355 c356 c357 c358 c359 c360 c361 c362 c363 c364 c365 c366 c367 c368 c369 c370 c371 c372 c373 c374 c375 c376 c377 c378 c379 c380 c381 c382 c383 c384 c385 c386 c387 c388 c389 c390 c391 c392 c393 c394 c395 c396 c397 c398 c399 c400 : Value) (hp0 : 0 < p) (hp31 : p ≤ 31) (hg : g.Ok R) (hpm : p = g.ms.length) (hK : Lk w wz J (.slice (some ⟨gd, 0, none⟩) p dc) (.slice (some ⟨gm, 0, none⟩) p mc) p Cs g.cs g.ms g1 ra rn rc R)
    (hQ : ∀ (u47 u341 u342 u343 u344 u345 u346 u347 u348 u349 u350 u351 u352 u353 : Value) (z : Nat), z + 1 = M.upTo g.ms hi → Lk w wz J (.slice (some ⟨gd, 0, none⟩) p dc) (.slice (some ⟨gm, 0, none⟩) p mc) p Cs g.cs g.ms g1 ra rn rc R → Q .normal ⟨#[c0, c1, c2, c3, c4, c5, c6, c7, c8, c9, c10, c11, c12, c13, c14, c15, c16, c17, c18, c19, c20, c21, c22, c23, c24, .slice (some ⟨gm, 0, none⟩) p mc, c26, c27, c28, c29, c30, c31, c32, c33, c34, c35, c36, c37, c38, c39, c40, c41, c42, c43, c44, .int .i64 (hi : Nat), .int .i64 (z : Nat), u47, c48, c49, c50, c51, c52, c53, c54, c55, c56, c57, c58, c59, c60, c61, c62, c63, c64, c65, c66, c67, c68, c69, c70, c71, c72, c73, c74, c75, c76, c77, c78, c79, c80, c81, c82, c83, c84, c85, c86, c87, c88, c89, c90, c91, c92, c93, c94, c95, c96, c97, c98, c99, c100, c101, c102, c103, c104, c105, c106, c107, c108, c109, c110, c111, c112, c113, c114, c115, c116, c117, c118, c119, c120, c121, c122, c123, c124, c125, c126, c127, c128, c129, c130, c131, c132, c133, c134, c135, c136, c137, c138, c139, c140, c141, c142, c143, c144, c145, c146, c147, c148, c149, c150, c151, c152, c153, c154, c155, c156, c157, c158, c159, c160, c161, c162, c163, c164, c165, c166, c167, c168, c169, c170, c171, c172, c173, c174, c175, c176, c177, c178, c179, c180, c181, c182, c183, c184, c185, c186, c187, c188, c189, c190, c191, c192, c193, c194, c195, c196, c197, c198, c199, c200, c201, c202, c203, c204, c205, c206, c207, c208, c209, c210, c211, c212, c213, c214, c215, c216, c217, c218, c219, c220, c221, c222, c223, c224, c225, c226, c227, c228, c229, c230, c231, c232, c233, c234, c235, c236, c237, c238, c239, c240, c241, c242, c243, c244, c245, c246, c247, c248, c249, c250, c251, c252, c253, c254, c255, c256, c257, c258, c259, c260, c261, c262, c263, c264, c265, c266, c267, c268, c269, c270, c271, c272, c273, c274, c275, c276, c277, c278, c279, c280, c281, c282, c283, c284, c285, c286, c287, c288, c289, c290, c291, c292, c293, c294, c295, c296, c297, c298, c299, c300, c301, c302, c303, c304, c305, c306, c307, c308, c309, c310, c311, c312, c313, c314, c315, c316, c317, c318, c319, c320, c321, c322, c323, c324, c325, c326, c327, c328, c329, c330, c331, c332, c333, c334, c335, c336, c337, c338, c339, c340, u341, u342, u343, u344, u345, u346, u347, u348, u349, u350, u351, u352, u353, c354, c355, c356, c357, c358, c359, c360, c361, c362, c363, c364, c365, c366, c367, c368, c369, c370, c371, c372, c373, c374, c375, c376, c377, c378, c379, c380, c381, c382, c383, c384, c385, c386, c387, c388, c389, c390, c391, c392, c393, c394, c395, c396, c397, c398, c399, c400], []⟩ wz) :
    Code.wp Tryz.prog ((Tryz.f3.body.bind (blockAt 4)).getD .skip) Q ⟨#[c0, c1, c2, c3, c4, c5, c6, c7, c8, c9, c10, c11, c12, c13, c14, c15, c16, c17, c18, c19, c20, c21, c22, c23, c24, .slice (some ⟨gm, 0, none⟩) p mc, c26, c27, c28, c29, c30, c31, c32, c33, c34, c35, c36, c37, c38, c39, c40, c41, c42, c43, c44, .int .i64 (hi : Nat), .int .i64 0, .int .i64 0, c48, c49, c50, c51, c52, c53, c54, c55, c56, c57, c58, c59, c60, c61, c62, c63, c64, c65, c66, c67, c68, c69, c70, c71, c72, c73, c74, c75, c76, c77, c78, c79, c80, c81, c82, c83, c84, c85, c86, c87, c88, c89, c90, c91, c92, c93, c94, c95, c96, c97, c98, c99, c100, c101, c102, c103, c104, c105, c106, c107, c108, c109, c110, c111, c112, c113, c114, c115, c116, c117, c118, c119, c120, c121, c122, c123, c124, c125, c126, c127, c128, c129, c130, c131, c132, c133, c134, c135, c136, c137, c138, c139, c140, c141, c142, c143, c144, c145, c146, c147, c148, c149, c150, c151, c152, c153, c154, c155, c156, c157, c158, c159, c160, c161, c162, c163, c164, c165, c166, c167, c168, c169, c170, c171, c172, c173, c174, c175, c176, c177, c178, c179, c180, c181, c182, c183, c184, c185, c186, c187, c188, c189, c190, c191, c192, c193, c194, c195, c196, c197, c198, c199, c200, c201, c202, c203, c204, c205, c206, c207, c208, c209, c210, c211, c212, c213, c214, c215, c216, c217, c218, c219, c220, c221, c222, c223, c224, c225, c226, c227, c228, c229, c230, c231, c232, c233, c234, c235, c236, c237, c238, c239, c240, c241, c242, c243, c244, c245, c246, c247, c248, c249, c250, c251, c252, c253, c254, c255, c256, c257, c258, c259, c260, c261, c262, c263, c264, c265, c266, c267, c268, c269, c270, c271, c272, c273, c274, c275, c276, c277, c278, c279, c280, c281, c282, c283, c284, c285, c286, c287, c288, c289, c290, c291, c292, c293, c294, c295, c296, c297, c298, c299, c300, c301, c302, c303, c304, c305, c306, c307, c308, c309, c310, c311, c312, c313, c314, c315, c316, c317, c318, c319, c320, c321, c322, c323, c324, c325, c326, c327, c328, c329, c330, c331, c332, c333, c334, c335, c336, c337, c338, c339, c340, c341, c342, c343, c344, c345, c346, c347, c348, c349, c350, c351, c352, c353, c354, c355, c356, c357, c358, c359, c360, c361, c362, c363, c364, c365, c366, c367, c368, c369, c370, c371, c372, c373, c374, c375, c376, c377, c378, c379, c380, c381, c382, c383, c384, c385, c386, c387, c388, c389, c390, c391, c392, c393, c394, c395, c396, c397, c398, c399, c400], []⟩ wz := by
  conv => arg 2; whnf
  have HQ := hide hQ
  have HG := hide hg
  have HPM := hide hpm
  have HK := hide hK
  obtain ⟨gd2, dc2, gm2, mc2, e1, e2, ⟨d1, d2⟩, ⟨m1, m2⟩, hrows⟩ := hK.rows hp0 (by omega)
  cases e1
  simp only [Value.slice.injEq, Option.some.injEq, Addr.mk.injEq, and_true, true_and] at e2
  obtain ⟨rfl, hx9, rfl⟩ := e2
  clear hx9
  have HC := hide (fun i (hi : i < g.ms.length) => (hrows wz (Below.refl _ _)).2 i hi)
  unfold maxLen at m2
  clear hQ hg hpm hK hrows d1 d2
  go_wp2_with fail
  go_loopw [46, 47] (fun sz sj wx => ∃ (j z : Nat), sz = .int .i64 z ∧ sj = .int .i64 j ∧ j ≤ p ∧ z ≤ 31 ∧ Hid (0 < j → (z + 1 = M.upTo g.ms hi ∧ z < j) ∨ (j ≤ M.upTo g.ms hi ∧ z + 1 = j)) ∧ wx = wz) (fun _ sj _ => p - (intOf sj).toNat)
  case atStart => exact ⟨0, 0, rfl, rfl, Nat.zero_le _, Nat.zero_le _, hide (fun h => by omega), rfl⟩
  case round =>
    obtain ⟨j, z, rfl, rfl, hj, hz, hF, hwx⟩ := hrel
    obtain rfl := hwx.symm
    have hup := HG.out.upTo_pos hi
    have hle := M.upTo_le g.ms hi
    by_cases hjp : j < p
    · have hjm : j < g.ms.length := by have := HPM.out; omega
      have c1 := HC.out j hjm
      have j1 : (j : Int) < (p : Int) := by omega
      have j2 : (0 : Int) ≤ (j : Int) := by omega
      have hiff := HG.out.upTo_iff hi j hjm
      have hl := World.block_lt_of_cell? _ _ c1
      by_cases hm : g.ms[j] ≤ hi
      · have hju := hiff.1 hm
        have k1 : (g.ms[j] : Int) ≤ (hi : Int) := by omega
        have HN : Hid (0 < j + 1 → (j + 1 = M.upTo g.ms hi ∧ j < j + 1) ∨ (j + 1 ≤ M.upTo g.ms hi ∧ j + 1 = j + 1)) := hide (fun _ => Or.inr ⟨by omega, rfl⟩)
        clear hiff hju hm hup hle
        generalize g.ms[j] = y at *
        go_wp2_with fail
        go_roundw
        case rel => exact ⟨j + 1, j, rfl, by go_num, by omega, by omega, HN, by first | rfl | trivial⟩
        case measure => simp [intOf]; omega
      · have hju : ¬ j < M.upTo g.ms hi := fun h => hm (hiff.2 h)
        have k1 : ¬ (g.ms[j] : Int) ≤ (hi : Int) := by omega
        have HN : Hid (0 < j + 1 → (z + 1 = M.upTo g.ms hi ∧ z < j + 1) ∨ (j + 1 ≤ M.upTo g.ms hi ∧ z + 1 = j + 1)) := hide (fun _ => Or.inl (by
          rcases hF.out (by omega) with ⟨q1, q2⟩ | ⟨q1, q2⟩
          · exact ⟨q1, by omega⟩
          · exact ⟨by omega, by omega⟩))
        clear hiff hju hm hup hle
        generalize g.ms[j] = y at *
        go_wp2_with fail
        go_roundw
        case rel => exact ⟨j + 1, z, rfl, by go_num, by omega, by omega, HN, by first | rfl | trivial⟩
        case measure => simp [intOf]; omega
    · have j1 : ¬ (j : Int) < (p : Int) := by omega
      have HZ : Hid (z + 1 = M.upTo g.ms hi) := hide (by
        have := HPM.out
        rcases hF.out (by omega) with ⟨q1, q2⟩ | ⟨q1, q2⟩
        · exact q1
        · omega)
      clear hF hup hle
      go_wp2_with fail
      refine HQ.out _ _ _ _ _ _ _ _ _ _ _ _ _ _ _ HZ.out HK.out

end Go.Proofs.YtlefhfmckimlaakGreatDoor.logKeeps
