/-
  What follows a crash, as the Go function LogKeeps does it: the end of its round.
-/
import Derived.Test.YtlefhfmckimlaakGreatDoorLkCode
import Derived.BigQuiet
import Derived.Deep.QuietTactic
import Derived.Deep.CutRange
import Derived.Deep.CutBlock
import Derived.Test.YtlefhfmckimlaakGreatDoorLkBlk4
set_option linter.unusedVariables false
set_option linter.unusedSimpArgs false
namespace Go.Proofs.YtlefhfmckimlaakGreatDoor.logKeeps
open Go.RowKit
attribute [local go_sem ↓] Go.wp_at_zero Go.wp_at_succ

section
variable {w0 w w' : World} {J : Nat} {dv mv : Value} {p : Nat} {Cs : Nat → Nat} {cl : List M.Cop} {ml : List Nat} {g : M.Lg} {ra : Option Addr} {rn rc : Nat} {R : List M.Rul}
theorem Lk.at_d {gd dc : Nat} (h : Lk w0 w J (.slice (some ⟨gd, 0, none⟩) p dc) mv p Cs cl ml g ra rn rc R) {i : Nat} (hi : i < p) : w.cell? ⟨gd, i, none⟩ = some (.pointer (some ⟨Cs i, 0, none⟩)) := by
  obtain ⟨gg, cap, e, _, _, _, f⟩ := row_has h.rowD (by omega)
  simp only [Value.slice.injEq, Option.some.injEq, Addr.mk.injEq, and_true, true_and] at e
  obtain ⟨rfl, rfl⟩ := e
  exact f i _ (ptrC_at hi)
theorem Lk.at_m {gm mn mc : Nat} (h : Lk w0 w J dv (.slice (some ⟨gm, 0, none⟩) mn mc) p Cs cl ml g ra rn rc R) {i : Nat} (hi : i < ml.length) : w.cell? ⟨gm, i, none⟩ = some (.int .i64 ml[i]) := by
  obtain ⟨gg, cap, e, _, _, _, f⟩ := row_has h.rowM (by omega)
  simp only [Value.slice.injEq, Option.some.injEq, Addr.mk.injEq, and_true, true_and] at e
  obtain ⟨rfl, _, rfl⟩ := e
  exact f i _ (cellsN_at hi)
theorem Lk.caps {gd dc gm mn mc : Nat} (h : Lk w0 w J (.slice (some ⟨gd, 0, none⟩) p dc) (.slice (some ⟨gm, 0, none⟩) mn mc) p Cs cl ml g ra rn rc R) (hp : 0 < p) (hm : 0 < ml.length) : p ≤ dc ∧ dc ≤ 9223372036854775807 ∧ ml.length ≤ mc ∧ mc ≤ 9223372036854775807 := by
  obtain ⟨gg, cap, e, a1, a2, _⟩ := row_has h.rowD hp
  obtain ⟨g2, cap2, e2, b1, b2, _⟩ := row_has h.rowM hm
  simp only [Value.slice.injEq, Option.some.injEq, Addr.mk.injEq, and_true, true_and] at e e2
  obtain ⟨rfl, rfl⟩ := e
  obtain ⟨rfl, _, rfl⟩ := e2
  exact ⟨a1, a2, b1, b2⟩
end

set_option maxHeartbeats 4000000 in
set_option maxRecDepth 1000000 in
theorem tl1 {Q : Exit → Act → World → Prop} {w wz : World} {J p : Nat} {gd dc gm mc : Nat} {Cs : Nat → Nat} {g : M.Lg} {ra : Option Addr} {rn rc : Nat} {R : List M.Rul} {keep : Int} {B S : Nat}
    (c0 c1 c2 c3 c4 c5 c6 c7 c8 c9 c10 c11 c12 c13 c14 c15 c16 c17 c18 c19 c20 c22 c23 c26 c27 c28 c29 c30 c31 c32 c33 c34 c35 c36 c37 c38 c39 c40 c41 c45 c46 c47 c48 c49 c50 c51 c52 c53 c54 c55 c56 c57 c58 c59 c60 c61 c62 c63 c64 c65 c66 c67 c68 c69 c70 c71 c72 c73 c74 c75 c76 c77 c78 c79 c80 c81 c82 c83 c84 c85 c86 c87 c88 c89 c90 c91 c92 c93 c94 c95 c96 c97 c98 c99 c100 c101 c102 c103 c104 c105 c106 c107 c108 c109 c110 c111 c112 c113 c114 c115 c116 c117 c118 c119 c120 c121 c122 c123 c124 c125 c126 c127 c128 c129 c130 c131 c132 c133 c134 c135 c136 c137 c138 c139 c140 c141 c142 c143 c144 c145 c146 c147 c148 c149 c150 c151 c152 c153 c154 c155 c156 c157 c158 c159 c160 c161 c162 c163 c164 c165 c166 c167 c168 c169 c170 c171 c172 c173 c174 c175 c176 c177 c178 c179 c180 c181 c182 c183 c184 c185 c186 c187 c188 c189 c190 c191 c192 c193 c194 c195 c196 c197 c198 c199 c200 c201 c202 c203 c204 c205 c206 c207 c208 c209 c210 c211 c212 c213 c214 c215 c216 c217 c218 c219 c220 c221 c222 c223 c224 c225 c226 c227 c228 c229 c230 c231 c232 c233 c234 c235 c236 c237 c238 c239 c240 c241 c242 c243 c244 c245 c246 c247 c248 c249 c250 c251 c252 c253 c254 c255 c256 c257 c258 c259 c260 c261 c262 c263 c264 c265 c266 c267 c268 c269 c270 c271 c272 c273 c274 c275 c276 c277 c278 c279 c280 c281 c282 c283 c284 c285 c286 c287 c288 c289 c290 c291 c292 c293 c294 c295 c296 c297 c298 c299 c300 c301 c302 c303 c304 c305 c306 c307 c308 c309 c310 c311 c312 c313 c314 c315 c316 c317 c318 c319 c320 c321 c322 c323 c324 c325 c326 c327 c328 c329 c330 c331 c332 c333 c334 c335 c336 c337 c338 c339 c340 c341 c342 c343 c344 c345 c346 c347 c348 c349 c350 c351 c352 c353 c354 c355 c356 c357 c358 c359 c360 c361 c362 c363 c364 c365 c366 c367 c368 c369 c370 c371 c372 c373 c374 c375 c376 c377 c378 c379 c380 c381 c382 c383 c384 c385 c386 c387 c388 c389 c390 c391 c392 c393 c394 c395 c396 c397 c398 c399 c400 : Value) {x y : Code} {KK : Act → World → Prop} (hC : (((Tryz.f3.body.bind (blockAt 1)).bind (tailAt 60)).getD .skip) = .seq x y) (hKK : ∀ a w, y.wp Tryz.prog Q a w → KK a w) (hbl : B ≤ 32000000) (hsl : S ≤ B) (hB : B = g.bytes) (hS : S = g.safe) (hpc : p = g.cs.length) (hok : g.Ok R) (hT : Tab w) (hK : Lk w wz J (.slice (some ⟨gd, 0, none⟩) p dc) (.slice (some ⟨gm, 0, none⟩) p mc) p Cs g.cs g.ms (M.lgCrash g keep) ra rn rc R)
    (hQ : ∀ (u45 u46 u47 u48 u49 u50 u51 u325 u326 u327 u328 u329 u330 u331 u332 u333 u334 u335 u336 u337 u338 u339 u340 u341 u342 u343 u344 u345 u346 u347 u348 u349 u350 u351 u352 u353 u354 u355 u356 u357 u358 u359 u360 u361 u362 u363 u364 u365 u366 u367 u368 u369 u370 u371 u372 u373 u374 u375 u376 u377 u378 u379 u380 u381 u382 u383 u384 u385 u386 u387 u388 u389 u390 u391 u392 u393 u394 u395 u396 u397 u398 u399 u400 : Value) (w' : World) (p' : Nat), p' = (M.lgCrash g keep).cs.length → Lk w w' J (.slice (some ⟨gd, 0, none⟩) p' dc) (.slice (some ⟨gm, 0, none⟩) p' mc) p' Cs (M.lgCrash g keep).cs (M.lgCrash g keep).ms (M.lgCrash g keep) ra rn rc R → Q .normal ⟨#[c0, c1, c2, c3, c4, c5, c6, c7, c8, c9, c10, c11, c12, c13, c14, c15, c16, c17, c18, c19, c20, .pointer (some ⟨J, 0, none⟩), c22, c23, .slice (some ⟨gd, 0, none⟩) p' dc, .slice (some ⟨gm, 0, none⟩) p' mc, c26, c27, c28, c29, c30, c31, c32, c33, c34, c35, c36, c37, c38, c39, c40, c41, .int .i64 keep, .int .i64 (B : Nat), .int .i64 (S : Nat), u45, u46, u47, u48, u49, u50, u51, c52, c53, c54, c55, c56, c57, c58, c59, c60, c61, c62, c63, c64, c65, c66, c67, c68, c69, c70, c71, c72, c73, c74, c75, c76, c77, c78, c79, c80, c81, c82, c83, c84, c85, c86, c87, c88, c89, c90, c91, c92, c93, c94, c95, c96, c97, c98, c99, c100, c101, c102, c103, c104, c105, c106, c107, c108, c109, c110, c111, c112, c113, c114, c115, c116, c117, c118, c119, c120, c121, c122, c123, c124, c125, c126, c127, c128, c129, c130, c131, c132, c133, c134, c135, c136, c137, c138, c139, c140, c141, c142, c143, c144, c145, c146, c147, c148, c149, c150, c151, c152, c153, c154, c155, c156, c157, c158, c159, c160, c161, c162, c163, c164, c165, c166, c167, c168, c169, c170, c171, c172, c173, c174, c175, c176, c177, c178, c179, c180, c181, c182, c183, c184, c185, c186, c187, c188, c189, c190, c191, c192, c193, c194, c195, c196, c197, c198, c199, c200, c201, c202, c203, c204, c205, c206, c207, c208, c209, c210, c211, c212, c213, c214, c215, c216, c217, c218, c219, c220, c221, c222, c223, c224, c225, c226, c227, c228, c229, c230, c231, c232, c233, c234, c235, c236, c237, c238, c239, c240, c241, c242, c243, c244, c245, c246, c247, c248, c249, c250, c251, c252, c253, c254, c255, c256, c257, c258, c259, c260, c261, c262, c263, c264, c265, c266, c267, c268, c269, c270, c271, c272, c273, c274, c275, c276, c277, c278, c279, c280, c281, c282, c283, c284, c285, c286, c287, c288, c289, c290, c291, c292, c293, c294, c295, c296, c297, c298, c299, c300, c301, c302, c303, c304, c305, c306, c307, c308, c309, c310, c311, c312, c313, c314, c315, c316, c317, c318, c319, c320, c321, c322, c323, c324, u325, u326, u327, u328, u329, u330, u331, u332, u333, u334, u335, u336, u337, u338, u339, u340, u341, u342, u343, u344, u345, u346, u347, u348, u349, u350, u351, u352, u353, u354, u355, u356, u357, u358, u359, u360, u361, u362, u363, u364, u365, u366, u367, u368, u369, u370, u371, u372, u373, u374, u375, u376, u377, u378, u379, u380, u381, u382, u383, u384, u385, u386, u387, u388, u389, u390, u391, u392, u393, u394, u395, u396, u397, u398, u399, u400], []⟩ w') :
    x.wp Tryz.prog (Exit.then KK Q) ⟨#[c0, c1, c2, c3, c4, c5, c6, c7, c8, c9, c10, c11, c12, c13, c14, c15, c16, c17, c18, c19, c20, .pointer (some ⟨J, 0, none⟩), c22, c23, .slice (some ⟨gd, 0, none⟩) p dc, .slice (some ⟨gm, 0, none⟩) p mc, c26, c27, c28, c29, c30, c31, c32, c33, c34, c35, c36, c37, c38, c39, c40, c41, .int .i64 keep, .int .i64 (B : Nat), .int .i64 (S : Nat), c45, c46, c47, c48, c49, c50, c51, c52, c53, c54, c55, c56, c57, c58, c59, c60, c61, c62, c63, c64, c65, c66, c67, c68, c69, c70, c71, c72, c73, c74, c75, c76, c77, c78, c79, c80, c81, c82, c83, c84, c85, c86, c87, c88, c89, c90, c91, c92, c93, c94, c95, c96, c97, c98, c99, c100, c101, c102, c103, c104, c105, c106, c107, c108, c109, c110, c111, c112, c113, c114, c115, c116, c117, c118, c119, c120, c121, c122, c123, c124, c125, c126, c127, c128, c129, c130, c131, c132, c133, c134, c135, c136, c137, c138, c139, c140, c141, c142, c143, c144, c145, c146, c147, c148, c149, c150, c151, c152, c153, c154, c155, c156, c157, c158, c159, c160, c161, c162, c163, c164, c165, c166, c167, c168, c169, c170, c171, c172, c173, c174, c175, c176, c177, c178, c179, c180, c181, c182, c183, c184, c185, c186, c187, c188, c189, c190, c191, c192, c193, c194, c195, c196, c197, c198, c199, c200, c201, c202, c203, c204, c205, c206, c207, c208, c209, c210, c211, c212, c213, c214, c215, c216, c217, c218, c219, c220, c221, c222, c223, c224, c225, c226, c227, c228, c229, c230, c231, c232, c233, c234, c235, c236, c237, c238, c239, c240, c241, c242, c243, c244, c245, c246, c247, c248, c249, c250, c251, c252, c253, c254, c255, c256, c257, c258, c259, c260, c261, c262, c263, c264, c265, c266, c267, c268, c269, c270, c271, c272, c273, c274, c275, c276, c277, c278, c279, c280, c281, c282, c283, c284, c285, c286, c287, c288, c289, c290, c291, c292, c293, c294, c295, c296, c297, c298, c299, c300, c301, c302, c303, c304, c305, c306, c307, c308, c309, c310, c311, c312, c313, c314, c315, c316, c317, c318, c319, c320, c321, c322, c323, c324, c325, c326, c327, c328, c329, c330, c331, c332, c333, c334, c335, c336, c337, c338, c339, c340, c341, c342, c343, c344, c345, c346, c347, c348, c349, c350, c351, c352, c353, c354, c355, c356, c357, c358, c359, c360, c361, c362, c363, c364, c365, c366, c367, c368, c369, c370, c371, c372, c373, c374, c375, c376, c377, c378, c379, c380, c381, c382, c383, c384, c385, c386, c387, c388, c389, c390, c391, c392, c393, c394, c395, c396, c397, c398, c399, c400], []⟩ wz := by
  conv at hC => lhs; whnf
  cases hC
  have HQ := hide hQ
  have HT := hide hT
  have HPC := hide hpc
  have HOK := hide hok
  have HBE := hide hB
  have HSE := hide hS
  have hp0 : 0 < p := by have := hok.len; have := hok.pos; omega
  have hp31 : p ≤ 31 := by have := hok.len; have := hok.few; omega
  have HPM : Hid (p = g.ms.length) := hide (by have := hok.len; omega)
  have HK := hide hK
  obtain ⟨g3, hg3⟩ : ∃ g3, g3 = M.lgCrash g keep := ⟨_, rfl⟩
  rw [← hg3] at HK HQ
  have HG3 := hide hg3
  obtain ⟨hi, hhi⟩ : ∃ hi, hi = M.lgHigh g keep := ⟨_, rfl⟩
  have HHE := hide hhi
  have HHI : Hid (hi = S + min keep.toNat (B - S)) := hide (by rw [hhi, hS, hB]; rfl)
  clear hQ hT hpc hok hB hS hK hg3 hhi
  go_upto_region 61 with fail
  go_cut [334] from 325 to 400 (fun s wx => ∃ bd : Bool, s = .bool bd ∧ Hid (bd = true ↔ 0 < keep ∧ keep < (B : Int) - (S : Int)) ∧ wx = wz)
  case first =>
    by_cases s1 : 0 < keep
    · by_cases s2 : keep < (B : Int) - (S : Int)
      · go_wp2_with fail
        go_meet
        case rel => exact ⟨true, rfl, hide ⟨fun _ => ⟨s1, s2⟩, fun _ => rfl⟩, rfl⟩
      · go_wp2_with fail
        go_meet
        case rel => exact ⟨false, rfl, hide ⟨fun h => (by cases h), fun h => absurd h.2 (by omega)⟩, rfl⟩
    · go_wp2_with fail
      go_meet
      case rel => exact ⟨false, rfl, hide ⟨fun h => (by cases h), fun h => absurd h.1 (by omega)⟩, rfl⟩
  case rest =>
    obtain ⟨bd, rfl, HBD, hwx⟩ := hcut
    obtain rfl := hwx.symm
    go_upto_if 334 with fail
    go_cut [45] from 325 to 400 (fun s wx => s = .int .i64 (hi : Nat) ∧ wx = wz)
    case first =>
      cases bd
      · have hb : ¬ (0 < keep ∧ keep < (B : Int) - (S : Int)) := fun h => by have := HBD.out.2 h; cases this
        by_cases s1 : 0 < keep
        · go_wp2_with fail
          go_meet
          case rel => exact ⟨congrArg (Value.int .i64) (by have := HHI.out; omega), rfl⟩
        · go_wp2_with fail
          go_meet
          case rel => exact ⟨congrArg (Value.int .i64) (by have := HHI.out; omega), rfl⟩
      · obtain ⟨s1, s2⟩ := HBD.out.1 rfl
        go_wp2_with fail
        go_meet
        case rel => exact ⟨congrArg (Value.int .i64) (by have := HHI.out; omega), rfl⟩
    case rest =>
      obtain ⟨rfl, hwx⟩ := hcut
      obtain rfl := hwx.symm
      clear HBD HHI
      go_upto_block 4 with fail
      refine blk4 _ _ _ _ _ _ _ _ _ _ _ _ _ _ _ _ _ _ _ _ _ _ _ _ _ _ _ _ _ _ _ _ _ _ _ _ _ _ _ _ _ _ _ _ _ _ _ _ _ _ _ _ _ _ _ _ _ _ _ _ _ _ _ _ _ _ _ _ _ _ _ _ _ _ _ _ _ _ _ _ _ _ _ _ _ _ _ _ _ _ _ _ _ _ _ _ _ _ _ _ _ _ _ _ _ _ _ _ _ _ _ _ _ _ _ _ _ _ _ _ _ _ _ _ _ _ _ _ _ _ _ _ _ _ _ _ _ _ _ _ _ _ _ _ _ _ _ _ _ _ _ _ _ _ _ _ _ _ _ _ _ _ _ _ _ _ _ _ _ _ _ _ _ _ _ _ _ _ _ _ _ _ _ _ _ _ _ _ _ _ _ _ _ _ _ _ _ _ _ _ _ _ _ _ _ _ _ _ _ _ _ _ _ _ _ _ _ _ _ _ _ _ _ _ _ _ _ _ _ _ _ _ _ _ _ _ _ _ _ _ _ _ _ _ _ _ _ _ _ _ _ _ _ _ _ _ _ _ _ _ _ _ _ _ _ _ _ _ _ _ _ _ _ _ _ _ _ _ _ _ _ _ _ _ _ _ _ _ _ _ _ _ _ _ _ _ _ _ _ _ _ _ _ _ _ _ _ _ _ _ _ _ _ _ _ _ _ _ _ _ _ _ _ _ _ _ _ _ _ _ _ _ _ _ _ _ _ _ _ _ _ _ _ _ _ _ _ _ _ _ _ _ _ _ _ _ _ _ _ _ _ _ _ _ _ _ _ _ _ _ _ _ _ _ _ _ _ _ _ _ _ _ _ _ _ _ _ _ _ _ _ _ _ _ _ _ _ hp0 hp31 HOK.out HPM.out HK.out ?_
      intro y100 y101 y102 y103 y104 y105 y106 y107 y108 y109 y110 y111 y112 y113 z hz hK6
      obtain ⟨e1, e2, h1, h2, ec, eb, es⟩ := crashed HOK.out keep (q := z) (by rw [← HHE.out]; exact hz)
      rw [← HG3.out] at e1 e2 ec eb es
      have hzp : z < p := by have := HPM.out; omega
      have hK7 := hK6.cut (q := z + 1) HPM.out.symm (by omega) (by omega)
      rw [← e1, ← e2] at hK7
      have hl3 : g3.cs.length = z + 1 := by rw [e1, List.length_take]; omega
      have hm3 : g3.ms.length = z + 1 := by rw [e2, List.length_take]; have := HPM.out; omega
      have hz3 : z < g3.cs.length := by omega
      have hm4 : z < g3.ms.length := by omega
      have hcz : g3.cs[z] = g3.cop := by
        rw [hK7.ok.cop_at]
        congr 1
        omega
      have hmb : g3.ms[z] = g3.bytes := by
        rw [eb]
        simp only [e2, List.getElem_take]
      have hms : g3.ms[z] = g3.safe := by
        rw [es]
        simp only [e2, List.getElem_take]
      obtain ⟨y1, hy1⟩ : ∃ y1 : Nat, y1 = g3.cop.n := ⟨_, rfl⟩
      obtain ⟨y2, hy2⟩ : ∃ y2, y2 = M.mark g3.cop.l := ⟨_, rfl⟩
      obtain ⟨y3, hy3⟩ : ∃ y3 : Nat, y3 = g3.ms[z] := ⟨_, rfl⟩
      obtain ⟨CZ, hCZ⟩ : ∃ CZ, CZ = Cs z := ⟨_, rfl⟩
      have HLL := hide hl3
      have HJM := hide (hK7.jmark HT.out)
      rw [← hy1, ← hy2] at HJM
      have HAD : Hid (∀ wx, Lk w wx J (.slice (some ⟨gd, 0, none⟩) (z + 1) dc) (.slice (some ⟨gm, 0, none⟩) (z + 1) mc) (z + 1) Cs g3.cs g3.ms g3 ra rn rc R → wx.cell? ⟨gd, z, none⟩ = some (.pointer (some ⟨CZ, 0, none⟩)) ∧ wx.cell? ⟨gm, z, none⟩ = some (.int .i64 y3)) := hide fun wx h => ⟨by rw [hCZ]; exact h.at_d (by omega), by rw [hy3]; exact h.at_m hm4⟩
      have HRM : Hid (∀ wx, Lk w wx J (.slice (some ⟨gd, 0, none⟩) (z + 1) dc) (.slice (some ⟨gm, 0, none⟩) (z + 1) mc) (z + 1) Cs g3.cs g3.ms g3 ra rn rc R → Calls Tryz.prog 21 #[.pointer (some ⟨CZ, 0, none⟩)] wx fun e w' => e = .returned (.tuple #[.int .i64 y1, .int .i64 y2]) ∧ Lk w w' J (.slice (some ⟨gd, 0, none⟩) (z + 1) dc) (.slice (some ⟨gm, 0, none⟩) (z + 1) mc) (z + 1) Cs g3.cs g3.ms g3 ra rn rc R) := hide fun wx h => by
        have := h.rmark hz3
        rw [hcz, ← hy1, ← hy2, ← hCZ] at this
        exact this
      have HBB : Hid (∀ wx, Lk w wx J (.slice (some ⟨gd, 0, none⟩) (z + 1) dc) (.slice (some ⟨gm, 0, none⟩) (z + 1) mc) (z + 1) Cs g3.cs g3.ms g3 ra rn rc R → Calls Tryz.prog 13 #[.pointer (some ⟨J, 0, none⟩)] wx fun e w' => e = .returned (.int .i64 y3) ∧ Lk w w' J (.slice (some ⟨gd, 0, none⟩) (z + 1) dc) (.slice (some ⟨gm, 0, none⟩) (z + 1) mc) (z + 1) Cs g3.cs g3.ms g3 ra rn rc R) := hide fun wx h => by
        have := h.bytes
        rw [← hmb, ← hy3] at this
        exact this
      have HSS : Hid (∀ wx, Lk w wx J (.slice (some ⟨gd, 0, none⟩) (z + 1) dc) (.slice (some ⟨gm, 0, none⟩) (z + 1) mc) (z + 1) Cs g3.cs g3.ms g3 ra rn rc R → Calls Tryz.prog 14 #[.pointer (some ⟨J, 0, none⟩)] wx fun e w' => e = .returned (.int .i64 y3) ∧ Lk w w' J (.slice (some ⟨gd, 0, none⟩) (z + 1) dc) (.slice (some ⟨gm, 0, none⟩) (z + 1) mc) (z + 1) Cs g3.cs g3.ms g3 ra rn rc R) := hide fun wx h => by
        have := h.safe
        rw [← hms, ← hy3] at this
        exact this
      obtain ⟨d1, d2, m1, m2⟩ := hK7.caps (by omega) (by omega)
      rw [hm3] at m1
      clear hz hK6 e1 e2 h1 h2 ec eb es hK7 hl3 hm3 hz3 hm4 hcz hmb hms hy1 hy2 hy3 hCZ HK HG3 HHE HBE HSE HOK HPM HPC hbl hsl
      go_wp2_with fail
      refine (unhide HJM).mono ?_
      rintro e w6 ⟨rfl, hK7⟩
      dsimp only
      obtain ⟨n1, _⟩ := HAD.out _ hK7
      have nl := World.block_lt_of_cell? _ _ n1
      have HR7 := hide (HRM.out _ hK7)
      clear hK7 HJM HRM
      go_wp2_with fail
      refine (unhide HR7).mono ?_
      rintro e w7 ⟨rfl, hK8⟩
      dsimp only
      have hK8d := hK8.quiet ((Below.refl _ _).drew)
      have HBC := hide (HBB.out _ hK8d)
      obtain ⟨_, n2⟩ := HAD.out _ hK8
      have nl2 := World.block_lt_of_cell? _ _ n2
      clear hK8 hK8d HR7 n1 nl
      have yy : ((y3 : Int) == (y3 : Int)) = true := by simp
      have zi0 : (0 : Int) ≤ (z : Int) := by omega
      have zi1 : (z : Int) < (z : Int) + 1 := by omega
      have zi2 : (z : Int) < ((z + 1 : Nat) : Int) := by omega
      go_upto_region 75 with fail
      go_region_held3 (fun w' => w'.cell? ⟨gm, z, none⟩ = some (.int .i64 y3)) (first | go_keep | assumption)
        (first
          | (go_at_call 13; refine (unhide HBC).mono ?_; rintro e w8 ⟨rfl, hK9⟩; have HK9 := hide hK9; have HSC := hide (HSS.out _ hK9); have n3 : w8.cell? ⟨gm, z, none⟩ = some (.int .i64 y3) := (HAD.out _ hK9).2; have nl3 := World.block_lt_of_cell? _ _ n3; clear hK9)
          | (go_at_call 14; refine (unhide HSC).mono ?_; rintro e w9 ⟨rfl, hK10⟩; have HK10 := hide hK10; have n4 : w9.cell? ⟨gm, z, none⟩ = some (.int .i64 y3) := (HAD.out _ hK10).2; have nl4 := World.block_lt_of_cell? _ _ n4; clear hK10))
      go_wp2_with fail
      exact HQ.out _ _ _ _ _ _ _ _ _ _ _ _ _ _ _ _ _ _ _ _ _ _ _ _ _ _ _ _ _ _ _ _ _ _ _ _ _ _ _ _ _ _ _ _ _ _ _ _ _ _ _ _ _ _ _ _ _ _ _ _ _ _ _ _ _ _ _ _ _ _ _ _ _ _ _ _ _ _ _ _ _ _ _ _ _ HLL.out.symm HK10.out

end Go.Proofs.YtlefhfmckimlaakGreatDoor.logKeeps
