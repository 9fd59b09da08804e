/-
  What follows a crash, as the Go function LogKeeps does it: the end of its round.
  A round of the Go function LogKeeps: those that are asked, a crash, and what is left.
  For the Go function LogKeeps: how its own first log goes; and what stands side by side ahead of its rounds.
-/
import Derived.Test.YtlefhfmckimlaakGreatDoorJ45A
import Derived.BigQuiet
import Derived.Deep.QuietTactic
import Derived.Deep.CutRange
import Derived.Deep.CutBlock
import Derived.Test.YtlefhfmckimlaakGreatDoorJ46A
set_option linter.unusedVariables false
set_option linter.unusedSimpArgs false
namespace Go.Proofs.YtlefhfmckimlaakGreatDoor.logKeeps
open Go.RowKit
attribute [local go_sem ↓] Go.wp_at_zero Go.wp_at_succ

section
variable {w0 w w' : World} {J : Nat} {dv mv : Value} {p : Nat} {Cs : Nat → Nat} {cl : List M.Cop} {ml : List Nat} {g : M.Lg} {ra : Option Addr} {rn rc : Nat} {R : List M.Rul}
theorem Lk.at_d {gd dc : Nat} (h : Lk w0 w J (.slice (some ⟨gd, 0, none⟩) p dc) mv p Cs cl ml g ra rn rc R) {i : Nat} (hi : i < p) : w.cell? ⟨gd, i, none⟩ = some (.pointer (some ⟨Cs i, 0, none⟩)) := by
  obtain ⟨gg, cap, e, _, _, _, f⟩ := row_has h.rowD (by omega)
  simp only [Value.slice.injEq, Option.some.injEq, Addr.mk.injEq, and_true, true_and] at e
  obtain ⟨rfl, rfl⟩ := e
  exact f i _ (ptrC_at hi)
theorem Lk.at_m {gm mn mc : Nat} (h : Lk w0 w J dv (.slice (some ⟨gm, 0, none⟩) mn mc) p Cs cl ml g ra rn rc R) {i : Nat} (hi : i < ml.length) : w.cell? ⟨gm, i, none⟩ = some (.int .i64 ml[i]) := by
  obtain ⟨gg, cap, e, _, _, _, f⟩ := row_has h.rowM (by omega)
  simp only [Value.slice.injEq, Option.some.injEq, Addr.mk.injEq, and_true, true_and] at e
  obtain ⟨rfl, _, rfl⟩ := e
  exact f i _ (cellsN_at hi)
theorem Lk.caps {gd dc gm mn mc : Nat} (h : Lk w0 w J (.slice (some ⟨gd, 0, none⟩) p dc) (.slice (some ⟨gm, 0, none⟩) mn mc) p Cs cl ml g ra rn rc R) (hp : 0 < p) (hm : 0 < ml.length) : p ≤ dc ∧ dc ≤ 9223372036854775807 ∧ ml.length ≤ mc ∧ mc ≤ 9223372036854775807 := by
  obtain ⟨gg, cap, e, a1, a2, _⟩ := row_has h.rowD hp
  obtain ⟨g2, cap2, e2, b1, b2, _⟩ := row_has h.rowM hm
  simp only [Value.slice.injEq, Option.some.injEq, Addr.mk.injEq, and_true, true_and] at e e2
  obtain ⟨rfl, rfl⟩ := e
  obtain ⟨rfl, _, rfl⟩ := e2
  exact ⟨a1, a2, b1, b2⟩
end

set_option maxHeartbeats 4000000 in
set_option maxRecDepth 1000000 in
theorem tl1 {Q : Exit → Act → World → Prop} {w wz : World} {J p : Nat} {gd dc gm mc : Nat} {Cs : Nat → Nat} {g : M.Lg} {ra : Option Addr} {rn rc : Nat} {R : List M.Rul} {keep : Int} {B S : Nat}
    (c0 c1 c2 c3 c4 c5 c6 c7 c8 c9 c10 c11 c12 c13 c14 c15 c16 c17 c18 c19 c20 c22 c23 c26 c27 c28 c29 c30 c31 c32 c33 c34 c35 c36 c37 c38 c39 c40 c41 c45 c46 c47 c48 c49 c50 c51 c52 c53 c54 c55 c56 c57 c58 c59 c60 c61 c62 c63 c64 c65 c66 c67 c68 c69 c70 c71 c72 c73 c74 c75 c76 c77 c78 c79 c80 c81 c82 c83 c84 c85 c86 c87 c88 c89 c90 c91 c92 c93 c94 c95 c96 c97 c98 c99 c100 c101 c102 c103 c104 c105 c106 c107 c108 c109 c110 c111 c112 c113 c114 c115 c116 c117 c118 c119 c120 c121 c122 c123 c124 c125 c126 c127 c128 c129 c130 c131 c132 c133 c134 c135 c136 c137 c138 c139 c140 c141 c142 c143 c144 c145 c146 c147 c148 c149 c150 c151 c152 c153 c154 c155 c156 c157 c158 c159 c160 c161 c162 c163 c164 c165 c166 c167 c168 c169 c170 c171 c172 c173 c174 c175 c176 c177 c178 c179 c180 c181 c182 c183 c184 c185 c186 c187 c188 c189 c190 c191 c192 c193 c194 c195 c196 c197 c198 c199 c200 c201 c202 c203 c204 c205 c206 c207 c208 c209 c210 c211 c212 c213 c214 c215 c216 c217 c218 c219 c220 c221 c222 c223 c224 c225 c226 c227 c228 c229 c230 c231 c232 c233 c234 c235 c236 c237 c238 c239 c240 c241 c242 c243 c244 c245 c246 c247 c248 c249 c250 c251 c252 c253 c254 c255 c256 c257 c258 c259 c260 c261 c262 c263 c264 c265 c266 c267 c268 c269 c270 c271 c272 c273 c274 c275 c276 c277 c278 c279 c280 c281 c282 c283 c284 c285 c286 c287 c288 c289 c290 c291 c292 c293 c294 c295 c296 c297 c298 c299 c300 c301 c302 c303 c304 c305 c306 c307 c308 c309 c310 c311 c312 c313 c314 c315 c316 c317 c318 c319 c320 c321 c322 c323 c324 c325 c326 c327 c328 c329 c330 c331 c332 c333 c334 c335 c336 c337 c338 c339 c340 c341 c342 c343 c344 c345 c346 c347 c348 c349 c350 c351 c352 c353 c354 c355 c356 c357 c358 c359 c360 c361 c362 c363 c364 c365 c366 c367 c368 c369 c370 c371 c372 c373 c374 c375 c376 c377 c378 c379 c380 c381 c382 c383 c384 c385 c386 c387 c388 c389 c390 c391 c392 c393 c394 c395 c396 c397 c398 c399 c400 : Value) {x y : Code} {KK : Act → World → Prop} (hC : (((Tryz.f3.body.bind (blockAt 1)).bind (tailAt 60)).getD .skip) = .seq x y) (hKK : ∀ a w, y.wp Tryz.prog Q a w → KK a w) (hbl : B ≤ 32000000) (hsl : S ≤ B) (hB : B = g.bytes) (hS : S = g.safe) (hpc : p = g.cs.length) (hok : g.Ok R) (hT : Tab w) (hK : Lk w wz J (.slice (some ⟨gd, 0, none⟩) p dc) (.slice (some ⟨gm, 0, none⟩) p mc) p Cs g.cs g.ms (M.lgCrash g keep) ra rn rc R)
    (hQ : ∀ (u45 u46 u47 u48 u49 u50 u51 u325 u326 u327 u328 u329 u330 u331 u332 u333 u334 u335 u336 u337 u338 u339 u340 u341 u342 u343 u344 u345 u346 u347 u348 u349 u350 u351 u352 u353 u354 u355 u356 u357 u358 u359 u360 u361 u362 u363 u364 u365 u366 u367 u368 u369 u370 u371 u372 u373 u374 u375 u376 u377 u378 u379 u380 u381 u382 u383 u384 u385 u386 u387 u388 u389 u390 u391 u392 u393 u394 u395 u396 u397 u398 u399 u400 : Value) (w' : World) (p' : Nat), p' = (M.lgCrash g keep).cs.length → Lk w w' J (.slice (some ⟨gd, 0, none⟩) p' dc) (.slice (some ⟨gm, 0, none⟩) p' mc) p' Cs (M.lgCrash g keep).cs (M.lgCrash g keep).ms (M.lgCrash g keep) ra rn rc R → Q .normal ⟨#[c0, c1, c2, c3, c4, c5, c6, c7, c8, c9, c10, c11, c12, c13, c14, c15, c16, c17, c18, c19, c20, .pointer (some ⟨J, 0, none⟩), c22, c23, .slice (some ⟨gd, 0, none⟩) p' dc, .slice (some ⟨gm, 0, none⟩) p' mc, c26, c27, c28, c29, c30, c31, c32, c33, c34, c35, c36, c37, c38, c39, c40, c41, .int .i64 keep, .int .i64 (B : Nat), .int .i64 (S : Nat), u45, u46, u47, u48, u49, u50, u51, c52, c53, c54, c55, c56, c57, c58, c59, c60, c61, c62, c63, c64, c65, c66, c67, c68, c69, c70, c71, c72, c73, c74, c75, c76, c77, c78, c79, c80, c81, c82, c83, c84, c85, c86, c87, c88, c89, c90, c91, c92, c93, c94, c95, c96, c97, c98, c99, c100, c101, c102, c103, c104, c105, c106, c107, c108, c109, c110, c111, c112, c113, c114, c115, c116, c117, c118, c119, c120, c121, c122, c123, c124, c125, c126, c127, c128, c129, c130, c131, c132, c133, c134, c135, c136, c137, c138, c139, c140, c141, c142, c143, c144, c145, c146, c147, c148, c149, c150, c151, c152, c153, c154, c155, c156, c157, c158, c159, c160, c161, c162, c163, c164, c165, c166, c167, c168, c169, c170, c171, c172, c173, c174, c175, c176, c177, c178, c179, c180, c181, c182, c183, c184, c185, c186, c187, c188, c189, c190, c191, c192, c193, c194, c195, c196, c197, c198, c199, c200, c201, c202, c203, c204, c205, c206, c207, c208, c209, c210, c211, c212, c213, c214, c215, c216, c217, c218, c219, c220, c221, c222, c223, c224, c225, c226, c227, c228, c229, c230, c231, c232, c233, c234, c235, c236, c237, c238, c239, c240, c241, c242, c243, c244, c245, c246, c247, c248, c249, c250, c251, c252, c253, c254, c255, c256, c257, c258, c259, c260, c261, c262, c263, c264, c265, c266, c267, c268, c269, c270, c271, c272, c273, c274, c275, c276, c277, c278, c279, c280, c281, c282, c283, c284, c285, c286, c287, c288, c289, c290, c291, c292, c293, c294, c295, c296, c297, c298, c299, c300, c301, c302, c303, c304, c305, c306, c307, c308, c309, c310, c311, c312, c313, c314, c315, c316, c317, c318, c319, c320, c321, c322, c323, c324, u325, u326, u327, u328, u329, u330, u331, u332, u333, u334, u335, u336, u337, u338, u339, u340, u341, u342, u343, u344, u345, u346, u347, u348, u349, u350, u351, u352, u353, u354, u355, u356, u357, u358, u359, u360, u361, u362, u363, u364, u365, u366, u367, u368, u369, u370, u371, u372, u373, u374, u375, u376, u377, u378, u379, u380, u381, u382, u383, u384, u385, u386, u387, u388, u389, u390, u391, u392, u393, u394, u395, u396, u397, u398, u399, u400], []⟩ w') :
    x.wp Tryz.prog (Exit.then KK Q) ⟨#[c0, c1, c2, c3, c4, c5, c6, c7, c8, c9, c10, c11, c12, c13, c14, c15, c16, c17, c18, c19, c20, .pointer (some ⟨J, 0, none⟩), c22, c23, .slice (some ⟨gd, 0, none⟩) p dc, .slice (some ⟨gm, 0, none⟩) p mc, c26, c27, c28, c29, c30, c31, c32, c33, c34, c35, c36, c37, c38, c39, c40, c41, .int .i64 keep, .int .i64 (B : Nat), .int .i64 (S : Nat), c45, c46, c47, c48, c49, c50, c51, c52, c53, c54, c55, c56, c57, c58, c59, c60, c61, c62, c63, c64, c65, c66, c67, c68, c69, c70, c71, c72, c73, c74, c75, c76, c77, c78, c79, c80, c81, c82, c83, c84, c85, c86, c87, c88, c89, c90, c91, c92, c93, c94, c95, c96, c97, c98, c99, c100, c101, c102, c103, c104, c105, c106, c107, c108, c109, c110, c111, c112, c113, c114, c115, c116, c117, c118, c119, c120, c121, c122, c123, c124, c125, c126, c127, c128, c129, c130, c131, c132, c133, c134, c135, c136, c137, c138, c139, c140, c141, c142, c143, c144, c145, c146, c147, c148, c149, c150, c151, c152, c153, c154, c155, c156, c157, c158, c159, c160, c161, c162, c163, c164, c165, c166, c167, c168, c169, c170, c171, c172, c173, c174, c175, c176, c177, c178, c179, c180, c181, c182, c183, c184, c185, c186, c187, c188, c189, c190, c191, c192, c193, c194, c195, c196, c197, c198, c199, c200, c201, c202, c203, c204, c205, c206, c207, c208, c209, c210, c211, c212, c213, c214, c215, c216, c217, c218, c219, c220, c221, c222, c223, c224, c225, c226, c227, c228, c229, c230, c231, c232, c233, c234, c235, c236, c237, c238, c239, c240, c241, c242, c243, c244, c245, c246, c247, c248, c249, c250, c251, c252, c253, c254, c255, c256, c257, c258, c259, c260, c261, c262, c263, c264, c265, c266, c267, c268, c269, c270, c271, c272, c273, c274, c275, c276, c277, c278, c279, c280, c281, c282, c283, c284, c285, c286, c287, c288, c289, c290, c291, c292, c293, c294, c295, c296, c297, c298, c299, c300, c301, c302, c303, c304, c305, c306, c307, c308, c309, c310, c311, c312, c313, c314, c315, c316, c317, c318, c319, c320, c321, c322, c323, c324, c325, c326, c327, c328, c329, c330, c331, c332, c333, c334, c335, c336, c337, c338, c339, c340, c341, c342, c343, c344, c345, c346, c347, c348, c349, c350, c351, c352, c353, c354, c355, c356, c357, c358, c359, c360, c361, c362, c363, c364, c365, c366, c367, c368, c369, c370, c371, c372, c373, c374, c375, c376, c377, c378, c379, c380, c381, c382, c383, c384, c385, c386, c387, c388, c389, c390, c391, c392, c393, c394, c395, c396, c397, c398, c399, c400], []⟩ wz := by
  conv at hC => lhs; whnf
  cases hC
  have HQ := hide hQ
  have HT := hide hT
  have HPC := hide hpc
  have HOK := hide hok
  have HBE := hide hB
  have HSE := hide hS
  have hp0 : 0 < p := by have := hok.len; have := hok.pos; omega
  have hp31 : p ≤ 31 := by have := hok.len; have := hok.few; omega
  have HPM : Hid (p = g.ms.length) := hide (by have := hok.len; omega)
  have HK := hide hK
  obtain ⟨g3, hg3⟩ : ∃ g3, g3 = M.lgCrash g keep := ⟨_, rfl⟩
  rw [← hg3] at HK HQ
  have HG3 := hide hg3
  obtain ⟨hi, hhi⟩ : ∃ hi, hi = M.lgHigh g keep := ⟨_, rfl⟩
  have HHE := hide hhi
  have HHI : Hid (hi = S + min keep.toNat (B - S)) := hide (by rw [hhi, hS, hB]; rfl)
  clear hQ hT hpc hok hB hS hK hg3 hhi
  go_upto_region 61 with fail
  go_cut [334] from 325 to 400 (fun s wx => ∃ bd : Bool, s = .bool bd ∧ Hid (bd = true ↔ 0 < keep ∧ keep < (B : Int) - (S : Int)) ∧ wx = wz)
  case first =>
    by_cases s1 : 0 < keep
    · by_cases s2 : keep < (B : Int) - (S : Int)
      · go_wp2_with fail
        go_meet
        case rel => exact ⟨true, rfl, hide ⟨fun _ => ⟨s1, s2⟩, fun _ => rfl⟩, rfl⟩
      · go_wp2_with fail
        go_meet
        case rel => exact ⟨false, rfl, hide ⟨fun h => (by cases h), fun h => absurd h.2 (by omega)⟩, rfl⟩
    · go_wp2_with fail
      go_meet
      case rel => exact ⟨false, rfl, hide ⟨fun h => (by cases h), fun h => absurd h.1 (by omega)⟩, rfl⟩
  case rest =>
    obtain ⟨bd, rfl, HBD, hwx⟩ := hcut
    obtain rfl := hwx.symm
    go_upto_if 334 with fail
    go_cut [45] from 325 to 400 (fun s wx => s = .int .i64 (hi : Nat) ∧ wx = wz)
    case first =>
      cases bd
      · have hb : ¬ (0 < keep ∧ keep < (B : Int) - (S : Int)) := fun h => by have := HBD.out.2 h; cases this
        by_cases s1 : 0 < keep
        · go_wp2_with fail
          go_meet
          case rel => exact ⟨congrArg (Value.int .i64) (by have := HHI.out; omega), rfl⟩
        · go_wp2_with fail
          go_meet
          case rel => exact ⟨congrArg (Value.int .i64) (by have := HHI.out; omega), rfl⟩
      · obtain ⟨s1, s2⟩ := HBD.out.1 rfl
        go_wp2_with fail
        go_meet
        case rel => exact ⟨congrArg (Value.int .i64) (by have := HHI.out; omega), rfl⟩
    case rest =>
      obtain ⟨rfl, hwx⟩ := hcut
      obtain rfl := hwx.symm
      clear HBD HHI
      go_upto_block 4 with fail
      refine blk4 _ _ _ _ _ _ _ _ _ _ _ _ _ _ _ _ _ _ _ _ _ _ _ _ _ _ _ _ _ _ _ _ _ _ _ _ _ _ _ _ _ _ _ _ _ _ _ _ _ _ _ _ _ _ _ _ _ _ _ _ _ _ _ _ _ _ _ _ _ _ _ _ _ _ _ _ _ _ _ _ _ _ _ _ _ _ _ _ _ _ _ _ _ _ _ _ _ _ _ _ _ _ _ _ _ _ _ _ _ _ _ _ _ _ _ _ _ _ _ _ _ _ _ _ _ _ _ _ _ _ _ _ _ _ _ _ _ _ _ _ _ _ _ _ _ _ _ _ _ _ _ _ _ _ _ _ _ _ _ _ _ _ _ _ _ _ _ _ _ _ _ _ _ _ _ _ _ _ _ _ _ _ _ _ _ _ _ _ _ _ _ _ _ _ _ _ _ _ _ _ _ _ _ _ _ _ _ _ _ _ _ _ _ _ _ _ _ _ _ _ _ _ _ _ _ _ _ _ _ _ _ _ _ _ _ _ _ _ _ _ _ _ _ _ _ _ _ _ _ _ _ _ _ _ _ _ _ _ _ _ _ _ _ _ _ _ _ _ _ _ _ _ _ _ _ _ _ _ _ _ _ _ _ _ _ _ _ _ _ _ _ _ _ _ _ _ _ _ _ _ _ _ _ _ _ _ _ _ _ _ _ _ _ _ _ _ _ _ _ _ _ _ _ _ _ _ _ _ _ _ _ _ _ _ _ _ _ _ _ _ _ _ _ _ _ _ _ _ _ _ _ _ _ _ _ _ _ _ _ _ _ _ _ _ _ _ _ _ _ _ _ _ _ _ _ _ _ _ _ _ _ _ _ _ _ _ _ _ _ _ _ _ _ _ _ _ _ hp0 hp31 HOK.out HPM.out HK.out ?_
      intro y100 y101 y102 y103 y104 y105 y106 y107 y108 y109 y110 y111 y112 y113 z hz hK6
      obtain ⟨e1, e2, h1, h2, ec, eb, es⟩ := crashed HOK.out keep (q := z) (by rw [← HHE.out]; exact hz)
      rw [← HG3.out] at e1 e2 ec eb es
      have hzp : z < p := by have := HPM.out; omega
      have hK7 := hK6.cut (q := z + 1) HPM.out.symm (by omega) (by omega)
      rw [← e1, ← e2] at hK7
      have hl3 : g3.cs.length = z + 1 := by rw [e1, List.length_take]; omega
      have hm3 : g3.ms.length = z + 1 := by rw [e2, List.length_take]; have := HPM.out; omega
      have hz3 : z < g3.cs.length := by omega
      have hm4 : z < g3.ms.length := by omega
      have hcz : g3.cs[z] = g3.cop := by
        rw [hK7.ok.cop_at]
        congr 1
        omega
      have hmb : g3.ms[z] = g3.bytes := by
        rw [eb]
        simp only [e2, List.getElem_take]
      have hms : g3.ms[z] = g3.safe := by
        rw [es]
        simp only [e2, List.getElem_take]
      obtain ⟨y1, hy1⟩ : ∃ y1 : Nat, y1 = g3.cop.n := ⟨_, rfl⟩
      obtain ⟨y2, hy2⟩ : ∃ y2, y2 = M.mark g3.cop.l := ⟨_, rfl⟩
      obtain ⟨y3, hy3⟩ : ∃ y3 : Nat, y3 = g3.ms[z] := ⟨_, rfl⟩
      obtain ⟨CZ, hCZ⟩ : ∃ CZ, CZ = Cs z := ⟨_, rfl⟩
      have HLL := hide hl3
      have HJM := hide (hK7.jmark HT.out)
      rw [← hy1, ← hy2] at HJM
      have HAD : Hid (∀ wx, Lk w wx J (.slice (some ⟨gd, 0, none⟩) (z + 1) dc) (.slice (some ⟨gm, 0, none⟩) (z + 1) mc) (z + 1) Cs g3.cs g3.ms g3 ra rn rc R → wx.cell? ⟨gd, z, none⟩ = some (.pointer (some ⟨CZ, 0, none⟩)) ∧ wx.cell? ⟨gm, z, none⟩ = some (.int .i64 y3)) := hide fun wx h => ⟨by rw [hCZ]; exact h.at_d (by omega), by rw [hy3]; exact h.at_m hm4⟩
      have HRM : Hid (∀ wx, Lk w wx J (.slice (some ⟨gd, 0, none⟩) (z + 1) dc) (.slice (some ⟨gm, 0, none⟩) (z + 1) mc) (z + 1) Cs g3.cs g3.ms g3 ra rn rc R → Calls Tryz.prog 21 #[.pointer (some ⟨CZ, 0, none⟩)] wx fun e w' => e = .returned (.tuple #[.int .i64 y1, .int .i64 y2]) ∧ Lk w w' J (.slice (some ⟨gd, 0, none⟩) (z + 1) dc) (.slice (some ⟨gm, 0, none⟩) (z + 1) mc) (z + 1) Cs g3.cs g3.ms g3 ra rn rc R) := hide fun wx h => by
        have := h.rmark hz3
        rw [hcz, ← hy1, ← hy2, ← hCZ] at this
        exact this
      have HBB : Hid (∀ wx, Lk w wx J (.slice (some ⟨gd, 0, none⟩) (z + 1) dc) (.slice (some ⟨gm, 0, none⟩) (z + 1) mc) (z + 1) Cs g3.cs g3.ms g3 ra rn rc R → Calls Tryz.prog 13 #[.pointer (some ⟨J, 0, none⟩)] wx fun e w' => e = .returned (.int .i64 y3) ∧ Lk w w' J (.slice (some ⟨gd, 0, none⟩) (z + 1) dc) (.slice (some ⟨gm, 0, none⟩) (z + 1) mc) (z + 1) Cs g3.cs g3.ms g3 ra rn rc R) := hide fun wx h => by
        have := h.bytes
        rw [← hmb, ← hy3] at this
        exact this
      have HSS : Hid (∀ wx, Lk w wx J (.slice (some ⟨gd, 0, none⟩) (z + 1) dc) (.slice (some ⟨gm, 0, none⟩) (z + 1) mc) (z + 1) Cs g3.cs g3.ms g3 ra rn rc R → Calls Tryz.prog 14 #[.pointer (some ⟨J, 0, none⟩)] wx fun e w' => e = .returned (.int .i64 y3) ∧ Lk w w' J (.slice (some ⟨gd, 0, none⟩) (z + 1) dc) (.slice (some ⟨gm, 0, none⟩) (z + 1) mc) (z + 1) Cs g3.cs g3.ms g3 ra rn rc R) := hide fun wx h => by
        have := h.safe
        rw [← hms, ← hy3] at this
        exact this
      obtain ⟨d1, d2, m1, m2⟩ := hK7.caps (by omega) (by omega)
      rw [hm3] at m1
      clear hz hK6 e1 e2 h1 h2 ec eb es hK7 hl3 hm3 hz3 hm4 hcz hmb hms hy1 hy2 hy3 hCZ HK HG3 HHE HBE HSE HOK HPM HPC hbl hsl
      go_wp2_with fail
      refine (unhide HJM).mono ?_
      rintro e w6 ⟨rfl, hK7⟩
      dsimp only
      obtain ⟨n1, _⟩ := HAD.out _ hK7
      have nl := World.block_lt_of_cell? _ _ n1
      have HR7 := hide (HRM.out _ hK7)
      clear hK7 HJM HRM
      go_wp2_with fail
      refine (unhide HR7).mono ?_
      rintro e w7 ⟨rfl, hK8⟩
      dsimp only
      have hK8d := hK8.quiet ((Below.refl _ _).drew)
      have HBC := hide (HBB.out _ hK8d)
      obtain ⟨_, n2⟩ := HAD.out _ hK8
      have nl2 := World.block_lt_of_cell? _ _ n2
      clear hK8 hK8d HR7 n1 nl
      have yy : ((y3 : Int) == (y3 : Int)) = true := by simp
      have zi0 : (0 : Int) ≤ (z : Int) := by omega
      have zi1 : (z : Int) < (z : Int) + 1 := by omega
      have zi2 : (z : Int) < ((z + 1 : Nat) : Int) := by omega
      go_upto_region 75 with fail
      go_region_held3 (fun w' => w'.cell? ⟨gm, z, none⟩ = some (.int .i64 y3)) (first | go_keep | assumption)
        (first
          | (go_at_call 13; refine (unhide HBC).mono ?_; rintro e w8 ⟨rfl, hK9⟩; have HK9 := hide hK9; have HSC := hide (HSS.out _ hK9); have n3 : w8.cell? ⟨gm, z, none⟩ = some (.int .i64 y3) := (HAD.out _ hK9).2; have nl3 := World.block_lt_of_cell? _ _ n3; clear hK9)
          | (go_at_call 14; refine (unhide HSC).mono ?_; rintro e w9 ⟨rfl, hK10⟩; have HK10 := hide hK10; have n4 : w9.cell? ⟨gm, z, none⟩ = some (.int .i64 y3) := (HAD.out _ hK10).2; have nl4 := World.block_lt_of_cell? _ _ n4; clear hK10))
      go_wp2_with fail
      exact HQ.out _ _ _ _ _ _ _ _ _ _ _ _ _ _ _ _ _ _ _ _ _ _ _ _ _ _ _ _ _ _ _ _ _ _ _ _ _ _ _ _ _ _ _ _ _ _ _ _ _ _ _ _ _ _ _ _ _ _ _ _ _ _ _ _ _ _ _ _ _ _ _ _ _ _ _ _ _ _ _ _ _ _ _ _ _ HLL.out.symm HK10.out

end Go.Proofs.YtlefhfmckimlaakGreatDoor.logKeeps

set_option linter.unusedVariables false
set_option linter.unusedSimpArgs false
namespace Go.Proofs.YtlefhfmckimlaakGreatDoor.logKeeps
open Go.RowKit
attribute [local go_sem ↓] Go.wp_at_zero Go.wp_at_succ

set_option maxHeartbeats 4000000 in
set_option maxRecDepth 1000000 in
theorem blk1 {Q : Exit → Act → World → Prop} {w wz : World} {J p : Nat} {gd dc gm mc : Nat} {Cs : Nat → Nat} {g : M.Lg} {ra : Option Addr} {rn rc : Nat} {R : List M.Rul} {aa : Option Addr} {an ac q t : Nat} {sa : Option Addr} {sn sc : Nat} {fa : Option Addr} {fn fc : Nat} {ka : Option Addr} {kn kc : Nat}
    (c0 c5 c6 c7 c8 c9 c10 c11 c12 c13 c14 c15 c16 c17 c18 c19 c20 c22 c23 c28 c29 c30 c31 c32 c33 c34 c35 c36 c37 c38 c39 c40 c41 c42 c43 c44 c45 c46 c47 c48 c49 c50 c51 c52 c53 c54 c55 c56 c57 c58 c59 c60 c61 c62 c63 c64 c65 c66 c67 c68 c69 c70 c71 c72 c73 c74 c75 c76 c77 c78 c79 c80 c81 c82 c83 c84 c85 c86 c87 c88 c89 c90 c91 c92 c93 c94 c95 c96 c97 c98 c99 c100 c101 c102 c103 c104 c105 c106 c107 c108 c109 c110 c111 c112 c113 c114 c115 c116 c117 c118 c119 c120 c121 c122 c123 c124 c125 c126 c127 c128 c129 c130 c131 c132 c133 c134 c135 c136 c137 c138 c139 c140 c141 c142 c143 c144 c145 c146 c147 c148 c149 c150 c151 c152 c153 c154 c155 c156 c157 c158 c159 c160 c161 c162 c163 c164 c165 c166 c167 c168 c169 c170 c171 c172 c173 c174 c175 c176 c177 c178 c179 c180 c181 c182 c183 c184 c185 c186 c187 c188 c189 c190 c191 c192 c193 c194 c195 c196 c197 c198 c199 c200 c201 c202 c203 c204 c205 c206 c207 c208 c209 c210 c211 c212 c213 c214 c215 c216 c217 c218 c219 c220 c221 c222 c223 c224 c225 c226 c227 c228 c229 c230 c231 c232 c233 c234 c235 c236 c237 c238 c239 c240 c241 c242 c243 c244 c245 c246 c247 c248 c249 c250 c251 c252 c253 c254 c255 c256 c257 c258 c259 c260 c261 c262 c263 c264 c265 c266 c267 c268 c269 c270 c271 c272 c273 c274 c275 c276 c277 c278 c279 c280 c281 c282 c283 c284 c285 c286 c287 c288 c289 c290 c291 c292 c293 c294 c295 c296 c297 c298 c299 c300 c301 c302 c303 c304 c305 c306 c307 c308 c309 c310 c311 c312 c313 c314 c315 c316 c317 c318 c319 c320 c321 c322 c323 c324 c325 c326 c327 c328 c329 c330 c331 c332 c333 c334 c335 c336 c337 c338 c339 c340 c341 c342 c343 c344 c345 c346 c347 c348 c349 c350 c351 c352 c353 c354 c355 c356 c357 c358 c359 c360 c361 c362 c363 c364 c365 c366 c367 c368 c369 c370 c371 c372 c373 c374 c375 c376 c377 c378 c379 c380 c381 c382 c383 c384 c385 c386 c387 c388 c389 c390 c391 c392 c393 c394 c395 c396 c397 c398 c399 c400 : Value) (hq : q ≤ an) (han : an ≤ 9223372036854775807) (hsn : sn ≤ 9223372036854775807) (hfn : fn ≤ 9223372036854775807) (hkn : kn ≤ 9223372036854775807) (hp : p = g.cs.length) (hAll : ∀ i, i < an → ∃ b off x a n cp, aa = some ⟨b, off, none⟩ ∧ IsVals w (.slice a n cp) (M.Ask.t x) ∧ ∀ wy, Below w.heap.size w wy → wy.cell? ⟨b, off + i * 4, none⟩ = some (.int .i64 x.who) ∧ wy.cell? ⟨b, off + i * 4 + 1, none⟩ = some (.int .i64 x.seq) ∧ wy.cell? ⟨b, off + i * 4 + 2, none⟩ = some (.int .i64 x.deed) ∧ wy.cell? ⟨b, off + i * 4 + 3, none⟩ = some (.slice a n cp))
    (hSY : ∀ i : Nat, (i : Int) < sn → ∃ b2 o2 z, sa = some ⟨b2, o2, none⟩ ∧ ∀ wy, Below w.heap.size w wy → wy.cell? ⟨b2, o2 + i, none⟩ = some (.int .i64 z))
    (hFA : ∀ i : Nat, (i : Int) < fn → ∃ b2 o2 z, fa = some ⟨b2, o2, none⟩ ∧ z ≤ 9223372036854775807 ∧ ∀ wy, Below w.heap.size w wy → wy.cell? ⟨b2, o2 + i, none⟩ = some (.int .i64 z))
    (hKP : ∀ i : Nat, (i : Int) < kn → ∃ b2 o2 z, ka = some ⟨b2, o2, none⟩ ∧ ∀ wy, Below w.heap.size w wy → wy.cell? ⟨b2, o2 + i, none⟩ = some (.int .i64 z)) (hH : Hand w) (hT : Tab w) (hK : Lk w wz J (.slice (some ⟨gd, 0, none⟩) p dc) (.slice (some ⟨gm, 0, none⟩) p mc) p Cs g.cs g.ms g ra rn rc R)
    (hQ : ∀ (u10 u23 u28 u29 u30 u31 u32 u33 u34 u35 u36 u37 u38 u39 u40 u41 u42 u43 u44 u45 u46 u47 u48 u49 u50 u51 u139 u140 u141 u142 u143 u144 u145 u146 u147 u148 u149 u150 u151 u152 u153 u154 u155 u156 u157 u158 u159 u160 u161 u162 u163 u164 u165 u166 u167 u168 u169 u170 u171 u172 u173 u174 u175 u176 u177 u178 u179 u180 u181 u182 u183 u184 u185 u186 u187 u188 u189 u190 u191 u192 u193 u194 u195 u196 u197 u198 u199 u200 u201 u202 u203 u204 u205 u206 u207 u208 u209 u210 u211 u212 u213 u214 u215 u216 u217 u218 u219 u220 u221 u222 u223 u224 u225 u226 u227 u228 u229 u230 u231 u232 u233 u234 u235 u236 u237 u238 u239 u240 u241 u242 u243 u244 u245 u246 u247 u248 u249 u250 u251 u252 u253 u254 u255 u256 u257 u258 u259 u260 u261 u262 u263 u264 u265 u266 u267 u268 u269 u270 u271 u272 u273 u274 u275 u276 u277 u278 u279 u280 u281 u282 u283 u284 u285 u286 u287 u288 u289 u290 u291 u292 u293 u294 u295 u296 u297 u298 u299 u300 u301 u302 u303 u304 u305 u306 u307 u308 u309 u310 u311 u312 u313 u314 u315 u316 u317 u318 u319 u320 u321 u322 u323 u324 u325 u326 u327 u328 u329 u330 u331 u332 u333 u334 u335 u336 u337 u338 u339 u340 u341 u342 u343 u344 u345 u346 u347 u348 u349 u350 u351 u352 u353 u354 u355 u356 u357 u358 u359 u360 u361 u362 u363 u364 u365 u366 u367 u368 u369 u370 u371 u372 u373 u374 u375 u376 u377 u378 u379 u380 u381 u382 u383 u384 u385 u386 u387 u388 u389 u390 u391 u392 u393 u394 u395 u396 u397 u398 u399 u400 : Value) (w' : World) (g' : M.Lg) (Cs' : Nat → Nat) (gd' dc' gm' mc' p' q' : Nat), q' ≤ an → p' = g'.cs.length → Lk w w' J (.slice (some ⟨gd', 0, none⟩) p' dc') (.slice (some ⟨gm', 0, none⟩) p' mc') p' Cs' g'.cs g'.ms g' ra rn rc R → Q .normal ⟨#[c0, .slice aa an ac, .slice sa sn sc, .slice fa fn fc, .slice ka kn kc, c5, c6, c7, c8, c9, u10, c11, c12, c13, c14, c15, c16, c17, c18, c19, c20, .pointer (some ⟨J, 0, none⟩), c22, u23, .slice (some ⟨gd', 0, none⟩) p' dc', .slice (some ⟨gm', 0, none⟩) p' mc', .int .i64 (q' : Nat), .int .i64 (t : Nat), u28, u29, u30, u31, u32, u33, u34, u35, u36, u37, u38, u39, u40, u41, u42, u43, u44, u45, u46, u47, u48, u49, u50, u51, c52, c53, c54, c55, c56, c57, c58, c59, c60, c61, c62, c63, c64, c65, c66, c67, c68, c69, c70, c71, c72, c73, c74, c75, c76, c77, c78, c79, c80, c81, c82, c83, c84, c85, c86, c87, c88, c89, c90, c91, c92, c93, c94, c95, c96, c97, c98, c99, c100, c101, c102, c103, c104, c105, c106, c107, c108, c109, c110, c111, c112, c113, c114, c115, c116, c117, c118, c119, c120, c121, c122, c123, c124, c125, c126, c127, c128, c129, c130, c131, c132, c133, c134, c135, c136, c137, c138, u139, u140, u141, u142, u143, u144, u145, u146, u147, u148, u149, u150, u151, u152, u153, u154, u155, u156, u157, u158, u159, u160, u161, u162, u163, u164, u165, u166, u167, u168, u169, u170, u171, u172, u173, u174, u175, u176, u177, u178, u179, u180, u181, u182, u183, u184, u185, u186, u187, u188, u189, u190, u191, u192, u193, u194, u195, u196, u197, u198, u199, u200, u201, u202, u203, u204, u205, u206, u207, u208, u209, u210, u211, u212, u213, u214, u215, u216, u217, u218, u219, u220, u221, u222, u223, u224, u225, u226, u227, u228, u229, u230, u231, u232, u233, u234, u235, u236, u237, u238, u239, u240, u241, u242, u243, u244, u245, u246, u247, u248, u249, u250, u251, u252, u253, u254, u255, u256, u257, u258, u259, u260, u261, u262, u263, u264, u265, u266, u267, u268, u269, u270, u271, u272, u273, u274, u275, u276, u277, u278, u279, u280, u281, u282, u283, u284, u285, u286, u287, u288, u289, u290, u291, u292, u293, u294, u295, u296, u297, u298, u299, u300, u301, u302, u303, u304, u305, u306, u307, u308, u309, u310, u311, u312, u313, u314, u315, u316, u317, u318, u319, u320, u321, u322, u323, u324, u325, u326, u327, u328, u329, u330, u331, u332, u333, u334, u335, u336, u337, u338, u339, u340, u341, u342, u343, u344, u345, u346, u347, u348, u349, u350, u351, u352, u353, u354, u355, u356, u357, u358, u359, u360, u361, u362, u363, u364, u365, u366, u367, u368, u369, u370, u371, u372, u373, u374, u375, u376, u377, u378, u379, u380, u381, u382, u383, u384, u385, u386, u387, u388, u389, u390, u391, u392, u393, u394, u395, u396, u397, u398, u399, u400], []⟩ w') :
    Code.wp Tryz.prog ((Tryz.f3.body.bind (blockAt 1)).getD .skip) Q ⟨#[c0, .slice aa an ac, .slice sa sn sc, .slice fa fn fc, .slice ka kn kc, c5, c6, c7, c8, c9, c10, c11, c12, c13, c14, c15, c16, c17, c18, c19, c20, .pointer (some ⟨J, 0, none⟩), c22, c23, .slice (some ⟨gd, 0, none⟩) p dc, .slice (some ⟨gm, 0, none⟩) p mc, .int .i64 (q : Nat), .int .i64 (t : Nat), c28, c29, c30, c31, c32, c33, c34, c35, c36, c37, c38, c39, c40, c41, c42, c43, c44, c45, c46, c47, c48, c49, c50, c51, c52, c53, c54, c55, c56, c57, c58, c59, c60, c61, c62, c63, c64, c65, c66, c67, c68, c69, c70, c71, c72, c73, c74, c75, c76, c77, c78, c79, c80, c81, c82, c83, c84, c85, c86, c87, c88, c89, c90, c91, c92, c93, c94, c95, c96, c97, c98, c99, c100, c101, c102, c103, c104, c105, c106, c107, c108, c109, c110, c111, c112, c113, c114, c115, c116, c117, c118, c119, c120, c121, c122, c123, c124, c125, c126, c127, c128, c129, c130, c131, c132, c133, c134, c135, c136, c137, c138, c139, c140, c141, c142, c143, c144, c145, c146, c147, c148, c149, c150, c151, c152, c153, c154, c155, c156, c157, c158, c159, c160, c161, c162, c163, c164, c165, c166, c167, c168, c169, c170, c171, c172, c173, c174, c175, c176, c177, c178, c179, c180, c181, c182, c183, c184, c185, c186, c187, c188, c189, c190, c191, c192, c193, c194, c195, c196, c197, c198, c199, c200, c201, c202, c203, c204, c205, c206, c207, c208, c209, c210, c211, c212, c213, c214, c215, c216, c217, c218, c219, c220, c221, c222, c223, c224, c225, c226, c227, c228, c229, c230, c231, c232, c233, c234, c235, c236, c237, c238, c239, c240, c241, c242, c243, c244, c245, c246, c247, c248, c249, c250, c251, c252, c253, c254, c255, c256, c257, c258, c259, c260, c261, c262, c263, c264, c265, c266, c267, c268, c269, c270, c271, c272, c273, c274, c275, c276, c277, c278, c279, c280, c281, c282, c283, c284, c285, c286, c287, c288, c289, c290, c291, c292, c293, c294, c295, c296, c297, c298, c299, c300, c301, c302, c303, c304, c305, c306, c307, c308, c309, c310, c311, c312, c313, c314, c315, c316, c317, c318, c319, c320, c321, c322, c323, c324, c325, c326, c327, c328, c329, c330, c331, c332, c333, c334, c335, c336, c337, c338, c339, c340, c341, c342, c343, c344, c345, c346, c347, c348, c349, c350, c351, c352, c353, c354, c355, c356, c357, c358, c359, c360, c361, c362, c363, c364, c365, c366, c367, c368, c369, c370, c371, c372, c373, c374, c375, c376, c377, c378, c379, c380, c381, c382, c383, c384, c385, c386, c387, c388, c389, c390, c391, c392, c393, c394, c395, c396, c397, c398, c399, c400], []⟩ wz := by
  conv => arg 2; whnf
  have HAT := hide hAll
  have HQ := hide hQ
  have HH := hide hH
  have HT := hide hT
  have HSY := hide hSY
  have HFA := hide hFA
  have HKP := hide hKP
  have HK := hide hK
  have HP := hide hp
  have t0 : (0 : Int) ≤ (t : Int) := by omega
  clear hAll hQ hH hT hSY hFA hKP hK hp
  go_upto_if 142 with fail
  go_cut [142] from 139 to 400 (fun _ wx => ∃ g1 : M.Lg, Hid (p = g1.cs.length) ∧ Hid (Lk w wx J (.slice (some ⟨gd, 0, none⟩) p dc) (.slice (some ⟨gm, 0, none⟩) p mc) p Cs g1.cs g1.ms g1 ra rn rc R))
  case first =>
    by_cases s1 : (t : Int) < (fn : Int)
    · obtain ⟨b2, o2, z, rfl, hz9, hz⟩ := HFA.out t s1
      have z0 := hz _ HK.out.bel
      have zl := World.block_lt_of_cell? _ _ z0
      have HF := hide (HK.out.fail z hz9)
      clear hz hz9
      go_wp2_with fail
      refine (unhide HF).mono ?_
      rintro e w1 ⟨rfl, hK1⟩
      dsimp only
      have HK1 := hide hK1
      clear hK1 HF
      go_wp2_with fail
      go_meet
      case rel => exact ⟨M.lgFail g z, HP, HK1⟩
    · go_wp2_with fail
      go_meet
      case rel => exact ⟨g, HP, HK⟩
  case rest =>
    obtain ⟨g1, HP1, HK1⟩ := hcut
    clear HK HP HFA
    go_upto_block 2 with fail
    refine blk2 _ _ _ _ _ _ _ _ _ _ _ _ _ _ _ _ _ _ _ _ _ _ _ _ _ _ _ _ _ _ _ _ _ _ _ _ _ _ _ _ _ _ _ _ _ _ _ _ _ _ _ _ _ _ _ _ _ _ _ _ _ _ _ _ _ _ _ _ _ _ _ _ _ _ _ _ _ _ _ _ _ _ _ _ _ _ _ _ _ _ _ _ _ _ _ _ _ _ _ _ _ _ _ _ _ _ _ _ _ _ _ _ _ _ _ _ _ _ _ _ _ _ _ _ _ _ _ _ _ _ _ _ _ _ _ _ _ _ _ _ _ _ _ _ _ _ _ _ _ _ _ _ _ _ _ _ _ _ _ _ _ _ _ _ _ _ _ _ _ _ _ _ _ _ _ _ _ _ _ _ _ _ _ _ _ _ _ _ _ _ _ _ _ _ _ _ _ _ _ _ _ _ _ _ _ _ _ _ _ _ _ _ _ _ _ _ _ _ _ _ _ _ _ _ _ _ _ _ _ _ _ _ _ _ _ _ _ _ _ _ _ _ _ _ _ _ _ _ _ _ _ _ _ _ _ _ _ _ _ _ _ _ _ _ _ _ _ _ _ _ _ _ _ _ _ _ _ _ _ _ _ _ _ _ _ _ _ _ _ _ _ _ _ _ _ _ _ _ _ _ _ _ _ _ _ _ _ _ _ _ _ _ _ _ _ _ _ _ _ _ _ _ _ _ _ _ _ _ _ _ _ _ _ _ _ _ _ _ _ _ _ _ _ _ _ _ _ _ _ _ _ _ _ _ _ _ _ _ _ _ _ _ _ _ _ _ _ _ _ _ _ _ _ _ _ _ _ _ _ _ _ _ _ _ _ _ _ _ _ _ _ _ _ _ hq han hsn HP1.out HAT.out HSY.out HH.out HT.out HK1.out ?_
    intro v0 v1 v2 v3 v4 v5 v6 v7 v8 v9 v10 v11 v12 v13 v14 v15 v16 v17 v18 v19 v20 v21 v22 v23 v24 v25 v26 v27 v28 v29 v30 v31 v32 v33 v34 v35 v36 v37 v38 v39 v40 v41 v42 v43 v44 v45 v46 v47 v48 v49 v50 v51 v52 v53 v54 v55 v56 v57 v58 v59 v60 v61 v62 v63 v64 v65 v66 v67 v68 v69 v70 v71 v72 v73 v74 v75 v76 v77 v78 v79 v80 v81 v82 v83 v84 v85 v86 v87 v88 v89 v90 v91 v92 v93 v94 v95 v96 v97 v98 v99 v100 v101 v102 v103 v104 v105 v106 v107 v108 v109 v110 v111 v112 v113 v114 v115 v116 v117 v118 v119 v120 v121 v122 v123 v124 v125 v126 v127 v128 v129 v130 v131 v132 v133 v134 v135 v136 v137 v138 v139 v140 v141 v142 v143 v144 v145 v146 v147 v148 v149 v150 v151 v152 v153 v154 v155 v156 v157 v158 v159 v160 v161 v162 v163 v164 v165 v166 v167 v168 v169 v170 v171 v172 v173 v174 v175 v176 w2 g2 Cs2 gd2 dc2 gm2 mc2 p2 q2 hq2 hp2 hK2
    have hok2 := hK2.ok
    have hp0 : 0 < p2 := by have := hok2.len; have := hok2.pos; omega
    have hp31 : p2 ≤ 31 := by have := hok2.len; have := hok2.few; omega
    have HPM2 : Hid (p2 = g2.ms.length) := hide (by have := hok2.len; omega)
    have HOK2 := hide hok2
    have HP2 := hide hp2
    have HK2 := hide hK2
    have HQ2 := hide hq2
    clear hok2 hp2 hK2 hq2 HP1 HK1
    go_upto_if 313 with fail
    go_cut [42] from 139 to 400 (fun s wx => ∃ keep : Int, s = .int .i64 keep ∧ wx = w2)
    case first =>
      by_cases s1 : (t : Int) < (kn : Int)
      · obtain ⟨b2, o2, z, rfl, hz⟩ := HKP.out t s1
        have z0 := hz _ HK2.out.bel
        have zl := World.block_lt_of_cell? _ _ z0
        clear hz
        go_wp2_with fail
        go_meet
        case rel => exact ⟨z, rfl, rfl⟩
      · go_wp2_with fail
        go_meet
        case rel => exact ⟨0, rfl, rfl⟩
    case rest =>
      obtain ⟨keep, rfl, hwx⟩ := hcut
      obtain rfl := hwx.symm
      have HBY := hide HK2.out.bytes
      have hbl := HOK2.out.bytes_le
      have hsl := HOK2.out.safe_le
      obtain ⟨B, hB⟩ : ∃ B, B = g2.bytes := ⟨_, rfl⟩
      obtain ⟨S, hS⟩ : ∃ S, S = g2.safe := ⟨_, rfl⟩
      rw [← hB] at HBY hbl hsl
      rw [← hS] at hsl
      have HBE := hide hB
      have HSE := hide hS
      clear hB hS
      go_wp2_with fail
      refine (unhide HBY).mono ?_
      rintro e w3 ⟨rfl, hK3⟩
      dsimp only
      have HSF := hide hK3.safe
      rw [← HSE.out] at HSF
      clear hK3 HBY HK2
      go_wp2_with fail
      refine (unhide HSF).mono ?_
      rintro e w4 ⟨rfl, hK4⟩
      dsimp only
      have HCR := hide (hK4.crash keep HT.out)
      clear hK4 HSF
      go_wp2_with fail
      refine (unhide HCR).mono ?_
      rintro e w5 ⟨rfl, hK5⟩
      dsimp only
      have HK5 := hide hK5
      clear hK5 HCR
      go_upto_region 60 with fail
      refine tl1 _ _ _ _ _ _ _ _ _ _ _ _ _ _ _ _ _ _ _ _ _ _ _ _ _ _ _ _ _ _ _ _ _ _ _ _ _ _ _ _ _ _ _ _ _ _ _ _ _ _ _ _ _ _ _ _ _ _ _ _ _ _ _ _ _ _ _ _ _ _ _ _ _ _ _ _ _ _ _ _ _ _ _ _ _ _ _ _ _ _ _ _ _ _ _ _ _ _ _ _ _ _ _ _ _ _ _ _ _ _ _ _ _ _ _ _ _ _ _ _ _ _ _ _ _ _ _ _ _ _ _ _ _ _ _ _ _ _ _ _ _ _ _ _ _ _ _ _ _ _ _ _ _ _ _ _ _ _ _ _ _ _ _ _ _ _ _ _ _ _ _ _ _ _ _ _ _ _ _ _ _ _ _ _ _ _ _ _ _ _ _ _ _ _ _ _ _ _ _ _ _ _ _ _ _ _ _ _ _ _ _ _ _ _ _ _ _ _ _ _ _ _ _ _ _ _ _ _ _ _ _ _ _ _ _ _ _ _ _ _ _ _ _ _ _ _ _ _ _ _ _ _ _ _ _ _ _ _ _ _ _ _ _ _ _ _ _ _ _ _ _ _ _ _ _ _ _ _ _ _ _ _ _ _ _ _ _ _ _ _ _ _ _ _ _ _ _ _ _ _ _ _ _ _ _ _ _ _ _ _ _ _ _ _ _ _ _ _ _ _ _ _ _ _ _ _ _ _ _ _ _ _ _ _ _ _ _ _ _ _ _ _ _ _ _ _ _ _ _ _ _ _ _ _ _ _ _ _ _ _ _ _ _ _ _ _ _ _ _ _ _ _ _ _ _ _ _ _ _ _ _ _ _ _ _ _ _ _ _ _ _ _ _ _ _ rfl (by assumption) hbl hsl HBE.out HSE.out HP2.out HOK2.out HT.out HK5.out ?_
      intro x0 x1 x2 x3 x4 x5 x6 x7 x8 x9 x10 x11 x12 x13 x14 x15 x16 x17 x18 x19 x20 x21 x22 x23 x24 x25 x26 x27 x28 x29 x30 x31 x32 x33 x34 x35 x36 x37 x38 x39 x40 x41 x42 x43 x44 x45 x46 x47 x48 x49 x50 x51 x52 x53 x54 x55 x56 x57 x58 x59 x60 x61 x62 x63 x64 x65 x66 x67 x68 x69 x70 x71 x72 x73 x74 x75 x76 x77 x78 x79 x80 x81 x82 w9 p9 hp9 hL9
      exact HQ.out _ _ _ _ _ _ _ _ _ _ _ _ _ _ _ _ _ _ _ _ _ _ _ _ _ _ _ _ _ _ _ _ _ _ _ _ _ _ _ _ _ _ _ _ _ _ _ _ _ _ _ _ _ _ _ _ _ _ _ _ _ _ _ _ _ _ _ _ _ _ _ _ _ _ _ _ _ _ _ _ _ _ _ _ _ _ _ _ _ _ _ _ _ _ _ _ _ _ _ _ _ _ _ _ _ _ _ _ _ _ _ _ _ _ _ _ _ _ _ _ _ _ _ _ _ _ _ _ _ _ _ _ _ _ _ _ _ _ _ _ _ _ _ _ _ _ _ _ _ _ _ _ _ _ _ _ _ _ _ _ _ _ _ _ _ _ _ _ _ _ _ _ _ _ _ _ _ _ _ _ _ _ _ _ _ _ _ _ _ _ _ _ _ _ _ _ _ _ _ _ _ _ _ _ _ _ _ _ _ _ _ _ _ _ _ _ _ _ _ _ _ _ _ _ _ _ _ _ _ _ _ _ _ _ _ _ _ _ _ _ _ _ _ _ _ _ _ _ _ _ _ _ _ _ _ _ _ _ _ _ _ _ _ _ _ _ _ _ _ _ _ _ _ _ _ _ _ _ _ _ _ _ _ _ _ _ _ _ w9 (M.lgCrash g2 keep) Cs2 gd2 dc2 gm2 mc2 p9 q2 HQ2.out hp9 hL9

end Go.Proofs.YtlefhfmckimlaakGreatDoor.logKeeps

set_option linter.unusedVariables false
namespace Go.Proofs.YtlefhfmckimlaakGreatDoor.logKeeps
open Go.RowKit logStops

def C1 : M.Cop := M.Cop.new.did (xP 1 1 4) M.sOk (M.Cop.new.l ++ [[numV 4]])
def C2 : M.Cop := C1.did (xP 1 2 5) M.sOk (C1.l ++ [[numV 5]])
def G1 (k : Nat) : M.Lg := ⟨[M.Cop.new, C1], [0, k], 0, 0, -1, false⟩
def G2 (k : Nat) : M.Lg := ⟨[M.Cop.new, C1], [0, k], 0, k, -1, false⟩
def G3 (k j : Nat) : M.Lg := ⟨[M.Cop.new, C1, C2], [0, k, k + j], 0, k, -1, false⟩
theorem first1 (k : Nat) : M.lgDo R1 M.Lg.new (xP 1 1 4) k = (0, M.sOk, G1 k) := by
  have hd := do_put (c := M.Lg.new.cop) (who := 1) (seq := 1) (n := 4) (by decide) (by decide) (by decide) rfl
  have d1 : (M.doR R1 M.Lg.new.cop (xP 1 1 4)).1 = 0 := by rw [hd]
  have d2 : (M.doR R1 M.Lg.new.cop (xP 1 1 4)).2.2.n ≠ M.Lg.new.cop.n := by rw [hd]; show M.Lg.new.cop.n + 1 ≠ M.Lg.new.cop.n; omega
  rw [M.lgDo_did rfl d1 d2 (by decide) (by decide), hd]
  have e : M.Lg.new.bytes + k = k := by show 0 + 0 + k = k; omega
  rw [e]
  rfl
theorem first2 (k : Nat) : M.lgSync (G1 k) = (0, G2 k) := rfl
theorem first3 (k j : Nat) : M.lgDo R1 (G2 k) (xP 1 2 5) j = (0, M.sOk, G3 k j) := by
  have hg1 : (C1.g 1).1 = 1 := by
    show (M.upG M.Cop.new.g (xP 1 1 4) M.sOk (xP 1 1 4).who).1 = _
    rw [M.upG_same]; rfl
  have hd := do_put (c := C1) (who := 1) (seq := 2) (n := 5) (by decide) (by decide) (by decide) (by rw [hg1]; rfl)
  have ec : (G2 k).cop = C1 := rfl
  have d1 : (M.doR R1 (G2 k).cop (xP 1 2 5)).1 = 0 := by rw [ec, hd]
  have d2 : (M.doR R1 (G2 k).cop (xP 1 2 5)).2.2.n ≠ (G2 k).cop.n := by rw [ec, hd]; show C1.n + 1 ≠ C1.n; omega
  rw [M.lgDo_did rfl d1 d2 (by show ¬ 31 ≤ 2; decide) (by show (-1 : Int) ≠ 0; decide), ec, hd]
  have e : (G2 k).bytes + j = k + j := rfl
  rw [e]
  rfl
theorem first4 (k j : Nat) (hj : 2 ≤ j) : (M.lgCrash (G3 k j) 0).cop.n = 1 ∧ (M.lgCrash (G3 k j) 0).bytes = k ∧ (M.lgCrash (G3 k j) 0).safe = k := by
  have e : M.upTo (G3 k j).ms (M.lgHigh (G3 k j) 0) = 2 := by
    have e2 : M.lgHigh (G3 k j) 0 = k := by show k + min 0 _ = k; omega
    rw [e2]
    show (([0, k, k + j] : List Nat).takeWhile (· ≤ k)).length = 2
    have h3 : ¬ (k + j ≤ k) := by omega
    simp [List.takeWhile, h3]
  have e3 : M.lgCrash (G3 k j) 0 = ⟨[M.Cop.new, C1], [0, k], 0, k, -1, false⟩ := by
    unfold M.lgCrash
    rw [e]
    rfl
  rw [e3]
  exact ⟨rfl, rfl, rfl⟩

theorem own_one {w : World} {base : Nat} {T : TypeId} {v : Value} (hb : base ≤ w.heap.size) : (w.alloc (.cells #[v] T)).ownsRow base T 1 (.slice (some ⟨w.heap.size, 0, none⟩) 1 1) 1 [v] :=
  ⟨rfl, Or.inr ⟨w.heap.size, 1, #[v], rfl, hb, heap_alloc_new w _, Nat.le_refl _, by unfold maxLen; decide, rfl, rfl⟩⟩
/-- a log and the document's copy that are new, each in its row -/
theorem Lk.start {w wx : World} {J : Nat} {F : Nat → Prop} {rav : Option Addr} {rn rcap : Nat} {R : List M.Rul} (hb : Below w.heap.size w wx) (hJ : LgIs w.heap.size wx F J M.Lg.new R) (hR : AtR w rav R) (hrn : rn = R.length) (hE : M.rulE R = 0) :
    Lk w ((((wx.alloc (.cells #[.slice none 0 0] 78)).alloc (.cells #[.slice rav rn rcap, .pointer (some ⟨wx.heap.size, 0, none⟩), .slice none 0 0, .int .i64 0] 55)).alloc (.cells #[.pointer (some ⟨wx.heap.size + 1, 0, none⟩)] 46)).alloc (.cells #[.int .i64 0] 3)) J (.slice (some ⟨wx.heap.size + 2, 0, none⟩) 1 1) (.slice (some ⟨wx.heap.size + 3, 0, none⟩) 1 1) 1 (fun _ => wx.heap.size + 1) M.Lg.new.cs M.Lg.new.ms M.Lg.new rav rn rcap R := by
  have hr := Rc.new hb (.slice rav rn rcap)
  generalize h1 : (wx.alloc (.cells #[.slice none 0 0] 78)).alloc (.cells #[.slice rav rn rcap, .pointer (some ⟨wx.heap.size, 0, none⟩), .slice none 0 0, .int .i64 0] 55) = w1 at hr ⊢
  have s1 : w1.heap.size = wx.heap.size + 2 := by rw [← h1]; simp
  have b1 : Below wx.heap.size wx w1 := by rw [← h1]; exact ((Below.refl _ _).alloc (Nat.le_refl _) _).alloc (by simp) _
  have r2 := own_one (w := w1) (base := w.heap.size) (T := 46) (v := .pointer (some ⟨wx.heap.size + 1, 0, none⟩)) (by have := hb.size; omega)
  rw [s1] at r2
  have b2 : Below w1.heap.size w1 (w1.alloc (.cells #[.pointer (some ⟨wx.heap.size + 1, 0, none⟩)] 46)) := (Below.refl _ _).alloc (Nat.le_refl _) _
  generalize h2 : w1.alloc (.cells #[.pointer (some ⟨wx.heap.size + 1, 0, none⟩)] 46) = w2 at r2 b2 ⊢
  have s2 : w2.heap.size = wx.heap.size + 3 := by rw [← h2]; simp [s1]
  have r3 := own_one (w := w2) (base := w.heap.size) (T := 3) (v := .int .i64 0) (by have := hb.size; omega)
  rw [s2] at r3
  have b3 : Below w2.heap.size w2 (w2.alloc (.cells #[.int .i64 0] 3)) := (Below.refl _ _).alloc (Nat.le_refl _) _
  generalize w2.alloc (.cells #[.int .i64 0] 3) = w3 at r3 b3 ⊢
  have b13 : Below w1.heap.size w1 w3 := b2.trans (b3.mono (by omega))
  have bx3 : Below wx.heap.size wx w3 := b1.trans (b13.mono (by omega))
  have hi := hJ.highs
  refine ⟨F, fun _ => rcF (wx.heap.size + 1) wx.heap.size (.slice none 0 0) (.slice none 0 0), hJ.quiet bx3, Nat.le_refl _, ownsRow_at r2 (fun k hk => ?_), r3, fun i hl => ?_, fun i j h1 h2 h3 => ?_, fun i hl => Off.new (w := wx) hi (fun k hk => ?_), fun k hk => ?_, fun k hk => ?_, hb.trans (bx3.mono hb.size)⟩
  · obtain ⟨_, c, fr, hh⟩ := ownsRow_tag r2 hk
    exact b3.block k (heap_lt hh)
  · have e : i = 0 := by have : i < 1 := hl; omega
    subst e
    exact (RcAt.quiet ⟨wx.heap.size, .slice none 0 0, .slice none 0 0, [], rfl, hr, rfl, rfl, M.Cop.new_ok, hR, hrn, hE⟩ b13)
  · have : i < 1 := h1
    have : j < 1 := h2
    omega
  · rcases hk with rfl | rfl | hk | hk
    · exact Nat.le_succ _
    · exact Nat.le_refl _
    · cases hk
    · cases hk
  · have e : wx.heap.size + 2 = k := by simpa [Value.ownBlock] using hk
    exact fun hF => by have := hi k hF; omega
  · have e : wx.heap.size + 3 = k := by simpa [Value.ownBlock] using hk
    exact fun hF => by have := hi k hF; omega

end Go.Proofs.YtlefhfmckimlaakGreatDoor.logKeeps
