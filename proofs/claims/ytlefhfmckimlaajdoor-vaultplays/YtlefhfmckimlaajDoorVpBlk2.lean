/-
  The search for a name among those that were put, as the Go function VaultPlays does it: a loop of its round.
-/
import Derived.Test.YtlefhfmckimlaajDoorVaultPlaysA
import Derived.BigQuiet
import Derived.Deep.QuietTactic
set_option linter.unusedVariables false
namespace Go.Proofs.YtlefhfmckimlaajDoor.vaultPlays
open Go.RowKit
attribute [local go_sem ↓] Go.wp_at_zero Go.wp_at_succ

set_option maxHeartbeats 4000000 in
set_option maxRecDepth 1000000 in
theorem blk2 {Q : Exit → Act → World → Prop} {w wz : World} {m k : Nat} {F : Nat → Prop} {V : Nat} {v : M.Vlt} {ha : Option Addr} {hc : Nat} {ba : Option Addr} {bc : Nat} {ca : Option Addr} {cc hn : Nat} {H : List ByteArray} {P : List (List Int)} {xs ys : List Value} {b off nn nc : Nat} {a : ByteArray}
    (c0 c1 c3 c4 c5 c6 c7 c8 c9 c10 c11 c12 c13 c14 c15 c16 c18 c19 c21 c22 c25 c26 c27 c28 c29 c30 c31 c32 c33 c34 c35 c36 c37 c38 c39 c40 c41 c42 c43 c44 c45 c46 c47 c48 c49 c50 c51 c52 c53 c54 c55 c56 c57 c58 c59 c60 c61 c62 c63 c64 c65 c66 c67 c68 c69 c70 c71 c72 c73 c74 c75 c76 c77 c78 c79 c80 c81 c82 c83 c84 c85 c86 c87 c88 c89 c90 c91 c92 c93 c94 c95 c96 c97 c98 c99 c100 c101 c102 c103 c104 c105 c106 c107 c108 c109 c110 c111 c112 c113 c114 c115 c116 c117 c118 c119 c120 c121 c122 c123 c124 c125 c126 c127 c128 c129 c130 c131 c132 c133 c134 c135 c136 c137 c138 c139 c140 c141 c142 c143 c144 c145 c146 c147 c148 c149 c150 c151 c152 c153 c154 c155 c156 c157 c158 c159 c160 c161 c162 c163 c164 c165 c166 c167 c168 c169 c170 c171 c172 c173 c174 c175 c176 c177 c178 c179 c180 c181 c182 c183 c184 c185 c186 c187 c188 c189 c190 c191 c192 c193 c194 c195 c196 c197 c198 c199 c200 c201 c202 c203 c204 c205 c206 c207 c208 c209 c210 c211 c212 c213 c214 c215 c216 c217 c218 c219 c220 c221 c222 c223 c224 c225 c226 c227 c228 c229 c230 c231 c232 c233 c234 c235 c236 c237 c238 c239 c240 c241 c242 c243 c244 c245 c246 c247 c248 c249 c250 c251 c252 c253 c254 c255 c256 c257 c258 c259 c260 c261 c262 c263 c264 c265 c266 c267 c268 c269 c270 c271 c272 c273 c274 c275 c276 c277 c278 c279 c280 c281 c282 c283 c284 c285 c286 c287 c288 c289 c290 c291 c292 c293 c294 c295 c296 c297 c298 c299 c300 c301 c302 c303 c304 c305 c306 c307 c308 c309 c310 c311 c312 c313 c314 c315 c316 c317 c318 c319 c320 c321 c322 c323 c324 c325 c326 c327 c328 c329 c330 c331 c332 c333 c334 c335 c336 c337 c338 c339 c340 c341 c342 c343 c344 c345 c346 c347 c348 c349 c350 c351 c352 c353 c354 c355 c356 c357 c358 c359 c360 c361 c362 c363 c364 c365 c366 c367 c368 c369 c370 c371 c372 c373 c374 c375 c376 c377 c378 c379 c380 c381 c382 c383 c384 : Value) (hk : k < nn) (hk3 : k < 30) (hnm : nn ≤ 9223372036854775807) (h20 : hn ≤ 20) (hN : Named v H P) (hl : H.length = hn) (hat : ∀ wy, Below w.heap.size w wy → wy.cell? ⟨b, off + k, none⟩ = some (.string a)) (hK : Vp w wz F V v (.slice ha hn hc) H (.slice ba hn bc) xs (P.map fun p => M.deal p m) (.slice ca hn cc) ys (P.map M.commits))
    (hQ : ∀ (u24 u100 u101 u102 u103 u104 u105 u106 u107 u108 u109 u110 u111 u112 u113 u114 u115 : Value) (w' : World) (z : Int), -1 ≤ z → z < 20 → Stands v P hn a z → Vp w w' F V v (.slice ha hn hc) H (.slice ba hn bc) xs (P.map fun p => M.deal p m) (.slice ca hn cc) ys (P.map M.commits) → Q .normal ⟨#[c0, c1, .slice (some ⟨b, off, none⟩) nn nc, c3, c4, c5, c6, c7, c8, c9, c10, c11, c12, c13, c14, c15, c16, .slice ha hn hc, c18, c19, .int .i64 k, c21, c22, .int .i64 z, u24, c25, c26, c27, c28, c29, c30, c31, c32, c33, c34, c35, c36, c37, c38, c39, c40, c41, c42, c43, c44, c45, c46, c47, c48, c49, c50, c51, c52, c53, c54, c55, c56, c57, c58, c59, c60, c61, c62, c63, c64, c65, c66, c67, c68, c69, c70, c71, c72, c73, c74, c75, c76, c77, c78, c79, c80, c81, c82, c83, c84, c85, c86, c87, c88, c89, c90, c91, c92, c93, c94, c95, c96, c97, c98, c99, u100, u101, u102, u103, u104, u105, u106, u107, u108, u109, u110, u111, u112, u113, u114, u115, c116, c117, c118, c119, c120, c121, c122, c123, c124, c125, c126, c127, c128, c129, c130, c131, c132, c133, c134, c135, c136, c137, c138, c139, c140, c141, c142, c143, c144, c145, c146, c147, c148, c149, c150, c151, c152, c153, c154, c155, c156, c157, c158, c159, c160, c161, c162, c163, c164, c165, c166, c167, c168, c169, c170, c171, c172, c173, c174, c175, c176, c177, c178, c179, c180, c181, c182, c183, c184, c185, c186, c187, c188, c189, c190, c191, c192, c193, c194, c195, c196, c197, c198, c199, c200, c201, c202, c203, c204, c205, c206, c207, c208, c209, c210, c211, c212, c213, c214, c215, c216, c217, c218, c219, c220, c221, c222, c223, c224, c225, c226, c227, c228, c229, c230, c231, c232, c233, c234, c235, c236, c237, c238, c239, c240, c241, c242, c243, c244, c245, c246, c247, c248, c249, c250, c251, c252, c253, c254, c255, c256, c257, c258, c259, c260, c261, c262, c263, c264, c265, c266, c267, c268, c269, c270, c271, c272, c273, c274, c275, c276, c277, c278, c279, c280, c281, c282, c283, c284, c285, c286, c287, c288, c289, c290, c291, c292, c293, c294, c295, c296, c297, c298, c299, c300, c301, c302, c303, c304, c305, c306, c307, c308, c309, c310, c311, c312, c313, c314, c315, c316, c317, c318, c319, c320, c321, c322, c323, c324, c325, c326, c327, c328, c329, c330, c331, c332, c333, c334, c335, c336, c337, c338, c339, c340, c341, c342, c343, c344, c345, c346, c347, c348, c349, c350, c351, c352, c353, c354, c355, c356, c357, c358, c359, c360, c361, c362, c363, c364, c365, c366, c367, c368, c369, c370, c371, c372, c373, c374, c375, c376, c377, c378, c379, c380, c381, c382, c383, c384], []⟩ w') :
    Code.wp Tryd.prog ((Tryd.f5.body.bind (blockAt 2)).getD .skip) Q ⟨#[c0, c1, .slice (some ⟨b, off, none⟩) nn nc, c3, c4, c5, c6, c7, c8, c9, c10, c11, c12, c13, c14, c15, c16, .slice ha hn hc, c18, c19, .int .i64 k, c21, c22, .int .i64 (-1), .int .i64 0, c25, c26, c27, c28, c29, c30, c31, c32, c33, c34, c35, c36, c37, c38, c39, c40, c41, c42, c43, c44, c45, c46, c47, c48, c49, c50, c51, c52, c53, c54, c55, c56, c57, c58, c59, c60, c61, c62, c63, c64, c65, c66, c67, c68, c69, c70, c71, c72, c73, c74, c75, c76, c77, c78, c79, c80, c81, c82, c83, c84, c85, c86, c87, c88, c89, c90, c91, c92, c93, c94, c95, c96, c97, c98, c99, c100, c101, c102, c103, c104, c105, c106, c107, c108, c109, c110, c111, c112, c113, c114, c115, c116, c117, c118, c119, c120, c121, c122, c123, c124, c125, c126, c127, c128, c129, c130, c131, c132, c133, c134, c135, c136, c137, c138, c139, c140, c141, c142, c143, c144, c145, c146, c147, c148, c149, c150, c151, c152, c153, c154, c155, c156, c157, c158, c159, c160, c161, c162, c163, c164, c165, c166, c167, c168, c169, c170, c171, c172, c173, c174, c175, c176, c177, c178, c179, c180, c181, c182, c183, c184, c185, c186, c187, c188, c189, c190, c191, c192, c193, c194, c195, c196, c197, c198, c199, c200, c201, c202, c203, c204, c205, c206, c207, c208, c209, c210, c211, c212, c213, c214, c215, c216, c217, c218, c219, c220, c221, c222, c223, c224, c225, c226, c227, c228, c229, c230, c231, c232, c233, c234, c235, c236, c237, c238, c239, c240, c241, c242, c243, c244, c245, c246, c247, c248, c249, c250, c251, c252, c253, c254, c255, c256, c257, c258, c259, c260, c261, c262, c263, c264, c265, c266, c267, c268, c269, c270, c271, c272, c273, c274, c275, c276, c277, c278, c279, c280, c281, c282, c283, c284, c285, c286, c287, c288, c289, c290, c291, c292, c293, c294, c295, c296, c297, c298, c299, c300, c301, c302, c303, c304, c305, c306, c307, c308, c309, c310, c311, c312, c313, c314, c315, c316, c317, c318, c319, c320, c321, c322, c323, c324, c325, c326, c327, c328, c329, c330, c331, c332, c333, c334, c335, c336, c337, c338, c339, c340, c341, c342, c343, c344, c345, c346, c347, c348, c349, c350, c351, c352, c353, c354, c355, c356, c357, c358, c359, c360, c361, c362, c363, c364, c365, c366, c367, c368, c369, c370, c371, c372, c373, c374, c375, c376, c377, c378, c379, c380, c381, c382, c383, c384], []⟩ wz := by
  conv => arg 2; whnf
  have HAT := hide hat
  have HN := hide hN
  have HL := hide hl
  have HQ := hide hQ
  have HK := hide hK
  have i1 : (k : Int) < (nn : Int) := by omega
  have i3 : (0 : Int) ≤ (k : Int) := by omega
  clear hat hN hl hQ hK
  go_wp2_with fail
  go_loopw [23, 24] (fun sz sj wx => ∃ (j : Nat) (z : Int), sz = .int .i64 z ∧ sj = .int .i64 j ∧ j ≤ hn ∧ -1 ≤ z ∧ z < 20 ∧ Hid (Found H j a z) ∧ Hid (Vp w wx F V v (.slice ha hn hc) H (.slice ba hn bc) xs (P.map fun p => M.deal p m) (.slice ca hn cc) ys (P.map M.commits))) (fun _ sj _ => hn - (intOf sj).toNat)
  case atStart => exact ⟨0, -1, rfl, rfl, Nat.zero_le _, by omega, by omega, hide (Found.start H a), HK⟩
  case round =>
    clear HK
    obtain ⟨j, z, rfl, rfl, hj, hz1, hz2, hFD, hK⟩ := hrel
    by_cases hjn : j < hn
    · have hjH : j < H.length := by have := HL.out; omega
      have j1 : (j : Int) < (hn : Int) := by omega
      have j2 : (0 : Int) ≤ (j : Int) := by omega
      obtain ⟨g, rfl, c1⟩ := hK.out.nameAt HL.out hjH
      have c2 := HAT.out _ hK.out.bel
      by_cases he : H[j] = a
      · have HF2 := hide (Found.hit z hjH he)
        have hb : (H[j].toList == a.toList) = true := txtEq.2 he
        clear he
        generalize H[j] = y at *
        go_wp2_with fail
        go_quiet (fail)
        go_wp2_with fail
        go_roundw
        case rel => exact ⟨j + 1, j, rfl, by go_num, by omega, by omega, by omega, HF2, hide (hK.out.quiet (Go.below_drewN (Below.refl _ _) _))⟩
        case measure => simp [intOf]; omega
      · have HF2 := hide (hFD.out.miss hjH he)
        have hb : (H[j].toList == a.toList) = false := by
          cases hq : (H[j].toList == a.toList)
          · rfl
          · exact absurd (txtEq.1 hq) he
        clear he
        generalize H[j] = y at *
        go_wp2_with fail
        go_quiet (fail)
        go_wp2_with fail
        go_roundw
        case rel => exact ⟨j + 1, z, rfl, by go_num, by omega, by omega, by omega, HF2, hide (hK.out.quiet (Go.below_drewN (Below.refl _ _) _))⟩
        case measure => simp [intOf]; omega
    · have j1 : ¬ (j : Int) < (hn : Int) := by omega
      have HSD : Hid (Stands v P hn a z) := hide (by
        have := hFD.out.stands HN.out (by have := HL.out; omega)
        rwa [HL.out] at this)
      clear hFD
      go_wp2_with fail
      exact HQ.out _ _ _ _ _ _ _ _ _ _ _ _ _ _ _ _ _ _ _ hz1 hz2 HSD.out hK.out

end Go.Proofs.YtlefhfmckimlaajDoor.vaultPlays
