/-
  One that is asked, as the Go function LogKeeps does it: the round of its inner loop.
-/
import Derived.Test.YtlefhfmckimlaakGreatDoorLkCode
import Derived.BigQuiet
import Derived.Deep.QuietTactic
import Derived.Deep.CutRange
import Derived.Deep.CutBlock
import Derived.Test.YtlefhfmckimlaakGreatDoorLkTail3
set_option linter.unusedVariables false
set_option linter.unusedSimpArgs false
namespace Go.Proofs.YtlefhfmckimlaakGreatDoor.logKeeps
open Go.RowKit
attribute [local go_sem ↓] Go.wp_at_zero Go.wp_at_succ

set_option maxHeartbeats 4000000 in
set_option maxRecDepth 1000000 in
theorem blk3 {Q : Exit → Act → World → Prop} {w wz : World} {J p : Nat} {gd dc gm mc : Nat} {Cs : Nat → Nat} {g : M.Lg} {ra : Option Addr} {rn rc : Nat} {R : List M.Rul} {b off an ac q : Nat} {sa : Option Addr} {sn sc : Nat} {a : Option Addr} {n cp : Nat} {x : M.Ask}
    (c0 c3 c4 c5 c6 c7 c8 c9 c10 c11 c12 c13 c14 c15 c16 c17 c18 c19 c20 c22 c23 c27 c28 c29 c30 c31 c32 c33 c34 c35 c36 c37 c38 c39 c40 c41 c42 c43 c44 c45 c46 c47 c48 c49 c50 c51 c52 c53 c54 c55 c56 c57 c58 c59 c60 c61 c62 c63 c64 c65 c66 c67 c68 c69 c70 c71 c72 c73 c74 c75 c76 c77 c78 c79 c80 c81 c82 c83 c84 c85 c86 c87 c88 c89 c90 c91 c92 c93 c94 c95 c96 c97 c98 c99 c100 c101 c102 c103 c104 c105 c106 c107 c108 c109 c110 c111 c112 c113 c114 c115 c116 c117 c118 c119 c120 c121 c122 c123 c124 c125 c126 c127 c128 c129 c130 c131 c132 c133 c134 c135 c136 c137 c138 c139 c140 c141 c142 c143 c144 c145 c146 c147 c148 c149 c150 c151 c152 c153 c154 c155 c156 c157 c158 c159 c160 c161 c162 c163 c164 c165 c166 c167 c168 c169 c170 c171 c172 c173 c174 c175 c176 c177 c178 c179 c180 c181 c182 c183 c184 c185 c186 c187 c188 c189 c190 c191 c192 c193 c194 c195 c196 c197 c198 c199 c200 c201 c202 c203 c204 c205 c206 c207 c208 c209 c210 c211 c212 c213 c214 c215 c216 c217 c218 c219 c220 c221 c222 c223 c224 c225 c226 c227 c228 c229 c230 c231 c232 c233 c234 c235 c236 c237 c238 c239 c240 c241 c242 c243 c244 c245 c246 c247 c248 c249 c250 c251 c252 c253 c254 c255 c256 c257 c258 c259 c260 c261 c262 c263 c264 c265 c266 c267 c268 c269 c270 c271 c272 c273 c274 c275 c276 c277 c278 c279 c280 c281 c282 c283 c284 c285 c286 c287 c288 c289 c290 c291 c292 c293 c294 c295 c296 c297 c298 c299 c300 c301 c302 c303 c304 c305 c306 c307 c308 c309 c310 c311 c312 c313 c314 c315 c316 c317 c318 c319 c320 c321 c322 c323 c324 c325 c326 c327 c328 c329 c330 c331 c332 c333 c334 c335 c336 c337 c338 c339 c340 c341 c342 c343 c344 c345 c346 c347 c348 c349 c350 c351 c352 c353 c354 c355 c356 c357 c358 c359 c360 c361 c362 c363 c364 c365 c366 c367 c368 c369 c370 c371 c372 c373 c374 c375 c376 c377 c378 c379 c380 c381 c382 c383 c384 c385 c386 c387 c388 c389 c390 c391 c392 c393 c394 c395 c396 c397 c398 c399 c400 : Value) (hq : q < an) (han : an ≤ 9223372036854775807) (hsn : sn ≤ 9223372036854775807) (hp : p = g.cs.length) (hv : IsVals w (.slice a n cp) x.t) (hat : ∀ wy, Below w.heap.size w wy → wy.cell? ⟨b, off + q * 4, none⟩ = some (.int .i64 x.who) ∧ wy.cell? ⟨b, off + q * 4 + 1, none⟩ = some (.int .i64 x.seq) ∧ wy.cell? ⟨b, off + q * 4 + 2, none⟩ = some (.int .i64 x.deed) ∧ wy.cell? ⟨b, off + q * 4 + 3, none⟩ = some (.slice a n cp))
    (hSY : (q : Int) < sn → ∃ b2 o2 z, sa = some ⟨b2, o2, none⟩ ∧ ∀ wy, Below w.heap.size w wy → wy.cell? ⟨b2, o2 + q, none⟩ = some (.int .i64 z)) (hH : Hand w) (hT : Tab w) (hK : Lk w wz J (.slice (some ⟨gd, 0, none⟩) p dc) (.slice (some ⟨gm, 0, none⟩) p mc) p Cs g.cs g.ms g ra rn rc R)
    (hQ : ∀ (u23 u29 u30 u31 u32 u33 u34 u35 u36 u37 u38 u39 u40 u41 u159 u160 u161 u162 u163 u164 u165 u166 u167 u168 u169 u170 u171 u172 u173 u174 u175 u176 u177 u178 u179 u180 u181 u182 u183 u184 u185 u186 u187 u188 u189 u190 u191 u192 u193 u194 u195 u196 u197 u198 u199 u200 u201 u202 u203 u204 u205 u206 u207 u208 u209 u210 u211 u212 u213 u214 u215 u216 u217 u218 u219 u220 u221 u222 u223 u224 u225 u226 u227 u228 u229 u230 u231 u232 u233 u234 u235 u236 u237 u238 u239 u240 u241 u242 u243 u244 u245 u246 u247 u248 u249 u250 u251 u252 u253 u254 u255 u256 u257 u258 u259 u260 u261 u262 u263 u264 u265 u266 u267 u268 u269 u270 u271 u272 u273 u274 u275 u276 u277 u278 u279 u280 u281 u282 u283 u284 u285 u286 u287 u288 u289 u290 u291 u292 u293 u294 u295 u296 u297 u298 u299 u300 u301 u302 u303 u304 u305 u306 u307 u308 u309 : Value) (w' : World) (g' : M.Lg) (Cs' : Nat → Nat) (gd' dc' gm' mc' p' : Nat), p' = g'.cs.length → Lk w w' J (.slice (some ⟨gd', 0, none⟩) p' dc') (.slice (some ⟨gm', 0, none⟩) p' mc') p' Cs' g'.cs g'.ms g' ra rn rc R → Q .normal ⟨#[c0, .slice (some ⟨b, off, none⟩) an ac, .slice sa sn sc, c3, c4, c5, c6, c7, c8, c9, c10, c11, c12, c13, c14, c15, c16, c17, c18, c19, c20, .pointer (some ⟨J, 0, none⟩), c22, u23, .slice (some ⟨gd', 0, none⟩) p' dc', .slice (some ⟨gm', 0, none⟩) p' mc', .int .i64 ((q : Int) + 1), c27, c28, u29, u30, u31, u32, u33, u34, u35, u36, u37, u38, u39, u40, u41, c42, c43, c44, c45, c46, c47, c48, c49, c50, c51, c52, c53, c54, c55, c56, c57, c58, c59, c60, c61, c62, c63, c64, c65, c66, c67, c68, c69, c70, c71, c72, c73, c74, c75, c76, c77, c78, c79, c80, c81, c82, c83, c84, c85, c86, c87, c88, c89, c90, c91, c92, c93, c94, c95, c96, c97, c98, c99, c100, c101, c102, c103, c104, c105, c106, c107, c108, c109, c110, c111, c112, c113, c114, c115, c116, c117, c118, c119, c120, c121, c122, c123, c124, c125, c126, c127, c128, c129, c130, c131, c132, c133, c134, c135, c136, c137, c138, c139, c140, c141, c142, c143, c144, c145, c146, c147, c148, c149, c150, c151, c152, c153, c154, c155, c156, c157, c158, u159, u160, u161, u162, u163, u164, u165, u166, u167, u168, u169, u170, u171, u172, u173, u174, u175, u176, u177, u178, u179, u180, u181, u182, u183, u184, u185, u186, u187, u188, u189, u190, u191, u192, u193, u194, u195, u196, u197, u198, u199, u200, u201, u202, u203, u204, u205, u206, u207, u208, u209, u210, u211, u212, u213, u214, u215, u216, u217, u218, u219, u220, u221, u222, u223, u224, u225, u226, u227, u228, u229, u230, u231, u232, u233, u234, u235, u236, u237, u238, u239, u240, u241, u242, u243, u244, u245, u246, u247, u248, u249, u250, u251, u252, u253, u254, u255, u256, u257, u258, u259, u260, u261, u262, u263, u264, u265, u266, u267, u268, u269, u270, u271, u272, u273, u274, u275, u276, u277, u278, u279, u280, u281, u282, u283, u284, u285, u286, u287, u288, u289, u290, u291, u292, u293, u294, u295, u296, u297, u298, u299, u300, u301, u302, u303, u304, u305, u306, u307, u308, u309, c310, c311, c312, c313, c314, c315, c316, c317, c318, c319, c320, c321, c322, c323, c324, c325, c326, c327, c328, c329, c330, c331, c332, c333, c334, c335, c336, c337, c338, c339, c340, c341, c342, c343, c344, c345, c346, c347, c348, c349, c350, c351, c352, c353, c354, c355, c356, c357, c358, c359, c360, c361, c362, c363, c364, c365, c366, c367, c368, c369, c370, c371, c372, c373, c374, c375, c376, c377, c378, c379, c380, c381, c382, c383, c384, c385, c386, c387, c388, c389, c390, c391, c392, c393, c394, c395, c396, c397, c398, c399, c400], []⟩ w') :
    Code.wp Tryz.prog ((Tryz.f3.body.bind (blockAt 3)).getD .skip) Q ⟨#[c0, .slice (some ⟨b, off, none⟩) an ac, .slice sa sn sc, c3, c4, c5, c6, c7, c8, c9, c10, c11, c12, c13, c14, c15, c16, c17, c18, c19, c20, .pointer (some ⟨J, 0, none⟩), c22, c23, .slice (some ⟨gd, 0, none⟩) p dc, .slice (some ⟨gm, 0, none⟩) p mc, .int .i64 (q : Nat), c27, c28, c29, c30, c31, c32, c33, c34, c35, c36, c37, c38, c39, c40, c41, c42, c43, c44, c45, c46, c47, c48, c49, c50, c51, c52, c53, c54, c55, c56, c57, c58, c59, c60, c61, c62, c63, c64, c65, c66, c67, c68, c69, c70, c71, c72, c73, c74, c75, c76, c77, c78, c79, c80, c81, c82, c83, c84, c85, c86, c87, c88, c89, c90, c91, c92, c93, c94, c95, c96, c97, c98, c99, c100, c101, c102, c103, c104, c105, c106, c107, c108, c109, c110, c111, c112, c113, c114, c115, c116, c117, c118, c119, c120, c121, c122, c123, c124, c125, c126, c127, c128, c129, c130, c131, c132, c133, c134, c135, c136, c137, c138, c139, c140, c141, c142, c143, c144, c145, c146, c147, c148, c149, c150, c151, c152, c153, c154, c155, c156, c157, c158, c159, c160, c161, c162, c163, c164, c165, c166, c167, c168, c169, c170, c171, c172, c173, c174, c175, c176, c177, c178, c179, c180, c181, c182, c183, c184, c185, c186, c187, c188, c189, c190, c191, c192, c193, c194, c195, c196, c197, c198, c199, c200, c201, c202, c203, c204, c205, c206, c207, c208, c209, c210, c211, c212, c213, c214, c215, c216, c217, c218, c219, c220, c221, c222, c223, c224, c225, c226, c227, c228, c229, c230, c231, c232, c233, c234, c235, c236, c237, c238, c239, c240, c241, c242, c243, c244, c245, c246, c247, c248, c249, c250, c251, c252, c253, c254, c255, c256, c257, c258, c259, c260, c261, c262, c263, c264, c265, c266, c267, c268, c269, c270, c271, c272, c273, c274, c275, c276, c277, c278, c279, c280, c281, c282, c283, c284, c285, c286, c287, c288, c289, c290, c291, c292, c293, c294, c295, c296, c297, c298, c299, c300, c301, c302, c303, c304, c305, c306, c307, c308, c309, c310, c311, c312, c313, c314, c315, c316, c317, c318, c319, c320, c321, c322, c323, c324, c325, c326, c327, c328, c329, c330, c331, c332, c333, c334, c335, c336, c337, c338, c339, c340, c341, c342, c343, c344, c345, c346, c347, c348, c349, c350, c351, c352, c353, c354, c355, c356, c357, c358, c359, c360, c361, c362, c363, c364, c365, c366, c367, c368, c369, c370, c371, c372, c373, c374, c375, c376, c377, c378, c379, c380, c381, c382, c383, c384, c385, c386, c387, c388, c389, c390, c391, c392, c393, c394, c395, c396, c397, c398, c399, c400], []⟩ wz := by
  conv => arg 2; whnf
  have HAT := hide hat
  have HQ := hide hQ
  have HH := hide hH
  have HT := hide hT
  have HV := hide hv
  have HSY := hide hSY
  have hok := hK.ok
  have hp31 : p ≤ 31 := by have := hok.len; have := hok.few; omega
  have hp0 : 0 < p := by have := hok.len; have := hok.pos; omega
  have hpl : p = g.ms.length := by have := hok.len; omega
  have HP := hide hp
  have HPM := hide hpl
  have HOK := hide hok
  have HK := hide hK
  have q0 : (0 : Int) ≤ (q : Int) := by omega
  have q9 : (q : Int) < (an : Int) := by omega
  clear hat hQ hH hT hv hSY hok hp hpl hK
  go_upto_region 27 with fail
  dsimp only
  go_cut [181] from 159 to 309 (fun s wx => s = .bool false ∧ ∃ g1, Hid (g1.cs = g.cs ∧ g1.ms = g.ms) ∧ Hid (Lk w wx J (.slice (some ⟨gd, 0, none⟩) p dc) (.slice (some ⟨gm, 0, none⟩) p mc) p Cs g.cs g.ms g1 ra rn rc R))
  case first =>
    by_cases s1 : (q : Int) < (sn : Int)
    · obtain ⟨b2, o2, z, rfl, hz⟩ := HSY.out s1
      have z0 := hz _ HK.out.bel
      have zl := World.block_lt_of_cell? _ _ z0
      by_cases s2 : z = 1
      · subst s2
        have HS := hide HK.out.sync
        have HW := hide (sync_ways g)
        obtain ⟨g1, hg1⟩ : ∃ g1, g1 = (M.lgSync g).2 := ⟨_, rfl⟩
        obtain ⟨E, hE⟩ : ∃ E, E = (M.lgSync g).1 := ⟨_, rfl⟩
        rw [← hg1, ← hE] at HS HW
        have HC := hide HW.out.2
        clear hg1 hE hz
        rcases HW.out.1 with e1 | ⟨e1, e2⟩
        · rw [errV_bad e1] at HS
          clear HW e1
          go_wp2_with fail
          refine (unhide HS).mono ?_
          rintro e w1 ⟨rfl, hK1⟩
          have HK1 := hide hK1
          clear hK1 HS
          go_wp2_with fail
          go_meet
          case rel => exact ⟨rfl, g1, HC, HK1⟩
        · subst e1
          have HS0 : Hid (Calls Tryz.prog 10 #[.pointer (some ⟨J, 0, none⟩)] wz fun e w' => e = .returned .nilIface ∧ Lk w w' J (.slice (some ⟨gd, 0, none⟩) p dc) (.slice (some ⟨gm, 0, none⟩) p mc) p Cs g.cs g.ms g1 ra rn rc R) := HS
          have HE2 := hide e2
          clear HW e2 HS
          go_wp2_with fail
          refine (unhide HS0).mono ?_
          rintro e w1 ⟨rfl, hK1⟩
          have HSF := hide hK1.safe
          rw [HE2.out] at HSF
          clear hK1 HS0
          go_wp2_with fail
          refine (unhide HSF).mono ?_
          rintro e w2 ⟨rfl, hK2⟩
          have HBY := hide hK2.bytes
          clear hK2 HSF
          generalize g1.bytes = bb at *
          go_wp2_with fail
          refine (unhide HBY).mono ?_
          rintro e w3 ⟨rfl, hK3⟩
          have HK3 := hide hK3
          clear hK3 HBY
          go_wp2_with fail
          go_meet
          case rel => exact ⟨rfl, g1, HC, HK3⟩
      · have s3 : (z == 1) = false := by simpa using s2
        clear s2 hz
        go_wp2_with fail
        go_meet
        case rel => exact ⟨rfl, g, hide ⟨rfl, rfl⟩, HK⟩
    · go_wp2_with fail
      go_meet
      case rel => exact ⟨rfl, g, hide ⟨rfl, rfl⟩, HK⟩
  case rest =>
    obtain ⟨rfl, g1, HC1, HK1⟩ := hcut
    clear HK HSY
    have HOK1 := hide HK1.out.ok
    obtain ⟨r, rfl⟩ : ∃ r, p = r + 1 := ⟨p - 1, by omega⟩
    have hr : r < g.cs.length := by have := HP.out; omega
    -- where the rows lie
    obtain ⟨gd2, dc2, gm2, mc2, e1, e2, ⟨d1, d2⟩, ⟨m1, m2⟩, hrows⟩ := HK1.out.rows hp0 (by have := HPM.out; omega)
    simp only [Value.slice.injEq, Option.some.injEq, Addr.mk.injEq, and_true, true_and] at e1 e2
    obtain ⟨rfl, rfl⟩ := e1
    obtain ⟨rfl, hx9, rfl⟩ := e2
    clear hx9
    have n1 := (hrows _ (Below.refl _ _)).1 r (by omega)
    have nl := World.block_lt_of_cell? _ _ n1
    unfold maxLen at d2 m2
    obtain ⟨c, hc⟩ : ∃ c, c = g.cs[r] := ⟨_, rfl⟩
    have HCC : Hid (g1.cop = c ∧ c.n = r) := hide (by
      have h1 := HK1.out.ok.cop_at
      have h2 := HK1.out.ok.cop_ok.2
      have h3 : g1.cs.length = r + 1 := by rw [HC1.out.1]; exact HP.out.symm
      have h4 : g1.cop = c := by
        rw [h1, hc]
        have : g1.cs = g.cs := HC1.out.1
        simp only [this, ← HP.out, Nat.add_sub_cancel]
      exact ⟨h4, by rw [← h4]; omega⟩)
    have hcn : c.n ≤ 31 := by have := HCC.out.2; omega
    have HTW := hide (HK1.out.twin (i := r) hr (by rw [← hc]; omega))
    rw [← hc, ← HP.out] at HTW
    clear hc hrows HK1
    go_wp2_with fail
    refine (unhide HTW).mono ?_
    rintro e w2 ⟨C', rfl, hK2⟩
    have hcl : (up Cs (r + 1) C') g.cs.length = C' := by rw [← HP.out]; exact up_same _ _ _
    obtain ⟨z1, z2, z3, z4⟩ := HAT.out w2 hK2.bel
    have zl := World.block_lt_of_cell? _ _ z1
    have HA := hide (hK2.act (cl := g.cs) x hcl HV.out (show c.n < 1000 by omega))
    obtain ⟨E0, hE0⟩ : ∃ E0, E0 = (M.doR R c x).1 := ⟨_, rfl⟩
    obtain ⟨S0, hS0⟩ : ∃ S0, S0 = (M.doR R c x).2.1 := ⟨_, rfl⟩
    obtain ⟨c2, hc2⟩ : ∃ c2, c2 = (M.doR R c x).2.2 := ⟨_, rfl⟩
    have HDO := hide (And.intro hE0 (And.intro hS0 hc2))
    rw [← hE0, ← hS0, ← hc2] at HA
    have HCL := hide hcl
    clear hE0 hS0 hc2 hK2 HTW hcl n1 nl
    go_wp2_with fail
    refine (unhide HA).mono ?_
    rintro e w3 ⟨rfl, hK3⟩
    dsimp only
    have HK3 := hide hK3
    obtain ⟨k1, kl1⟩ := hK3.many (i := g.cs.length) (by simp)
    obtain ⟨k2, kl2⟩ := hK3.many (i := r) (by simp; omega)
    rw [HCL.out] at k1 kl1
    simp only [List.getElem_concat_length] at k1
    rw [up_other Cs C' (show r ≠ r + 1 by omega), List.getElem_append_left hr] at k2
    rw [up_other Cs C' (show r ≠ r + 1 by omega)] at kl2
    have HCR : Hid (g.cs[r] = c) := hide (by
      have h1 := HK3.out.ok.cop_at
      have h3 : g1.cs.length = r + 1 := by rw [HC1.out.1]; exact HP.out.symm
      rw [← HCC.out.1, h1]
      have : g1.cs = g.cs := HC1.out.1
      simp only [this, ← HP.out, Nat.add_sub_cancel])
    rw [HCR.out] at k2
    have HAG : Hid ((E0 ≠ 0 ∧ wAg R c x = false) ∨ (E0 = 0 ∧ wAg R c x = ((c2.n : Int) == (c.n : Int)))) := hide (by
      unfold wAg
      rw [← HDO.out.1, ← HDO.out.2.2]
      by_cases h : E0 = 0
      · refine Or.inr ⟨h, ?_⟩
        by_cases h2 : c2.n = c.n
        · simp [h, h2]
        · have h3 : ¬ (c2.n : Int) = (c.n : Int) := by omega
          simp [h, h2, h3]
      · exact Or.inl ⟨h, by simp [h]⟩)
    obtain ⟨Ag, hAg⟩ : ∃ Ag, Ag = wAg R c x := ⟨_, rfl⟩
    rw [← hAg] at HAG
    have HAE := hide hAg
    clear hAg hK3 HA z1 z2 z3 z4 zl
    go_upto_region 32 with fail
    go_cut [33] from 159 to 309 (fun s wx => s = .bool Ag ∧ Hid (Lk w wx J (.slice (some ⟨gd, 0, none⟩) (r + 1) dc) (.slice (some ⟨gm, 0, none⟩) (r + 1) mc) (r + 1) (up Cs (r + 1) C') (g.cs ++ [c2]) g.ms g1 ra rn rc R))
    case first =>
      rcases HAG.out with ⟨h1, h2⟩ | ⟨h1, h2⟩
      · subst h2
        have h3 : (E0 == 0) = false := by simpa using h1
        clear h1
        go_quiet (fail)
        go_wp2_with fail
        go_meet
        case rel => exact ⟨rfl, hide (HK3.out.quiet (Go.below_drewN (Below.refl _ _) _))⟩
      · subst h1 h2
        go_quiet (fail)
        go_wp2_with fail
        go_meet
        case rel => exact ⟨rfl, hide (HK3.out.quiet (Go.below_drewN (Below.refl _ _) _))⟩
    case rest =>
      obtain ⟨rfl, HK4⟩ := hcut
      clear HK3 HAG k1 kl1 k2 kl2
      go_upto_region 33 with fail
      go_cut [222] from 159 to 309 (fun s wx => ∃ Bd, s = .bool Bd ∧ Hid (Bd = decide (E0 = 0 ∧ Ag = false ∧ 30 < r + 1)) ∧ Hid (Lk w wx J (.slice (some ⟨gd, 0, none⟩) (r + 1) dc) (.slice (some ⟨gm, 0, none⟩) (r + 1) mc) (r + 1) (up Cs (r + 1) C') (g.cs ++ [c2]) g.ms g1 ra rn rc R))
      case first =>
        by_cases h1 : E0 = 0
        · subst h1
          cases Ag
          · by_cases h3 : (30 : Int) < (r : Int) + 1
            · go_wp2_with fail
              go_meet
              case rel => exact ⟨true, rfl, hide (by simp; omega), HK4⟩
            · go_wp2_with fail
              go_meet
              case rel => exact ⟨false, by first | rfl | (simp; omega), hide (by simp; omega), HK4⟩
          · go_wp2_with fail
            go_meet
            case rel => exact ⟨false, rfl, hide (by simp), HK4⟩
        · have h2 : (E0 == 0) = false := by simpa using h1
          have HB : Hid (false = decide (E0 = 0 ∧ Ag = false ∧ 30 < r + 1)) := hide (by simp [h1])
          clear h1
          go_wp2_with fail
          go_meet
          case rel => exact ⟨false, rfl, HB, HK4⟩
      case rest =>
        obtain ⟨Bd, rfl, HBD, HK5⟩ := hcut
        clear HK4
        have HWE : Hid (wE R c x (r + 1) = (if Bd then 4 else E0) ∧ wS R c x (r + 1) = (if Bd then M.sNo else S0)) := hide (by
          unfold wE wS
          rw [← HDO.out.1, ← HDO.out.2.1, ← HAE.out, HBD.out]
          by_cases h : E0 = 0 ∧ Ag = false ∧ 30 < r + 1
          · simp [h]
          · simp [h])
        obtain ⟨WE, hWE⟩ : ∃ WE, WE = wE R c x (r + 1) := ⟨_, rfl⟩
        obtain ⟨WS, hWS⟩ : ∃ WS, WS = wS R c x (r + 1) := ⟨_, rfl⟩
        rw [← hWE, ← hWS] at HWE
        have HWX := hide (And.intro hWE hWS)
        clear hWE hWS HBD
        go_upto_if 222 with fail
        go_cut [31, 32] from 159 to 309 (fun s31 s32 wx => s31 = .string WS ∧ s32 = .int .i64 WE ∧ Hid (Lk w wx J (.slice (some ⟨gd, 0, none⟩) (r + 1) dc) (.slice (some ⟨gm, 0, none⟩) (r + 1) mc) (r + 1) (up Cs (r + 1) C') (g.cs ++ [c2]) g.ms g1 ra rn rc R))
        case first =>
          cases Bd
          · obtain ⟨h1, h2⟩ := HWE.out
            simp only [Bool.false_eq_true, if_false] at h1 h2
            subst h1 h2
            go_wp2_with fail
            go_meet
            case rel => exact ⟨rfl, rfl, HK5⟩
          · obtain ⟨h1, h2⟩ := HWE.out
            simp only [if_true] at h1 h2
            subst h1 h2
            go_wp2_with fail
            go_meet
            case rel => exact ⟨rfl, rfl, HK5⟩
        case rest =>
          obtain ⟨rfl, rfl, HK6⟩ := hcut
          clear HK5 HWE
          have HBY := hide HK6.out.bytes
          go_wp2_with fail
          refine (unhide HBY).mono ?_
          rintro e w7 ⟨rfl, hK7⟩
          dsimp only
          obtain ⟨z1, z2, z3, z4⟩ := HAT.out w7 hK7.bel
          have zl := World.block_lt_of_cell? _ _ z1
          have HJ := hide (hK7.jdo x (HV.out.stays hK7.bel (Nat.le_refl _)) HT.out)
          clear hK7 HBY HK6
          go_wp2_with fail
          refine (unhide HJ).mono ?_
          rintro e w8 ⟨k, hk2, hk6, rfl, hK8⟩
          dsimp only
          have HK8 := hide hK8
          have HWY := hide (ways HOK1.out x k)
          have HBB : Hid (g1.bytes ≤ 32000000) := hide HOK1.out.bytes_le
          obtain ⟨g2, hg2⟩ : ∃ g2, g2 = (M.lgDo R g1 x k).2.2 := ⟨_, rfl⟩
          obtain ⟨E2, hE2⟩ : ∃ E2, E2 = (M.lgDo R g1 x k).1 := ⟨_, rfl⟩
          obtain ⟨S2, hS2⟩ : ∃ S2, S2 = (M.lgDo R g1 x k).2.1 := ⟨_, rfl⟩
          rw [← hg2, ← hE2, ← hS2] at HWY
          rw [← hE2, ← hS2]
          rw [← hg2] at HK8
          obtain ⟨EV, hEV⟩ : ∃ EV, EV = errV E2 := ⟨_, rfl⟩
          rw [← hEV]
          have HEVV := hide hEV
          obtain ⟨bb, hbb⟩ : ∃ bb, bb = g1.bytes := ⟨_, rfl⟩
          first | rw [← hbb] | skip
          have HBBE := hide hbb
          clear hg2 hE2 hS2 hEV hbb hK8 HJ z1 z2 z3 z4 zl
          have HWT : Hid ((E2 = 6 ∧ S2 = M.sNo ∧ g2.cs = g.cs ∧ g2.ms = g.ms) ∨ (E2 ≠ 0 ∧ E2 = WE ∧ S2 = M.sNo ∧ WS = M.sNo ∧ g2.cs = g.cs ∧ g2.ms = g.ms) ∨ (E2 = 0 ∧ WE = 0 ∧ S2 = WS ∧ Ag = true ∧ g2.cs = g.cs ∧ g2.ms = g.ms ∧ g2.bytes = bb) ∨ (E2 = 0 ∧ WE = 0 ∧ S2 = WS ∧ Ag = false ∧ g2.cs = g.cs ++ [c2] ∧ g2.ms = g.ms ++ [g2.bytes] ∧ bb + 2 ≤ g2.bytes ∧ r + 1 < 31)) := hide (by
            have k0 := HC1.out
            have k1 : g1.cs.length = r + 1 := by rw [k0.1]; exact HP.out.symm
            have k2 := HWY.out
            rw [HCC.out.1, k1, ← HWX.out.1, ← HWX.out.2, ← HAE.out, ← HDO.out.2.2, k0.1, k0.2] at k2
            rw [HBBE.out]
            rcases k2 with ⟨a1, a2, a3, a4⟩ | ⟨a1, a2, a3, a4, a5⟩ | ⟨a1, a2, a3, a4, a5⟩ | ⟨a1, a2, a3, a4, a5, a6, a7, a8⟩
            · exact Or.inl ⟨a1, a2, a3, a4⟩
            · exact Or.inr (Or.inl ⟨a1, a2, a3, a4, by rw [a5]; exact k0.1, by rw [a5]; exact k0.2⟩)
            · exact Or.inr (Or.inr (Or.inl ⟨a1, a2, a3, a4, by rw [a5]; exact k0.1, by rw [a5]; exact k0.2, by rw [a5]⟩))
            · exact Or.inr (Or.inr (Or.inr ⟨a1, a2, a3, a4, a5, by rw [a6, a7], by rw [a7]; omega, a8⟩)))
          have hbb2 : bb ≤ 32000000 := by have := HBB.out; have := HBBE.out; omega
          clear HWY
          go_upto_region 38 with fail
          refine tl3 _ _ _ _ _ _ _ _ _ _ _ _ _ _ _ _ _ _ _ _ _ _ _ _ _ _ _ _ _ _ _ _ _ _ _ _ _ _ _ _ _ _ _ _ _ _ _ _ _ _ _ _ _ _ _ _ _ _ _ _ _ _ _ _ _ _ _ _ _ _ _ _ _ _ _ _ _ _ _ _ _ _ _ _ _ _ _ _ _ _ _ _ _ _ _ _ _ _ _ _ _ _ _ _ _ _ _ _ _ _ _ _ _ _ _ _ _ _ _ _ _ _ _ _ _ _ _ _ _ _ _ _ _ _ _ _ _ _ _ _ _ _ _ _ _ _ _ _ _ _ _ _ _ _ _ _ _ _ _ _ _ _ _ _ _ _ _ _ _ _ _ _ _ _ _ _ _ _ _ _ _ _ _ _ _ _ _ _ _ _ _ _ _ _ _ _ _ _ _ _ _ _ _ _ _ _ _ _ _ _ _ _ _ _ _ _ _ _ _ _ _ _ _ _ _ _ _ _ _ _ _ _ _ _ _ _ _ _ _ _ _ _ _ _ _ _ _ _ _ _ _ _ _ _ _ _ _ _ _ _ _ _ _ _ _ _ _ _ _ _ _ _ _ _ _ _ _ _ _ _ _ _ _ _ _ _ _ _ _ _ _ _ _ _ _ _ _ _ _ _ _ _ _ _ _ _ _ _ _ _ _ _ _ _ _ _ _ _ _ _ _ _ _ _ _ _ _ _ _ _ _ _ _ _ _ _ _ _ _ _ _ _ _ _ _ _ _ _ _ _ _ _ _ _ _ _ _ _ _ _ _ _ _ _ _ _ _ _ _ _ _ _ _ _ _ _ _ _ _ _ _ _ _ _ _ _ _ _ _ _ rfl (by assumption) (by omega) hbb2 (by omega) hp31 HP.out HPM.out HEVV.out (up_same _ _ _) HWT.out HH.out HT.out HK8.out ?_
          intro v0 v1 v2 v3 v4 v5 v6 v7 v8 v9 v10 v11 v12 v13 v14 v15 v16 v17 v18 v19 v20 v21 v22 v23 v24 v25 v26 v27 v28 v29 v30 v31 v32 v33 v34 v35 v36 v37 v38 v39 v40 v41 v42 v43 v44 v45 v46 v47 v48 v49 v50 v51 v52 v53 v54 v55 v56 v57 v58 v59 v60 v61 v62 v63 v64 v65 v66 v67 v68 v69 v70 v71 v72 v73 v74 v75 v76 v77 v78 v79 v80 v81 w9 gd9 dc9 gm9 mc9 p9 hp9 hL9
          exact HQ.out _ _ _ _ _ _ _ _ _ _ _ _ _ _ _ _ _ _ _ _ _ _ _ _ _ _ _ _ _ _ _ _ _ _ _ _ _ _ _ _ _ _ _ _ _ _ _ _ _ _ _ _ _ _ _ _ _ _ _ _ _ _ _ _ _ _ _ _ _ _ _ _ _ _ _ _ _ _ _ _ _ _ _ _ _ _ _ _ _ _ _ _ _ _ _ _ _ _ _ _ _ _ _ _ _ _ _ _ _ _ _ _ _ _ _ _ _ _ _ _ _ _ _ _ _ _ _ _ _ _ _ _ _ _ _ _ _ _ _ _ _ _ _ _ _ _ _ _ _ _ _ _ _ _ _ _ _ _ _ _ _ _ _ _ _ w9 g2 (up Cs (r + 1) C') gd9 dc9 gm9 mc9 p9 hp9 hL9

end Go.Proofs.YtlefhfmckimlaakGreatDoor.logKeeps
