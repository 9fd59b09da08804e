/-
  What each part is, as the Go function VaultPlays asks it: a loop of its round.
-/
import Derived.Test.YtlefhfmckimlaajDoorVaultPlaysA
import Derived.BigQuiet
import Derived.Deep.QuietTactic
import Derived.Deep.RegionHeld3
import Derived.Deep.CutRange
set_option linter.unusedVariables false
namespace Go.Proofs.YtlefhfmckimlaajDoor.vaultPlays
open Go.RowKit
attribute [local go_sem ↓] Go.wp_at_zero Go.wp_at_succ

set_option maxHeartbeats 4000000 in
set_option maxRecDepth 1000000 in
theorem blk8 {Q : Exit → Act → World → Prop} {w wz : World} {m k : Nat} {F : Nat → Prop} {V : Nat} {v : M.Vlt} {ha : Option Addr} {hc : Nat} {ba : Option Addr} {bc : Nat} {ca : Option Addr} {cc hn : Nat} {H : List ByteArray} {P : List (List Int)} {xs ys : List Value} {b off nn nc : Nat} {a : ByteArray} {z : Int}
    (c1 c3 c4 c5 c6 c7 c8 c9 c10 c11 c12 c13 c15 c16 c17 c21 c22 c24 c25 c26 c27 c28 c29 c30 c31 c32 c33 c34 c35 c36 c38 c39 c40 c41 c42 c43 c44 c45 c46 c47 c48 c49 c50 c51 c52 c53 c54 c55 c56 c57 c58 c59 c60 c61 c62 c63 c64 c65 c66 c67 c68 c69 c70 c71 c72 c73 c74 c75 c76 c77 c78 c79 c80 c81 c82 c83 c84 c85 c86 c87 c88 c89 c90 c91 c92 c93 c94 c95 c96 c97 c98 c99 c100 c101 c102 c103 c104 c105 c106 c107 c108 c109 c110 c111 c112 c113 c114 c115 c116 c117 c118 c119 c120 c121 c122 c123 c124 c125 c126 c127 c128 c129 c130 c131 c132 c133 c134 c135 c136 c137 c138 c139 c140 c141 c142 c143 c144 c145 c146 c147 c148 c149 c150 c151 c152 c153 c154 c155 c156 c157 c158 c159 c160 c161 c162 c163 c164 c165 c166 c167 c168 c169 c170 c171 c172 c173 c174 c175 c176 c177 c178 c179 c180 c181 c182 c183 c184 c185 c186 c187 c188 c189 c190 c191 c192 c193 c194 c195 c196 c197 c198 c199 c200 c201 c202 c203 c204 c205 c206 c207 c208 c209 c210 c211 c212 c213 c214 c215 c216 c217 c218 c219 c220 c221 c222 c223 c224 c225 c226 c227 c228 c229 c230 c231 c232 c233 c234 c235 c236 c237 c238 c239 c240 c241 c242 c243 c244 c245 c246 c247 c248 c249 c250 c251 c252 c253 c254 c255 c256 c257 c258 c259 c260 c261 c262 c263 c264 c265 c266 c267 c268 c269 c270 c271 c272 c273 c274 c275 c276 c277 c278 c279 c280 c281 c282 c283 c284 c285 c286 c287 c288 c289 c290 c291 c292 c293 c294 c295 c296 c297 c298 c299 c300 c301 c302 c303 c304 c305 c306 c307 c308 c309 c310 c311 c312 c313 c314 c315 c316 c317 c318 c319 c320 c321 c322 c323 c324 c325 c326 c327 c328 c329 c330 c331 c332 c333 c334 c335 c336 c337 c338 c339 c340 c341 c342 c343 c344 c345 c346 c347 c348 c349 c350 c351 c352 c353 c354 c355 c356 c357 c358 c359 c360 c361 c362 c363 c364 c365 c366 c367 c368 c369 c370 c371 c372 c373 c374 c375 c376 c377 c378 c379 c380 c381 c382 c383 c384 : Value) (h1 : 1 ≤ m) (h7 : m ≤ 7) (hk : k < nn) (hk3 : k < 30) (hnm : nn ≤ 9223372036854775807) (h20 : hn ≤ 20) (hm : v.many = m) (hpl : P.length = hn) (hs : Stands v P hn a z) (hla : a.size ≤ maxLen) (hat : ∀ wy, Below w.heap.size w wy → wy.cell? ⟨b, off + k, none⟩ = some (.string a)) (hSM : ∀ wx (E : Int), Below w.heap.size w wx → Calls Tryd.prog 12 #[errV E, .int .i64 E] wx fun e w' => e = .returned (.bool true) ∧ Below wx.heap.size wx w') (hK : Vp w wz F V v (.slice ha hn hc) H (.slice ba hn bc) xs (P.map fun p => M.deal p m) (.slice ca hn cc) ys (P.map M.commits))
    (hQ : ∀ (u12 u13 u16 u37 u38 u39 u40 u41 u42 u305 u306 u307 u308 u309 u310 u311 u312 u313 u314 u315 u316 u317 u318 u319 u320 u321 u322 u323 u324 u325 u326 u327 u328 u329 u330 u331 u332 u333 u334 u335 u336 u337 u338 u339 u340 u341 u342 u343 u344 u345 u346 u347 u348 u349 u350 u351 u352 u353 u354 u355 u356 u357 u358 u359 u360 u361 u362 u363 u364 u365 u366 u367 u368 u369 u370 u371 u372 u373 u374 u375 u376 u377 u378 u379 u380 u381 u382 u383 u384 : Value) (w' : World), Vp w w' F V v (.slice ha hn hc) H (.slice ba hn bc) xs (P.map fun p => M.deal p m) (.slice ca hn cc) ys (P.map M.commits) → Q .normal ⟨#[.int .i64 m, c1, .slice (some ⟨b, off, none⟩) nn nc, c3, c4, c5, c6, c7, c8, c9, c10, c11, u12, u13, .pointer (some ⟨V, 0, none⟩), c15, u16, c17, .slice ba hn bc, .slice ca hn cc, .int .i64 k, c21, c22, .int .i64 z, c24, c25, c26, c27, c28, c29, c30, c31, c32, c33, c34, c35, c36, u37, u38, u39, u40, u41, u42, c43, c44, c45, c46, c47, c48, c49, c50, c51, c52, c53, c54, c55, c56, c57, c58, c59, c60, c61, c62, c63, c64, c65, c66, c67, c68, c69, c70, c71, c72, c73, c74, c75, c76, c77, c78, c79, c80, c81, c82, c83, c84, c85, c86, c87, c88, c89, c90, c91, c92, c93, c94, c95, c96, c97, c98, c99, c100, c101, c102, c103, c104, c105, c106, c107, c108, c109, c110, c111, c112, c113, c114, c115, c116, c117, c118, c119, c120, c121, c122, c123, c124, c125, c126, c127, c128, c129, c130, c131, c132, c133, c134, c135, c136, c137, c138, c139, c140, c141, c142, c143, c144, c145, c146, c147, c148, c149, c150, c151, c152, c153, c154, c155, c156, c157, c158, c159, c160, c161, c162, c163, c164, c165, c166, c167, c168, c169, c170, c171, c172, c173, c174, c175, c176, c177, c178, c179, c180, c181, c182, c183, c184, c185, c186, c187, c188, c189, c190, c191, c192, c193, c194, c195, c196, c197, c198, c199, c200, c201, c202, c203, c204, c205, c206, c207, c208, c209, c210, c211, c212, c213, c214, c215, c216, c217, c218, c219, c220, c221, c222, c223, c224, c225, c226, c227, c228, c229, c230, c231, c232, c233, c234, c235, c236, c237, c238, c239, c240, c241, c242, c243, c244, c245, c246, c247, c248, c249, c250, c251, c252, c253, c254, c255, c256, c257, c258, c259, c260, c261, c262, c263, c264, c265, c266, c267, c268, c269, c270, c271, c272, c273, c274, c275, c276, c277, c278, c279, c280, c281, c282, c283, c284, c285, c286, c287, c288, c289, c290, c291, c292, c293, c294, c295, c296, c297, c298, c299, c300, c301, c302, c303, c304, u305, u306, u307, u308, u309, u310, u311, u312, u313, u314, u315, u316, u317, u318, u319, u320, u321, u322, u323, u324, u325, u326, u327, u328, u329, u330, u331, u332, u333, u334, u335, u336, u337, u338, u339, u340, u341, u342, u343, u344, u345, u346, u347, u348, u349, u350, u351, u352, u353, u354, u355, u356, u357, u358, u359, u360, u361, u362, u363, u364, u365, u366, u367, u368, u369, u370, u371, u372, u373, u374, u375, u376, u377, u378, u379, u380, u381, u382, u383, u384], []⟩ w') :
    Code.wp Tryd.prog ((Tryd.f5.body.bind (blockAt 8)).getD .skip) Q ⟨#[.int .i64 m, c1, .slice (some ⟨b, off, none⟩) nn nc, c3, c4, c5, c6, c7, c8, c9, c10, c11, c12, c13, .pointer (some ⟨V, 0, none⟩), c15, c16, c17, .slice ba hn bc, .slice ca hn cc, .int .i64 k, c21, c22, .int .i64 z, c24, c25, c26, c27, c28, c29, c30, c31, c32, c33, c34, c35, c36, .int .i64 0, c38, c39, c40, c41, c42, c43, c44, c45, c46, c47, c48, c49, c50, c51, c52, c53, c54, c55, c56, c57, c58, c59, c60, c61, c62, c63, c64, c65, c66, c67, c68, c69, c70, c71, c72, c73, c74, c75, c76, c77, c78, c79, c80, c81, c82, c83, c84, c85, c86, c87, c88, c89, c90, c91, c92, c93, c94, c95, c96, c97, c98, c99, c100, c101, c102, c103, c104, c105, c106, c107, c108, c109, c110, c111, c112, c113, c114, c115, c116, c117, c118, c119, c120, c121, c122, c123, c124, c125, c126, c127, c128, c129, c130, c131, c132, c133, c134, c135, c136, c137, c138, c139, c140, c141, c142, c143, c144, c145, c146, c147, c148, c149, c150, c151, c152, c153, c154, c155, c156, c157, c158, c159, c160, c161, c162, c163, c164, c165, c166, c167, c168, c169, c170, c171, c172, c173, c174, c175, c176, c177, c178, c179, c180, c181, c182, c183, c184, c185, c186, c187, c188, c189, c190, c191, c192, c193, c194, c195, c196, c197, c198, c199, c200, c201, c202, c203, c204, c205, c206, c207, c208, c209, c210, c211, c212, c213, c214, c215, c216, c217, c218, c219, c220, c221, c222, c223, c224, c225, c226, c227, c228, c229, c230, c231, c232, c233, c234, c235, c236, c237, c238, c239, c240, c241, c242, c243, c244, c245, c246, c247, c248, c249, c250, c251, c252, c253, c254, c255, c256, c257, c258, c259, c260, c261, c262, c263, c264, c265, c266, c267, c268, c269, c270, c271, c272, c273, c274, c275, c276, c277, c278, c279, c280, c281, c282, c283, c284, c285, c286, c287, c288, c289, c290, c291, c292, c293, c294, c295, c296, c297, c298, c299, c300, c301, c302, c303, c304, c305, c306, c307, c308, c309, c310, c311, c312, c313, c314, c315, c316, c317, c318, c319, c320, c321, c322, c323, c324, c325, c326, c327, c328, c329, c330, c331, c332, c333, c334, c335, c336, c337, c338, c339, c340, c341, c342, c343, c344, c345, c346, c347, c348, c349, c350, c351, c352, c353, c354, c355, c356, c357, c358, c359, c360, c361, c362, c363, c364, c365, c366, c367, c368, c369, c370, c371, c372, c373, c374, c375, c376, c377, c378, c379, c380, c381, c382, c383, c384], []⟩ wz := by
  conv => arg 2; whnf
  have HQ := hide hQ
  have HK := hide hK
  have HAT := hide hat
  have HSM := hide hSM
  have HS := hide hs
  have HLA := hide hla
  have HM := hide hm
  have HPL := hide hpl
  have i1 : (k : Int) < (nn : Int) := by omega
  have i3 : (0 : Int) ≤ (k : Int) := by omega
  clear hQ hK hat hSM hs hla hm hpl
  go_wp2_with fail
  go_loopw [37] (fun sk wx => ∃ q : Nat, sk = .int .i64 q ∧ q ≤ m + 2 ∧ Hid (Vp w wx F V v (.slice ha hn hc) H (.slice ba hn bc) xs (P.map fun p => M.deal p m) (.slice ca hn cc) ys (P.map M.commits))) (fun sk _ => m + 2 - (intOf sk).toNat)
  case atStart => exact ⟨0, rfl, Nat.zero_le _, HK⟩
  case round =>
    clear HK
    obtain ⟨q, rfl, hq2, hK⟩ := hrel
    by_cases hqm : q ≤ m + 1
    · have y0 : (q : Int) ≤ (m : Int) + 1 := by omega
      have HBA : Hid (Below wr.heap.size wr (wr.alloc (.cells #[.int .i64 0, .int .i64 0] 31))) := hide ((Below.refl _ _).alloc (Nat.le_refl _) _)
      have HX0 : Hid (BoxAt (wr.alloc (.cells #[.int .i64 0, .int .i64 0] 31)) wr.heap.size 0 0) := hide (BoxAt.new wr 0 0)
      have HKB : Hid (∀ wx, Below wr.heap.size wr wx → Vp w wx F V v (.slice ha hn hc) H (.slice ba hn bc) xs (P.map fun p => M.deal p m) (.slice ca hn cc) ys (P.map M.commits)) := hide fun wx hb => hK.out.quiet hb
      have HPA : Hid (∀ wx, Below wr.heap.size wr wx → Calls Tryd.prog 9 #[.pointer (some ⟨V, 0, none⟩), .string a, .int .i64 q] wx fun e w' => e = .returned (.tuple #[.agg #[.int .i64 (M.partR v a q).1, .int .i64 (M.partR v a q).2], errV (M.partE v a q)]) ∧ Below wx.heap.size wx w') := hide fun wx hb => vPart a q (HKB.out wx hb).vt HLA.out
      have HNM : Hid (∀ wx, Below wr.heap.size wr wx → wx.cell? ⟨b, off + k, none⟩ = some (.string a)) := hide fun wx hb => HAT.out _ (HKB.out wx hb).bel
      have HSE : Hid (∀ wx (E : Int), E ≠ 0 → Below wr.heap.size wr wx → Calls Tryd.prog 12 #[.iface 66 (.int .i64 E), .int .i64 E] wx fun e w' => e = .returned (.bool true) ∧ Below wx.heap.size wx w') := hide fun wx E hE hb => by
        have := HSM.out wx E (HKB.out wx hb).bel
        rwa [errV_bad hE] at this
      have HSO : Hid (∀ wx, Below wr.heap.size wr wx → Calls Tryd.prog 12 #[.nilIface, .int .i64 0] wx fun e w' => e = .returned (.bool true) ∧ Below wx.heap.size wx w') := hide fun wx hb => HSM.out wx 0 (HKB.out wx hb).bel
      by_cases hbad : z < 0 ∨ q < 1 ∨ m < q
      · obtain ⟨E, hE0, hE⟩ : ∃ E : Int, E ≠ 0 ∧ (M.partR v a q = (0, 0) ∧ M.partE v a q = E ∧ ((z < 0 ∧ E = 5) ∨ (¬ z < 0 ∧ (q : Int) < 1 ∧ E = 1) ∨ (¬ z < 0 ∧ ¬ (q : Int) < 1 ∧ (m : Int) < q ∧ E = 1))) := by
          have hm := HM.out
          rcases HS.out with ⟨q1, q2⟩ | ⟨u, p, q1, q2, q3, q4⟩
          · exact ⟨5, by decide, by unfold M.partR; rw [q2], by unfold M.partE; rw [q2], Or.inl ⟨by omega, rfl⟩⟩
          · have hno : ¬ (1 ≤ (q : Int) ∧ (q : Int) ≤ (v.many : Int)) := by omega
            refine ⟨1, by decide, by unfold M.partR; rw [q4]; exact if_neg hno, by unfold M.partE; rw [q4]; exact if_neg hno, ?_⟩
            by_cases h3 : (q : Int) < 1
            · exact Or.inr (Or.inl ⟨by omega, h3, rfl⟩)
            · exact Or.inr (Or.inr ⟨by omega, h3, by omega, rfl⟩)
        obtain ⟨hE1, hE2, hE3⟩ := hE
        have HPB : Hid (∀ wx, Below wr.heap.size wr wx → Calls Tryd.prog 9 #[.pointer (some ⟨V, 0, none⟩), .string a, .int .i64 q] wx fun e w' => e = .returned (.tuple #[.agg #[.int .i64 0, .int .i64 0], .iface 66 (.int .i64 E)]) ∧ Below wx.heap.size wx w') := hide fun wx hb => by
          have := HPA.out wx hb
          rwa [hE1, hE2, errV_bad hE0] at this
        have HSB : Hid (∀ wx, Below wr.heap.size wr wx → Calls Tryd.prog 12 #[.iface 66 (.int .i64 E), .int .i64 E] wx fun e w' => e = .returned (.bool true) ∧ Below wx.heap.size wx w') := hide fun wx hb => HSE.out wx E hE0 hb
        have HEZ : Hid ((E == 0) = false) := hide (by simpa using hE0)
        clear hbad hE0 hE1 hE2 HPA HSE HSO
        have c2 := HNM.out _ HBA.out
        rcases hE3 with ⟨e1, rfl⟩ | ⟨e1, e2, rfl⟩ | ⟨e1, e2, e3, rfl⟩
        all_goals
          go_wp2_with fail
          refine (HPB.out _ HBA.out).mono ?_
          rintro e w2 ⟨rfl, hb2⟩
          have HX2 := hide (HX0.out.stays hb2 (by simp))
          have HB2 : Hid (Below wr.heap.size wr w2) := hide (HBA.out.trans (hb2.mono (by simp)))
          clear hb2 c2
          have HX3 : Hid (BoxAt (w2.alloc (.cells #[.int .i64 0, .int .i64 0] 31)) w2.heap.size 0 0) := hide (BoxAt.new w2 0 0)
          have HB3 : Hid (Below w2.heap.size w2 (w2.alloc (.cells #[.int .i64 0, .int .i64 0] 31))) := hide ((Below.refl _ _).alloc (Nat.le_refl _) _)
          go_wp2_with fail
          refine (HSB.out _ (HB2.out.trans (HB3.out.mono HB2.out.size))).mono ?_
          rintro e w4 ⟨rfl, hb4⟩
          have HX4 := hide ((HX2.out.stays HB3.out HX2.out.lt).stays hb4 (Nat.lt_of_lt_of_le HX2.out.lt HB3.out.size))
          have HX5 := hide (HX3.out.stays hb4 HX3.out.lt)
          have HB4 : Hid (Below wr.heap.size wr w4) := hide ((HB2.out.trans (HB3.out.mono HB2.out.size)).trans (hb4.mono (Nat.le_trans HB2.out.size HB3.out.size)))
          clear hb4
          obtain ⟨u0, u1, _, _, u2⟩ := HX4.out.cells
          obtain ⟨t0, t1, _, _, t2⟩ := HX5.out.cells
          go_wp2_with fail
          go_roundw
          case rel => exact ⟨q + 1, by go_num, by omega, hide (HKB.out _ HB4.out)⟩
          case measure => simp [intOf]; omega
      · rcases HS.out with ⟨q1, _⟩ | ⟨u, p, hzu, hun, hPu, hgp⟩
        · exact absurd (Or.inl (by omega)) hbad
        · subst hzu
          obtain ⟨q1, rfl⟩ : ∃ q1, q = q1 + 1 := ⟨q - 1, by omega⟩
          have hq1 : q1 < m := by omega
          obtain ⟨gD, aD, cpD, rfl, d0, hAD⟩ := hK.out.shaAt (by rw [List.length_map]; exact HPL.out) (d := M.deal p m) (j := u) (by rw [List.getElem?_map, hPu]; rfl)
          obtain ⟨gC, aC, cpC, rfl, k0, hAC⟩ := hK.out.comAt (by rw [List.length_map]; exact HPL.out) (c := M.commits p) (j := u) (by rw [List.getElem?_map, hPu]; rfl)
          obtain ⟨bD, oD, rfl, hlD⟩ := hAD (by rw [M.deal_len]; omega)
          obtain ⟨d1, d2⟩ := hlD q1 (by rw [M.deal_len]; exact hq1)
          rw [M.deal_at p hq1] at d1 d2
          rw [M.deal_len] at d0
          simp only at d1 d2
          obtain ⟨hn1, _, hcm⟩ := hK.out.vt.ok.nums hgp
          obtain ⟨Y, hY⟩ : ∃ Y, Y = M.ev p ((q1 : Int) + 1) := ⟨_, rfl⟩
          obtain ⟨Y0, Y1⟩ : 0 ≤ Y ∧ Y < 257 := by rw [hY]; exact M.ev_range _ _
          obtain ⟨Y2, hY2⟩ : ∃ Y2, Y2 = (Y + (k : Int)) % 257 := ⟨_, rfl⟩
          have Y3 : 0 ≤ Y2 ∧ Y2 < 257 := by omega
          have hmd : (Y + (k : Int)).tmod 257 = Y2 := by rw [Int.tmod_eq_emod_of_nonneg (by omega), hY2]
          obtain ⟨bt, hbt⟩ : ∃ bt, bt = M.trueB (M.commits p) ((q1 : Int) + 1) Y2 := ⟨_, rfl⟩
          have hcE : M.chkE (M.commits p) ((q1 : Int) + 1) Y2 = 0 := M.chkE_0 hcm (M.inR_mk (by omega) (by omega)) (M.inR_mk Y3.1 Y3.2)
          have HPC : Hid (∀ wx, Below wr.heap.size wr wx → Calls Tryd.prog 9 #[.pointer (some ⟨V, 0, none⟩), .string a, .int .i64 ((q1 : Int) + 1)] wx fun e w' => e = .returned (.tuple #[.agg #[.int .i64 ((q1 : Int) + 1), .int .i64 Y], .nilIface]) ∧ Below wx.heap.size wx w') := hide fun wx hb => by
            have := HPA.out wx hb
            have hin : 1 ≤ ((q1 + 1 : Nat) : Int) ∧ ((q1 + 1 : Nat) : Int) ≤ (v.many : Int) := by have := HM.out; omega
            have r1 : M.partR v a ((q1 + 1 : Nat) : Int) = ((q1 : Int) + 1, Y) := by
              unfold M.partR
              rw [hgp, hY]
              exact if_pos hin
            have r2 : M.partE v a ((q1 + 1 : Nat) : Int) = 0 := by
              unfold M.partE
              rw [hgp]
              exact if_pos hin
            rw [r1, r2] at this
            exact this
          have HTV : Hid (∀ wx, Below wr.heap.size wr wx → Calls Tryd.prog 11 #[.pointer (some ⟨V, 0, none⟩), .string a, .agg #[.int .i64 ((q1 : Int) + 1), .int .i64 Y2]] wx fun e w' => e = .returned (.tuple #[.bool bt, .nilIface]) ∧ Below wx.heap.size wx w') := hide fun wx hb => by
            have := vTrue a ((q1 : Int) + 1) Y2 (HKB.out wx hb).vt HLA.out
            have r1 : M.truR v a ((q1 : Int) + 1) Y2 = bt := by
              unfold M.truR
              rw [hgp, hbt]
              exact M.chkR_ok hcE
            have r2 : M.truE v a ((q1 : Int) + 1) Y2 = 0 := by
              unfold M.truE
              rw [hgp]
              exact hcE
            rw [r1, r2] at this
            exact this
          obtain ⟨cn, hcn⟩ : ∃ cn, cn = (M.commits p).length := ⟨_, rfl⟩
          have HTR : Hid (∀ wx, Below wr.heap.size wr wx → Calls Tryd.prog 17 #[.slice aC cn cpC, .agg #[.int .i64 ((q1 : Int) + 1), .int .i64 Y2]] wx fun e w' => e = .returned (.bool bt) ∧ Below wx.heap.size wx w') := hide fun wx hb => by
            rw [hcn, hbt]
            exact rTrue aC _ cpC (M.commits p) ((q1 : Int) + 1) Y2 wx rfl (hAC.stays hb (Nat.le_refl _)) hcm (by omega) (by omega) Y3.1 Y3.2
          rw [← hcn] at k0
          rw [← hY] at d2
          have HD0 : Hid (∀ wx, Below wr.heap.size wr wx → wx.cell? ⟨gC, u, none⟩ = some (.slice aC cn cpC)) := hide fun wx hb => (hb.cell (p := ⟨gC, u, none⟩) (World.block_lt_of_cell? wr _ k0)).trans k0
          obtain ⟨e0, e1, e2⟩ : (wr.alloc (.cells #[.int .i64 0, .int .i64 0] 31)).cell? ⟨gD, u, none⟩ = some (.slice (some ⟨bD, oD, none⟩) m cpD) ∧ (wr.alloc (.cells #[.int .i64 0, .int .i64 0] 31)).cell? ⟨bD, oD + q1 * 2, none⟩ = some (.int .i64 ((q1 : Int) + 1)) ∧ (wr.alloc (.cells #[.int .i64 0, .int .i64 0] 31)).cell? ⟨bD, oD + q1 * 2 + 1, none⟩ = some (.int .i64 Y) := ⟨(HBA.out.cell (p := ⟨gD, u, none⟩) (World.block_lt_of_cell? wr _ d0)).trans d0, (HBA.out.cell (p := ⟨bD, oD + q1 * 2, none⟩) (World.block_lt_of_cell? wr _ d1)).trans d1, (HBA.out.cell (p := ⟨bD, oD + q1 * 2 + 1, none⟩) (World.block_lt_of_cell? wr _ d2)).trans d2⟩
          have lD := World.block_lt_of_cell? wr _ d1
          have y1 : (0 : Int) ≤ (u : Int) := by omega
          have y2 : (u : Int) < (hn : Int) := by omega
          have y3 : ¬ (u : Int) < 0 := by omega
          have y4 : ¬ (q1 : Int) + 1 < 1 := by omega
          have y5 : ¬ (m : Int) < (q1 : Int) + 1 := by omega
          have y6 : (0 : Int) ≤ (q1 : Int) := by omega
          have y7 : (q1 : Int) < (m : Int) := by omega
          have y8 : (q1 : Int) + 1 ≤ (m : Int) + 1 := by omega
          obtain ⟨f0, f1, f2, f3, f4⟩ := HX0.out.cells
          have HB1 : Hid (Below wr.heap.size wr (wr.alloc (.cells #[.int .i64 ((q1 : Int) + 1), .int .i64 Y] 31))) := hide ((Below.refl _ _).alloc (Nat.le_refl _) _)
          have HX1 : Hid (BoxAt (wr.alloc (.cells #[.int .i64 ((q1 : Int) + 1), .int .i64 Y] 31)) wr.heap.size ((q1 : Int) + 1) Y) := hide (BoxAt.new wr _ _)
          have c2 := HNM.out _ HB1.out
          clear hbad hPu hgp hlD d0 d1 d2 hn1 hcm hY hbt hcE hcn k0 hAC HPA HSE hY2 hqm y0
          go_wp2_with fail
          refine (HPC.out _ HB1.out).mono ?_
          rintro e w2 ⟨rfl, hb2⟩
          have HX2 := hide (HX1.out.stays hb2 (by simp))
          have HB2 : Hid (Below wr.heap.size wr w2) := hide (HB1.out.trans (hb2.mono (by simp)))
          clear hb2 c2 e0 e1 e2 f0 f1 f2 f3 f4 HX0 HX1 HB1 HBA
          have HX3 : Hid (BoxAt (w2.alloc (.cells #[.int .i64 ((q1 : Int) + 1), .int .i64 Y] 31)) w2.heap.size ((q1 : Int) + 1) Y) := hide (BoxAt.new w2 _ _)
          have HB3 : Hid (Below w2.heap.size w2 (w2.alloc (.cells #[.int .i64 ((q1 : Int) + 1), .int .i64 Y] 31))) := hide ((Below.refl _ _).alloc (Nat.le_refl _) _)
          go_wp2_with fail
          refine (HSO.out _ (HB2.out.trans (HB3.out.mono HB2.out.size))).mono ?_
          rintro e w4 ⟨rfl, hb4⟩
          have HX4 := hide ((HX2.out.stays HB3.out HX2.out.lt).stays hb4 (Nat.lt_of_lt_of_le HX2.out.lt HB3.out.size))
          have HX5 := hide (HX3.out.stays hb4 HX3.out.lt)
          have HB4 : Hid (Below wr.heap.size wr w4) := hide ((HB2.out.trans (HB3.out.mono HB2.out.size)).trans (hb4.mono (Nat.le_trans HB2.out.size HB3.out.size)))
          clear hb4 HX2 HX3 HB2 HB3
          obtain ⟨u0, u1, u3, u4, u2⟩ := HX4.out.cells
          obtain ⟨t0, t1, _, _, t2⟩ := HX5.out.cells
          have HB5 : Hid (Below wr.heap.size wr (w4.setCell ⟨wr.heap.size, 1, none⟩ (.int .i64 Y2))) := hide (HB4.out.setCell (p := ⟨wr.heap.size, 1, none⟩) (Nat.le_refl _) _)
          have HX6 : Hid (BoxAt (w4.setCell ⟨wr.heap.size, 1, none⟩ (.int .i64 Y2)) wr.heap.size ((q1 : Int) + 1) Y2) := hide (HX4.out.set1 Y2)
          go_wp2_with fail
          obtain ⟨w5, hw5⟩ : ∃ w5, w5 = w4.setCell ⟨wr.heap.size, 1, none⟩ (.int .i64 Y2) := ⟨_, rfl⟩
          rw [← hw5] at HB5 HX6 ⊢
          clear hw5 HX4 HX5 u0 u1 u2 u3 u4 t0 t1 t2 HB4 HPC HSO hmd
          have c5 := HNM.out _ HB5.out
          obtain ⟨x0, x1, _, _, x2⟩ := HX6.out.cells
          have c6 := World.block_lt_of_cell? w5 _ c5
          have HT0 := hide (HTV.out w5.drew HB5.out.drew)
          have hbb : (bt == bt) = true := by simp
          go_region_held3 (fun w' => w'.cell? ⟨b, off + k, none⟩ = some (.string a) ∧ w'.cell? ⟨wr.heap.size, 0, none⟩ = some (.int .i64 ((q1 : Int) + 1)) ∧ w'.cell? ⟨wr.heap.size, 1, none⟩ = some (.int .i64 Y2)) (first | go_keep | assumption)
            (first
              | (go_at_call 11; refine (unhide HT0).mono ?_; rintro e w6 ⟨rfl, hb6⟩; have HB6 := hide hb6; have p0 : w6.cell? ⟨b, off + k, none⟩ = some (.string a) := (hb6.cell (p := ⟨b, off + k, none⟩) c6).trans c5; have p1 : w6.cell? ⟨wr.heap.size, 0, none⟩ = some (.int .i64 ((q1 : Int) + 1)) := (hb6.cell (p := ⟨wr.heap.size, 0, none⟩) x2).trans x0; have p2 : w6.cell? ⟨wr.heap.size, 1, none⟩ = some (.int .i64 Y2) := (hb6.cell (p := ⟨wr.heap.size, 1, none⟩) x2).trans x1; have p3 : wr.heap.size < w6.heap.size := Nat.lt_of_lt_of_le x2 hb6.size; clear hb6))
          have HB7 : Hid (Below wr.heap.size wr w6) := hide (HB5.out.trans (Below.mono (((Below.refl _ _).drew).trans HB6.out) HB5.out.size))
          clear HB6 HT0 HTV c5 c6 x0 x1 x2 p0 HX6 HB5
          have k0 := HD0.out _ HB7.out
          have k1 := World.block_lt_of_cell? w6 _ k0
          have HT0 := hide (HTR.out w6.drew HB7.out.drew)
          go_wp2_with fail
          go_region_held3 (fun w' => w'.cell? ⟨gC, u, none⟩ = some (.slice aC cn cpC) ∧ w'.cell? ⟨wr.heap.size, 0, none⟩ = some (.int .i64 ((q1 : Int) + 1)) ∧ w'.cell? ⟨wr.heap.size, 1, none⟩ = some (.int .i64 Y2)) (first | go_keep | assumption)
            (first
              | (go_at_call 17; refine (unhide HT0).mono ?_; rintro e w8 ⟨rfl, hb8⟩; have HB8 := hide hb8; have p0 : w8.cell? ⟨gC, u, none⟩ = some (.slice aC cn cpC) := (hb8.cell (p := ⟨gC, u, none⟩) k1).trans k0; have o1 : w8.cell? ⟨wr.heap.size, 0, none⟩ = some (.int .i64 ((q1 : Int) + 1)) := (hb8.cell (p := ⟨wr.heap.size, 0, none⟩) p3).trans p1; have o2 : w8.cell? ⟨wr.heap.size, 1, none⟩ = some (.int .i64 Y2) := (hb8.cell (p := ⟨wr.heap.size, 1, none⟩) p3).trans p2; clear hb8))
          have HB9 : Hid (Below wr.heap.size wr w8) := hide (HB7.out.trans (Below.mono (((Below.refl _ _).drew).trans HB8.out) HB7.out.size))
          go_wp2_with fail
          go_roundw
          case rel => exact ⟨q1 + 1 + 1, by go_num, by omega, hide (HKB.out _ HB9.out)⟩
          case measure => simp [intOf]; omega
    · have y0 : ¬ (q : Int) ≤ (m : Int) + 1 := by omega
      go_wp2_with fail
      exact HQ.out _ _ _ _ _ _ _ _ _ _ _ _ _ _ _ _ _ _ _ _ _ _ _ _ _ _ _ _ _ _ _ _ _ _ _ _ _ _ _ _ _ _ _ _ _ _ _ _ _ _ _ _ _ _ _ _ _ _ _ _ _ _ _ _ _ _ _ _ _ _ _ _ _ _ _ _ _ _ _ _ _ _ _ _ _ _ _ _ _ _ hK.out

end Go.Proofs.YtlefhfmckimlaajDoor.vaultPlays
