/-
  A round of the Go function VaultPlays.
-/
import Derived.Test.YtlefhfmckimlaajDoorVpBlk2
import Derived.Test.YtlefhfmckimlaajDoorVpBlk4
import Derived.Test.YtlefhfmckimlaajDoorVpBlk8
import Derived.Deep.CutRange
import Derived.Deep.CutBlock
set_option linter.unusedVariables false
namespace Go.Proofs.YtlefhfmckimlaajDoor.vaultPlays
open Go.RowKit
attribute [local go_sem ↓] Go.wp_at_zero Go.wp_at_succ

set_option maxHeartbeats 4000000 in
set_option maxRecDepth 1000000 in
theorem blk1 {Q : Exit → Act → World → Prop} {w wr : World} {m n k : Nat} {F : Nat → Prop} {V : Nat} {v : M.Vlt} {ha : Option Addr} {hc : Nat} {ba : Option Addr} {bc : Nat} {ca : Option Addr} {cc hn : Nat} {H : List ByteArray} {P : List (List Int)} {xs ys : List Value} {b off nn nc : Nat} {sa : Option Addr} {sn sc : Nat} {ra : Option Addr} {rn rc : Nat} {la : Option Addr} {ln lc : Nat} {a : ByteArray}
    (c6 c7 c8 c9 c10 c11 c12 c13 c15 c16 c21 c22 c23 c24 c25 c26 c27 c28 c29 c30 c31 c32 c33 c34 c35 c36 c37 c38 c39 c40 c41 c42 c43 c44 c45 c46 c47 c48 c49 c50 c51 c52 c53 c54 c55 c56 c57 c58 c59 c60 c61 c62 c63 c64 c65 c66 c67 c68 c69 c70 c71 c72 c73 c74 c75 c76 c77 c78 c79 c80 c81 c82 c83 c84 c85 c86 c87 c88 c89 c90 c91 c92 c93 c94 c95 c96 c97 c98 c99 c100 c101 c102 c103 c104 c105 c106 c107 c108 c109 c110 c111 c112 c113 c114 c115 c116 c117 c118 c119 c120 c121 c122 c123 c124 c125 c126 c127 c128 c129 c130 c131 c132 c133 c134 c135 c136 c137 c138 c139 c140 c141 c142 c143 c144 c145 c146 c147 c148 c149 c150 c151 c152 c153 c154 c155 c156 c157 c158 c159 c160 c161 c162 c163 c164 c165 c166 c167 c168 c169 c170 c171 c172 c173 c174 c175 c176 c177 c178 c179 c180 c181 c182 c183 c184 c185 c186 c187 c188 c189 c190 c191 c192 c193 c194 c195 c196 c197 c198 c199 c200 c201 c202 c203 c204 c205 c206 c207 c208 c209 c210 c211 c212 c213 c214 c215 c216 c217 c218 c219 c220 c221 c222 c223 c224 c225 c226 c227 c228 c229 c230 c231 c232 c233 c234 c235 c236 c237 c238 c239 c240 c241 c242 c243 c244 c245 c246 c247 c248 c249 c250 c251 c252 c253 c254 c255 c256 c257 c258 c259 c260 c261 c262 c263 c264 c265 c266 c267 c268 c269 c270 c271 c272 c273 c274 c275 c276 c277 c278 c279 c280 c281 c282 c283 c284 c285 c286 c287 c288 c289 c290 c291 c292 c293 c294 c295 c296 c297 c298 c299 c300 c301 c302 c303 c304 c305 c306 c307 c308 c309 c310 c311 c312 c313 c314 c315 c316 c317 c318 c319 c320 c321 c322 c323 c324 c325 c326 c327 c328 c329 c330 c331 c332 c333 c334 c335 c336 c337 c338 c339 c340 c341 c342 c343 c344 c345 c346 c347 c348 c349 c350 c351 c352 c353 c354 c355 c356 c357 c358 c359 c360 c361 c362 c363 c364 c365 c366 c367 c368 c369 c370 c371 c372 c373 c374 c375 c376 c377 c378 c379 c380 c381 c382 c383 c384 : Value) (h1 : 1 ≤ n) (h2 : n ≤ m) (h7 : m ≤ 7) (hk : k < nn) (hk3 : k < 30) (hnm : nn ≤ 9223372036854775807) (hsm : sn ≤ 9223372036854775807) (hrm : rn ≤ 9223372036854775807) (hlm : ln ≤ 9223372036854775807) (hn20 : hn ≤ 20) (hsz : a.size ≤ reachBytes) (hat : ∀ wy, Below w.heap.size w wy → wy.cell? ⟨b, off + k, none⟩ = some (.string a))
    (hSE : (k : Int) < sn → ∃ b2 o2 z, sa = some ⟨b2, o2, none⟩ ∧ ∀ wy, Below w.heap.size w wy → wy.cell? ⟨b2, o2 + k, none⟩ = some (.int .i64 z))
    (hRE : (k : Int) < rn → ∃ b2 o2 x xn xc r, ra = some ⟨b2, o2, none⟩ ∧ xn = r.length ∧ xn ≤ maxLen ∧ AtI w x r ∧ Tidy x xn xc ∧ ∀ wy, Below w.heap.size w wy → wy.cell? ⟨b2, o2 + k, none⟩ = some (.slice x xn xc))
    (hLE : (k : Int) < ln → ∃ b2 o2 x xn xc l, la = some ⟨b2, o2, none⟩ ∧ xn = l.length ∧ xn ≤ maxLen ∧ AtP w x l ∧ ∀ wy, Below w.heap.size w wy → wy.cell? ⟨b2, o2 + k, none⟩ = some (.slice x xn xc))
    (hSM : ∀ wx (E : Int), Below w.heap.size w wx → Calls Tryd.prog 12 #[errV E, .int .i64 E] wx fun e w' => e = .returned (.bool true) ∧ Below wx.heap.size wx w') (hST : v.many = m ∧ v.need = n ∧ Named v H P ∧ H.length = hn ∧ P.length = hn) (hK : Vp w wr F V v (.slice ha hn hc) H (.slice ba hn bc) xs (P.map fun p => M.deal p m) (.slice ca hn cc) ys (P.map M.commits))
    (hQ : ∀ (u12 u13 u16 u21 u22 u23 u24 u25 u26 u27 u28 u29 u30 u31 u32 u33 u34 u35 u36 u37 u38 u39 u40 u41 u42 u84 u85 u86 u87 u88 u89 u90 u91 u92 u93 u94 u95 u96 u97 u98 u99 u100 u101 u102 u103 u104 u105 u106 u107 u108 u109 u110 u111 u112 u113 u114 u115 u116 u117 u118 u119 u120 u121 u122 u123 u124 u125 u126 u127 u128 u129 u130 u131 u132 u133 u134 u135 u136 u137 u138 u139 u140 u141 u142 u143 u144 u145 u146 u147 u148 u149 u150 u151 u152 u153 u154 u155 u156 u157 u158 u159 u160 u161 u162 u163 u164 u165 u166 u167 u168 u169 u170 u171 u172 u173 u174 u175 u176 u177 u178 u179 u180 u181 u182 u183 u184 u185 u186 u187 u188 u189 u190 u191 u192 u193 u194 u195 u196 u197 u198 u199 u200 u201 u202 u203 u204 u205 u206 u207 u208 u209 u210 u211 u212 u213 u214 u215 u216 u217 u218 u219 u220 u221 u222 u223 u224 u225 u226 u227 u228 u229 u230 u231 u232 u233 u234 u235 u236 u237 u238 u239 u240 u241 u242 u243 u244 u245 u246 u247 u248 u249 u250 u251 u252 u253 u254 u255 u256 u257 u258 u259 u260 u261 u262 u263 u264 u265 u266 u267 u268 u269 u270 u271 u272 u273 u274 u275 u276 u277 u278 u279 u280 u281 u282 u283 u284 u285 u286 u287 u288 u289 u290 u291 u292 u293 u294 u295 u296 u297 u298 u299 u300 u301 u302 u303 u304 u305 u306 u307 u308 u309 u310 u311 u312 u313 u314 u315 u316 u317 u318 u319 u320 u321 u322 u323 u324 u325 u326 u327 u328 u329 u330 u331 u332 u333 u334 u335 u336 u337 u338 u339 u340 u341 u342 u343 u344 u345 u346 u347 u348 u349 u350 u351 u352 u353 u354 u355 u356 u357 u358 u359 u360 u361 u362 u363 u364 u365 u366 u367 u368 u369 u370 u371 u372 u373 u374 u375 u376 u377 u378 u379 u380 u381 u382 u383 u384 : Value) (w' : World) (v' : M.Vlt) (F' : Nat → Prop) (ha' : Option Addr) (hc' : Nat) (ba' : Option Addr) (bc' : Nat) (ca' : Option Addr) (cc' hn' : Nat) (H' : List ByteArray) (P' : List (List Int)) (xs' ys' : List Value), hn' ≤ 20 → (v'.many = m ∧ v'.need = n ∧ Named v' H' P' ∧ H'.length = hn' ∧ P'.length = hn') → Vp w w' F' V v' (.slice ha' hn' hc') H' (.slice ba' hn' bc') xs' (P'.map fun p => M.deal p m) (.slice ca' hn' cc') ys' (P'.map M.commits) → Q .normal ⟨#[.int .i64 m, .int .i64 n, .slice (some ⟨b, off, none⟩) nn nc, .slice sa sn sc, .slice ra rn rc, .slice la ln lc, c6, c7, c8, c9, c10, c11, u12, u13, .pointer (some ⟨V, 0, none⟩), c15, u16, .slice ha' hn' hc', .slice ba' hn' bc', .slice ca' hn' cc', .int .i64 k, u21, u22, u23, u24, u25, u26, u27, u28, u29, u30, u31, u32, u33, u34, u35, u36, u37, u38, u39, u40, u41, u42, c43, c44, c45, c46, c47, c48, c49, c50, c51, c52, c53, c54, c55, c56, c57, c58, c59, c60, c61, c62, c63, c64, c65, c66, c67, c68, c69, c70, c71, c72, c73, c74, c75, c76, c77, c78, c79, c80, c81, c82, c83, u84, u85, u86, u87, u88, u89, u90, u91, u92, u93, u94, u95, u96, u97, u98, u99, u100, u101, u102, u103, u104, u105, u106, u107, u108, u109, u110, u111, u112, u113, u114, u115, u116, u117, u118, u119, u120, u121, u122, u123, u124, u125, u126, u127, u128, u129, u130, u131, u132, u133, u134, u135, u136, u137, u138, u139, u140, u141, u142, u143, u144, u145, u146, u147, u148, u149, u150, u151, u152, u153, u154, u155, u156, u157, u158, u159, u160, u161, u162, u163, u164, u165, u166, u167, u168, u169, u170, u171, u172, u173, u174, u175, u176, u177, u178, u179, u180, u181, u182, u183, u184, u185, u186, u187, u188, u189, u190, u191, u192, u193, u194, u195, u196, u197, u198, u199, u200, u201, u202, u203, u204, u205, u206, u207, u208, u209, u210, u211, u212, u213, u214, u215, u216, u217, u218, u219, u220, u221, u222, u223, u224, u225, u226, u227, u228, u229, u230, u231, u232, u233, u234, u235, u236, u237, u238, u239, u240, u241, u242, u243, u244, u245, u246, u247, u248, u249, u250, u251, u252, u253, u254, u255, u256, u257, u258, u259, u260, u261, u262, u263, u264, u265, u266, u267, u268, u269, u270, u271, u272, u273, u274, u275, u276, u277, u278, u279, u280, u281, u282, u283, u284, u285, u286, u287, u288, u289, u290, u291, u292, u293, u294, u295, u296, u297, u298, u299, u300, u301, u302, u303, u304, u305, u306, u307, u308, u309, u310, u311, u312, u313, u314, u315, u316, u317, u318, u319, u320, u321, u322, u323, u324, u325, u326, u327, u328, u329, u330, u331, u332, u333, u334, u335, u336, u337, u338, u339, u340, u341, u342, u343, u344, u345, u346, u347, u348, u349, u350, u351, u352, u353, u354, u355, u356, u357, u358, u359, u360, u361, u362, u363, u364, u365, u366, u367, u368, u369, u370, u371, u372, u373, u374, u375, u376, u377, u378, u379, u380, u381, u382, u383, u384], []⟩ w') :
    Code.wp Tryd.prog ((Tryd.f5.body.bind (blockAt 1)).getD .skip) Q ⟨#[.int .i64 m, .int .i64 n, .slice (some ⟨b, off, none⟩) nn nc, .slice sa sn sc, .slice ra rn rc, .slice la ln lc, c6, c7, c8, c9, c10, c11, c12, c13, .pointer (some ⟨V, 0, none⟩), c15, c16, .slice ha hn hc, .slice ba hn bc, .slice ca hn cc, .int .i64 k, c21, c22, c23, c24, c25, c26, c27, c28, c29, c30, c31, c32, c33, c34, c35, c36, c37, c38, c39, c40, c41, c42, c43, c44, c45, c46, c47, c48, c49, c50, c51, c52, c53, c54, c55, c56, c57, c58, c59, c60, c61, c62, c63, c64, c65, c66, c67, c68, c69, c70, c71, c72, c73, c74, c75, c76, c77, c78, c79, c80, c81, c82, c83, c84, c85, c86, c87, c88, c89, c90, c91, c92, c93, c94, c95, c96, c97, c98, c99, c100, c101, c102, c103, c104, c105, c106, c107, c108, c109, c110, c111, c112, c113, c114, c115, c116, c117, c118, c119, c120, c121, c122, c123, c124, c125, c126, c127, c128, c129, c130, c131, c132, c133, c134, c135, c136, c137, c138, c139, c140, c141, c142, c143, c144, c145, c146, c147, c148, c149, c150, c151, c152, c153, c154, c155, c156, c157, c158, c159, c160, c161, c162, c163, c164, c165, c166, c167, c168, c169, c170, c171, c172, c173, c174, c175, c176, c177, c178, c179, c180, c181, c182, c183, c184, c185, c186, c187, c188, c189, c190, c191, c192, c193, c194, c195, c196, c197, c198, c199, c200, c201, c202, c203, c204, c205, c206, c207, c208, c209, c210, c211, c212, c213, c214, c215, c216, c217, c218, c219, c220, c221, c222, c223, c224, c225, c226, c227, c228, c229, c230, c231, c232, c233, c234, c235, c236, c237, c238, c239, c240, c241, c242, c243, c244, c245, c246, c247, c248, c249, c250, c251, c252, c253, c254, c255, c256, c257, c258, c259, c260, c261, c262, c263, c264, c265, c266, c267, c268, c269, c270, c271, c272, c273, c274, c275, c276, c277, c278, c279, c280, c281, c282, c283, c284, c285, c286, c287, c288, c289, c290, c291, c292, c293, c294, c295, c296, c297, c298, c299, c300, c301, c302, c303, c304, c305, c306, c307, c308, c309, c310, c311, c312, c313, c314, c315, c316, c317, c318, c319, c320, c321, c322, c323, c324, c325, c326, c327, c328, c329, c330, c331, c332, c333, c334, c335, c336, c337, c338, c339, c340, c341, c342, c343, c344, c345, c346, c347, c348, c349, c350, c351, c352, c353, c354, c355, c356, c357, c358, c359, c360, c361, c362, c363, c364, c365, c366, c367, c368, c369, c370, c371, c372, c373, c374, c375, c376, c377, c378, c379, c380, c381, c382, c383, c384], []⟩ wr := by
  conv => arg 2; whnf
  have HAT := hide hat
  have HSZ := hide hsz
  have HSE := hide hSE
  have HRE := hide hRE
  have HLE := hide hLE
  have HSM := hide hSM
  have hST := hide hST
  have hK := hide hK
  have HQ := hide hQ
  obtain ⟨tT, hi, hz0, hz1, hz2⟩ := info_parts infoT
  have HI := hide (And.intro hi (And.intro hz0 (And.intro hz1 hz2)))
  obtain ⟨tI, gi, gz0, gz1, gz2⟩ := info_parts infoInt
  have GI := hide (And.intro gi (And.intro gz0 (And.intro gz1 gz2)))
  obtain ⟨tSS, ki, kz0, kz1, kz2⟩ := info_parts infoSS
  have KI := hide (And.intro ki (And.intro kz0 (And.intro kz1 kz2)))
  obtain ⟨tII, li, lz0, lz1, lz2⟩ := info_parts infoII
  have LI := hide (And.intro li (And.intro lz0 (And.intro lz1 lz2)))
  have i1 : (k : Int) < (nn : Int) := by omega
  have i2 : (k : Int) < 30 := by omega
  have i3 : (0 : Int) ≤ (k : Int) := by omega
  clear hat hsz hSE hRE hLE hSM hQ hi hz0 hz1 hz2 gi gz0 gz1 gz2 ki kz0 kz1 kz2 li lz0 lz1 lz2
  go_upto_if 87 with fail
  go_cut [21] from 84 to 91 (fun s wx => ∃ sec : Int, s = .int .i64 sec ∧ wx = wr)
  case first =>
    by_cases hks : (k : Int) < sn
    · obtain ⟨b2, o2, z, rfl, g1⟩ := HSE.out hks
      have c2 := g1 _ hK.out.bel
      clear g1
      go_wp2_with fail
      go_meet
      case rel => exact ⟨z, rfl, rfl⟩
    · go_wp2_with fail
      go_meet
      case rel => exact ⟨0, rfl, rfl⟩
  case rest =>
    obtain ⟨sec, rfl, hwx⟩ := hcut
    obtain rfl := hwx.symm
    go_upto_if 95 with fail
    go_cut [22] from 92 to 99 (fun s wx => ∃ (xa : Option Addr) (xn xc : Nat) (r : List Int), s = .slice xa xn xc ∧ Hid (xn = r.length) ∧ xn ≤ 9223372036854775807 ∧ Hid (AtI w xa r) ∧ Hid (Tidy xa xn xc) ∧ wx = wr)
    case first =>
      by_cases hkr : (k : Int) < rn
      · obtain ⟨b2, o2, x2, xn, xc, r, rfl, g1, g2, g3, g4, g5⟩ := HRE.out hkr
        have c2 := g5 _ hK.out.bel
        have HG1 := hide g1
        have HG3 := hide g3
        have HG4 := hide g4
        unfold maxLen at g2
        clear g1 g3 g4 g5
        go_wp2_with fail
        go_meet
        case rel => exact ⟨x2, xn, xc, r, rfl, HG1, by omega, HG3, HG4, rfl⟩
      · go_wp2_with fail
        go_meet
        case rel => exact ⟨none, 0, 0, [], rfl, hide rfl, by omega, hide (fun h => absurd h (by simp)), hide (fun _ => ⟨rfl, rfl⟩), rfl⟩
    case rest =>
      obtain ⟨xa, xn, xc, r, rfl, hXN, hxm, hXA, hXT, hwx⟩ := hcut
      obtain rfl := hwx.symm
      go_upto_block 2 with fail
      refine blk2 _ _ _ _ _ _ _ _ _ _ _ _ _ _ _ _ _ _ _ _ _ _ _ _ _ _ _ _ _ _ _ _ _ _ _ _ _ _ _ _ _ _ _ _ _ _ _ _ _ _ _ _ _ _ _ _ _ _ _ _ _ _ _ _ _ _ _ _ _ _ _ _ _ _ _ _ _ _ _ _ _ _ _ _ _ _ _ _ _ _ _ _ _ _ _ _ _ _ _ _ _ _ _ _ _ _ _ _ _ _ _ _ _ _ _ _ _ _ _ _ _ _ _ _ _ _ _ _ _ _ _ _ _ _ _ _ _ _ _ _ _ _ _ _ _ _ _ _ _ _ _ _ _ _ _ _ _ _ _ _ _ _ _ _ _ _ _ _ _ _ _ _ _ _ _ _ _ _ _ _ _ _ _ _ _ _ _ _ _ _ _ _ _ _ _ _ _ _ _ _ _ _ _ _ _ _ _ _ _ _ _ _ _ _ _ _ _ _ _ _ _ _ _ _ _ _ _ _ _ _ _ _ _ _ _ _ _ _ _ _ _ _ _ _ _ _ _ _ _ _ _ _ _ _ _ _ _ _ _ _ _ _ _ _ _ _ _ _ _ _ _ _ _ _ _ _ _ _ _ _ _ _ _ _ _ _ _ _ _ _ _ _ _ _ _ _ _ _ _ _ _ _ _ _ _ _ _ _ _ _ _ _ _ _ _ _ _ _ _ _ _ _ _ _ _ _ _ _ _ _ _ _ _ _ _ _ _ _ _ _ _ _ _ _ _ _ _ _ _ _ _ _ _ _ _ _ _ _ _ _ _ _ _ _ _ _ _ _ _ _ _ _ _ _ _ _ _ _ _ _ hk hk3 hnm hn20 hST.out.2.2.1 hST.out.2.2.2.1 HAT.out hK.out (fun _ _ _ _ _ _ _ _ _ _ _ _ _ _ _ _ _ w1 z hz1 hz2 hsd hk4 => ?_)
      have HSD := hide hsd
      have hK0 := hK
      clear hK
      have hK := hide hk4
      clear hsd hk4 hK0
      obtain ⟨wr, hwr⟩ : ∃ wr, wr = w1 := ⟨_, rfl⟩
      subst hwr
      obtain ⟨E1, hE1⟩ : ∃ E1, E1 = putE1 v a sec r := ⟨_, rfl⟩
      obtain ⟨E, hE⟩ : ∃ E, E = M.vputE v a sec r := ⟨_, rfl⟩
      obtain ⟨v', hv'⟩ : ∃ v', v' = M.vputV v a sec r := ⟨_, rfl⟩
      have HW1 : Hid ((12 < a.size ∧ E1 = 4) ∨ (¬ 12 < a.size ∧ 0 ≤ z ∧ E1 = 7) ∨ (¬ 12 < a.size ∧ z < 0 ∧ ((xn : Int) == (n : Int) - 1) = false ∧ E1 = 3) ∨ (¬ 12 < a.size ∧ z < 0 ∧ ((xn : Int) == (n : Int) - 1) = true ∧ E1 = M.dealE sec r m)) := hide (by
        have := putE1_ways sec r HSD.out
        have hnd := hST.out.2.1
        have hxr := hXN.out
        rw [← hE1, hST.out.1] at this
        rcases this with q | q | ⟨q1, q2, q3, q4⟩ | ⟨q1, q2, q3, q4⟩
        · exact Or.inl q
        · exact Or.inr (Or.inl q)
        · exact Or.inr (Or.inr (Or.inl ⟨q1, q2, by simp; omega, q4⟩))
        · exact Or.inr (Or.inr (Or.inr ⟨q1, q2, by simp; omega, q4⟩)))
      have HW2 : Hid ((E1 ≠ 0 ∧ E = E1) ∨ (E1 = 0 ∧ 20 ≤ hn ∧ E = 4) ∨ (E1 = 0 ∧ ¬ 20 ≤ hn ∧ E = 0)) := hide (by
        have := putE1_then v a sec r
        rw [← hE, ← hE1, hST.out.2.2.1.many, hST.out.2.2.2.1] at this
        by_cases q : E1 = 0
        · rw [if_neg (by simpa using q)] at this
          by_cases q2 : 20 ≤ hn
          · rw [if_pos q2] at this
            exact Or.inr (Or.inl ⟨q, q2, this⟩)
          · rw [if_neg q2] at this
            exact Or.inr (Or.inr ⟨q, q2, this⟩)
        · rw [if_pos q] at this
          exact Or.inl ⟨q, this⟩)
      have HDL : Hid (∀ wx, Below w.heap.size w wx → Calls Tryd.prog 13 #[.int .i64 sec, .slice xa xn xc, .int .i64 m] wx fun e w' => e = .returned (.int .i64 (M.dealE sec r m)) ∧ w' = wx) := hide fun wx hb => rDealt sec xa xn xc r m wx hXN.out (by unfold maxLen; omega) (hXA.out.stays hb (Nat.le_refl _))
      have HEV : Hid (E = M.vputE v a sec r ∧ v' = M.vputV v a sec r) := hide ⟨hE, hv'⟩
      clear hE1 hE hv'
      have c2 := HAT.out _ hK.out.bel
      go_upto_if 121 with fail
      go_cut [13] from 116 to 132 (fun s wx => ∃ W : World, W = wx ∧ s = .int .i64 E1 ∧ wx = wr)
      case first =>
        rcases HW1.out with ⟨q1, rfl⟩ | ⟨q1, q2, rfl⟩ | ⟨q1, q2, q3, rfl⟩ | ⟨q1, q2, q3, q4⟩
        · have y1 : (12 : Int) < (a.size : Int) := by omega
          go_wp2_with fail
          go_meet
          case rel => exact ⟨_, rfl, rfl, rfl⟩
        · have y1 : ¬ (12 : Int) < (a.size : Int) := by omega
          go_wp2_with fail
          go_meet
          case rel => exact ⟨_, rfl, rfl, rfl⟩
        · have y1 : ¬ (12 : Int) < (a.size : Int) := by omega
          have y2 : ¬ (0 : Int) ≤ z := by omega
          go_wp2_with fail
          go_meet
          case rel => exact ⟨_, rfl, rfl, rfl⟩
        · have y1 : ¬ (12 : Int) < (a.size : Int) := by omega
          have y2 : ¬ (0 : Int) ≤ z := by omega
          have HD2 := hide (HDL.out _ hK.out.bel)
          rw [← q4] at HD2
          clear q4
          go_wp2_with fail
          refine (unhide HD2).mono ?_
          rintro e w3 ⟨rfl, hw3⟩
          dsimp only
          obtain rfl := hw3.symm
          go_wp2_with fail
          go_meet
          case rel => exact ⟨_, rfl, rfl, rfl⟩
      case rest =>
        obtain ⟨W, hW, rfl, hwx⟩ := hcut
        rw [hwx] at hW
        clear hW
        obtain rfl := hwx.symm
        go_upto_region 34 with fail
        go_cut [139] from 133 to 139 (fun s wx => ∃ Bd : Bool, s = .bool Bd ∧ Hid (E = full4 Bd E1) ∧ wx = wr)
        case first =>
          rcases HW2.out with ⟨q1, q2⟩ | ⟨q1, q2, q3⟩ | ⟨q1, q2, q3⟩
          · have y1 : (E1 == 0) = false := by simpa using q1
            have HX : Hid (E = full4 false E1) := hide q2
            clear q1 q2
            go_wp2_with fail
            go_meet
            case rel => exact ⟨false, rfl, HX, rfl⟩
          · have HX : Hid (E = full4 true E1) := hide q3
            have y2 : (20 : Int) ≤ (hn : Int) := by omega
            have y1 : (E1 == 0) = true := by simpa using q1
            clear q1 q3
            go_wp2_with fail
            go_meet
            case rel => exact ⟨true, rfl, HX, rfl⟩
          · have HX : Hid (E = full4 false E1) := hide (by rw [q3, q1]; rfl)
            have y2 : ¬ (20 : Int) ≤ (hn : Int) := by omega
            have y1 : (E1 == 0) = true := by simpa using q1
            clear q1 q3
            go_wp2_with fail
            go_meet
            case rel => exact ⟨false, by first | rfl | (simp; omega), HX, rfl⟩
        case rest =>
          obtain ⟨Bd, rfl, hBd, hwx⟩ := hcut
          obtain rfl := hwx.symm
          go_upto_if 139 with fail
          go_cut [13] from 133 to 139 (fun s wx => ∃ W : World, W = wx ∧ s = .int .i64 E ∧ wx = wr)
          case first =>
            cases Bd
            · have q2 : E = E1 := hBd.out
              clear hBd
              go_wp2_with fail
              go_meet
              case rel => exact ⟨_, rfl, by rw [q2], rfl⟩
            · have q2 : E = 4 := hBd.out
              clear hBd
              go_wp2_with fail
              go_meet
              case rel => exact ⟨_, rfl, by rw [q2], rfl⟩
          case rest =>
            clear hBd
            obtain ⟨W, hW, rfl, hwx⟩ := hcut
            rw [hwx] at hW
            clear hW
            obtain rfl := hwx.symm
            clear HW1 HW2 HDL
            go_upto_if 141 with fail
            go_cut [17, 18, 19, 23, 25] from 140 to 167 (fun s17 s18 s19 s23 s25 wx => ∃ (W : World) (u : Value) (z' : Int) (ha' : Option Addr) (hc' : Nat) (ba' : Option Addr) (bc' : Nat) (ca' : Option Addr) (cc' hn' : Nat) (H' : List ByteArray) (P' : List (List Int)) (xs' ys' : List Value), W = wx ∧ u = s25 ∧ s17 = .slice ha' hn' hc' ∧ s18 = .slice ba' hn' bc' ∧ s19 = .slice ca' hn' cc' ∧ s23 = .int .i64 z' ∧ hn' ≤ 20 ∧ -1 ≤ z' ∧ z' < 20 ∧ Hid (v'.many = m ∧ v'.need = n ∧ Named v' H' P' ∧ H'.length = hn' ∧ P'.length = hn') ∧ Hid (Stands v' P' hn' a z') ∧ Hid (Vp w W F V v (.slice ha' hn' hc') H' (.slice ba' hn' bc') xs' (P'.map fun p => M.deal p m) (.slice ca' hn' cc') ys' (P'.map M.commits)))
            case first =>
              by_cases hE0 : E = 0
              · --BEGIN D0
                subst hE0
                have HE0 : Hid (M.vputE v a sec r = 0) := hide HEV.out.1.symm
                obtain ⟨_, _, q3, q4, q5⟩ := M.vputE_ok HE0.out
                rw [hST.out.2.1] at q3
                rw [hST.out.1] at q4
                rw [hST.out.2.2.1.many, hST.out.2.2.2.1] at q5
                obtain ⟨d1, d2, d3, _, _⟩ := M.dealE_ok q4
                have HFC : Hid (M.facE (sec :: r) = 0) := hide (M.facE_cons d1.1 d1.2 d2 d3)
                have HSC : Hid (M.secE sec r = 0) := hide (by
                  by_cases q : M.secE sec r = 0
                  · exact q
                  · rw [M.dealE_sec q] at q4; exact absurd q4 q)
                have xn6 : xn ≤ 6 := by have := hXN.out; omega
                have HS2 : Hid (Stands v' (P ++ [sec :: r]) (hn + 1) a (hn : Int)) := hide (by
                  rw [HEV.out.2]
                  have := Stands.did hST.out.2.2.1 HE0.out
                  rwa [hST.out.2.2.2.1] at this)
                have HT2 : Hid (v'.many = m ∧ v'.need = n ∧ Named v' (H ++ [a]) (P ++ [sec :: r]) ∧ (H ++ [a]).length = hn + 1 ∧ (P ++ [sec :: r]).length = hn + 1) := hide (by
                  rw [HEV.out.2]
                  obtain ⟨e1, e2⟩ := M.vputV_many (v := v) (a := a) (s := sec) (r := r)
                  exact ⟨e1.trans hST.out.1, e2.trans hST.out.2.1, hST.out.2.2.1.put HE0.out, by simp [hST.out.2.2.2.1], by simp [hST.out.2.2.2.2]⟩)
                clear q3 q4 d1 d2 d3
                have HLIT : Hid ((wr.alloc (.cells #[.int .i64 sec] 3)).ownsRow wr.heap.size 3 1 (.slice (some ⟨wr.heap.size, 0, none⟩) 1 1) 1 (#[Value.int .i64 sec] : Array Value).toList) := hide (World.ownsRow_lit wr #[.int .i64 sec] 1 (Nat.le_refl _) (by decide) rfl)
                have HBA : Hid (Below wr.heap.size wr (wr.alloc (.cells #[.int .i64 sec] 3))) := hide ((Below.refl _ _).alloc (Nat.le_refl _) _)
                have HNR : Hid (∀ ad, xa = some ad → ∀ j u, (cellsI r)[j]? = some u → (wr.alloc (.cells #[.int .i64 sec] 3)).cell? (ad.add j) = some u) := hide fun ad e => by
                  subst e
                  exact (hXA.out.stays (hK.out.bel.trans (HBA.out.mono hK.out.bel.size)) (Nat.le_refl _)).news
                have HLR : Hid ((cellsI r).length = xn * 1) := hide (by rw [cellsI_len, ← hXN.out, Nat.mul_one])
                go_wp2_with (at_builtin; refine append_tidy _ rfl (.tmp 146) (.tmp 147) 22 rfl wr.heap.size 3 tI (.int .i64 0) 1 8 Tryd.underlying22 GI.out.1 GI.out.2.1 GI.out.2.2.1 GI.out.2.2.2 rfl (by decide) (.slice (some ⟨wr.heap.size, 0, none⟩) 1 1) 1 _ rfl HLIT.out xa xn xc (cellsI r) rfl hXT.out HLR.out HNR.out (cellsI_oneCell r) (by unfold maxLen; omega) (by omega) (by simp) ?_)
                intro v1 w2 hown hgrow
                have HB2 := hide (HBA.out.grown hgrow (by simp) (fun j hj => (HLIT.out.lt j hj).1))
                have HLEN : Hid (1 + xn = (sec :: r).length) := hide (by rw [List.length_cons, hXN.out]; omega)
                obtain ⟨a1, c1, rfl, _, _, _⟩ := atI_own (l := sec :: r) HLEN.out hown
                have HPR : Hid (w2.ownsRow wr.heap.size 3 1 (.slice a1 (1 + xn) c1) (1 + xn) (cellsI (sec :: r))) := hide hown
                have HK2 := hide (hK.out.quiet HB2.out)
                clear hown hgrow HLIT HNR HLR HBA hK c2
                have c3 := HAT.out _ HK2.out.bel
                have HNW : Hid (∀ j u, [Value.string a][j]? = some u → (w2.alloc (.cells #[.string a] 9)).cell? ((⟨w2.heap.size, 0, none⟩ : Addr).add j) = some u) := hide (World.news_of_block (heap_alloc_new w2 _))
                have HAL : Hid (∀ o, Below w2.heap.size w2 (w2.alloc o)) := hide fun o => (Below.refl _ _).alloc (Nat.le_refl _) o
                have HRW : Hid ((w2.alloc (.cells #[.string a] 9)).ownsRow w.heap.size 9 1 (.slice ha hn hc) hn (cellsS H)) := hide (by have := (HK2.out.quiet (HAL.out (.cells #[.string a] 9))).ls.has; rwa [hST.out.2.2.2.1] at this)
                have HBS : Hid (w.heap.size ≤ w2.heap.size) := hide HK2.out.bel.size
                go_wp2_with (at_builtin; refine wpList_append_lies _ rfl (.tmp 149) (.tmp 154) 42 rfl w.heap.size 9 tT (.string ⟨#[]⟩) 1 16 Tryd.underlying42 HI.out.1 HI.out.2.1 HI.out.2.2.1 HI.out.2.2.2 rfl (by decide) (.slice ha hn hc) hn (cellsS H) rfl HRW.out ⟨w2.heap.size, 0, none⟩ 1 1 [.string a] rfl rfl HNW.out (by intro u hu; simp at hu; subst hu; rfl) (by decide) (by unfold maxLen; omega) (by omega) (Nat.le_trans HBS.out (by simp)) (w2.heap.size + 1) (by simp) ?_)
                intro g3 k3 w3 hown3 hgrow3 hat3 hlt3
                have HK3 := hide (HK2.out.moreH hST.out.2.2.2.1 hgrow3 hown3 hat3)
                have HP3 : Hid (w3.ownsRow wr.heap.size 3 1 (.slice a1 (1 + xn) c1) (1 + xn) (cellsI (sec :: r))) := hide (row_beside HRW.out (rowV_at HPR.out (fun b hb => by
                  obtain ⟨_, cx, fr, hh⟩ := rowV_tag HPR.out hb
                  exact (HAL.out _).block b (heapV_lt hh))) (by decide) hgrow3)
                have HDC := hide (rDealO sec xa xn xc r m w3 hXN.out (hXA.out.stays HK3.out.bel (Nat.le_refl _)) hXT.out HSC.out h7)
                clear hown3 hgrow3 hat3 hlt3 HRW HNW HAL HPR HK2 HB2 c3 HBS
                go_wp2_with fail
                refine (unhide HDC).mono ?_
                rintro e w4 ⟨⟨dv, dc, rfl, hod⟩, hb4⟩
                dsimp only
                have HOD := hide hod
                have HB4 := hide hb4
                have HAL4 : Hid (∀ o, Below w4.heap.size w4 (w4.alloc o)) := hide fun o => (Below.refl _ _).alloc (Nat.le_refl _) o
                have HNW4 : Hid (∀ j u, [Value.slice dv m dc][j]? = some u → (w4.alloc (.cells #[.slice dv m dc] 23)).cell? ((⟨w4.heap.size, 0, none⟩ : Addr).add j) = some u) := hide (World.news_of_block (heap_alloc_new w4 _))
                have HRW4 : Hid ((w4.alloc (.cells #[.slice dv m dc] 23)).ownsRow w.heap.size 23 1 (.slice ba hn bc) hn xs) := hide (by have := ((HK3.out.quiet hb4).quiet (HAL4.out (.cells #[.slice dv m dc] 23))).ls.shares; rwa [List.length_map, hST.out.2.2.2.2] at this)
                have HBS4 : Hid (w.heap.size ≤ w4.heap.size) := hide (Nat.le_trans HK3.out.bel.size hb4.size)
                clear hod hb4 HDC
                go_wp2_with (at_builtin; refine wpList_append_lies _ rfl (.tmp 156) (.tmp 161) 44 rfl w.heap.size 23 tSS (.slice none 0 0) 1 24 Tryd.underlying44 KI.out.1 KI.out.2.1 KI.out.2.2.1 KI.out.2.2.2 rfl (by decide) (.slice ba hn bc) hn xs rfl HRW4.out ⟨w4.heap.size, 0, none⟩ 1 1 [.slice dv m dc] rfl rfl HNW4.out (by intro u hu; simp at hu; subst hu; rfl) (by decide) (by unfold maxLen; omega) (by omega) (Nat.le_trans HBS4.out (by simp)) (w4.heap.size + 1) (by simp) ?_)
                intro g5 k5 w5 hown5 hgrow5 hat5 hlt5
                have HK5 := hide (HK3.out.moreD HB4.out hST.out.2.2.2.2 HOD.out hgrow5 hown5 hat5)
                have HP5 : Hid (w5.ownsRow wr.heap.size 3 1 (.slice a1 (1 + xn) c1) (1 + xn) (cellsI (sec :: r))) := hide (row_beside HRW4.out (rowV_at HP3.out (fun b hb => by
                  obtain ⟨_, cx, fr, hh⟩ := rowV_tag HP3.out hb
                  have h6 := HB4.out.block b (heapV_lt hh)
                  exact ((HAL4.out _).block b (Nat.lt_of_lt_of_le (heapV_lt hh) HB4.out.size)).trans h6)) (by decide) hgrow5)
                have HCC : Hid (Calls Tryd.prog 15 #[.slice a1 (1 + xn) c1] w5 fun e w' => (∃ v c, e = .returned (.slice v (1 + xn) c) ∧ w'.ownsRow w5.heap.size 3 1 (.slice v (1 + xn) c) (1 + xn) (cellsI (M.commits (sec :: r)))) ∧ Below w5.heap.size w5 w') := hide (by
                  obtain ⟨ax, cx, e, _, _, hax⟩ := atI_own (l := sec :: r) HLEN.out HP5.out
                  cases e
                  exact rCommitO a1 (1 + xn) c1 (sec :: r) w5 HLEN.out hax HFC.out)
                clear hown5 hgrow5 hat5 hlt5 HRW4 HNW4 HAL4 HP3 HK3 HB4 HBS4 HOD
                go_wp2_with fail
                refine (unhide HCC).mono ?_
                rintro e w6 ⟨⟨yv, yc, rfl, hoy⟩, hb6⟩
                dsimp only
                have HOY := hide hoy
                have HB6 := hide hb6
                have HAL6 : Hid (∀ o, Below w6.heap.size w6 (w6.alloc o)) := hide fun o => (Below.refl _ _).alloc (Nat.le_refl _) o
                have HNW6 : Hid (∀ j u, [Value.slice yv (1 + xn) yc][j]? = some u → (w6.alloc (.cells #[.slice yv (1 + xn) yc] 22)).cell? ((⟨w6.heap.size, 0, none⟩ : Addr).add j) = some u) := hide (World.news_of_block (heap_alloc_new w6 _))
                have HRW6 : Hid ((w6.alloc (.cells #[.slice yv (1 + xn) yc] 22)).ownsRow w.heap.size 22 1 (.slice ca hn cc) hn ys) := hide (by have := ((HK5.out.quiet hb6).quiet (HAL6.out (.cells #[.slice yv (1 + xn) yc] 22))).ls.commits; rwa [List.length_map, hST.out.2.2.2.2] at this)
                have HBS6 : Hid (w.heap.size ≤ w6.heap.size) := hide (Nat.le_trans HK5.out.bel.size hb6.size)
                clear hoy hb6 HCC
                go_wp2_with (at_builtin; refine wpList_append_lies _ rfl (.tmp 163) (.tmp 166) 43 rfl w.heap.size 22 tII (.slice none 0 0) 1 24 Tryd.underlying43 LI.out.1 LI.out.2.1 LI.out.2.2.1 LI.out.2.2.2 rfl (by decide) (.slice ca hn cc) hn ys rfl HRW6.out ⟨w6.heap.size, 0, none⟩ 1 1 [.slice yv (1 + xn) yc] rfl rfl HNW6.out (by intro u hu; simp at hu; subst hu; rfl) (by decide) (by unfold maxLen; omega) (by omega) (Nat.le_trans HBS6.out (by simp)) (w6.heap.size + 1) (by simp) ?_)
                intro g7 k7 w7 hown7 hgrow7 hat7 hlt7
                have HK7 := hide (HK5.out.moreC HB6.out hST.out.2.2.2.2 HLEN.out HOY.out hgrow7 hown7 hat7)
                clear hown7 hgrow7 hat7 hlt7
                go_wp2_with fail
                go_meet
                case rel => exact ⟨_, _, hn, some ⟨g3, 0, none⟩, k3, some ⟨g5, 0, none⟩, k5, some ⟨g7, 0, none⟩, k7, hn + 1, H ++ [a], P ++ [sec :: r], xs ++ [.slice dv m dc], ys ++ [.slice yv (1 + xn) yc], rfl, rfl, rfl, rfl, rfl, rfl, by omega, by omega, by omega, HT2, HS2, HK7⟩
                --STOP D0
              · have y1 : (E == 0) = false := by simpa using hE0
                have HS2 : Hid (Stands v' P hn a z) := hide (by rw [HEV.out.2]; exact HSD.out.bad (by rw [← HEV.out.1]; exact hE0))
                have HT2 : Hid (v'.many = m ∧ v'.need = n ∧ Named v' H P ∧ H.length = hn ∧ P.length = hn) := hide (by rw [HEV.out.2, M.vputV_bad (by rw [← HEV.out.1]; exact hE0)]; exact hST.out)
                clear hE0
                go_wp2_with fail
                go_meet
                case rel => exact ⟨_, _, z, ha, hc, ba, bc, ca, cc, hn, H, P, xs, ys, rfl, rfl, rfl, rfl, rfl, rfl, by omega, by omega, by omega, HT2, HS2, hK⟩
            case rest =>
              obtain ⟨wq, up, z', ha', hc', ba', bc', ca', cc', hn', H', P', xs', ys', rfl, rfl, rfl, rfl, rfl, rfl, hn20', hz1', hz2', hST', hSD', hK6⟩ := hcut
              have c3 := HAT.out _ hK6.out.bel
              have HLS : Hid (a.size ≤ maxLen) := hide (Nat.le_trans HSZ.out (by decide))
              have HPU : Hid (Calls Tryd.prog 8 #[.pointer (some ⟨V, 0, none⟩), .string a, .int .i64 sec, .slice xa xn xc] wq fun e w' => e = .returned (errV E) ∧ ∃ F', Vp w w' F' V v' (.slice ha' hn' hc') H' (.slice ba' hn' bc') xs' (P'.map fun p => M.deal p m) (.slice ca' hn' cc') ys' (P'.map M.commits)) := hide (by
                have := hK6.out.xput (s := sec) (a := a) HLS.out hXN.out (by unfold maxLen; omega) hXA.out hXT.out
                rwa [← HEV.out.1, ← HEV.out.2] at this)
              clear hK hST HSD HEV hXN hXA hXT
              go_wp2_with fail
              refine (unhide HPU).mono ?_
              rintro e w8 ⟨rfl, F8, hK8⟩
              dsimp only
              have HK8 := hide hK8
              have HS8 := hide (HSM.out w8 E hK8.bel)
              clear hK8 c3 HPU
              go_wp2_with fail
              refine (unhide HS8).mono ?_
              rintro e w9 ⟨rfl, hb9⟩
              dsimp only
              have HK9 := hide (HK8.out.quiet hb9)
              clear hb9 HK8 HS8
              go_upto_if 181 with fail
              go_cut [26] from 178 to 185 (fun s wx => ∃ (ya : Option Addr) (yn yc : Nat) (l : List (Int × Int)), s = .slice ya yn yc ∧ Hid (yn = l.length) ∧ yn ≤ 9223372036854775807 ∧ Hid (AtP w ya l) ∧ wx = w9)
              case first =>
                by_cases hkl2 : (k : Int) < ln
                · obtain ⟨b2, o2, x2, yn, yc, l, rfl, g1, g2, g3, g5⟩ := HLE.out hkl2
                  have c4 := g5 _ HK9.out.bel
                  have HG1 := hide g1
                  have HG3 := hide g3
                  unfold maxLen at g2
                  clear g1 g3 g5
                  go_wp2_with fail
                  go_meet
                  case rel => exact ⟨x2, yn, yc, l, rfl, HG1, by omega, HG3, rfl⟩
                · go_wp2_with fail
                  go_meet
                  case rel => exact ⟨none, 0, 0, [], rfl, hide rfl, by omega, hide (fun h => absurd h (by simp)), rfl⟩
              case rest =>
                obtain ⟨ya, yn, yc, l, rfl, hYN, hym, hYA, hwx⟩ := hcut
                obtain rfl := hwx.symm
                obtain ⟨E2, hE2⟩ : ∃ E2 : Int, E2 = if z' < 0 then 5 else if 30 < l.length then 4 else 0 := ⟨_, rfl⟩
                have HE2 := hide hE2
                have HQP : Hid (∃ (q : Nat) (p : List Int), 0 ≤ z' → z' = q ∧ q < hn' ∧ P'[q]? = some p ∧ v'.g a = some p) := hide (by
                  rcases hSD'.out with ⟨q1, _⟩ | ⟨q, p, q1, q2, q3, q4⟩
                  · exact ⟨0, [], fun h => by omega⟩
                  · exact ⟨q, p, fun _ => ⟨q1, q2, q3, q4⟩⟩)
                obtain ⟨q, p, hqp⟩ := HQP.out
                have HP := hide hqp
                have HW2 : Hid ((z' < 0 ∧ E2 = 5) ∨ (¬ z' < 0 ∧ 30 < yn ∧ E2 = 4) ∨ (¬ z' < 0 ∧ ¬ 30 < yn ∧ E2 = 0)) := hide (by
                  rw [← hYN.out] at hE2
                  by_cases c1 : z' < 0
                  · rw [if_pos c1] at hE2; exact Or.inl ⟨c1, hE2⟩
                  · rw [if_neg c1] at hE2
                    by_cases c2 : 30 < yn
                    · rw [if_pos c2] at hE2; exact Or.inr (Or.inl ⟨c1, c2, hE2⟩)
                    · rw [if_neg c2] at hE2; exact Or.inr (Or.inr ⟨c1, c2, hE2⟩))
                clear hE2 HQP hqp
                go_upto_if 187 with fail
                go_cut [13] from 186 to 190 (fun s wx => ∃ W : World, W = wx ∧ s = .int .i64 E2 ∧ wx = w9)
                case first =>
                  rcases HW2.out with ⟨q1, rfl⟩ | ⟨q1, q2, rfl⟩ | ⟨q1, q2, rfl⟩
                  · go_wp2_with fail
                    go_meet
                    case rel => exact ⟨_, rfl, rfl, rfl⟩
                  · have y2 : (30 : Int) < (yn : Int) := by omega
                    go_wp2_with fail
                    go_meet
                    case rel => exact ⟨_, rfl, rfl, rfl⟩
                  · have y2 : ¬ (30 : Int) < (yn : Int) := by omega
                    go_wp2_with fail
                    go_meet
                    case rel => exact ⟨_, rfl, rfl, rfl⟩
                case rest =>
                  obtain ⟨W, hW, rfl, hwx⟩ := hcut
                  rw [hwx] at hW
                  clear hW
                  obtain rfl := hwx.symm
                  have HE0 : Hid (E2 = 0 → 0 ≤ z' ∧ yn ≤ 30) := hide fun h => by
                    rcases HW2.out with ⟨q1, q2⟩ | ⟨q1, q2, q3⟩ | ⟨q1, q2, q3⟩
                    · rw [q2] at h; cases h
                    · rw [q3] at h; cases h
                    · omega
                  clear HW2
                  go_upto_block 4 with fail
                  refine blk4 _ _ _ _ _ _ _ _ _ _ _ _ _ _ _ _ _ _ _ _ _ _ _ _ _ _ _ _ _ _ _ _ _ _ _ _ _ _ _ _ _ _ _ _ _ _ _ _ _ _ _ _ _ _ _ _ _ _ _ _ _ _ _ _ _ _ _ _ _ _ _ _ _ _ _ _ _ _ _ _ _ _ _ _ _ _ _ _ _ _ _ _ _ _ _ _ _ _ _ _ _ _ _ _ _ _ _ _ _ _ _ _ _ _ _ _ _ _ _ _ _ _ _ _ _ _ _ _ _ _ _ _ _ _ _ _ _ _ _ _ _ _ _ _ _ _ _ _ _ _ _ _ _ _ _ _ _ _ _ _ _ _ _ _ _ _ _ _ _ _ _ _ _ _ _ _ _ _ _ _ _ _ _ _ _ _ _ _ _ _ _ _ _ _ _ _ _ _ _ _ _ _ _ _ _ _ _ _ _ _ _ _ _ _ _ _ _ _ _ _ _ _ _ _ _ _ _ _ _ _ _ _ _ _ _ _ _ _ _ _ _ _ _ _ _ _ _ _ _ _ _ _ _ _ _ _ _ _ _ _ _ _ _ _ _ _ _ _ _ _ _ _ _ _ _ _ _ _ _ _ _ _ _ _ _ _ _ _ _ _ _ _ _ _ _ _ _ _ _ _ _ _ _ _ _ _ _ _ _ _ _ _ _ _ _ _ _ _ _ _ _ _ _ _ _ _ _ _ _ _ _ _ _ _ _ _ _ _ _ _ _ _ _ _ _ _ _ _ _ _ _ _ _ _ _ _ _ _ _ _ _ _ _ _ _ _ _ _ _ _ _ _ _ _ _ _ _ _ h7 hST'.out.1 hST'.out.2.2.2.2 hn20' hYN.out hym hYA.out HE0.out HP.out HK9.out (fun _ _ _ _ _ _ _ _ _ _ _ _ _ _ _ _ _ _ _ _ _ _ _ _ _ _ _ _ _ _ _ _ _ _ _ _ _ _ _ _ _ _ _ _ _ _ _ _ _ _ _ _ _ _ _ _ _ _ _ _ _ _ _ _ _ _ _ _ _ _ _ _ _ _ _ _ _ _ _ _ _ w11 e ga gc gn j G hg30 hGL hGW hGJ hGR hK11 => ?_)
                  have HDN : Hid ((e ≠ 0 ∧ M.getE' v' a l = e ∧ M.getR' v' a l = 0) ∨ (e = 0 ∧ gn < n ∧ M.getE' v' a l = 5 ∧ M.getR' v' a l = 0) ∨ (e = 0 ∧ ¬ gn < n ∧ M.getE' v' a l = 0 ∧ M.getR' v' a l = M.next (G.take n) 0 ∧ M.Right (G.take n))) := hide (by
                    have := GoodW.done (by rw [hST'.out.1]; exact hGW) hK11.vt.ok hSD'.out HE2.out (fun h => (HP.out h).2.2.2) hGJ
                    rwa [hST'.out.2.1, hGL] at this)
                  have HGL := hide hGL
                  have HGR := hide hGR
                  have HK11 := hide hK11
                  obtain ⟨E3, hE3⟩ : ∃ E3, E3 = M.getE' v' a l := ⟨_, rfl⟩
                  obtain ⟨R3, hR3⟩ : ∃ R3, R3 = M.getR' v' a l := ⟨_, rfl⟩
                  rw [← hE3, ← hR3] at HDN
                  have HGET : Hid (∀ wx, Below w11.heap.size w11 wx → Calls Tryd.prog 10 #[.pointer (some ⟨V, 0, none⟩), .string a, .slice ya yn yc] wx fun e w' => e = .returned (.tuple #[.int .i64 R3, errV E3]) ∧ Below wx.heap.size wx w') := hide fun wx hb => by
                    rw [hE3, hR3]
                    exact vGet (HK11.out.quiet hb).vt HLS.out hYN.out (by unfold maxLen; omega) (hYA.out.stays (HK11.out.quiet hb).bel (Nat.le_refl _))
                  clear hGL hGW hGJ hGR hK11 hE3 hR3 HK9 HE2 HE0 HP
                  go_upto_region 68 with fail
                  go_cut [274] from 267 to 274 (fun s wx => ∃ Bd : Bool, s = .bool Bd ∧ Hid (Bd = decide (e = 0 ∧ gn < n)) ∧ wx = w11)
                  case first =>
                    by_cases d1 : e = 0
                    · have y1 : (e == 0) = true := by simpa using d1
                      by_cases d2 : gn < n
                      · have y2 : (gn : Int) < (n : Int) := by omega
                        have HX : Hid (true = decide (e = 0 ∧ gn < n)) := hide (by rw [decide_eq_true ⟨d1, d2⟩])
                        clear d1
                        go_wp2_with fail
                        go_meet
                        case rel => exact ⟨true, rfl, HX, rfl⟩
                      · have y2 : ¬ (gn : Int) < (n : Int) := by omega
                        have HX : Hid (false = decide (e = 0 ∧ gn < n)) := hide (by rw [decide_eq_false (fun h => d2 h.2)])
                        clear d1
                        go_wp2_with fail
                        go_meet
                        case rel => exact ⟨false, by first | rfl | (simp; omega), HX, rfl⟩
                    · have y1 : (e == 0) = false := by simpa using d1
                      have HX : Hid (false = decide (e = 0 ∧ gn < n)) := hide (by rw [decide_eq_false (fun h => d1 h.1)])
                      clear d1
                      go_wp2_with fail
                      go_meet
                      case rel => exact ⟨false, rfl, HX, rfl⟩
                  case rest =>
                    obtain ⟨Bd, rfl, hBd, hwx⟩ := hcut
                    obtain rfl := hwx.symm
                    go_upto_if 274 with fail
                    go_cut [13, 27] from 267 to 280 (fun s13 s27 wx => ∃ W : World, W = wx ∧ s13 = .int .i64 E3 ∧ s27 = .int .i64 R3 ∧ Hid (Below w11.heap.size w11 W))
                    case first =>
                      rcases HDN.out with ⟨q1, q2, q3⟩ | ⟨q1, q2, q3, q4⟩ | ⟨q1, q2, q3, q4, q5⟩
                      · obtain rfl : Bd = false := by rw [hBd.out]; exact decide_eq_false (fun h => q1 h.1)
                        have y1 : (e == 0) = false := by simpa using q1
                        clear hBd q1
                        go_wp2_with fail
                        go_meet
                        case rel => exact ⟨_, rfl, by rw [q2], by rw [q3], hide (Below.refl _ _)⟩
                      · obtain rfl : Bd = true := by rw [hBd.out]; exact decide_eq_true ⟨q1, q2⟩
                        clear hBd
                        go_wp2_with fail
                        go_meet
                        case rel => exact ⟨_, rfl, by rw [q3], by rw [q4], hide (Below.refl _ _)⟩
                      · obtain rfl : Bd = false := by rw [hBd.out]; exact decide_eq_false (fun h => q2 h.2)
                        subst q1
                        obtain ⟨ax, cx, hax, hxc, hxm, hAG⟩ := atP_own HGL.out.symm HGR.out
                        cases hax
                        obtain ⟨b5, o5, rfl, hlie⟩ := hAG (by have := HGL.out; omega)
                        have HNX : Hid (Calls Tryd.prog 18 #[.slice (some ⟨b5, o5, none⟩) n gc, .int .i64 0] w11 fun e w' => e = .returned (.int .i64 R3) ∧ Below w11.heap.size w11 w') := hide (by
                          rw [q4]
                          exact rNext b5 o5 n gc (G.take n) 0 w11 (by rw [List.length_take]; have := HGL.out; omega) (by omega) (by omega) q5 (by omega) (by omega) (hlie.take n))
                        unfold maxLen at hxm
                        have y2 : (n : Int) ≤ (gc : Int) := by omega
                        have y3 : (0 : Int) ≤ (n : Int) := by omega
                        have y4 : n ≤ gc := by omega
                        clear hBd q4 q5 hlie hAG
                        go_wp2_with fail
                        refine (unhide HNX).mono ?_
                        rintro e w12 ⟨rfl, hb12⟩
                        dsimp only
                        have HB12 := hide hb12
                        clear hb12
                        go_wp2_with fail
                        go_meet
                        case rel => exact ⟨_, rfl, by rw [q3], rfl, HB12⟩
                    case rest =>
                      obtain ⟨w12, rfl, rfl, rfl, hB12⟩ := hcut
                      have c7 := HAT.out _ (HK11.out.quiet hB12.out).bel
                      clear hBd HDN HGL HGR
                      go_wp2_with fail
                      refine (HGET.out _ hB12.out).mono ?_
                      rintro e w13 ⟨rfl, hb13⟩
                      dsimp only
                      have HK13 := hide ((HK11.out.quiet hB12.out).quiet hb13)
                      have HS13 := hide (HSM.out w13 E3 HK13.out.bel)
                      have hrr : (R3 == R3) = true := by simp
                      clear hb13 c7 HK11 HGET hB12
                      go_wp2_with fail
                      refine (unhide HS13).mono ?_
                      rintro e w14 ⟨rfl, hb14⟩
                      dsimp only
                      have HK14 := hide (HK13.out.quiet hb14)
                      clear hb14 HS13 HK13
                      go_upto_block 8 with fail
                      refine blk8 _ _ _ _ _ _ _ _ _ _ _ _ _ _ _ _ _ _ _ _ _ _ _ _ _ _ _ _ _ _ _ _ _ _ _ _ _ _ _ _ _ _ _ _ _ _ _ _ _ _ _ _ _ _ _ _ _ _ _ _ _ _ _ _ _ _ _ _ _ _ _ _ _ _ _ _ _ _ _ _ _ _ _ _ _ _ _ _ _ _ _ _ _ _ _ _ _ _ _ _ _ _ _ _ _ _ _ _ _ _ _ _ _ _ _ _ _ _ _ _ _ _ _ _ _ _ _ _ _ _ _ _ _ _ _ _ _ _ _ _ _ _ _ _ _ _ _ _ _ _ _ _ _ _ _ _ _ _ _ _ _ _ _ _ _ _ _ _ _ _ _ _ _ _ _ _ _ _ _ _ _ _ _ _ _ _ _ _ _ _ _ _ _ _ _ _ _ _ _ _ _ _ _ _ _ _ _ _ _ _ _ _ _ _ _ _ _ _ _ _ _ _ _ _ _ _ _ _ _ _ _ _ _ _ _ _ _ _ _ _ _ _ _ _ _ _ _ _ _ _ _ _ _ _ _ _ _ _ _ _ _ _ _ _ _ _ _ _ _ _ _ _ _ _ _ _ _ _ _ _ _ _ _ _ _ _ _ _ _ _ _ _ _ _ _ _ _ _ _ _ _ _ _ _ _ _ _ _ _ _ _ _ _ _ _ _ _ _ _ _ _ _ _ _ _ _ _ _ _ _ _ _ _ _ _ _ _ _ _ _ _ _ _ _ _ _ _ _ _ _ _ _ _ _ _ _ _ _ _ _ _ _ _ _ _ _ _ _ _ _ _ _ _ _ _ _ _ (by omega) h7 hk hk3 hnm hn20' hST'.out.1 hST'.out.2.2.2.2 hSD'.out HLS.out HAT.out HSM.out HK14.out (fun _ _ _ _ _ _ _ _ _ _ _ _ _ _ _ _ _ _ _ _ _ _ _ _ _ _ _ _ _ _ _ _ _ _ _ _ _ _ _ _ _ _ _ _ _ _ _ _ _ _ _ _ _ _ _ _ _ _ _ _ _ _ _ _ _ _ _ _ _ _ _ _ _ _ _ _ _ _ _ _ _ _ _ _ _ _ _ _ _ w15 hK15 => ?_)
                      have HK15 := hide hK15
                      clear hK15 HK14
                      go_wp2_with fail
                      exact HQ.out _ _ _ _ _ _ _ _ _ _ _ _ _ _ _ _ _ _ _ _ _ _ _ _ _ _ _ _ _ _ _ _ _ _ _ _ _ _ _ _ _ _ _ _ _ _ _ _ _ _ _ _ _ _ _ _ _ _ _ _ _ _ _ _ _ _ _ _ _ _ _ _ _ _ _ _ _ _ _ _ _ _ _ _ _ _ _ _ _ _ _ _ _ _ _ _ _ _ _ _ _ _ _ _ _ _ _ _ _ _ _ _ _ _ _ _ _ _ _ _ _ _ _ _ _ _ _ _ _ _ _ _ _ _ _ _ _ _ _ _ _ _ _ _ _ _ _ _ _ _ _ _ _ _ _ _ _ _ _ _ _ _ _ _ _ _ _ _ _ _ _ _ _ _ _ _ _ _ _ _ _ _ _ _ _ _ _ _ _ _ _ _ _ _ _ _ _ _ _ _ _ _ _ _ _ _ _ _ _ _ _ _ _ _ _ _ _ _ _ _ _ _ _ _ _ _ _ _ _ _ _ _ _ _ _ _ _ _ _ _ _ _ _ _ _ _ _ _ _ _ _ _ _ _ _ _ _ _ _ _ _ _ _ _ _ _ _ _ _ _ _ _ _ _ _ _ _ _ _ _ _ _ _ _ _ _ _ _ _ _ _ _ _ _ _ _ _ _ _ _ _ _ _ _ _ _ _ _ _ _ _ _ _ _ _ _ _ _ _ _ _ _ _ _ _ _ _ _ _ _ _ _ _ _ _ _ _ _ _ _ hn20' hST'.out HK15.out

end Go.Proofs.YtlefhfmckimlaajDoor.vaultPlays
