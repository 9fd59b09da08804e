/-
  The last case of the switch of LeasePlays: a tuple put till a time.
-/
import Derived.Test.YtlefhfmckimlaacDoorLpPlayA
import Derived.Deep.QuietTactic
import Derived.BigQuiet
namespace Go.Proofs.YtlefhfmckimlaacDoor.Lps
open Go.RowKit
attribute [local go_sem ↓] Go.wp_at_zero Go.wp_at_succ

set_option maxHeartbeats 4000000 in
set_option maxRecDepth 1000000 in
theorem br3a {Q : Exit → Act → World → Prop} {w w1 : World} {S B k : Nat} {tm gv : Int} {v vi vu va tv : Value} {E : List Ent} {I U : List Int} {A : List (List M.Val)} {l : List M.Val} {z1 z2 z0 : Int} {c : Int}
    (c0 c1 c2 c3 c4 c11 c13 c16 c17 c18 c19 c20 c21 c22 c23 c24 c25 c26 c27 c28 c29 c30 c31 c32 c33 c34 c35 c36 c37 c38 c39 c40 c41 c42 c43 c44 c45 c46 c47 c48 c49 c50 c51 c52 c53 c54 c55 c56 c57 c58 c59 c60 c61 c62 c63 c64 c65 c66 c67 c68 c69 c70 c71 c72 c73 c74 c75 c76 c77 c79 c80 c81 c82 c83 c84 c85 c86 c87 c88 c89 c90 c91 c92 c93 c94 c95 c96 c97 c98 c99 c100 c101 c102 c103 c104 c105 c106 c107 c108 c109 c110 c111 c112 c113 c114 c115 c116 c117 c118 c119 c120 c121 c122 c123 c124 c125 c126 c127 c128 c129 c130 c131 c132 c133 c134 c135 c136 c137 c138 c139 c140 c141 c142 c143 c144 c145 c146 c147 c148 c149 c150 c151 c152 c153 c154 c155 c156 c157 c158 c159 c160 c161 c162 c163 c164 c165 c166 c167 c168 c169 c170 c171 c172 c173 c174 c175 c176 c177 c178 c179 c180 c181 c182 c183 c184 c185 c186 c187 c188 c189 c190 c191 c192 c193 c194 c195 c196 c197 c198 c199 c200 c201 c202 c203 c204 c205 c206 c207 c208 c209 c210 c211 c212 c213 c214 c215 c216 c217 c218 c219 c220 c221 c222 c223 c224 c225 c226 c227 c228 c229 c230 c231 c232 c233 c234 c235 c236 c237 c238 c239 c240 c241 c242 c243 c244 c245 c246 c247 c248 c249 c250 c251 c252 c253 c254 c255 c256 c257 c258 c259 c260 c261 c262 c263 c264 c265 c266 c267 c268 c269 c270 c271 c272 c273 c274 c275 c276 c277 c278 c279 c280 c281 c282 c283 c284 c285 c286 c287 c288 c289 c290 c291 c292 c293 : Value) (hT : Tuned w w1 S B k tm gv v vi vu va tv E I U A l z0 z1 z2) (d0 : (z0 == 0) = false) (d1 : (z0 == 1) = false) (d2 : (z0 == 2) = false) (hl : M.tupF l = c) (hc : c ≠ 0)
    (hQ : ∀ (u16 u17 u18 u19 u20 u21 u22 u23 u24 u25 u26 u27 u28 u29 u30 u31 u32 u33 u34 u35 u79 u80 u81 u82 u83 u84 u85 u86 u87 u88 u89 u90 u91 u92 u93 u94 u95 u96 u97 u98 u99 u100 u101 u102 u103 u104 u105 u106 u107 u108 u109 u110 u111 u112 u113 u114 u115 u116 u117 u118 u119 u120 u121 u122 u123 u124 u125 u126 u127 u128 u129 u130 u131 u132 u133 u134 u135 u136 u137 u138 u139 u140 u141 u142 u143 u144 u145 u146 u147 u148 u149 u150 u151 u152 u153 u154 u155 u156 u157 u158 u159 u160 u161 u162 u163 u164 u165 u166 u167 u168 u169 u170 u171 u172 u173 u174 u175 u176 u177 u178 u179 u180 u181 u182 u183 u184 u185 u186 u187 u188 u189 u190 u191 u192 u193 u194 u195 u196 u197 u198 u199 u200 u201 u202 u203 u204 u205 u206 u207 u208 u209 u210 u211 u212 u213 u214 u215 u216 u217 u218 u219 u220 u221 u222 u223 u224 u225 u226 u227 u228 u229 u230 u231 u232 u233 u234 u235 u236 u237 u238 u239 u240 u241 u242 u243 u244 u245 u246 u247 u248 u249 u250 u251 u252 u253 u254 u255 u256 u257 u258 u259 u260 u261 u262 u263 u264 u265 u266 u267 u268 u269 u270 u271 u272 u273 u274 u275 u276 u277 u278 u279 u280 u281 u282 u283 u284 : Value) (w' : World) (tmN gvN : Int) (viN vuN vaN : Value), Done w w' S k tmN gvN viN vuN vaN → Q .normal ⟨#[c0, c1, c2, c3, c4, .pointer (some ⟨S, 0, none⟩), .int .i64 tmN, .int .i64 gvN, viN, vuN, vaN, c11, .pointer (some ⟨B, 0, none⟩), c13, tv, .bool true, u16, u17, u18, u19, u20, u21, u22, u23, u24, u25, u26, u27, u28, u29, u30, u31, u32, u33, u34, u35, c36, c37, c38, c39, c40, c41, c42, c43, c44, c45, c46, c47, c48, c49, c50, c51, c52, c53, c54, c55, c56, c57, c58, c59, c60, c61, c62, c63, c64, c65, c66, c67, c68, c69, c70, c71, c72, c73, c74, c75, c76, c77, .int .i64 z0, u79, u80, u81, u82, u83, u84, u85, u86, u87, u88, u89, u90, u91, u92, u93, u94, u95, u96, u97, u98, u99, u100, u101, u102, u103, u104, u105, u106, u107, u108, u109, u110, u111, u112, u113, u114, u115, u116, u117, u118, u119, u120, u121, u122, u123, u124, u125, u126, u127, u128, u129, u130, u131, u132, u133, u134, u135, u136, u137, u138, u139, u140, u141, u142, u143, u144, u145, u146, u147, u148, u149, u150, u151, u152, u153, u154, u155, u156, u157, u158, u159, u160, u161, u162, u163, u164, u165, u166, u167, u168, u169, u170, u171, u172, u173, u174, u175, u176, u177, u178, u179, u180, u181, u182, u183, u184, u185, u186, u187, u188, u189, u190, u191, u192, u193, u194, u195, u196, u197, u198, u199, u200, u201, u202, u203, u204, u205, u206, u207, u208, u209, u210, u211, u212, u213, u214, u215, u216, u217, u218, u219, u220, u221, u222, u223, u224, u225, u226, u227, u228, u229, u230, u231, u232, u233, u234, u235, u236, u237, u238, u239, u240, u241, u242, u243, u244, u245, u246, u247, u248, u249, u250, u251, u252, u253, u254, u255, u256, u257, u258, u259, u260, u261, u262, u263, u264, u265, u266, u267, u268, u269, u270, u271, u272, u273, u274, u275, u276, u277, u278, u279, u280, u281, u282, u283, u284, c285, c286, c287, c288, c289, c290, c291, c292, c293], []⟩ w') :
    Code.wp Tryd.prog ((Tryd.f5.body.bind (blockAt 4)).getD .skip) Q ⟨#[c0, c1, c2, c3, c4, .pointer (some ⟨S, 0, none⟩), .int .i64 tm, .int .i64 gv, vi, vu, va, c11, .pointer (some ⟨B, 0, none⟩), c13, tv, .bool false, c16, c17, c18, c19, c20, c21, c22, c23, c24, c25, c26, c27, c28, c29, c30, c31, c32, c33, c34, c35, c36, c37, c38, c39, c40, c41, c42, c43, c44, c45, c46, c47, c48, c49, c50, c51, c52, c53, c54, c55, c56, c57, c58, c59, c60, c61, c62, c63, c64, c65, c66, c67, c68, c69, c70, c71, c72, c73, c74, c75, c76, c77, .int .i64 z0, c79, c80, c81, c82, c83, c84, c85, c86, c87, c88, c89, c90, c91, c92, c93, c94, c95, c96, c97, c98, c99, c100, c101, c102, c103, c104, c105, c106, c107, c108, c109, c110, c111, c112, c113, c114, c115, c116, c117, c118, c119, c120, c121, c122, c123, c124, c125, c126, c127, c128, c129, c130, c131, c132, c133, c134, c135, c136, c137, c138, c139, c140, c141, c142, c143, c144, c145, c146, c147, c148, c149, c150, c151, c152, c153, c154, c155, c156, c157, c158, c159, c160, c161, c162, c163, c164, c165, c166, c167, c168, c169, c170, c171, c172, c173, c174, c175, c176, c177, c178, c179, c180, c181, c182, c183, c184, c185, c186, c187, c188, c189, c190, c191, c192, c193, c194, c195, c196, c197, c198, c199, c200, c201, c202, c203, c204, c205, c206, c207, c208, c209, c210, c211, c212, c213, c214, c215, c216, c217, c218, c219, c220, c221, c222, c223, c224, c225, c226, c227, c228, c229, c230, c231, c232, c233, c234, c235, c236, c237, c238, c239, c240, c241, c242, c243, c244, c245, c246, c247, c248, c249, c250, c251, c252, c253, c254, c255, c256, c257, c258, c259, c260, c261, c262, c263, c264, c265, c266, c267, c268, c269, c270, c271, c272, c273, c274, c275, c276, c277, c278, c279, c280, c281, c282, c283, c284, c285, c286, c287, c288, c289, c290, c291, c292, c293], []⟩ w1 := by
  conv => arg 2; whnf
  have HK1 := hide hT.lp
  have HAG := hide hT.ag
  have HTV := hide hT.tv
  have HG := hide hT.hand
  have HGV := hide (And.intro hT.g0 (And.intro hT.gk hT.k8))
  have HQ := hide hQ
  obtain ⟨b0w1, b1w1, b2w1, sBw1⟩ := cellsB HK1.out
  obtain ⟨ao, co, rfl⟩ := HK1.out.ls.shape
  obtain ⟨n, hn⟩ : ∃ n, n = E.length := ⟨_, rfl⟩
  have h20 : n ≤ 20 := by rw [hn]; exact HK1.out.len
  have HN := hide hn
  have HLI : Hid (I.length = n) := hide (by rw [hn]; exact HAG.out.lens.1)
  have HLU : Hid (U.length = n) := hide (by rw [hn]; exact HAG.out.lens.2.1)
  have HLA : Hid (A.length = n) := hide (by rw [hn]; exact HAG.out.lens.2.2)
  clear hT hQ hn
  have hc0 : (c == 0) = false := by simpa using hc
  have HE := hide hl
  have HC0 := hide hc
  clear hl hc
  obtain ⟨ai, ci, hvi⟩ : ∃ a c, vi = .slice a n c := by
    rcases HK1.out.ids.2 with ⟨h, h2⟩ | ⟨g, c, cur, h, _⟩
    · exact ⟨none, 0, by rw [h, ← HLI.out, h2]⟩
    · exact ⟨_, c, by rw [h, HLI.out]⟩
  obtain ⟨au, cu, hvu⟩ : ∃ a c, vu = .slice a n c := by
    rcases HK1.out.unt.2 with ⟨h, h2⟩ | ⟨g, c, cur, h, _⟩
    · exact ⟨none, 0, by rw [h, ← HLU.out, h2]⟩
    · exact ⟨_, c, by rw [h, HLU.out]⟩
  obtain ⟨aa, ca, hva⟩ : ∃ a c, va = .slice a n c := by
    obtain ⟨xs, h1, _⟩ := HK1.out.all
    rcases h1.2 with ⟨h, h2⟩ | ⟨g, c, cur, h, _⟩
    · exact ⟨none, 0, by rw [h, ← HLA.out, h2]⟩
    · exact ⟨_, c, by rw [h, HLA.out]⟩
  subst hvi hvu hva
  go_wp2_with fail
  refine (HK1.out.tup HTV.out HE.out).mono ?_
  rintro e w2 ⟨rfl, hK⟩
  have HK2 := hide hK
  obtain ⟨b0w2, b1w2, b2w2, sBw2⟩ := cellsB hK
  clear HK1 b0w1 b1w1 b2w1 sBw1
  clear hK
  dsimp only
  go_wp2_with fail
  refine (HK2.out.putBad HTV.out HE.out HC0.out).mono ?_
  rintro e w3 ⟨rfl, hK⟩
  have HK3 := hide hK
  obtain ⟨b0w3, b1w3, b2w3, sBw3⟩ := cellsB hK
  clear HK2 b0w2 b1w2 b2w2 sBw2
  clear hK
  dsimp only
  go_wp2_with fail
  refine (HK3.out.same HG.out c c).mono ?_
  rintro e w4 ⟨rfl, hK, _⟩
  have HK4 := hide hK
  obtain ⟨b0w4, b1w4, b2w4, sBw4⟩ := cellsB hK
  clear HK3 b0w3 b1w3 b2w3 sBw3
  clear hK
  dsimp only
  go_wp2_with fail
  exact HQ.out _ _ _ _ _ _ _ _ _ _ _ _ _ _ _ _ _ _ _ _ _ _ _ _ _ _ _ _ _ _ _ _ _ _ _ _ _ _ _ _ _ _ _ _ _ _ _ _ _ _ _ _ _ _ _ _ _ _ _ _ _ _ _ _ _ _ _ _ _ _ _ _ _ _ _ _ _ _ _ _ _ _ _ _ _ _ _ _ _ _ _ _ _ _ _ _ _ _ _ _ _ _ _ _ _ _ _ _ _ _ _ _ _ _ _ _ _ _ _ _ _ _ _ _ _ _ _ _ _ _ _ _ _ _ _ _ _ _ _ _ _ _ _ _ _ _ _ _ _ _ _ _ _ _ _ _ _ _ _ _ _ _ _ _ _ _ _ _ _ _ _ _ _ _ _ _ _ _ _ _ _ _ _ _ _ _ _ _ _ _ _ _ _ _ _ _ _ _ _ _ _ _ _ _ _ _ _ _ _ _ _ _ _ _ _ _ _ _ _ _ _ _ _ _ _ _ _ tm gv _ _ _ ⟨_, _, _, _, _, HAG.out, HK4.out.known (fun _ _ (hf : False) => hf.elim), ⟨HGV.out.1, by have := HGV.out.2.1; omega⟩⟩

set_option maxHeartbeats 4000000 in
set_option maxRecDepth 1000000 in
theorem br3b {Q : Exit → Act → World → Prop} {w w1 : World} {S B k : Nat} {tm gv : Int} {v vi vu va tv : Value} {E : List Ent} {I U : List Int} {A : List (List M.Val)} {l : List M.Val} {z1 z2 z0 : Int} 
    (c0 c1 c2 c3 c4 c11 c13 c16 c17 c18 c19 c20 c21 c22 c23 c24 c25 c26 c27 c28 c29 c30 c31 c32 c33 c34 c35 c36 c37 c38 c39 c40 c41 c42 c43 c44 c45 c46 c47 c48 c49 c50 c51 c52 c53 c54 c55 c56 c57 c58 c59 c60 c61 c62 c63 c64 c65 c66 c67 c68 c69 c70 c71 c72 c73 c74 c75 c76 c77 c79 c80 c81 c82 c83 c84 c85 c86 c87 c88 c89 c90 c91 c92 c93 c94 c95 c96 c97 c98 c99 c100 c101 c102 c103 c104 c105 c106 c107 c108 c109 c110 c111 c112 c113 c114 c115 c116 c117 c118 c119 c120 c121 c122 c123 c124 c125 c126 c127 c128 c129 c130 c131 c132 c133 c134 c135 c136 c137 c138 c139 c140 c141 c142 c143 c144 c145 c146 c147 c148 c149 c150 c151 c152 c153 c154 c155 c156 c157 c158 c159 c160 c161 c162 c163 c164 c165 c166 c167 c168 c169 c170 c171 c172 c173 c174 c175 c176 c177 c178 c179 c180 c181 c182 c183 c184 c185 c186 c187 c188 c189 c190 c191 c192 c193 c194 c195 c196 c197 c198 c199 c200 c201 c202 c203 c204 c205 c206 c207 c208 c209 c210 c211 c212 c213 c214 c215 c216 c217 c218 c219 c220 c221 c222 c223 c224 c225 c226 c227 c228 c229 c230 c231 c232 c233 c234 c235 c236 c237 c238 c239 c240 c241 c242 c243 c244 c245 c246 c247 c248 c249 c250 c251 c252 c253 c254 c255 c256 c257 c258 c259 c260 c261 c262 c263 c264 c265 c266 c267 c268 c269 c270 c271 c272 c273 c274 c275 c276 c277 c278 c279 c280 c281 c282 c283 c284 c285 c286 c287 c288 c289 c290 c291 c292 c293 : Value) (hT : Tuned w w1 S B k tm gv v vi vu va tv E I U A l z0 z1 z2) (d0 : (z0 == 0) = false) (d1 : (z0 == 1) = false) (d2 : (z0 == 2) = false) (hl : M.tupF l = 0) (hm : M.may tm z1 = false) (hq : z1 ≤ tm ∨ ¬ z1 ≤ tm ∧ 10000 < z1)
    (hQ : ∀ (u16 u17 u18 u19 u20 u21 u22 u23 u24 u25 u26 u27 u28 u29 u30 u31 u32 u33 u34 u35 u79 u80 u81 u82 u83 u84 u85 u86 u87 u88 u89 u90 u91 u92 u93 u94 u95 u96 u97 u98 u99 u100 u101 u102 u103 u104 u105 u106 u107 u108 u109 u110 u111 u112 u113 u114 u115 u116 u117 u118 u119 u120 u121 u122 u123 u124 u125 u126 u127 u128 u129 u130 u131 u132 u133 u134 u135 u136 u137 u138 u139 u140 u141 u142 u143 u144 u145 u146 u147 u148 u149 u150 u151 u152 u153 u154 u155 u156 u157 u158 u159 u160 u161 u162 u163 u164 u165 u166 u167 u168 u169 u170 u171 u172 u173 u174 u175 u176 u177 u178 u179 u180 u181 u182 u183 u184 u185 u186 u187 u188 u189 u190 u191 u192 u193 u194 u195 u196 u197 u198 u199 u200 u201 u202 u203 u204 u205 u206 u207 u208 u209 u210 u211 u212 u213 u214 u215 u216 u217 u218 u219 u220 u221 u222 u223 u224 u225 u226 u227 u228 u229 u230 u231 u232 u233 u234 u235 u236 u237 u238 u239 u240 u241 u242 u243 u244 u245 u246 u247 u248 u249 u250 u251 u252 u253 u254 u255 u256 u257 u258 u259 u260 u261 u262 u263 u264 u265 u266 u267 u268 u269 u270 u271 u272 u273 u274 u275 u276 u277 u278 u279 u280 u281 u282 u283 u284 : Value) (w' : World) (tmN gvN : Int) (viN vuN vaN : Value), Done w w' S k tmN gvN viN vuN vaN → Q .normal ⟨#[c0, c1, c2, c3, c4, .pointer (some ⟨S, 0, none⟩), .int .i64 tmN, .int .i64 gvN, viN, vuN, vaN, c11, .pointer (some ⟨B, 0, none⟩), c13, tv, .bool true, u16, u17, u18, u19, u20, u21, u22, u23, u24, u25, u26, u27, u28, u29, u30, u31, u32, u33, u34, u35, c36, c37, c38, c39, c40, c41, c42, c43, c44, c45, c46, c47, c48, c49, c50, c51, c52, c53, c54, c55, c56, c57, c58, c59, c60, c61, c62, c63, c64, c65, c66, c67, c68, c69, c70, c71, c72, c73, c74, c75, c76, c77, .int .i64 z0, u79, u80, u81, u82, u83, u84, u85, u86, u87, u88, u89, u90, u91, u92, u93, u94, u95, u96, u97, u98, u99, u100, u101, u102, u103, u104, u105, u106, u107, u108, u109, u110, u111, u112, u113, u114, u115, u116, u117, u118, u119, u120, u121, u122, u123, u124, u125, u126, u127, u128, u129, u130, u131, u132, u133, u134, u135, u136, u137, u138, u139, u140, u141, u142, u143, u144, u145, u146, u147, u148, u149, u150, u151, u152, u153, u154, u155, u156, u157, u158, u159, u160, u161, u162, u163, u164, u165, u166, u167, u168, u169, u170, u171, u172, u173, u174, u175, u176, u177, u178, u179, u180, u181, u182, u183, u184, u185, u186, u187, u188, u189, u190, u191, u192, u193, u194, u195, u196, u197, u198, u199, u200, u201, u202, u203, u204, u205, u206, u207, u208, u209, u210, u211, u212, u213, u214, u215, u216, u217, u218, u219, u220, u221, u222, u223, u224, u225, u226, u227, u228, u229, u230, u231, u232, u233, u234, u235, u236, u237, u238, u239, u240, u241, u242, u243, u244, u245, u246, u247, u248, u249, u250, u251, u252, u253, u254, u255, u256, u257, u258, u259, u260, u261, u262, u263, u264, u265, u266, u267, u268, u269, u270, u271, u272, u273, u274, u275, u276, u277, u278, u279, u280, u281, u282, u283, u284, c285, c286, c287, c288, c289, c290, c291, c292, c293], []⟩ w') :
    Code.wp Tryd.prog ((Tryd.f5.body.bind (blockAt 4)).getD .skip) Q ⟨#[c0, c1, c2, c3, c4, .pointer (some ⟨S, 0, none⟩), .int .i64 tm, .int .i64 gv, vi, vu, va, c11, .pointer (some ⟨B, 0, none⟩), c13, tv, .bool false, c16, c17, c18, c19, c20, c21, c22, c23, c24, c25, c26, c27, c28, c29, c30, c31, c32, c33, c34, c35, c36, c37, c38, c39, c40, c41, c42, c43, c44, c45, c46, c47, c48, c49, c50, c51, c52, c53, c54, c55, c56, c57, c58, c59, c60, c61, c62, c63, c64, c65, c66, c67, c68, c69, c70, c71, c72, c73, c74, c75, c76, c77, .int .i64 z0, c79, c80, c81, c82, c83, c84, c85, c86, c87, c88, c89, c90, c91, c92, c93, c94, c95, c96, c97, c98, c99, c100, c101, c102, c103, c104, c105, c106, c107, c108, c109, c110, c111, c112, c113, c114, c115, c116, c117, c118, c119, c120, c121, c122, c123, c124, c125, c126, c127, c128, c129, c130, c131, c132, c133, c134, c135, c136, c137, c138, c139, c140, c141, c142, c143, c144, c145, c146, c147, c148, c149, c150, c151, c152, c153, c154, c155, c156, c157, c158, c159, c160, c161, c162, c163, c164, c165, c166, c167, c168, c169, c170, c171, c172, c173, c174, c175, c176, c177, c178, c179, c180, c181, c182, c183, c184, c185, c186, c187, c188, c189, c190, c191, c192, c193, c194, c195, c196, c197, c198, c199, c200, c201, c202, c203, c204, c205, c206, c207, c208, c209, c210, c211, c212, c213, c214, c215, c216, c217, c218, c219, c220, c221, c222, c223, c224, c225, c226, c227, c228, c229, c230, c231, c232, c233, c234, c235, c236, c237, c238, c239, c240, c241, c242, c243, c244, c245, c246, c247, c248, c249, c250, c251, c252, c253, c254, c255, c256, c257, c258, c259, c260, c261, c262, c263, c264, c265, c266, c267, c268, c269, c270, c271, c272, c273, c274, c275, c276, c277, c278, c279, c280, c281, c282, c283, c284, c285, c286, c287, c288, c289, c290, c291, c292, c293], []⟩ w1 := by
  conv => arg 2; whnf
  have HK1 := hide hT.lp
  have HAG := hide hT.ag
  have HTV := hide hT.tv
  have HG := hide hT.hand
  have HGV := hide (And.intro hT.g0 (And.intro hT.gk hT.k8))
  have HQ := hide hQ
  obtain ⟨b0w1, b1w1, b2w1, sBw1⟩ := cellsB HK1.out
  obtain ⟨ao, co, rfl⟩ := HK1.out.ls.shape
  obtain ⟨n, hn⟩ : ∃ n, n = E.length := ⟨_, rfl⟩
  have h20 : n ≤ 20 := by rw [hn]; exact HK1.out.len
  have HN := hide hn
  have HLI : Hid (I.length = n) := hide (by rw [hn]; exact HAG.out.lens.1)
  have HLU : Hid (U.length = n) := hide (by rw [hn]; exact HAG.out.lens.2.1)
  have HLA : Hid (A.length = n) := hide (by rw [hn]; exact HAG.out.lens.2.2)
  clear hT hQ hn
  have HE := hide (And.intro hl hm)
  clear hl hm
  obtain ⟨ai, ci, hvi⟩ : ∃ a c, vi = .slice a n c := by
    rcases HK1.out.ids.2 with ⟨h, h2⟩ | ⟨g, c, cur, h, _⟩
    · exact ⟨none, 0, by rw [h, ← HLI.out, h2]⟩
    · exact ⟨_, c, by rw [h, HLI.out]⟩
  obtain ⟨au, cu, hvu⟩ : ∃ a c, vu = .slice a n c := by
    rcases HK1.out.unt.2 with ⟨h, h2⟩ | ⟨g, c, cur, h, _⟩
    · exact ⟨none, 0, by rw [h, ← HLU.out, h2]⟩
    · exact ⟨_, c, by rw [h, HLU.out]⟩
  obtain ⟨aa, ca, hva⟩ : ∃ a c, va = .slice a n c := by
    obtain ⟨xs, h1, _⟩ := HK1.out.all
    rcases h1.2 with ⟨h, h2⟩ | ⟨g, c, cur, h, _⟩
    · exact ⟨none, 0, by rw [h, ← HLA.out, h2]⟩
    · exact ⟨_, c, by rw [h, HLA.out]⟩
  subst hvi hvu hva
  rcases hq with hq | ⟨hq, hq2⟩
  all_goals
    go_wp2_with fail
    refine (HK1.out.tup HTV.out HE.out.1).mono ?_
    rintro e w2 ⟨rfl, hK⟩
    have HK2 := hide hK
    obtain ⟨b0w2, b1w2, b2w2, sBw2⟩ := cellsB hK
    clear HK1 b0w1 b1w1 b2w1 sBw1
    clear hK
    dsimp only
    go_wp2_with fail
    refine (HK2.out.putLate HTV.out HE.out.1 HE.out.2).mono ?_
    rintro e w3 ⟨rfl, hK⟩
    have HK3 := hide hK
    obtain ⟨b0w3, b1w3, b2w3, sBw3⟩ := cellsB hK
    clear HK2 b0w2 b1w2 b2w2 sBw2
    clear hK
    dsimp only
    go_wp2_with fail
    refine (HK3.out.same HG.out 1 1).mono ?_
    rintro e w4 ⟨rfl, hK, _⟩
    have HK4 := hide hK
    obtain ⟨b0w4, b1w4, b2w4, sBw4⟩ := cellsB hK
    clear HK3 b0w3 b1w3 b2w3 sBw3
    clear hK
    dsimp only
    go_wp2_with fail
    exact HQ.out _ _ _ _ _ _ _ _ _ _ _ _ _ _ _ _ _ _ _ _ _ _ _ _ _ _ _ _ _ _ _ _ _ _ _ _ _ _ _ _ _ _ _ _ _ _ _ _ _ _ _ _ _ _ _ _ _ _ _ _ _ _ _ _ _ _ _ _ _ _ _ _ _ _ _ _ _ _ _ _ _ _ _ _ _ _ _ _ _ _ _ _ _ _ _ _ _ _ _ _ _ _ _ _ _ _ _ _ _ _ _ _ _ _ _ _ _ _ _ _ _ _ _ _ _ _ _ _ _ _ _ _ _ _ _ _ _ _ _ _ _ _ _ _ _ _ _ _ _ _ _ _ _ _ _ _ _ _ _ _ _ _ _ _ _ _ _ _ _ _ _ _ _ _ _ _ _ _ _ _ _ _ _ _ _ _ _ _ _ _ _ _ _ _ _ _ _ _ _ _ _ _ _ _ _ _ _ _ _ _ _ _ _ _ _ _ _ _ _ _ _ _ _ _ _ _ _ tm gv _ _ _ ⟨_, _, _, _, _, HAG.out, HK4.out.known (fun _ _ (hf : False) => hf.elim), ⟨HGV.out.1, by have := HGV.out.2.1; omega⟩⟩

set_option maxHeartbeats 4000000 in
set_option maxRecDepth 1000000 in
theorem br3c {Q : Exit → Act → World → Prop} {w w1 : World} {S B k : Nat} {tm gv : Int} {v vi vu va tv : Value} {E : List Ent} {I U : List Int} {A : List (List M.Val)} {l : List M.Val} {z1 z2 z0 : Int} 
    (c0 c1 c2 c3 c4 c11 c13 c16 c17 c18 c19 c20 c21 c22 c23 c24 c25 c26 c27 c28 c29 c30 c31 c32 c33 c34 c35 c36 c37 c38 c39 c40 c41 c42 c43 c44 c45 c46 c47 c48 c49 c50 c51 c52 c53 c54 c55 c56 c57 c58 c59 c60 c61 c62 c63 c64 c65 c66 c67 c68 c69 c70 c71 c72 c73 c74 c75 c76 c77 c79 c80 c81 c82 c83 c84 c85 c86 c87 c88 c89 c90 c91 c92 c93 c94 c95 c96 c97 c98 c99 c100 c101 c102 c103 c104 c105 c106 c107 c108 c109 c110 c111 c112 c113 c114 c115 c116 c117 c118 c119 c120 c121 c122 c123 c124 c125 c126 c127 c128 c129 c130 c131 c132 c133 c134 c135 c136 c137 c138 c139 c140 c141 c142 c143 c144 c145 c146 c147 c148 c149 c150 c151 c152 c153 c154 c155 c156 c157 c158 c159 c160 c161 c162 c163 c164 c165 c166 c167 c168 c169 c170 c171 c172 c173 c174 c175 c176 c177 c178 c179 c180 c181 c182 c183 c184 c185 c186 c187 c188 c189 c190 c191 c192 c193 c194 c195 c196 c197 c198 c199 c200 c201 c202 c203 c204 c205 c206 c207 c208 c209 c210 c211 c212 c213 c214 c215 c216 c217 c218 c219 c220 c221 c222 c223 c224 c225 c226 c227 c228 c229 c230 c231 c232 c233 c234 c235 c236 c237 c238 c239 c240 c241 c242 c243 c244 c245 c246 c247 c248 c249 c250 c251 c252 c253 c254 c255 c256 c257 c258 c259 c260 c261 c262 c263 c264 c265 c266 c267 c268 c269 c270 c271 c272 c273 c274 c275 c276 c277 c278 c279 c280 c281 c282 c283 c284 c285 c286 c287 c288 c289 c290 c291 c292 c293 : Value) (hT : Tuned w w1 S B k tm gv v vi vu va tv E I U A l z0 z1 z2) (d0 : (z0 == 0) = false) (d1 : (z0 == 1) = false) (d2 : (z0 == 2) = false) (hl : M.tupF l = 0) (hm : M.may tm z1 = true) (hr : 20 ≤ E.length)
    (hQ : ∀ (u16 u17 u18 u19 u20 u21 u22 u23 u24 u25 u26 u27 u28 u29 u30 u31 u32 u33 u34 u35 u79 u80 u81 u82 u83 u84 u85 u86 u87 u88 u89 u90 u91 u92 u93 u94 u95 u96 u97 u98 u99 u100 u101 u102 u103 u104 u105 u106 u107 u108 u109 u110 u111 u112 u113 u114 u115 u116 u117 u118 u119 u120 u121 u122 u123 u124 u125 u126 u127 u128 u129 u130 u131 u132 u133 u134 u135 u136 u137 u138 u139 u140 u141 u142 u143 u144 u145 u146 u147 u148 u149 u150 u151 u152 u153 u154 u155 u156 u157 u158 u159 u160 u161 u162 u163 u164 u165 u166 u167 u168 u169 u170 u171 u172 u173 u174 u175 u176 u177 u178 u179 u180 u181 u182 u183 u184 u185 u186 u187 u188 u189 u190 u191 u192 u193 u194 u195 u196 u197 u198 u199 u200 u201 u202 u203 u204 u205 u206 u207 u208 u209 u210 u211 u212 u213 u214 u215 u216 u217 u218 u219 u220 u221 u222 u223 u224 u225 u226 u227 u228 u229 u230 u231 u232 u233 u234 u235 u236 u237 u238 u239 u240 u241 u242 u243 u244 u245 u246 u247 u248 u249 u250 u251 u252 u253 u254 u255 u256 u257 u258 u259 u260 u261 u262 u263 u264 u265 u266 u267 u268 u269 u270 u271 u272 u273 u274 u275 u276 u277 u278 u279 u280 u281 u282 u283 u284 : Value) (w' : World) (tmN gvN : Int) (viN vuN vaN : Value), Done w w' S k tmN gvN viN vuN vaN → Q .normal ⟨#[c0, c1, c2, c3, c4, .pointer (some ⟨S, 0, none⟩), .int .i64 tmN, .int .i64 gvN, viN, vuN, vaN, c11, .pointer (some ⟨B, 0, none⟩), c13, tv, .bool true, u16, u17, u18, u19, u20, u21, u22, u23, u24, u25, u26, u27, u28, u29, u30, u31, u32, u33, u34, u35, c36, c37, c38, c39, c40, c41, c42, c43, c44, c45, c46, c47, c48, c49, c50, c51, c52, c53, c54, c55, c56, c57, c58, c59, c60, c61, c62, c63, c64, c65, c66, c67, c68, c69, c70, c71, c72, c73, c74, c75, c76, c77, .int .i64 z0, u79, u80, u81, u82, u83, u84, u85, u86, u87, u88, u89, u90, u91, u92, u93, u94, u95, u96, u97, u98, u99, u100, u101, u102, u103, u104, u105, u106, u107, u108, u109, u110, u111, u112, u113, u114, u115, u116, u117, u118, u119, u120, u121, u122, u123, u124, u125, u126, u127, u128, u129, u130, u131, u132, u133, u134, u135, u136, u137, u138, u139, u140, u141, u142, u143, u144, u145, u146, u147, u148, u149, u150, u151, u152, u153, u154, u155, u156, u157, u158, u159, u160, u161, u162, u163, u164, u165, u166, u167, u168, u169, u170, u171, u172, u173, u174, u175, u176, u177, u178, u179, u180, u181, u182, u183, u184, u185, u186, u187, u188, u189, u190, u191, u192, u193, u194, u195, u196, u197, u198, u199, u200, u201, u202, u203, u204, u205, u206, u207, u208, u209, u210, u211, u212, u213, u214, u215, u216, u217, u218, u219, u220, u221, u222, u223, u224, u225, u226, u227, u228, u229, u230, u231, u232, u233, u234, u235, u236, u237, u238, u239, u240, u241, u242, u243, u244, u245, u246, u247, u248, u249, u250, u251, u252, u253, u254, u255, u256, u257, u258, u259, u260, u261, u262, u263, u264, u265, u266, u267, u268, u269, u270, u271, u272, u273, u274, u275, u276, u277, u278, u279, u280, u281, u282, u283, u284, c285, c286, c287, c288, c289, c290, c291, c292, c293], []⟩ w') :
    Code.wp Tryd.prog ((Tryd.f5.body.bind (blockAt 4)).getD .skip) Q ⟨#[c0, c1, c2, c3, c4, .pointer (some ⟨S, 0, none⟩), .int .i64 tm, .int .i64 gv, vi, vu, va, c11, .pointer (some ⟨B, 0, none⟩), c13, tv, .bool false, c16, c17, c18, c19, c20, c21, c22, c23, c24, c25, c26, c27, c28, c29, c30, c31, c32, c33, c34, c35, c36, c37, c38, c39, c40, c41, c42, c43, c44, c45, c46, c47, c48, c49, c50, c51, c52, c53, c54, c55, c56, c57, c58, c59, c60, c61, c62, c63, c64, c65, c66, c67, c68, c69, c70, c71, c72, c73, c74, c75, c76, c77, .int .i64 z0, c79, c80, c81, c82, c83, c84, c85, c86, c87, c88, c89, c90, c91, c92, c93, c94, c95, c96, c97, c98, c99, c100, c101, c102, c103, c104, c105, c106, c107, c108, c109, c110, c111, c112, c113, c114, c115, c116, c117, c118, c119, c120, c121, c122, c123, c124, c125, c126, c127, c128, c129, c130, c131, c132, c133, c134, c135, c136, c137, c138, c139, c140, c141, c142, c143, c144, c145, c146, c147, c148, c149, c150, c151, c152, c153, c154, c155, c156, c157, c158, c159, c160, c161, c162, c163, c164, c165, c166, c167, c168, c169, c170, c171, c172, c173, c174, c175, c176, c177, c178, c179, c180, c181, c182, c183, c184, c185, c186, c187, c188, c189, c190, c191, c192, c193, c194, c195, c196, c197, c198, c199, c200, c201, c202, c203, c204, c205, c206, c207, c208, c209, c210, c211, c212, c213, c214, c215, c216, c217, c218, c219, c220, c221, c222, c223, c224, c225, c226, c227, c228, c229, c230, c231, c232, c233, c234, c235, c236, c237, c238, c239, c240, c241, c242, c243, c244, c245, c246, c247, c248, c249, c250, c251, c252, c253, c254, c255, c256, c257, c258, c259, c260, c261, c262, c263, c264, c265, c266, c267, c268, c269, c270, c271, c272, c273, c274, c275, c276, c277, c278, c279, c280, c281, c282, c283, c284, c285, c286, c287, c288, c289, c290, c291, c292, c293], []⟩ w1 := by
  conv => arg 2; whnf
  have HK1 := hide hT.lp
  have HAG := hide hT.ag
  have HTV := hide hT.tv
  have HG := hide hT.hand
  have HGV := hide (And.intro hT.g0 (And.intro hT.gk hT.k8))
  have HQ := hide hQ
  obtain ⟨b0w1, b1w1, b2w1, sBw1⟩ := cellsB HK1.out
  obtain ⟨ao, co, rfl⟩ := HK1.out.ls.shape
  obtain ⟨n, hn⟩ : ∃ n, n = E.length := ⟨_, rfl⟩
  have h20 : n ≤ 20 := by rw [hn]; exact HK1.out.len
  have HN := hide hn
  have HLI : Hid (I.length = n) := hide (by rw [hn]; exact HAG.out.lens.1)
  have HLU : Hid (U.length = n) := hide (by rw [hn]; exact HAG.out.lens.2.1)
  have HLA : Hid (A.length = n) := hide (by rw [hn]; exact HAG.out.lens.2.2)
  clear hT hQ hn
  have HE := hide (And.intro hl (And.intro hm hr))
  have hq1 : ¬ z1 ≤ tm := by have := (may_iff.1 hm).1; omega
  have hq2 : ¬ 10000 < z1 := by have := (may_iff.1 hm).2; omega
  have hr2 : (20 : Int) ≤ (n : Int) := by have := HN.out; omega
  clear hl hm hr
  obtain ⟨ai, ci, hvi⟩ : ∃ a c, vi = .slice a n c := by
    rcases HK1.out.ids.2 with ⟨h, h2⟩ | ⟨g, c, cur, h, _⟩
    · exact ⟨none, 0, by rw [h, ← HLI.out, h2]⟩
    · exact ⟨_, c, by rw [h, HLI.out]⟩
  obtain ⟨au, cu, hvu⟩ : ∃ a c, vu = .slice a n c := by
    rcases HK1.out.unt.2 with ⟨h, h2⟩ | ⟨g, c, cur, h, _⟩
    · exact ⟨none, 0, by rw [h, ← HLU.out, h2]⟩
    · exact ⟨_, c, by rw [h, HLU.out]⟩
  obtain ⟨aa, ca, hva⟩ : ∃ a c, va = .slice a n c := by
    obtain ⟨xs, h1, _⟩ := HK1.out.all
    rcases h1.2 with ⟨h, h2⟩ | ⟨g, c, cur, h, _⟩
    · exact ⟨none, 0, by rw [h, ← HLA.out, h2]⟩
    · exact ⟨_, c, by rw [h, HLA.out]⟩
  subst hvi hvu hva
  go_wp2_with fail
  refine (HK1.out.tup HTV.out HE.out.1).mono ?_
  rintro e w2 ⟨rfl, hK⟩
  have HK2 := hide hK
  obtain ⟨b0w2, b1w2, b2w2, sBw2⟩ := cellsB hK
  clear HK1 b0w1 b1w1 b2w1 sBw1
  clear hK
  dsimp only
  go_wp2_with fail
  refine (HK2.out.putFull HTV.out HE.out.1 HE.out.2.1 HE.out.2.2).mono ?_
  rintro e w3 ⟨rfl, hK⟩
  have HK3 := hide hK
  obtain ⟨b0w3, b1w3, b2w3, sBw3⟩ := cellsB hK
  clear HK2 b0w2 b1w2 b2w2 sBw2
  clear hK
  dsimp only
  go_wp2_with fail
  refine (HK3.out.same HG.out 4 4).mono ?_
  rintro e w4 ⟨rfl, hK, _⟩
  have HK4 := hide hK
  obtain ⟨b0w4, b1w4, b2w4, sBw4⟩ := cellsB hK
  clear HK3 b0w3 b1w3 b2w3 sBw3
  clear hK
  dsimp only
  go_wp2_with fail
  exact HQ.out _ _ _ _ _ _ _ _ _ _ _ _ _ _ _ _ _ _ _ _ _ _ _ _ _ _ _ _ _ _ _ _ _ _ _ _ _ _ _ _ _ _ _ _ _ _ _ _ _ _ _ _ _ _ _ _ _ _ _ _ _ _ _ _ _ _ _ _ _ _ _ _ _ _ _ _ _ _ _ _ _ _ _ _ _ _ _ _ _ _ _ _ _ _ _ _ _ _ _ _ _ _ _ _ _ _ _ _ _ _ _ _ _ _ _ _ _ _ _ _ _ _ _ _ _ _ _ _ _ _ _ _ _ _ _ _ _ _ _ _ _ _ _ _ _ _ _ _ _ _ _ _ _ _ _ _ _ _ _ _ _ _ _ _ _ _ _ _ _ _ _ _ _ _ _ _ _ _ _ _ _ _ _ _ _ _ _ _ _ _ _ _ _ _ _ _ _ _ _ _ _ _ _ _ _ _ _ _ _ _ _ _ _ _ _ _ _ _ _ _ _ _ _ _ _ _ _ tm gv _ _ _ ⟨_, _, _, _, _, HAG.out, HK4.out.known (fun _ _ (hf : False) => hf.elim), ⟨HGV.out.1, by have := HGV.out.2.1; omega⟩⟩

set_option maxHeartbeats 4000000 in
set_option maxRecDepth 1000000 in
theorem br3k {Q : Exit → Act → World → Prop} {w w1 : World} {S B k : Nat} {tm gv : Int} {v vi vu va tv : Value} {E : List Ent} {I U : List Int} {A : List (List M.Val)} {l : List M.Val} {z1 z2 z0 : Int} 
    (c0 c1 c2 c3 c4 c11 c13 c16 c17 c18 c19 c20 c21 c22 c23 c24 c25 c26 c27 c28 c29 c30 c31 c32 c33 c34 c35 c36 c37 c38 c39 c40 c41 c42 c43 c44 c45 c46 c47 c48 c49 c50 c51 c52 c53 c54 c55 c56 c57 c58 c59 c60 c61 c62 c63 c64 c65 c66 c67 c68 c69 c70 c71 c72 c73 c74 c75 c76 c77 c79 c80 c81 c82 c83 c84 c85 c86 c87 c88 c89 c90 c91 c92 c93 c94 c95 c96 c97 c98 c99 c100 c101 c102 c103 c104 c105 c106 c107 c108 c109 c110 c111 c112 c113 c114 c115 c116 c117 c118 c119 c120 c121 c122 c123 c124 c125 c126 c127 c128 c129 c130 c131 c132 c133 c134 c135 c136 c137 c138 c139 c140 c141 c142 c143 c144 c145 c146 c147 c148 c149 c150 c151 c152 c153 c154 c155 c156 c157 c158 c159 c160 c161 c162 c163 c164 c165 c166 c167 c168 c169 c170 c171 c172 c173 c174 c175 c176 c177 c178 c179 c180 c181 c182 c183 c184 c185 c186 c187 c188 c189 c190 c191 c192 c193 c194 c195 c196 c197 c198 c199 c200 c201 c202 c203 c204 c205 c206 c207 c208 c209 c210 c211 c212 c213 c214 c215 c216 c217 c218 c219 c220 c221 c222 c223 c224 c225 c226 c227 c228 c229 c230 c231 c232 c233 c234 c235 c236 c237 c238 c239 c240 c241 c242 c243 c244 c245 c246 c247 c248 c249 c250 c251 c252 c253 c254 c255 c256 c257 c258 c259 c260 c261 c262 c263 c264 c265 c266 c267 c268 c269 c270 c271 c272 c273 c274 c275 c276 c277 c278 c279 c280 c281 c282 c283 c284 c285 c286 c287 c288 c289 c290 c291 c292 c293 : Value) (hT : Tuned w w1 S B k tm gv v vi vu va tv E I U A l z0 z1 z2) (d0 : (z0 == 0) = false) (d1 : (z0 == 1) = false) (d2 : (z0 == 2) = false) (hl : M.tupF l = 0) (hm : M.may tm z1 = true) (hr : E.length < 20)
    (hQ : ∀ (u16 u17 u18 u19 u20 u21 u22 u23 u24 u25 u26 u27 u28 u29 u30 u31 u32 u33 u34 u35 u79 u80 u81 u82 u83 u84 u85 u86 u87 u88 u89 u90 u91 u92 u93 u94 u95 u96 u97 u98 u99 u100 u101 u102 u103 u104 u105 u106 u107 u108 u109 u110 u111 u112 u113 u114 u115 u116 u117 u118 u119 u120 u121 u122 u123 u124 u125 u126 u127 u128 u129 u130 u131 u132 u133 u134 u135 u136 u137 u138 u139 u140 u141 u142 u143 u144 u145 u146 u147 u148 u149 u150 u151 u152 u153 u154 u155 u156 u157 u158 u159 u160 u161 u162 u163 u164 u165 u166 u167 u168 u169 u170 u171 u172 u173 u174 u175 u176 u177 u178 u179 u180 u181 u182 u183 u184 u185 u186 u187 u188 u189 u190 u191 u192 u193 u194 u195 u196 u197 u198 u199 u200 u201 u202 u203 u204 u205 u206 u207 u208 u209 u210 u211 u212 u213 u214 u215 u216 u217 u218 u219 u220 u221 u222 u223 u224 u225 u226 u227 u228 u229 u230 u231 u232 u233 u234 u235 u236 u237 u238 u239 u240 u241 u242 u243 u244 u245 u246 u247 u248 u249 u250 u251 u252 u253 u254 u255 u256 u257 u258 u259 u260 u261 u262 u263 u264 u265 u266 u267 u268 u269 u270 u271 u272 u273 u274 u275 u276 u277 u278 u279 u280 u281 u282 u283 u284 : Value) (w' : World) (tmN gvN : Int) (viN vuN vaN : Value), Done w w' S k tmN gvN viN vuN vaN → Q .normal ⟨#[c0, c1, c2, c3, c4, .pointer (some ⟨S, 0, none⟩), .int .i64 tmN, .int .i64 gvN, viN, vuN, vaN, c11, .pointer (some ⟨B, 0, none⟩), c13, tv, .bool true, u16, u17, u18, u19, u20, u21, u22, u23, u24, u25, u26, u27, u28, u29, u30, u31, u32, u33, u34, u35, c36, c37, c38, c39, c40, c41, c42, c43, c44, c45, c46, c47, c48, c49, c50, c51, c52, c53, c54, c55, c56, c57, c58, c59, c60, c61, c62, c63, c64, c65, c66, c67, c68, c69, c70, c71, c72, c73, c74, c75, c76, c77, .int .i64 z0, u79, u80, u81, u82, u83, u84, u85, u86, u87, u88, u89, u90, u91, u92, u93, u94, u95, u96, u97, u98, u99, u100, u101, u102, u103, u104, u105, u106, u107, u108, u109, u110, u111, u112, u113, u114, u115, u116, u117, u118, u119, u120, u121, u122, u123, u124, u125, u126, u127, u128, u129, u130, u131, u132, u133, u134, u135, u136, u137, u138, u139, u140, u141, u142, u143, u144, u145, u146, u147, u148, u149, u150, u151, u152, u153, u154, u155, u156, u157, u158, u159, u160, u161, u162, u163, u164, u165, u166, u167, u168, u169, u170, u171, u172, u173, u174, u175, u176, u177, u178, u179, u180, u181, u182, u183, u184, u185, u186, u187, u188, u189, u190, u191, u192, u193, u194, u195, u196, u197, u198, u199, u200, u201, u202, u203, u204, u205, u206, u207, u208, u209, u210, u211, u212, u213, u214, u215, u216, u217, u218, u219, u220, u221, u222, u223, u224, u225, u226, u227, u228, u229, u230, u231, u232, u233, u234, u235, u236, u237, u238, u239, u240, u241, u242, u243, u244, u245, u246, u247, u248, u249, u250, u251, u252, u253, u254, u255, u256, u257, u258, u259, u260, u261, u262, u263, u264, u265, u266, u267, u268, u269, u270, u271, u272, u273, u274, u275, u276, u277, u278, u279, u280, u281, u282, u283, u284, c285, c286, c287, c288, c289, c290, c291, c292, c293], []⟩ w') :
    Code.wp Tryd.prog ((Tryd.f5.body.bind (blockAt 4)).getD .skip) Q ⟨#[c0, c1, c2, c3, c4, .pointer (some ⟨S, 0, none⟩), .int .i64 tm, .int .i64 gv, vi, vu, va, c11, .pointer (some ⟨B, 0, none⟩), c13, tv, .bool false, c16, c17, c18, c19, c20, c21, c22, c23, c24, c25, c26, c27, c28, c29, c30, c31, c32, c33, c34, c35, c36, c37, c38, c39, c40, c41, c42, c43, c44, c45, c46, c47, c48, c49, c50, c51, c52, c53, c54, c55, c56, c57, c58, c59, c60, c61, c62, c63, c64, c65, c66, c67, c68, c69, c70, c71, c72, c73, c74, c75, c76, c77, .int .i64 z0, c79, c80, c81, c82, c83, c84, c85, c86, c87, c88, c89, c90, c91, c92, c93, c94, c95, c96, c97, c98, c99, c100, c101, c102, c103, c104, c105, c106, c107, c108, c109, c110, c111, c112, c113, c114, c115, c116, c117, c118, c119, c120, c121, c122, c123, c124, c125, c126, c127, c128, c129, c130, c131, c132, c133, c134, c135, c136, c137, c138, c139, c140, c141, c142, c143, c144, c145, c146, c147, c148, c149, c150, c151, c152, c153, c154, c155, c156, c157, c158, c159, c160, c161, c162, c163, c164, c165, c166, c167, c168, c169, c170, c171, c172, c173, c174, c175, c176, c177, c178, c179, c180, c181, c182, c183, c184, c185, c186, c187, c188, c189, c190, c191, c192, c193, c194, c195, c196, c197, c198, c199, c200, c201, c202, c203, c204, c205, c206, c207, c208, c209, c210, c211, c212, c213, c214, c215, c216, c217, c218, c219, c220, c221, c222, c223, c224, c225, c226, c227, c228, c229, c230, c231, c232, c233, c234, c235, c236, c237, c238, c239, c240, c241, c242, c243, c244, c245, c246, c247, c248, c249, c250, c251, c252, c253, c254, c255, c256, c257, c258, c259, c260, c261, c262, c263, c264, c265, c266, c267, c268, c269, c270, c271, c272, c273, c274, c275, c276, c277, c278, c279, c280, c281, c282, c283, c284, c285, c286, c287, c288, c289, c290, c291, c292, c293], []⟩ w1 := by
  conv => arg 2; whnf
  have HK1 := hide hT.lp
  have HAG := hide hT.ag
  have HTV := hide hT.tv
  have HG := hide hT.hand
  have HGV := hide (And.intro hT.g0 (And.intro hT.gk hT.k8))
  have HQ := hide hQ
  obtain ⟨b0w1, b1w1, b2w1, sBw1⟩ := cellsB HK1.out
  obtain ⟨ao, co, rfl⟩ := HK1.out.ls.shape
  obtain ⟨n, hn⟩ : ∃ n, n = E.length := ⟨_, rfl⟩
  have h20 : n ≤ 20 := by rw [hn]; exact HK1.out.len
  have HN := hide hn
  have HLI : Hid (I.length = n) := hide (by rw [hn]; exact HAG.out.lens.1)
  have HLU : Hid (U.length = n) := hide (by rw [hn]; exact HAG.out.lens.2.1)
  have HLA : Hid (A.length = n) := hide (by rw [hn]; exact HAG.out.lens.2.2)
  clear hT hQ hn
  obtain ⟨iI, hi1, hi2, hi3, hi4⟩ := info_parts infoI
  have HII := hide (And.intro hi1 (And.intro hi2 (And.intro hi3 hi4)))
  obtain ⟨iT, ht1, ht2, ht3, ht4⟩ := info_parts infoT
  have HIT := hide (And.intro ht1 (And.intro ht2 (And.intro ht3 ht4)))
  have HE := hide (And.intro hl (And.intro hm hr))
  have hq1 : ¬ z1 ≤ tm := by have := (may_iff.1 hm).1; omega
  have hq2 : ¬ 10000 < z1 := by have := (may_iff.1 hm).2; omega
  have hr2 : ¬ (20 : Int) ≤ (n : Int) := by have := HN.out; omega
  have hnr : n < 20 := by have := HN.out; omega
  have hw1 : IntKind.i64.wrap (gv + 1) = gv + 1 := IntWalk.i64_in _ ⟨by have := HGV.out.1; omega, by have := HGV.out.2; omega⟩
  obtain ⟨at_, nt, ct, rfl⟩ := isVals_slice HTV.out
  clear hl hm hr hi1 hi2 hi3 hi4 ht1 ht2 ht3 ht4
  obtain ⟨ai, ci, hvi⟩ : ∃ a c, vi = .slice a n c := by
    rcases HK1.out.ids.2 with ⟨h, h2⟩ | ⟨g, c, cur, h, _⟩
    · exact ⟨none, 0, by rw [h, ← HLI.out, h2]⟩
    · exact ⟨_, c, by rw [h, HLI.out]⟩
  obtain ⟨au, cu, hvu⟩ : ∃ a c, vu = .slice a n c := by
    rcases HK1.out.unt.2 with ⟨h, h2⟩ | ⟨g, c, cur, h, _⟩
    · exact ⟨none, 0, by rw [h, ← HLU.out, h2]⟩
    · exact ⟨_, c, by rw [h, HLU.out]⟩
  obtain ⟨aa, ca, hva⟩ : ∃ a c, va = .slice a n c := by
    obtain ⟨xs, h1, _⟩ := HK1.out.all
    rcases h1.2 with ⟨h, h2⟩ | ⟨g, c, cur, h, _⟩
    · exact ⟨none, 0, by rw [h, ← HLA.out, h2]⟩
    · exact ⟨_, c, by rw [h, HLA.out]⟩
  subst hvi hvu hva
  go_wp2_with fail
  refine (HK1.out.tup HTV.out HE.out.1).mono ?_
  rintro e w2 ⟨rfl, hK⟩
  have HK2 := hide hK
  obtain ⟨b0w2, b1w2, b2w2, sBw2⟩ := cellsB hK
  clear HK1 b0w1 b1w1 b2w1 sBw1
  clear hK
  dsimp only
  have HK2a := hide (HK2.out.quiet ((Below.refl _ _).alloc (Nat.le_refl _) (.cells #[Value.int .i64 (gv + 1)] 3)))
  have HXw3 := hide HK2a.out.ids
  rw [HLI.out] at HXw3
  have HNWw3 : Hid (∀ j u, [Value.int .i64 (gv + 1)][j]? = some u → (w2.alloc (.cells #[Value.int .i64 (gv + 1)] 3)).cell? ((⟨w2.heap.size, 0, none⟩ : Addr).add j) = some u) := hide (World.news_of_block (heap_alloc_new w2 _))
  have HWSw3 : Hid (w.heap.size ≤ (w2.alloc (.cells #[Value.int .i64 (gv + 1)] 3)).heap.size) := hide HK2a.out.bel.size
  go_wp2_with (at_builtin; refine wpList_append_lies _ rfl (.tmp 106) (.tmp 108) 22 rfl w.heap.size 3 iI (.int .i64 0) 1 8 Tryd.underlying22 HII.out.1 HII.out.2.1 HII.out.2.2.1 HII.out.2.2.2 rfl (by decide) (.slice ai n ci) n (ints I) rfl HXw3.out ⟨w2.heap.size, 0, none⟩ 1 1 [Value.int .i64 (gv + 1)] rfl rfl HNWw3.out (by intro u hu; simp at hu; subst hu; rfl) (by decide) (by unfold maxLen; omega) (by omega) HWSw3.out (w2.heap.size + 1) (by simp) ?_)
  intro gi ki w3 hown hgrow hat hlt
  have HK3 := hide (HK2a.out.appId (x := gv + 1) (by rw [HLI.out]; exact hown) hgrow hat (by simp))
  obtain ⟨b0w3, b1w3, b2w3, sBw3⟩ := cellsB HK3.out
  clear hown hgrow hat hlt HK2 HK2a b0w2 b1w2 b2w2 sBw2 
  have HLI2 : Hid ((I ++ [gv + 1]).length = n + 1) := hide (by simp [HLI.out])
  have HK3a := hide (HK3.out.quiet ((Below.refl _ _).alloc (Nat.le_refl _) (.cells #[Value.int .i64 z1] 3)))
  have HXw4 := hide HK3a.out.unt
  rw [HLU.out] at HXw4
  have HNWw4 : Hid (∀ j u, [Value.int .i64 z1][j]? = some u → (w3.alloc (.cells #[Value.int .i64 z1] 3)).cell? ((⟨w3.heap.size, 0, none⟩ : Addr).add j) = some u) := hide (World.news_of_block (heap_alloc_new w3 _))
  have HWSw4 : Hid (w.heap.size ≤ (w3.alloc (.cells #[Value.int .i64 z1] 3)).heap.size) := hide HK3a.out.bel.size
  go_wp2_with (at_builtin; refine wpList_append_lies _ rfl (.tmp 110) (.tmp 113) 22 rfl w.heap.size 3 iI (.int .i64 0) 1 8 Tryd.underlying22 HII.out.1 HII.out.2.1 HII.out.2.2.1 HII.out.2.2.2 rfl (by decide) (.slice au n cu) n (ints U) rfl HXw4.out ⟨w3.heap.size, 0, none⟩ 1 1 [Value.int .i64 z1] rfl rfl HNWw4.out (by intro u hu; simp at hu; subst hu; rfl) (by decide) (by unfold maxLen; omega) (by omega) HWSw4.out (w3.heap.size + 1) (by simp) ?_)
  intro gu ku w4 hown hgrow hat hlt
  have HK4 := hide (HK3a.out.appUn (x := z1) (by rw [HLU.out]; exact hown) hgrow hat (by simp))
  obtain ⟨b0w4, b1w4, b2w4, sBw4⟩ := cellsB HK4.out
  clear hown hgrow hat hlt HK3 HK3a b0w3 b1w3 b2w3 sBw3 
  obtain ⟨xs, hx1, hx2⟩ := HK4.out.all
  have HX2 := hide hx2
  rw [HLA.out] at hx1
  have HX1 := hide hx1
  clear hx1 hx2
  have HK4a := hide (HK4.out.quiet ((Below.refl _ _).alloc (Nat.le_refl _) (.cells #[Value.slice at_ nt ct] 30)))
  have HXw5 := hide (HX1.out.alloc (.cells #[Value.slice at_ nt ct] 30))
  have HNWw5 : Hid (∀ j u, [Value.slice at_ nt ct][j]? = some u → (w4.alloc (.cells #[Value.slice at_ nt ct] 30)).cell? ((⟨w4.heap.size, 0, none⟩ : Addr).add j) = some u) := hide (World.news_of_block (heap_alloc_new w4 _))
  have HWSw5 : Hid (w.heap.size ≤ (w4.alloc (.cells #[Value.slice at_ nt ct] 30)).heap.size) := hide HK4a.out.bel.size
  go_wp2_with (at_builtin; refine wpList_append_lies _ rfl (.tmp 115) (.tmp 117) 23 rfl w.heap.size 30 iT (.slice none 0 0) 1 24 Tryd.underlying23 HIT.out.1 HIT.out.2.1 HIT.out.2.2.1 HIT.out.2.2.2 rfl (by decide) (.slice aa n ca) n xs rfl HXw5.out ⟨w4.heap.size, 0, none⟩ 1 1 [Value.slice at_ nt ct] rfl rfl HNWw5.out (by intro u hu; simp at hu; subst hu; rfl) (by decide) (by unfold maxLen; omega) (by omega) HWSw5.out (w4.heap.size + 1) (by simp) ?_)
  intro ga ka w5 hown hgrow hat hlt
  have HK5 := hide (HK4a.out.appAll (by rw [HLA.out]; exact HXw5.out) HX2.out HTV.out (by rw [HLA.out]; exact hown) hgrow)
  obtain ⟨b0w5, b1w5, b2w5, sBw5⟩ := cellsB HK5.out
  clear hown hgrow hat hlt HK4 HK4a b0w4 b1w4 b2w4 sBw4 
  go_wp2_with fail
  refine (HK5.out.putOk HTV.out HE.out.1 HE.out.2.1 HE.out.2.2 HGV.out.1 (by have := HGV.out.2; omega)).mono ?_
  rintro e w6 ⟨rfl, v6, x6, hK, i6, u6, t6⟩
  have HK6 := hide hK
  obtain ⟨b0w6, b1w6, b2w6, sBw6⟩ := cellsB hK
  have HX6 := hide (And.intro i6 (And.intro u6 t6))
  clear HK5 b0w5 b1w5 b2w5 sBw5 i6 u6 t6
  clear hK
  dsimp only
  go_wp2_with fail
  refine (HK6.out.same HG.out 0 0).mono ?_
  rintro e w7 ⟨rfl, hK, _⟩
  have HK7 := hide hK
  obtain ⟨b0w7, b1w7, b2w7, sBw7⟩ := cellsB hK
  clear HK6 b0w6 b1w6 b2w6 sBw6
  clear hK
  dsimp only
  rw [HLI.out, HLU.out, HLA.out] at HK7
  go_wp2_with fail
  exact HQ.out _ _ _ _ _ _ _ _ _ _ _ _ _ _ _ _ _ _ _ _ _ _ _ _ _ _ _ _ _ _ _ _ _ _ _ _ _ _ _ _ _ _ _ _ _ _ _ _ _ _ _ _ _ _ _ _ _ _ _ _ _ _ _ _ _ _ _ _ _ _ _ _ _ _ _ _ _ _ _ _ _ _ _ _ _ _ _ _ _ _ _ _ _ _ _ _ _ _ _ _ _ _ _ _ _ _ _ _ _ _ _ _ _ _ _ _ _ _ _ _ _ _ _ _ _ _ _ _ _ _ _ _ _ _ _ _ _ _ _ _ _ _ _ _ _ _ _ _ _ _ _ _ _ _ _ _ _ _ _ _ _ _ _ _ _ _ _ _ _ _ _ _ _ _ _ _ _ _ _ _ _ _ _ _ _ _ _ _ _ _ _ _ _ _ _ _ _ _ _ _ _ _ _ _ _ _ _ _ _ _ _ _ _ _ _ _ _ _ _ _ _ _ _ _ _ _ _ tm (gv + 1) _ _ _ ⟨_, _, _, _, _, HAG.out.put HX6.out.1 HX6.out.2.1 HX6.out.2.2, HK7.out.known (fun _ _ (hf : False) => hf.elim), ⟨by have := HGV.out.1; omega, by have := HGV.out.2.1; omega⟩⟩
end Go.Proofs.YtlefhfmckimlaacDoor.Lps
