/-
  The third case of the switch of LeasePlays: the oldest that fits is read.
-/
import Derived.Test.YtlefhfmckimlaacDoorLpPlayA
import Derived.Deep.QuietTactic
import Derived.BigQuiet
namespace Go.Proofs.YtlefhfmckimlaacDoor.Lps
open Go.RowKit
attribute [local go_sem ↓] Go.wp_at_zero Go.wp_at_succ

set_option maxHeartbeats 4000000 in
set_option maxRecDepth 1000000 in
theorem br2a {Q : Exit → Act → World → Prop} {w w1 : World} {S B k : Nat} {tm gv : Int} {v vi vu va tv : Value} {E : List Ent} {I U : List Int} {A : List (List M.Val)} {l : List M.Val} {z1 z2 : Int} {c : Int}
    (c0 c1 c2 c3 c4 c11 c13 c16 c17 c18 c19 c20 c21 c22 c23 c24 c25 c26 c27 c28 c29 c30 c31 c32 c33 c34 c35 c36 c37 c38 c39 c40 c41 c42 c43 c44 c45 c46 c47 c48 c49 c50 c51 c52 c53 c54 c55 c56 c57 c58 c59 c60 c61 c62 c63 c64 c65 c66 c67 c68 c69 c70 c71 c72 c73 c74 c75 c76 c77 c79 c80 c81 c82 c83 c84 c85 c86 c87 c88 c89 c90 c91 c92 c93 c94 c95 c96 c97 c98 c99 c100 c101 c102 c103 c104 c105 c106 c107 c108 c109 c110 c111 c112 c113 c114 c115 c116 c117 c118 c119 c120 c121 c122 c123 c124 c125 c126 c127 c128 c129 c130 c131 c132 c133 c134 c135 c136 c137 c138 c139 c140 c141 c142 c143 c144 c145 c146 c147 c148 c149 c150 c151 c152 c153 c154 c155 c156 c157 c158 c159 c160 c161 c162 c163 c164 c165 c166 c167 c168 c169 c170 c171 c172 c173 c174 c175 c176 c177 c178 c179 c180 c181 c182 c183 c184 c185 c186 c187 c188 c189 c190 c191 c192 c193 c194 c195 c196 c197 c198 c199 c200 c201 c202 c203 c204 c205 c206 c207 c208 c209 c210 c211 c212 c213 c214 c215 c216 c217 c218 c219 c220 c221 c222 c223 c224 c225 c226 c227 c228 c229 c230 c231 c232 c233 c234 c235 c236 c237 c238 c239 c240 c241 c242 c243 c244 c245 c246 c247 c248 c249 c250 c251 c252 c253 c254 c255 c256 c257 c258 c259 c260 c261 c262 c263 c264 c265 c266 c267 c268 c269 c270 c271 c272 c273 c274 c275 c276 c277 c278 c279 c280 c281 c282 c283 c284 c285 c286 c287 c288 c289 c290 c291 c292 c293 : Value) (hT : Tuned w w1 S B k tm gv v vi vu va tv E I U A l 2 z1 z2) (hl : M.likeF l = c) (hc : c ≠ 0)
    (hQ : ∀ (u16 u17 u18 u19 u20 u21 u22 u23 u24 u25 u26 u27 u28 u29 u30 u31 u32 u33 u34 u35 u79 u80 u81 u82 u83 u84 u85 u86 u87 u88 u89 u90 u91 u92 u93 u94 u95 u96 u97 u98 u99 u100 u101 u102 u103 u104 u105 u106 u107 u108 u109 u110 u111 u112 u113 u114 u115 u116 u117 u118 u119 u120 u121 u122 u123 u124 u125 u126 u127 u128 u129 u130 u131 u132 u133 u134 u135 u136 u137 u138 u139 u140 u141 u142 u143 u144 u145 u146 u147 u148 u149 u150 u151 u152 u153 u154 u155 u156 u157 u158 u159 u160 u161 u162 u163 u164 u165 u166 u167 u168 u169 u170 u171 u172 u173 u174 u175 u176 u177 u178 u179 u180 u181 u182 u183 u184 u185 u186 u187 u188 u189 u190 u191 u192 u193 u194 u195 u196 u197 u198 u199 u200 u201 u202 u203 u204 u205 u206 u207 u208 u209 u210 u211 u212 u213 u214 u215 u216 u217 u218 u219 u220 u221 u222 u223 u224 u225 u226 u227 u228 u229 u230 u231 u232 u233 u234 u235 u236 u237 u238 u239 u240 u241 u242 u243 u244 u245 u246 u247 u248 u249 u250 u251 u252 u253 u254 u255 u256 u257 u258 u259 u260 u261 u262 u263 u264 u265 u266 u267 u268 u269 u270 u271 u272 u273 u274 u275 u276 u277 u278 u279 u280 u281 u282 u283 u284 : Value) (w' : World) (tmN gvN : Int) (viN vuN vaN : Value), Done w w' S k tmN gvN viN vuN vaN → Q .normal ⟨#[c0, c1, c2, c3, c4, .pointer (some ⟨S, 0, none⟩), .int .i64 tmN, .int .i64 gvN, viN, vuN, vaN, c11, .pointer (some ⟨B, 0, none⟩), c13, tv, .bool true, u16, u17, u18, u19, u20, u21, u22, u23, u24, u25, u26, u27, u28, u29, u30, u31, u32, u33, u34, u35, c36, c37, c38, c39, c40, c41, c42, c43, c44, c45, c46, c47, c48, c49, c50, c51, c52, c53, c54, c55, c56, c57, c58, c59, c60, c61, c62, c63, c64, c65, c66, c67, c68, c69, c70, c71, c72, c73, c74, c75, c76, c77, .int .i64 2, u79, u80, u81, u82, u83, u84, u85, u86, u87, u88, u89, u90, u91, u92, u93, u94, u95, u96, u97, u98, u99, u100, u101, u102, u103, u104, u105, u106, u107, u108, u109, u110, u111, u112, u113, u114, u115, u116, u117, u118, u119, u120, u121, u122, u123, u124, u125, u126, u127, u128, u129, u130, u131, u132, u133, u134, u135, u136, u137, u138, u139, u140, u141, u142, u143, u144, u145, u146, u147, u148, u149, u150, u151, u152, u153, u154, u155, u156, u157, u158, u159, u160, u161, u162, u163, u164, u165, u166, u167, u168, u169, u170, u171, u172, u173, u174, u175, u176, u177, u178, u179, u180, u181, u182, u183, u184, u185, u186, u187, u188, u189, u190, u191, u192, u193, u194, u195, u196, u197, u198, u199, u200, u201, u202, u203, u204, u205, u206, u207, u208, u209, u210, u211, u212, u213, u214, u215, u216, u217, u218, u219, u220, u221, u222, u223, u224, u225, u226, u227, u228, u229, u230, u231, u232, u233, u234, u235, u236, u237, u238, u239, u240, u241, u242, u243, u244, u245, u246, u247, u248, u249, u250, u251, u252, u253, u254, u255, u256, u257, u258, u259, u260, u261, u262, u263, u264, u265, u266, u267, u268, u269, u270, u271, u272, u273, u274, u275, u276, u277, u278, u279, u280, u281, u282, u283, u284, c285, c286, c287, c288, c289, c290, c291, c292, c293], []⟩ w') :
    Code.wp Tryd.prog ((Tryd.f5.body.bind (blockAt 4)).getD .skip) Q ⟨#[c0, c1, c2, c3, c4, .pointer (some ⟨S, 0, none⟩), .int .i64 tm, .int .i64 gv, vi, vu, va, c11, .pointer (some ⟨B, 0, none⟩), c13, tv, .bool false, c16, c17, c18, c19, c20, c21, c22, c23, c24, c25, c26, c27, c28, c29, c30, c31, c32, c33, c34, c35, c36, c37, c38, c39, c40, c41, c42, c43, c44, c45, c46, c47, c48, c49, c50, c51, c52, c53, c54, c55, c56, c57, c58, c59, c60, c61, c62, c63, c64, c65, c66, c67, c68, c69, c70, c71, c72, c73, c74, c75, c76, c77, .int .i64 2, c79, c80, c81, c82, c83, c84, c85, c86, c87, c88, c89, c90, c91, c92, c93, c94, c95, c96, c97, c98, c99, c100, c101, c102, c103, c104, c105, c106, c107, c108, c109, c110, c111, c112, c113, c114, c115, c116, c117, c118, c119, c120, c121, c122, c123, c124, c125, c126, c127, c128, c129, c130, c131, c132, c133, c134, c135, c136, c137, c138, c139, c140, c141, c142, c143, c144, c145, c146, c147, c148, c149, c150, c151, c152, c153, c154, c155, c156, c157, c158, c159, c160, c161, c162, c163, c164, c165, c166, c167, c168, c169, c170, c171, c172, c173, c174, c175, c176, c177, c178, c179, c180, c181, c182, c183, c184, c185, c186, c187, c188, c189, c190, c191, c192, c193, c194, c195, c196, c197, c198, c199, c200, c201, c202, c203, c204, c205, c206, c207, c208, c209, c210, c211, c212, c213, c214, c215, c216, c217, c218, c219, c220, c221, c222, c223, c224, c225, c226, c227, c228, c229, c230, c231, c232, c233, c234, c235, c236, c237, c238, c239, c240, c241, c242, c243, c244, c245, c246, c247, c248, c249, c250, c251, c252, c253, c254, c255, c256, c257, c258, c259, c260, c261, c262, c263, c264, c265, c266, c267, c268, c269, c270, c271, c272, c273, c274, c275, c276, c277, c278, c279, c280, c281, c282, c283, c284, c285, c286, c287, c288, c289, c290, c291, c292, c293], []⟩ w1 := by
  conv => arg 2; whnf
  have HK1 := hide hT.lp
  have HAG := hide hT.ag
  have HTV := hide hT.tv
  have HG := hide hT.hand
  have HGV := hide (And.intro hT.g0 (And.intro hT.gk hT.k8))
  have HQ := hide hQ
  obtain ⟨b0w1, b1w1, b2w1, sBw1⟩ := cellsB HK1.out
  obtain ⟨ao, co, rfl⟩ := HK1.out.ls.shape
  obtain ⟨n, hn⟩ : ∃ n, n = E.length := ⟨_, rfl⟩
  have h20 : n ≤ 20 := by rw [hn]; exact HK1.out.len
  have HN := hide hn
  have HLI : Hid (I.length = n) := hide (by rw [hn]; exact HAG.out.lens.1)
  have HLU : Hid (U.length = n) := hide (by rw [hn]; exact HAG.out.lens.2.1)
  have HLA : Hid (A.length = n) := hide (by rw [hn]; exact HAG.out.lens.2.2)
  clear hT hQ hn
  have hc0 : (c == 0) = false := by simpa using hc
  have HE := hide hl
  have HC0 := hide hc
  clear hl hc
  obtain ⟨ai, ci, hvi⟩ : ∃ a c, vi = .slice a n c := by
    rcases HK1.out.ids.2 with ⟨h, h2⟩ | ⟨g, c, cur, h, _⟩
    · exact ⟨none, 0, by rw [h, ← HLI.out, h2]⟩
    · exact ⟨_, c, by rw [h, HLI.out]⟩
  obtain ⟨au, cu, hvu⟩ : ∃ a c, vu = .slice a n c := by
    rcases HK1.out.unt.2 with ⟨h, h2⟩ | ⟨g, c, cur, h, _⟩
    · exact ⟨none, 0, by rw [h, ← HLU.out, h2]⟩
    · exact ⟨_, c, by rw [h, HLU.out]⟩
  obtain ⟨aa, ca, hva⟩ : ∃ a c, va = .slice a n c := by
    obtain ⟨xs, h1, _⟩ := HK1.out.all
    rcases h1.2 with ⟨h, h2⟩ | ⟨g, c, cur, h, _⟩
    · exact ⟨none, 0, by rw [h, ← HLA.out, h2]⟩
    · exact ⟨_, c, by rw [h, HLA.out]⟩
  subst hvi hvu hva
  go_wp2_with fail
  refine (HK1.out.like HTV.out HE.out).mono ?_
  rintro e w2 ⟨rfl, hK⟩
  have HK2 := hide hK
  obtain ⟨b0w2, b1w2, b2w2, sBw2⟩ := cellsB hK
  clear HK1 b0w1 b1w1 b2w1 sBw1
  clear hK
  dsimp only
  go_wp2_with fail
  refine (HK2.out.readBad HTV.out HE.out HC0.out).mono ?_
  rintro e w3 ⟨rfl, hK⟩
  have HK3 := hide hK
  obtain ⟨b0w3, b1w3, b2w3, sBw3⟩ := cellsB hK
  clear HK2 b0w2 b1w2 b2w2 sBw2
  clear hK
  dsimp only
  go_wp2_with fail
  refine (HK3.out.same HG.out c c).mono ?_
  rintro e w4 ⟨rfl, hK, _⟩
  have HK4 := hide hK
  obtain ⟨b0w4, b1w4, b2w4, sBw4⟩ := cellsB hK
  clear HK3 b0w3 b1w3 b2w3 sBw3
  clear hK
  dsimp only
  go_wp2_with fail
  refine (HK4.out.tuple (l := []) (Or.inl ⟨rfl, rfl⟩) (Or.inl ⟨rfl, rfl⟩)).mono ?_
  rintro e w5 ⟨rfl, hK⟩
  have HK5 := hide hK
  obtain ⟨b0w5, b1w5, b2w5, sBw5⟩ := cellsB hK
  clear HK4 b0w4 b1w4 b2w4 sBw4
  clear hK
  dsimp only
  go_wp2_with fail
  exact HQ.out _ _ _ _ _ _ _ _ _ _ _ _ _ _ _ _ _ _ _ _ _ _ _ _ _ _ _ _ _ _ _ _ _ _ _ _ _ _ _ _ _ _ _ _ _ _ _ _ _ _ _ _ _ _ _ _ _ _ _ _ _ _ _ _ _ _ _ _ _ _ _ _ _ _ _ _ _ _ _ _ _ _ _ _ _ _ _ _ _ _ _ _ _ _ _ _ _ _ _ _ _ _ _ _ _ _ _ _ _ _ _ _ _ _ _ _ _ _ _ _ _ _ _ _ _ _ _ _ _ _ _ _ _ _ _ _ _ _ _ _ _ _ _ _ _ _ _ _ _ _ _ _ _ _ _ _ _ _ _ _ _ _ _ _ _ _ _ _ _ _ _ _ _ _ _ _ _ _ _ _ _ _ _ _ _ _ _ _ _ _ _ _ _ _ _ _ _ _ _ _ _ _ _ _ _ _ _ _ _ _ _ _ _ _ _ _ _ _ _ _ _ _ _ _ _ _ _ tm gv _ _ _ ⟨_, _, _, _, _, HAG.out, HK5.out.known (fun _ _ (hf : False) => hf.elim), ⟨HGV.out.1, by have := HGV.out.2.1; omega⟩⟩

set_option maxHeartbeats 4000000 in
set_option maxRecDepth 1000000 in
theorem br2n {Q : Exit → Act → World → Prop} {w w1 : World} {S B k : Nat} {tm gv : Int} {v vi vu va tv : Value} {E : List Ent} {I U : List Int} {A : List (List M.Val)} {l : List M.Val} {z1 z2 : Int} 
    (c0 c1 c2 c3 c4 c11 c13 c16 c17 c18 c19 c20 c21 c22 c23 c24 c25 c26 c27 c28 c29 c30 c31 c32 c33 c34 c35 c36 c37 c38 c39 c40 c41 c42 c43 c44 c45 c46 c47 c48 c49 c50 c51 c52 c53 c54 c55 c56 c57 c58 c59 c60 c61 c62 c63 c64 c65 c66 c67 c68 c69 c70 c71 c72 c73 c74 c75 c76 c77 c79 c80 c81 c82 c83 c84 c85 c86 c87 c88 c89 c90 c91 c92 c93 c94 c95 c96 c97 c98 c99 c100 c101 c102 c103 c104 c105 c106 c107 c108 c109 c110 c111 c112 c113 c114 c115 c116 c117 c118 c119 c120 c121 c122 c123 c124 c125 c126 c127 c128 c129 c130 c131 c132 c133 c134 c135 c136 c137 c138 c139 c140 c141 c142 c143 c144 c145 c146 c147 c148 c149 c150 c151 c152 c153 c154 c155 c156 c157 c158 c159 c160 c161 c162 c163 c164 c165 c166 c167 c168 c169 c170 c171 c172 c173 c174 c175 c176 c177 c178 c179 c180 c181 c182 c183 c184 c185 c186 c187 c188 c189 c190 c191 c192 c193 c194 c195 c196 c197 c198 c199 c200 c201 c202 c203 c204 c205 c206 c207 c208 c209 c210 c211 c212 c213 c214 c215 c216 c217 c218 c219 c220 c221 c222 c223 c224 c225 c226 c227 c228 c229 c230 c231 c232 c233 c234 c235 c236 c237 c238 c239 c240 c241 c242 c243 c244 c245 c246 c247 c248 c249 c250 c251 c252 c253 c254 c255 c256 c257 c258 c259 c260 c261 c262 c263 c264 c265 c266 c267 c268 c269 c270 c271 c272 c273 c274 c275 c276 c277 c278 c279 c280 c281 c282 c283 c284 c285 c286 c287 c288 c289 c290 c291 c292 c293 : Value) (hT : Tuned w w1 S B k tm gv v vi vu va tv E I U A l 2 z1 z2) (hl : M.likeF l = 0) (hp : ¬ M.oldest l E < E.length)
    (hQ : ∀ (u16 u17 u18 u19 u20 u21 u22 u23 u24 u25 u26 u27 u28 u29 u30 u31 u32 u33 u34 u35 u79 u80 u81 u82 u83 u84 u85 u86 u87 u88 u89 u90 u91 u92 u93 u94 u95 u96 u97 u98 u99 u100 u101 u102 u103 u104 u105 u106 u107 u108 u109 u110 u111 u112 u113 u114 u115 u116 u117 u118 u119 u120 u121 u122 u123 u124 u125 u126 u127 u128 u129 u130 u131 u132 u133 u134 u135 u136 u137 u138 u139 u140 u141 u142 u143 u144 u145 u146 u147 u148 u149 u150 u151 u152 u153 u154 u155 u156 u157 u158 u159 u160 u161 u162 u163 u164 u165 u166 u167 u168 u169 u170 u171 u172 u173 u174 u175 u176 u177 u178 u179 u180 u181 u182 u183 u184 u185 u186 u187 u188 u189 u190 u191 u192 u193 u194 u195 u196 u197 u198 u199 u200 u201 u202 u203 u204 u205 u206 u207 u208 u209 u210 u211 u212 u213 u214 u215 u216 u217 u218 u219 u220 u221 u222 u223 u224 u225 u226 u227 u228 u229 u230 u231 u232 u233 u234 u235 u236 u237 u238 u239 u240 u241 u242 u243 u244 u245 u246 u247 u248 u249 u250 u251 u252 u253 u254 u255 u256 u257 u258 u259 u260 u261 u262 u263 u264 u265 u266 u267 u268 u269 u270 u271 u272 u273 u274 u275 u276 u277 u278 u279 u280 u281 u282 u283 u284 : Value) (w' : World) (tmN gvN : Int) (viN vuN vaN : Value), Done w w' S k tmN gvN viN vuN vaN → Q .normal ⟨#[c0, c1, c2, c3, c4, .pointer (some ⟨S, 0, none⟩), .int .i64 tmN, .int .i64 gvN, viN, vuN, vaN, c11, .pointer (some ⟨B, 0, none⟩), c13, tv, .bool true, u16, u17, u18, u19, u20, u21, u22, u23, u24, u25, u26, u27, u28, u29, u30, u31, u32, u33, u34, u35, c36, c37, c38, c39, c40, c41, c42, c43, c44, c45, c46, c47, c48, c49, c50, c51, c52, c53, c54, c55, c56, c57, c58, c59, c60, c61, c62, c63, c64, c65, c66, c67, c68, c69, c70, c71, c72, c73, c74, c75, c76, c77, .int .i64 2, u79, u80, u81, u82, u83, u84, u85, u86, u87, u88, u89, u90, u91, u92, u93, u94, u95, u96, u97, u98, u99, u100, u101, u102, u103, u104, u105, u106, u107, u108, u109, u110, u111, u112, u113, u114, u115, u116, u117, u118, u119, u120, u121, u122, u123, u124, u125, u126, u127, u128, u129, u130, u131, u132, u133, u134, u135, u136, u137, u138, u139, u140, u141, u142, u143, u144, u145, u146, u147, u148, u149, u150, u151, u152, u153, u154, u155, u156, u157, u158, u159, u160, u161, u162, u163, u164, u165, u166, u167, u168, u169, u170, u171, u172, u173, u174, u175, u176, u177, u178, u179, u180, u181, u182, u183, u184, u185, u186, u187, u188, u189, u190, u191, u192, u193, u194, u195, u196, u197, u198, u199, u200, u201, u202, u203, u204, u205, u206, u207, u208, u209, u210, u211, u212, u213, u214, u215, u216, u217, u218, u219, u220, u221, u222, u223, u224, u225, u226, u227, u228, u229, u230, u231, u232, u233, u234, u235, u236, u237, u238, u239, u240, u241, u242, u243, u244, u245, u246, u247, u248, u249, u250, u251, u252, u253, u254, u255, u256, u257, u258, u259, u260, u261, u262, u263, u264, u265, u266, u267, u268, u269, u270, u271, u272, u273, u274, u275, u276, u277, u278, u279, u280, u281, u282, u283, u284, c285, c286, c287, c288, c289, c290, c291, c292, c293], []⟩ w') :
    Code.wp Tryd.prog ((Tryd.f5.body.bind (blockAt 4)).getD .skip) Q ⟨#[c0, c1, c2, c3, c4, .pointer (some ⟨S, 0, none⟩), .int .i64 tm, .int .i64 gv, vi, vu, va, c11, .pointer (some ⟨B, 0, none⟩), c13, tv, .bool false, c16, c17, c18, c19, c20, c21, c22, c23, c24, c25, c26, c27, c28, c29, c30, c31, c32, c33, c34, c35, c36, c37, c38, c39, c40, c41, c42, c43, c44, c45, c46, c47, c48, c49, c50, c51, c52, c53, c54, c55, c56, c57, c58, c59, c60, c61, c62, c63, c64, c65, c66, c67, c68, c69, c70, c71, c72, c73, c74, c75, c76, c77, .int .i64 2, c79, c80, c81, c82, c83, c84, c85, c86, c87, c88, c89, c90, c91, c92, c93, c94, c95, c96, c97, c98, c99, c100, c101, c102, c103, c104, c105, c106, c107, c108, c109, c110, c111, c112, c113, c114, c115, c116, c117, c118, c119, c120, c121, c122, c123, c124, c125, c126, c127, c128, c129, c130, c131, c132, c133, c134, c135, c136, c137, c138, c139, c140, c141, c142, c143, c144, c145, c146, c147, c148, c149, c150, c151, c152, c153, c154, c155, c156, c157, c158, c159, c160, c161, c162, c163, c164, c165, c166, c167, c168, c169, c170, c171, c172, c173, c174, c175, c176, c177, c178, c179, c180, c181, c182, c183, c184, c185, c186, c187, c188, c189, c190, c191, c192, c193, c194, c195, c196, c197, c198, c199, c200, c201, c202, c203, c204, c205, c206, c207, c208, c209, c210, c211, c212, c213, c214, c215, c216, c217, c218, c219, c220, c221, c222, c223, c224, c225, c226, c227, c228, c229, c230, c231, c232, c233, c234, c235, c236, c237, c238, c239, c240, c241, c242, c243, c244, c245, c246, c247, c248, c249, c250, c251, c252, c253, c254, c255, c256, c257, c258, c259, c260, c261, c262, c263, c264, c265, c266, c267, c268, c269, c270, c271, c272, c273, c274, c275, c276, c277, c278, c279, c280, c281, c282, c283, c284, c285, c286, c287, c288, c289, c290, c291, c292, c293], []⟩ w1 := by
  conv => arg 2; whnf
  have HK1 := hide hT.lp
  have HAG := hide hT.ag
  have HTV := hide hT.tv
  have HG := hide hT.hand
  have HGV := hide (And.intro hT.g0 (And.intro hT.gk hT.k8))
  have HQ := hide hQ
  obtain ⟨b0w1, b1w1, b2w1, sBw1⟩ := cellsB HK1.out
  obtain ⟨ao, co, rfl⟩ := HK1.out.ls.shape
  obtain ⟨n, hn⟩ : ∃ n, n = E.length := ⟨_, rfl⟩
  have h20 : n ≤ 20 := by rw [hn]; exact HK1.out.len
  have HN := hide hn
  have HLI : Hid (I.length = n) := hide (by rw [hn]; exact HAG.out.lens.1)
  have HLU : Hid (U.length = n) := hide (by rw [hn]; exact HAG.out.lens.2.1)
  have HLA : Hid (A.length = n) := hide (by rw [hn]; exact HAG.out.lens.2.2)
  clear hT hQ hn
  have HE := hide (And.intro hl hp)
  have HNF : Hid (∀ j (hj : j < A.length), M.fitAll l A[j] = false) := hide fun j hj => by
    have hjE : j < E.length := by rw [← HAG.out.lens.2.2]; exact hj
    rw [(HAG.out.at hjE).2.2]
    have h1 : E.findIdx (fun x => M.fitAll l x.t) = E.length := Nat.le_antisymm List.findIdx_le_length (by unfold M.oldest at hp; omega)
    simpa using List.findIdx_eq_length.1 h1 E[j] (List.getElem_mem hjE)
  clear hl hp
  obtain ⟨ai, ci, hvi⟩ : ∃ a c, vi = .slice a n c := by
    rcases HK1.out.ids.2 with ⟨h, h2⟩ | ⟨g, c, cur, h, _⟩
    · exact ⟨none, 0, by rw [h, ← HLI.out, h2]⟩
    · exact ⟨_, c, by rw [h, HLI.out]⟩
  obtain ⟨au, cu, hvu⟩ : ∃ a c, vu = .slice a n c := by
    rcases HK1.out.unt.2 with ⟨h, h2⟩ | ⟨g, c, cur, h, _⟩
    · exact ⟨none, 0, by rw [h, ← HLU.out, h2]⟩
    · exact ⟨_, c, by rw [h, HLU.out]⟩
  obtain ⟨aa, ca, hva⟩ : ∃ a c, va = .slice a n c := by
    obtain ⟨xs, h1, _⟩ := HK1.out.all
    rcases h1.2 with ⟨h, h2⟩ | ⟨g, c, cur, h, _⟩
    · exact ⟨none, 0, by rw [h, ← HLA.out, h2]⟩
    · exact ⟨_, c, by rw [h, HLA.out]⟩
  subst hvi hvu hva
  go_wp2_with fail
  refine (HK1.out.like HTV.out HE.out.1).mono ?_
  rintro e w2 ⟨rfl, hK⟩
  have HK2 := hide hK
  obtain ⟨b0w2, b1w2, b2w2, sBw2⟩ := cellsB hK
  clear HK1 b0w1 b1w1 b2w1 sBw1
  clear hK
  dsimp only
  go_wp2_with fail
  go_loopw [26, 27, 28] (fun se sw sk wr => ∃ q : Nat, q ≤ n ∧ sk = .int .i64 ((q : Int) - 1) ∧ se = .int .i64 5 ∧ sw = .slice none 0 0 ∧ Hid (Lp (Arr B 2 z1 z2) w wr S tm gv (.slice ao E.length co) E (.slice ai n ci) (.slice au n cu) (.slice aa n ca) I U A)) (fun _ _ sk _ => ((intOf sk) + 1).toNat)
  case atStart => exact ⟨n, Nat.le_refl _, rfl, rfl, rfl, HK2⟩
  case round =>
    clear HK2 b0w2 b1w2 b2w2 sBw2
    obtain ⟨q, hqn, rfl, rfl, rfl, hK2⟩ := hrel
    by_cases hq : 0 < q
    · obtain ⟨g, cap, hv, hcell⟩ := rowOf_at hK2.out.all (by rw [HLA.out]; omega)
      rw [HLA.out] at hv
      simp only [Value.slice.injEq, true_and] at hv
      obtain ⟨rfl, rfl⟩ := hv
      obtain ⟨x, hx, hxv⟩ := hcell (q - 1) (by rw [HLA.out]; omega)
      have HXV := hide hxv
      have HFT := hide (HNF.out (q - 1) (by rw [HLA.out]; omega))
      obtain ⟨p, hp⟩ : ∃ p, q = p + 1 := ⟨q - 1, by omega⟩
      subst hp
      simp only [Nat.add_sub_cancel] at hx HXV HFT
      have e1 : ((p + 1 : Nat) : Int) - 1 = (p : Int) := by omega
      rw [e1]
      have ip0 : (0 : Int) ≤ (p : Int) := by omega
      have ipn : (p : Int) < (n : Int) := by omega
      have hwp : IntKind.i64.wrap ((p : Int) - 1) = (p : Int) - 1 := IntWalk.i64_in _ ⟨by omega, by omega⟩
      have HC := hide (hK2.out.fits HTV.out HXV.out HE.out.1)
      rw [HFT.out] at HC
      clear hcell hxv e1
      go_wp2_with fail
      refine (unhide HC).mono ?_
      rintro e w3 ⟨rfl, hK⟩
      have HK3 := hide hK
      clear hK HC
      dsimp only
      go_wp2_with fail
      go_roundw
      case rel => exact ⟨p, by omega, rfl, rfl, rfl, HK3⟩
      case measure => simp [intOf] <;> omega
    · have hq0 : q = 0 := by omega
      subst hq0
      have e1 : ((0 : Nat) : Int) - 1 = -1 := by omega
      rw [e1]
      go_wp2_with fail
      refine (hK2.out.readNone HTV.out HE.out.1 HE.out.2).mono ?_
      rintro e w4 ⟨rfl, hK⟩
      have HK4 := hide hK
      obtain ⟨b0w4, b1w4, b2w4, sBw4⟩ := cellsB hK

      clear hK
      dsimp only
      go_wp2_with fail
      refine (HK4.out.same HG.out 5 5).mono ?_
      rintro e w5 ⟨rfl, hK, _⟩
      have HK5 := hide hK
      obtain ⟨b0w5, b1w5, b2w5, sBw5⟩ := cellsB hK
      clear HK4 b0w4 b1w4 b2w4 sBw4
      clear hK
      dsimp only
      go_wp2_with fail
      refine (HK5.out.tuple (l := []) (Or.inl ⟨rfl, rfl⟩) (Or.inl ⟨rfl, rfl⟩)).mono ?_
      rintro e w6 ⟨rfl, hK⟩
      have HK6 := hide hK
      obtain ⟨b0w6, b1w6, b2w6, sBw6⟩ := cellsB hK
      clear HK5 b0w5 b1w5 b2w5 sBw5
      clear hK
      dsimp only
      go_wp2_with fail
      exact HQ.out _ _ _ _ _ _ _ _ _ _ _ _ _ _ _ _ _ _ _ _ _ _ _ _ _ _ _ _ _ _ _ _ _ _ _ _ _ _ _ _ _ _ _ _ _ _ _ _ _ _ _ _ _ _ _ _ _ _ _ _ _ _ _ _ _ _ _ _ _ _ _ _ _ _ _ _ _ _ _ _ _ _ _ _ _ _ _ _ _ _ _ _ _ _ _ _ _ _ _ _ _ _ _ _ _ _ _ _ _ _ _ _ _ _ _ _ _ _ _ _ _ _ _ _ _ _ _ _ _ _ _ _ _ _ _ _ _ _ _ _ _ _ _ _ _ _ _ _ _ _ _ _ _ _ _ _ _ _ _ _ _ _ _ _ _ _ _ _ _ _ _ _ _ _ _ _ _ _ _ _ _ _ _ _ _ _ _ _ _ _ _ _ _ _ _ _ _ _ _ _ _ _ _ _ _ _ _ _ _ _ _ _ _ _ _ _ _ _ _ _ _ _ _ _ _ _ _ tm gv _ _ _ ⟨_, _, _, _, _, HAG.out, HK6.out.known (fun _ _ (hf : False) => hf.elim), ⟨HGV.out.1, by have := HGV.out.2.1; omega⟩⟩

set_option maxHeartbeats 4000000 in
set_option maxRecDepth 1000000 in
theorem br2k {Q : Exit → Act → World → Prop} {w w1 : World} {S B k : Nat} {tm gv : Int} {v vi vu va tv : Value} {E : List Ent} {I U : List Int} {A : List (List M.Val)} {l : List M.Val} {z1 z2 : Int} 
    (c0 c1 c2 c3 c4 c11 c13 c16 c17 c18 c19 c20 c21 c22 c23 c24 c25 c26 c27 c28 c29 c30 c31 c32 c33 c34 c35 c36 c37 c38 c39 c40 c41 c42 c43 c44 c45 c46 c47 c48 c49 c50 c51 c52 c53 c54 c55 c56 c57 c58 c59 c60 c61 c62 c63 c64 c65 c66 c67 c68 c69 c70 c71 c72 c73 c74 c75 c76 c77 c79 c80 c81 c82 c83 c84 c85 c86 c87 c88 c89 c90 c91 c92 c93 c94 c95 c96 c97 c98 c99 c100 c101 c102 c103 c104 c105 c106 c107 c108 c109 c110 c111 c112 c113 c114 c115 c116 c117 c118 c119 c120 c121 c122 c123 c124 c125 c126 c127 c128 c129 c130 c131 c132 c133 c134 c135 c136 c137 c138 c139 c140 c141 c142 c143 c144 c145 c146 c147 c148 c149 c150 c151 c152 c153 c154 c155 c156 c157 c158 c159 c160 c161 c162 c163 c164 c165 c166 c167 c168 c169 c170 c171 c172 c173 c174 c175 c176 c177 c178 c179 c180 c181 c182 c183 c184 c185 c186 c187 c188 c189 c190 c191 c192 c193 c194 c195 c196 c197 c198 c199 c200 c201 c202 c203 c204 c205 c206 c207 c208 c209 c210 c211 c212 c213 c214 c215 c216 c217 c218 c219 c220 c221 c222 c223 c224 c225 c226 c227 c228 c229 c230 c231 c232 c233 c234 c235 c236 c237 c238 c239 c240 c241 c242 c243 c244 c245 c246 c247 c248 c249 c250 c251 c252 c253 c254 c255 c256 c257 c258 c259 c260 c261 c262 c263 c264 c265 c266 c267 c268 c269 c270 c271 c272 c273 c274 c275 c276 c277 c278 c279 c280 c281 c282 c283 c284 c285 c286 c287 c288 c289 c290 c291 c292 c293 : Value) (hT : Tuned w w1 S B k tm gv v vi vu va tv E I U A l 2 z1 z2) (hl : M.likeF l = 0) (hp : M.oldest l E < E.length)
    (hQ : ∀ (u16 u17 u18 u19 u20 u21 u22 u23 u24 u25 u26 u27 u28 u29 u30 u31 u32 u33 u34 u35 u79 u80 u81 u82 u83 u84 u85 u86 u87 u88 u89 u90 u91 u92 u93 u94 u95 u96 u97 u98 u99 u100 u101 u102 u103 u104 u105 u106 u107 u108 u109 u110 u111 u112 u113 u114 u115 u116 u117 u118 u119 u120 u121 u122 u123 u124 u125 u126 u127 u128 u129 u130 u131 u132 u133 u134 u135 u136 u137 u138 u139 u140 u141 u142 u143 u144 u145 u146 u147 u148 u149 u150 u151 u152 u153 u154 u155 u156 u157 u158 u159 u160 u161 u162 u163 u164 u165 u166 u167 u168 u169 u170 u171 u172 u173 u174 u175 u176 u177 u178 u179 u180 u181 u182 u183 u184 u185 u186 u187 u188 u189 u190 u191 u192 u193 u194 u195 u196 u197 u198 u199 u200 u201 u202 u203 u204 u205 u206 u207 u208 u209 u210 u211 u212 u213 u214 u215 u216 u217 u218 u219 u220 u221 u222 u223 u224 u225 u226 u227 u228 u229 u230 u231 u232 u233 u234 u235 u236 u237 u238 u239 u240 u241 u242 u243 u244 u245 u246 u247 u248 u249 u250 u251 u252 u253 u254 u255 u256 u257 u258 u259 u260 u261 u262 u263 u264 u265 u266 u267 u268 u269 u270 u271 u272 u273 u274 u275 u276 u277 u278 u279 u280 u281 u282 u283 u284 : Value) (w' : World) (tmN gvN : Int) (viN vuN vaN : Value), Done w w' S k tmN gvN viN vuN vaN → Q .normal ⟨#[c0, c1, c2, c3, c4, .pointer (some ⟨S, 0, none⟩), .int .i64 tmN, .int .i64 gvN, viN, vuN, vaN, c11, .pointer (some ⟨B, 0, none⟩), c13, tv, .bool true, u16, u17, u18, u19, u20, u21, u22, u23, u24, u25, u26, u27, u28, u29, u30, u31, u32, u33, u34, u35, c36, c37, c38, c39, c40, c41, c42, c43, c44, c45, c46, c47, c48, c49, c50, c51, c52, c53, c54, c55, c56, c57, c58, c59, c60, c61, c62, c63, c64, c65, c66, c67, c68, c69, c70, c71, c72, c73, c74, c75, c76, c77, .int .i64 2, u79, u80, u81, u82, u83, u84, u85, u86, u87, u88, u89, u90, u91, u92, u93, u94, u95, u96, u97, u98, u99, u100, u101, u102, u103, u104, u105, u106, u107, u108, u109, u110, u111, u112, u113, u114, u115, u116, u117, u118, u119, u120, u121, u122, u123, u124, u125, u126, u127, u128, u129, u130, u131, u132, u133, u134, u135, u136, u137, u138, u139, u140, u141, u142, u143, u144, u145, u146, u147, u148, u149, u150, u151, u152, u153, u154, u155, u156, u157, u158, u159, u160, u161, u162, u163, u164, u165, u166, u167, u168, u169, u170, u171, u172, u173, u174, u175, u176, u177, u178, u179, u180, u181, u182, u183, u184, u185, u186, u187, u188, u189, u190, u191, u192, u193, u194, u195, u196, u197, u198, u199, u200, u201, u202, u203, u204, u205, u206, u207, u208, u209, u210, u211, u212, u213, u214, u215, u216, u217, u218, u219, u220, u221, u222, u223, u224, u225, u226, u227, u228, u229, u230, u231, u232, u233, u234, u235, u236, u237, u238, u239, u240, u241, u242, u243, u244, u245, u246, u247, u248, u249, u250, u251, u252, u253, u254, u255, u256, u257, u258, u259, u260, u261, u262, u263, u264, u265, u266, u267, u268, u269, u270, u271, u272, u273, u274, u275, u276, u277, u278, u279, u280, u281, u282, u283, u284, c285, c286, c287, c288, c289, c290, c291, c292, c293], []⟩ w') :
    Code.wp Tryd.prog ((Tryd.f5.body.bind (blockAt 4)).getD .skip) Q ⟨#[c0, c1, c2, c3, c4, .pointer (some ⟨S, 0, none⟩), .int .i64 tm, .int .i64 gv, vi, vu, va, c11, .pointer (some ⟨B, 0, none⟩), c13, tv, .bool false, c16, c17, c18, c19, c20, c21, c22, c23, c24, c25, c26, c27, c28, c29, c30, c31, c32, c33, c34, c35, c36, c37, c38, c39, c40, c41, c42, c43, c44, c45, c46, c47, c48, c49, c50, c51, c52, c53, c54, c55, c56, c57, c58, c59, c60, c61, c62, c63, c64, c65, c66, c67, c68, c69, c70, c71, c72, c73, c74, c75, c76, c77, .int .i64 2, c79, c80, c81, c82, c83, c84, c85, c86, c87, c88, c89, c90, c91, c92, c93, c94, c95, c96, c97, c98, c99, c100, c101, c102, c103, c104, c105, c106, c107, c108, c109, c110, c111, c112, c113, c114, c115, c116, c117, c118, c119, c120, c121, c122, c123, c124, c125, c126, c127, c128, c129, c130, c131, c132, c133, c134, c135, c136, c137, c138, c139, c140, c141, c142, c143, c144, c145, c146, c147, c148, c149, c150, c151, c152, c153, c154, c155, c156, c157, c158, c159, c160, c161, c162, c163, c164, c165, c166, c167, c168, c169, c170, c171, c172, c173, c174, c175, c176, c177, c178, c179, c180, c181, c182, c183, c184, c185, c186, c187, c188, c189, c190, c191, c192, c193, c194, c195, c196, c197, c198, c199, c200, c201, c202, c203, c204, c205, c206, c207, c208, c209, c210, c211, c212, c213, c214, c215, c216, c217, c218, c219, c220, c221, c222, c223, c224, c225, c226, c227, c228, c229, c230, c231, c232, c233, c234, c235, c236, c237, c238, c239, c240, c241, c242, c243, c244, c245, c246, c247, c248, c249, c250, c251, c252, c253, c254, c255, c256, c257, c258, c259, c260, c261, c262, c263, c264, c265, c266, c267, c268, c269, c270, c271, c272, c273, c274, c275, c276, c277, c278, c279, c280, c281, c282, c283, c284, c285, c286, c287, c288, c289, c290, c291, c292, c293], []⟩ w1 := by
  conv => arg 2; whnf
  have HK1 := hide hT.lp
  have HAG := hide hT.ag
  have HTV := hide hT.tv
  have HG := hide hT.hand
  have HGV := hide (And.intro hT.g0 (And.intro hT.gk hT.k8))
  have HQ := hide hQ
  obtain ⟨b0w1, b1w1, b2w1, sBw1⟩ := cellsB HK1.out
  obtain ⟨ao, co, rfl⟩ := HK1.out.ls.shape
  obtain ⟨n, hn⟩ : ∃ n, n = E.length := ⟨_, rfl⟩
  have h20 : n ≤ 20 := by rw [hn]; exact HK1.out.len
  have HN := hide hn
  have HLI : Hid (I.length = n) := hide (by rw [hn]; exact HAG.out.lens.1)
  have HLU : Hid (U.length = n) := hide (by rw [hn]; exact HAG.out.lens.2.1)
  have HLA : Hid (A.length = n) := hide (by rw [hn]; exact HAG.out.lens.2.2)
  clear hT hQ hn
  have HE := hide (And.intro hl hp)
  obtain ⟨p, hpe⟩ : ∃ p, p = M.oldest l E := ⟨_, rfl⟩
  have hpn : p < n := by rw [hpe, HN.out]; exact hp
  have HPA : Hid (∃ hj : p < A.length, M.fitAll l A[p] = true ∧ ∃ hk : p < E.length, A[p] = E[p].t) := hide (by
    have hj : p < A.length := by rw [HLA.out]; exact hpn
    have hk : p < E.length := by rw [← HN.out]; exact hpn
    refine ⟨hj, ?_, hk, (HAG.out.at hk).2.2⟩
    rw [(HAG.out.at hk).2.2]
    have h1 : M.fitAll l E[M.oldest l E].t = true := List.findIdx_getElem (p := fun x : Ent => M.fitAll l x.t) (w := hp)
    simp only [hpe]
    exact h1)
  have HPE := hide hpe
  have HNF : Hid (∀ j, j < p → ∀ hj : j < A.length, M.fitAll l A[j] = false) := hide fun j hjp hj => by
    have hjE : j < E.length := by rw [← HAG.out.lens.2.2]; exact hj
    rw [(HAG.out.at hjE).2.2]
    have := List.not_of_lt_findIdx (p := fun x : Ent => M.fitAll l x.t) (xs := E) (i := j) (by rw [hpe] at hjp; exact hjp)
    simpa using this
  clear hl hp hpe
  obtain ⟨ai, ci, hvi⟩ : ∃ a c, vi = .slice a n c := by
    rcases HK1.out.ids.2 with ⟨h, h2⟩ | ⟨g, c, cur, h, _⟩
    · exact ⟨none, 0, by rw [h, ← HLI.out, h2]⟩
    · exact ⟨_, c, by rw [h, HLI.out]⟩
  obtain ⟨au, cu, hvu⟩ : ∃ a c, vu = .slice a n c := by
    rcases HK1.out.unt.2 with ⟨h, h2⟩ | ⟨g, c, cur, h, _⟩
    · exact ⟨none, 0, by rw [h, ← HLU.out, h2]⟩
    · exact ⟨_, c, by rw [h, HLU.out]⟩
  obtain ⟨aa, ca, hva⟩ : ∃ a c, va = .slice a n c := by
    obtain ⟨xs, h1, _⟩ := HK1.out.all
    rcases h1.2 with ⟨h, h2⟩ | ⟨g, c, cur, h, _⟩
    · exact ⟨none, 0, by rw [h, ← HLA.out, h2]⟩
    · exact ⟨_, c, by rw [h, HLA.out]⟩
  subst hvi hvu hva
  go_wp2_with fail
  refine (HK1.out.like HTV.out HE.out.1).mono ?_
  rintro e w2 ⟨rfl, hK⟩
  have HK2 := hide hK
  obtain ⟨b0w2, b1w2, b2w2, sBw2⟩ := cellsB hK
  clear HK1 b0w1 b1w1 b2w1 sBw1
  clear hK
  dsimp only
  obtain ⟨g, cap, hv, hcell2⟩ := rowOf_at HK2.out.all (by rw [HLA.out]; omega)
  rw [HLA.out] at hv
  simp only [Value.slice.injEq, true_and] at hv
  obtain ⟨rfl, rfl⟩ := hv
  obtain ⟨xp, hxp, hxpv⟩ := hcell2 p HPA.out.1
  have HXP := hide hxpv
  have hgl : g < w2.heap.size := World.block_lt_of_cell? w2 _ hxp
  have HRD : Hid (∀ wr : World, Below w2.heap.size w2 wr → wr.cell? ⟨g, p, none⟩ = some xp) := hide fun wr hb => (hb.cell (p := ⟨g, p, none⟩) hgl).trans hxp
  have HRX : Hid (∀ wr : World, Below w2.heap.size w2 wr → ∀ j, j < n → ∃ x, wr.cell? ⟨g, j, none⟩ = some x ∧ ∃ hj : j < A.length, IsVals w x A[j]) := hide fun wr hb j hj => by
    obtain ⟨x, h1, h2⟩ := hcell2 j (by rw [HLA.out]; exact hj)
    exact ⟨x, (hb.cell (p := ⟨g, j, none⟩) hgl).trans h1, _, h2⟩
  clear hcell2 hxp hxpv
  go_wp2_with fail
  go_loopw [26, 27, 28] (fun se sw sk wr => ∃ q : Nat, q ≤ n ∧ sk = .int .i64 ((q : Int) - 1) ∧ (q ≤ p ∧ se = .int .i64 0 ∧ sw = xp ∨ p < q ∧ ∃ e1 : Int, ∃ y : Value, se = .int .i64 e1 ∧ y = sw) ∧ Hid (Below w2.heap.size w2 wr)) (fun _ _ sk _ => ((intOf sk) + 1).toNat)
  case atStart => exact ⟨n, Nat.le_refl _, rfl, Or.inr ⟨hpn, 5, _, rfl, rfl⟩, hide (Below.refl _ _)⟩
  case round =>
    clear b0w2 b1w2 b2w2 sBw2
    obtain ⟨q, hqn, rfl, hcase, hbel⟩ := hrel
    by_cases hq : 0 < q
    · obtain ⟨r, hr⟩ : ∃ r, q = r + 1 := ⟨q - 1, by omega⟩
      subst hr
      have e1 : ((r + 1 : Nat) : Int) - 1 = (r : Int) := by omega
      rw [e1]
      have ip0 : (0 : Int) ≤ (r : Int) := by omega
      have ipn : (r : Int) < (n : Int) := by omega
      have hwp : IntKind.i64.wrap ((r : Int) - 1) = (r : Int) - 1 := IntWalk.i64_in _ ⟨by omega, by omega⟩
      have cp := HRD.out wr hbel.out
      obtain ⟨x, hx, hj, hxv⟩ := HRX.out wr hbel.out r (by omega)
      have HJ := hide hj
      have hgr : g < wr.heap.size := World.block_lt_of_cell? wr _ hx
      have HKr := hide (HK2.out.quiet hbel.out)
      have HC : Hid (∀ bb, M.fitAll l (A[r]'hj) = bb → Calls Tryd.prog 27 #[tv, x] wr fun e w' => e = .returned (.bool bb) ∧ Below wr.heap.size wr w') := hide fun bb hb => by
        subst hb
        exact rfits tv x l (A[r]'hj) wr (HTV.out.stays HKr.out.bel (Nat.le_refl _)) (hxv.stays HKr.out.bel (Nat.le_refl _)) HE.out.1
      clear e1 hxv
      rcases hcase with ⟨hqp, rfl, rfl⟩ | ⟨hqp, e2, y, rfl, rfl⟩
      · have HC1 := hide (unhide HC false (HNF.out r (by omega) HJ.out))
        clear cp HC
        go_wp2_with fail
        refine (unhide HC1).mono ?_
        rintro e w3 ⟨rfl, hb3⟩
        dsimp only
        have HB3 := hide (hbel.out.trans (hb3.mono hbel.out.size))
        clear hb3 HC1
        go_wp2_with fail
        go_roundw
        case rel => exact ⟨r, by omega, rfl, Or.inl ⟨by omega, rfl, rfl⟩, HB3⟩
        case measure => simp [intOf] <;> omega
      · by_cases hrp : r = p
        · subst hrp
          have hxx : x = xp := Option.some.inj (hx.symm.trans cp)
          subst hxx
          have HC1 := hide (unhide HC true HPA.out.2.1)
          clear cp HC
          go_wp2_with fail
          refine (unhide HC1).mono ?_
          rintro e w3 ⟨rfl, hb3⟩
          dsimp only
          have c3 : w3.cell? ⟨g, r, none⟩ = some x := (hb3.cell (p := ⟨g, r, none⟩) hgr).trans hx
          have HB3 := hide (hbel.out.trans (hb3.mono hbel.out.size))
          clear hb3 HC1
          go_wp2_with fail
          go_roundw
          case rel => exact ⟨r, by omega, rfl, Or.inl ⟨Nat.le_refl _, rfl, rfl⟩, HB3⟩
          case measure => simp [intOf] <;> omega
        · clear cp
          cases hb : M.fitAll l (A[r]'HJ.out)
          all_goals
            have HC1 := hide (unhide HC _ hb)
            clear hb HC
            go_wp2_with fail
            refine (unhide HC1).mono ?_
            rintro e w3 ⟨rfl, hb3⟩
            dsimp only
            have c3 : w3.cell? ⟨g, r, none⟩ = some x := (hb3.cell (p := ⟨g, r, none⟩) hgr).trans hx
            have HB3 := hide (hbel.out.trans (hb3.mono hbel.out.size))
            clear hb3 HC1
            go_wp2_with fail
            go_roundw
            case rel => exact ⟨r, by omega, rfl, Or.inr ⟨by omega, _, _, rfl, rfl⟩, HB3⟩
            case measure => simp [intOf] <;> omega
    · have hq0 : q = 0 := by omega
      subst hq0
      have e1 : ((0 : Nat) : Int) - 1 = -1 := by omega
      rw [e1]
      have HK3 := hide (HK2.out.quiet hbel.out)
      have HXQ : Hid (∃ hk : M.oldest l E < E.length, IsVals w xp E[M.oldest l E].t) := hide (by
        obtain ⟨hj, _, hk, he⟩ := HPA.out
        have h1 := HXP.out
        rw [he] at h1
        have h2 := HPE.out
        subst h2
        exact ⟨hk, h1⟩)
      rcases hcase with ⟨_, rfl, rfl⟩ | ⟨hqp, _⟩
      · have htr : True := trivial
        go_wp2_with fail
        refine (HK3.out.readOk HTV.out HE.out.1 HE.out.2 rfl).mono ?_
        rintro e w4 ⟨r4, rfl, hr4, hK⟩
        have HK4 := hide hK
        obtain ⟨b0w4, b1w4, b2w4, sBw4⟩ := cellsB hK
        have HR4 := hide hr4
        clear HK3 hr4
        clear hK
        dsimp only
        go_wp2_with fail
        refine (HK4.out.same HG.out 0 0).mono ?_
        rintro e w5 ⟨rfl, hK, hb5⟩
        have HK5 := hide hK
        have HR5 := hide (HR4.out.stays hb5 (Nat.le_refl _))
        clear hK hb5 HK4 HR4
        dsimp only
        go_wp2_with fail
        refine (HK5.out.tuple HR5.out (HXQ.out.2.stays HK5.out.bel (Nat.le_refl _))).mono ?_
        rintro e w6 ⟨rfl, hK⟩
        have HK6 := hide hK
        clear hK HK5 HR5
        dsimp only
        go_wp2_with fail
        exact HQ.out _ _ _ _ _ _ _ _ _ _ _ _ _ _ _ _ _ _ _ _ _ _ _ _ _ _ _ _ _ _ _ _ _ _ _ _ _ _ _ _ _ _ _ _ _ _ _ _ _ _ _ _ _ _ _ _ _ _ _ _ _ _ _ _ _ _ _ _ _ _ _ _ _ _ _ _ _ _ _ _ _ _ _ _ _ _ _ _ _ _ _ _ _ _ _ _ _ _ _ _ _ _ _ _ _ _ _ _ _ _ _ _ _ _ _ _ _ _ _ _ _ _ _ _ _ _ _ _ _ _ _ _ _ _ _ _ _ _ _ _ _ _ _ _ _ _ _ _ _ _ _ _ _ _ _ _ _ _ _ _ _ _ _ _ _ _ _ _ _ _ _ _ _ _ _ _ _ _ _ _ _ _ _ _ _ _ _ _ _ _ _ _ _ _ _ _ _ _ _ _ _ _ _ _ _ _ _ _ _ _ _ _ _ _ _ _ _ _ _ _ _ _ _ _ _ _ _ tm gv _ _ _ ⟨_, _, _, _, _, HAG.out, HK6.out.known (fun _ _ (hf : False) => hf.elim), ⟨HGV.out.1, by have := HGV.out.2.1; omega⟩⟩
      · omega
end Go.Proofs.YtlefhfmckimlaacDoor.Lps
