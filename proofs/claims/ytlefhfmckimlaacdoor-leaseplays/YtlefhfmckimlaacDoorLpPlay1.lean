/-
  The second case of the switch of LeasePlays: it is later now.
-/
import Derived.Test.YtlefhfmckimlaacDoorLpPlayA
import Derived.Deep.QuietTactic
import Derived.BigQuiet
namespace Go.Proofs.YtlefhfmckimlaacDoor.Lps
open Go.RowKit
attribute [local go_sem ↓] Go.wp_at_zero Go.wp_at_succ

set_option maxHeartbeats 4000000 in
set_option maxRecDepth 1000000 in
theorem br1b {Q : Exit → Act → World → Prop} {w w1 : World} {S B k : Nat} {tm gv : Int} {v vi vu va tv : Value} {E : List Ent} {I U : List Int} {A : List (List M.Val)} {l : List M.Val} {z1 z2 : Int} 
    (c0 c1 c2 c3 c4 c11 c13 c16 c17 c18 c19 c20 c21 c22 c23 c24 c25 c26 c27 c28 c29 c30 c31 c32 c33 c34 c35 c36 c37 c38 c39 c40 c41 c42 c43 c44 c45 c46 c47 c48 c49 c50 c51 c52 c53 c54 c55 c56 c57 c58 c59 c60 c61 c62 c63 c64 c65 c66 c67 c68 c69 c70 c71 c72 c73 c74 c75 c76 c77 c79 c80 c81 c82 c83 c84 c85 c86 c87 c88 c89 c90 c91 c92 c93 c94 c95 c96 c97 c98 c99 c100 c101 c102 c103 c104 c105 c106 c107 c108 c109 c110 c111 c112 c113 c114 c115 c116 c117 c118 c119 c120 c121 c122 c123 c124 c125 c126 c127 c128 c129 c130 c131 c132 c133 c134 c135 c136 c137 c138 c139 c140 c141 c142 c143 c144 c145 c146 c147 c148 c149 c150 c151 c152 c153 c154 c155 c156 c157 c158 c159 c160 c161 c162 c163 c164 c165 c166 c167 c168 c169 c170 c171 c172 c173 c174 c175 c176 c177 c178 c179 c180 c181 c182 c183 c184 c185 c186 c187 c188 c189 c190 c191 c192 c193 c194 c195 c196 c197 c198 c199 c200 c201 c202 c203 c204 c205 c206 c207 c208 c209 c210 c211 c212 c213 c214 c215 c216 c217 c218 c219 c220 c221 c222 c223 c224 c225 c226 c227 c228 c229 c230 c231 c232 c233 c234 c235 c236 c237 c238 c239 c240 c241 c242 c243 c244 c245 c246 c247 c248 c249 c250 c251 c252 c253 c254 c255 c256 c257 c258 c259 c260 c261 c262 c263 c264 c265 c266 c267 c268 c269 c270 c271 c272 c273 c274 c275 c276 c277 c278 c279 c280 c281 c282 c283 c284 c285 c286 c287 c288 c289 c290 c291 c292 c293 : Value) (hT : Tuned w w1 S B k tm gv v vi vu va tv E I U A l 1 z1 z2) (hx : z1 < tm ∨ 10000 < z1) (hq : ¬ tm ≤ z1 ∨ tm ≤ z1 ∧ ¬ z1 ≤ 10000)
    (hQ : ∀ (u16 u17 u18 u19 u20 u21 u22 u23 u24 u25 u26 u27 u28 u29 u30 u31 u32 u33 u34 u35 u79 u80 u81 u82 u83 u84 u85 u86 u87 u88 u89 u90 u91 u92 u93 u94 u95 u96 u97 u98 u99 u100 u101 u102 u103 u104 u105 u106 u107 u108 u109 u110 u111 u112 u113 u114 u115 u116 u117 u118 u119 u120 u121 u122 u123 u124 u125 u126 u127 u128 u129 u130 u131 u132 u133 u134 u135 u136 u137 u138 u139 u140 u141 u142 u143 u144 u145 u146 u147 u148 u149 u150 u151 u152 u153 u154 u155 u156 u157 u158 u159 u160 u161 u162 u163 u164 u165 u166 u167 u168 u169 u170 u171 u172 u173 u174 u175 u176 u177 u178 u179 u180 u181 u182 u183 u184 u185 u186 u187 u188 u189 u190 u191 u192 u193 u194 u195 u196 u197 u198 u199 u200 u201 u202 u203 u204 u205 u206 u207 u208 u209 u210 u211 u212 u213 u214 u215 u216 u217 u218 u219 u220 u221 u222 u223 u224 u225 u226 u227 u228 u229 u230 u231 u232 u233 u234 u235 u236 u237 u238 u239 u240 u241 u242 u243 u244 u245 u246 u247 u248 u249 u250 u251 u252 u253 u254 u255 u256 u257 u258 u259 u260 u261 u262 u263 u264 u265 u266 u267 u268 u269 u270 u271 u272 u273 u274 u275 u276 u277 u278 u279 u280 u281 u282 u283 u284 : Value) (w' : World) (tmN gvN : Int) (viN vuN vaN : Value), Done w w' S k tmN gvN viN vuN vaN → Q .normal ⟨#[c0, c1, c2, c3, c4, .pointer (some ⟨S, 0, none⟩), .int .i64 tmN, .int .i64 gvN, viN, vuN, vaN, c11, .pointer (some ⟨B, 0, none⟩), c13, tv, .bool true, u16, u17, u18, u19, u20, u21, u22, u23, u24, u25, u26, u27, u28, u29, u30, u31, u32, u33, u34, u35, c36, c37, c38, c39, c40, c41, c42, c43, c44, c45, c46, c47, c48, c49, c50, c51, c52, c53, c54, c55, c56, c57, c58, c59, c60, c61, c62, c63, c64, c65, c66, c67, c68, c69, c70, c71, c72, c73, c74, c75, c76, c77, .int .i64 1, u79, u80, u81, u82, u83, u84, u85, u86, u87, u88, u89, u90, u91, u92, u93, u94, u95, u96, u97, u98, u99, u100, u101, u102, u103, u104, u105, u106, u107, u108, u109, u110, u111, u112, u113, u114, u115, u116, u117, u118, u119, u120, u121, u122, u123, u124, u125, u126, u127, u128, u129, u130, u131, u132, u133, u134, u135, u136, u137, u138, u139, u140, u141, u142, u143, u144, u145, u146, u147, u148, u149, u150, u151, u152, u153, u154, u155, u156, u157, u158, u159, u160, u161, u162, u163, u164, u165, u166, u167, u168, u169, u170, u171, u172, u173, u174, u175, u176, u177, u178, u179, u180, u181, u182, u183, u184, u185, u186, u187, u188, u189, u190, u191, u192, u193, u194, u195, u196, u197, u198, u199, u200, u201, u202, u203, u204, u205, u206, u207, u208, u209, u210, u211, u212, u213, u214, u215, u216, u217, u218, u219, u220, u221, u222, u223, u224, u225, u226, u227, u228, u229, u230, u231, u232, u233, u234, u235, u236, u237, u238, u239, u240, u241, u242, u243, u244, u245, u246, u247, u248, u249, u250, u251, u252, u253, u254, u255, u256, u257, u258, u259, u260, u261, u262, u263, u264, u265, u266, u267, u268, u269, u270, u271, u272, u273, u274, u275, u276, u277, u278, u279, u280, u281, u282, u283, u284, c285, c286, c287, c288, c289, c290, c291, c292, c293], []⟩ w') :
    Code.wp Tryd.prog ((Tryd.f5.body.bind (blockAt 4)).getD .skip) Q ⟨#[c0, c1, c2, c3, c4, .pointer (some ⟨S, 0, none⟩), .int .i64 tm, .int .i64 gv, vi, vu, va, c11, .pointer (some ⟨B, 0, none⟩), c13, tv, .bool false, c16, c17, c18, c19, c20, c21, c22, c23, c24, c25, c26, c27, c28, c29, c30, c31, c32, c33, c34, c35, c36, c37, c38, c39, c40, c41, c42, c43, c44, c45, c46, c47, c48, c49, c50, c51, c52, c53, c54, c55, c56, c57, c58, c59, c60, c61, c62, c63, c64, c65, c66, c67, c68, c69, c70, c71, c72, c73, c74, c75, c76, c77, .int .i64 1, c79, c80, c81, c82, c83, c84, c85, c86, c87, c88, c89, c90, c91, c92, c93, c94, c95, c96, c97, c98, c99, c100, c101, c102, c103, c104, c105, c106, c107, c108, c109, c110, c111, c112, c113, c114, c115, c116, c117, c118, c119, c120, c121, c122, c123, c124, c125, c126, c127, c128, c129, c130, c131, c132, c133, c134, c135, c136, c137, c138, c139, c140, c141, c142, c143, c144, c145, c146, c147, c148, c149, c150, c151, c152, c153, c154, c155, c156, c157, c158, c159, c160, c161, c162, c163, c164, c165, c166, c167, c168, c169, c170, c171, c172, c173, c174, c175, c176, c177, c178, c179, c180, c181, c182, c183, c184, c185, c186, c187, c188, c189, c190, c191, c192, c193, c194, c195, c196, c197, c198, c199, c200, c201, c202, c203, c204, c205, c206, c207, c208, c209, c210, c211, c212, c213, c214, c215, c216, c217, c218, c219, c220, c221, c222, c223, c224, c225, c226, c227, c228, c229, c230, c231, c232, c233, c234, c235, c236, c237, c238, c239, c240, c241, c242, c243, c244, c245, c246, c247, c248, c249, c250, c251, c252, c253, c254, c255, c256, c257, c258, c259, c260, c261, c262, c263, c264, c265, c266, c267, c268, c269, c270, c271, c272, c273, c274, c275, c276, c277, c278, c279, c280, c281, c282, c283, c284, c285, c286, c287, c288, c289, c290, c291, c292, c293], []⟩ w1 := by
  conv => arg 2; whnf
  have HK1 := hide hT.lp
  have HAG := hide hT.ag
  have HTV := hide hT.tv
  have HG := hide hT.hand
  have HGV := hide (And.intro hT.g0 (And.intro hT.gk hT.k8))
  have HQ := hide hQ
  obtain ⟨b0w1, b1w1, b2w1, sBw1⟩ := cellsB HK1.out
  obtain ⟨ao, co, rfl⟩ := HK1.out.ls.shape
  obtain ⟨n, hn⟩ : ∃ n, n = E.length := ⟨_, rfl⟩
  have h20 : n ≤ 20 := by rw [hn]; exact HK1.out.len
  have HN := hide hn
  have HLI : Hid (I.length = n) := hide (by rw [hn]; exact HAG.out.lens.1)
  have HLU : Hid (U.length = n) := hide (by rw [hn]; exact HAG.out.lens.2.1)
  have HLA : Hid (A.length = n) := hide (by rw [hn]; exact HAG.out.lens.2.2)
  clear hT hQ hn
  have HE := hide hx
  clear hx
  obtain ⟨ai, ci, hvi⟩ : ∃ a c, vi = .slice a n c := by
    rcases HK1.out.ids.2 with ⟨h, h2⟩ | ⟨g, c, cur, h, _⟩
    · exact ⟨none, 0, by rw [h, ← HLI.out, h2]⟩
    · exact ⟨_, c, by rw [h, HLI.out]⟩
  obtain ⟨au, cu, hvu⟩ : ∃ a c, vu = .slice a n c := by
    rcases HK1.out.unt.2 with ⟨h, h2⟩ | ⟨g, c, cur, h, _⟩
    · exact ⟨none, 0, by rw [h, ← HLU.out, h2]⟩
    · exact ⟨_, c, by rw [h, HLU.out]⟩
  obtain ⟨aa, ca, hva⟩ : ∃ a c, va = .slice a n c := by
    obtain ⟨xs, h1, _⟩ := HK1.out.all
    rcases h1.2 with ⟨h, h2⟩ | ⟨g, c, cur, h, _⟩
    · exact ⟨none, 0, by rw [h, ← HLA.out, h2]⟩
    · exact ⟨_, c, by rw [h, HLA.out]⟩
  subst hvi hvu hva
  rcases hq with hq | ⟨hq, hq2⟩
  all_goals
    go_wp2_with fail
    refine (HK1.out.nowBad HE.out).mono ?_
    rintro e w2 ⟨rfl, hK⟩
    have HK2 := hide hK
    obtain ⟨b0w2, b1w2, b2w2, sBw2⟩ := cellsB hK
    clear HK1 b0w1 b1w1 b2w1 sBw1
    clear hK
    dsimp only
    go_wp2_with fail
    refine (HK2.out.same HG.out 1 1).mono ?_
    rintro e w3 ⟨rfl, hK, _⟩
    have HK3 := hide hK
    obtain ⟨b0w3, b1w3, b2w3, sBw3⟩ := cellsB hK
    clear HK2 b0w2 b1w2 b2w2 sBw2
    clear hK
    dsimp only
    go_wp2_with fail
    exact HQ.out _ _ _ _ _ _ _ _ _ _ _ _ _ _ _ _ _ _ _ _ _ _ _ _ _ _ _ _ _ _ _ _ _ _ _ _ _ _ _ _ _ _ _ _ _ _ _ _ _ _ _ _ _ _ _ _ _ _ _ _ _ _ _ _ _ _ _ _ _ _ _ _ _ _ _ _ _ _ _ _ _ _ _ _ _ _ _ _ _ _ _ _ _ _ _ _ _ _ _ _ _ _ _ _ _ _ _ _ _ _ _ _ _ _ _ _ _ _ _ _ _ _ _ _ _ _ _ _ _ _ _ _ _ _ _ _ _ _ _ _ _ _ _ _ _ _ _ _ _ _ _ _ _ _ _ _ _ _ _ _ _ _ _ _ _ _ _ _ _ _ _ _ _ _ _ _ _ _ _ _ _ _ _ _ _ _ _ _ _ _ _ _ _ _ _ _ _ _ _ _ _ _ _ _ _ _ _ _ _ _ _ _ _ _ _ _ _ _ _ _ _ _ _ _ _ _ _ tm gv _ _ _ ⟨_, _, _, _, _, HAG.out, HK3.out.known (fun _ _ (hf : False) => hf.elim), ⟨HGV.out.1, by have := HGV.out.2.1; omega⟩⟩

set_option maxHeartbeats 4000000 in
set_option maxRecDepth 1000000 in
theorem br1k {Q : Exit → Act → World → Prop} {w w1 : World} {S B k : Nat} {tm gv : Int} {v vi vu va tv : Value} {E : List Ent} {I U : List Int} {A : List (List M.Val)} {l : List M.Val} {z1 z2 : Int} 
    (c0 c1 c2 c3 c4 c11 c13 c16 c17 c18 c19 c20 c21 c22 c23 c24 c25 c26 c27 c28 c29 c30 c31 c32 c33 c34 c35 c36 c37 c38 c39 c40 c41 c42 c43 c44 c45 c46 c47 c48 c49 c50 c51 c52 c53 c54 c55 c56 c57 c58 c59 c60 c61 c62 c63 c64 c65 c66 c67 c68 c69 c70 c71 c72 c73 c74 c75 c76 c77 c79 c80 c81 c82 c83 c84 c85 c86 c87 c88 c89 c90 c91 c92 c93 c94 c95 c96 c97 c98 c99 c100 c101 c102 c103 c104 c105 c106 c107 c108 c109 c110 c111 c112 c113 c114 c115 c116 c117 c118 c119 c120 c121 c122 c123 c124 c125 c126 c127 c128 c129 c130 c131 c132 c133 c134 c135 c136 c137 c138 c139 c140 c141 c142 c143 c144 c145 c146 c147 c148 c149 c150 c151 c152 c153 c154 c155 c156 c157 c158 c159 c160 c161 c162 c163 c164 c165 c166 c167 c168 c169 c170 c171 c172 c173 c174 c175 c176 c177 c178 c179 c180 c181 c182 c183 c184 c185 c186 c187 c188 c189 c190 c191 c192 c193 c194 c195 c196 c197 c198 c199 c200 c201 c202 c203 c204 c205 c206 c207 c208 c209 c210 c211 c212 c213 c214 c215 c216 c217 c218 c219 c220 c221 c222 c223 c224 c225 c226 c227 c228 c229 c230 c231 c232 c233 c234 c235 c236 c237 c238 c239 c240 c241 c242 c243 c244 c245 c246 c247 c248 c249 c250 c251 c252 c253 c254 c255 c256 c257 c258 c259 c260 c261 c262 c263 c264 c265 c266 c267 c268 c269 c270 c271 c272 c273 c274 c275 c276 c277 c278 c279 c280 c281 c282 c283 c284 c285 c286 c287 c288 c289 c290 c291 c292 c293 : Value) (hT : Tuned w w1 S B k tm gv v vi vu va tv E I U A l 1 z1 z2) (h1 : tm ≤ z1) (h2 : z1 ≤ 10000)
    (hQ : ∀ (u16 u17 u18 u19 u20 u21 u22 u23 u24 u25 u26 u27 u28 u29 u30 u31 u32 u33 u34 u35 u79 u80 u81 u82 u83 u84 u85 u86 u87 u88 u89 u90 u91 u92 u93 u94 u95 u96 u97 u98 u99 u100 u101 u102 u103 u104 u105 u106 u107 u108 u109 u110 u111 u112 u113 u114 u115 u116 u117 u118 u119 u120 u121 u122 u123 u124 u125 u126 u127 u128 u129 u130 u131 u132 u133 u134 u135 u136 u137 u138 u139 u140 u141 u142 u143 u144 u145 u146 u147 u148 u149 u150 u151 u152 u153 u154 u155 u156 u157 u158 u159 u160 u161 u162 u163 u164 u165 u166 u167 u168 u169 u170 u171 u172 u173 u174 u175 u176 u177 u178 u179 u180 u181 u182 u183 u184 u185 u186 u187 u188 u189 u190 u191 u192 u193 u194 u195 u196 u197 u198 u199 u200 u201 u202 u203 u204 u205 u206 u207 u208 u209 u210 u211 u212 u213 u214 u215 u216 u217 u218 u219 u220 u221 u222 u223 u224 u225 u226 u227 u228 u229 u230 u231 u232 u233 u234 u235 u236 u237 u238 u239 u240 u241 u242 u243 u244 u245 u246 u247 u248 u249 u250 u251 u252 u253 u254 u255 u256 u257 u258 u259 u260 u261 u262 u263 u264 u265 u266 u267 u268 u269 u270 u271 u272 u273 u274 u275 u276 u277 u278 u279 u280 u281 u282 u283 u284 : Value) (w' : World) (tmN gvN : Int) (viN vuN vaN : Value), Done w w' S k tmN gvN viN vuN vaN → Q .normal ⟨#[c0, c1, c2, c3, c4, .pointer (some ⟨S, 0, none⟩), .int .i64 tmN, .int .i64 gvN, viN, vuN, vaN, c11, .pointer (some ⟨B, 0, none⟩), c13, tv, .bool true, u16, u17, u18, u19, u20, u21, u22, u23, u24, u25, u26, u27, u28, u29, u30, u31, u32, u33, u34, u35, c36, c37, c38, c39, c40, c41, c42, c43, c44, c45, c46, c47, c48, c49, c50, c51, c52, c53, c54, c55, c56, c57, c58, c59, c60, c61, c62, c63, c64, c65, c66, c67, c68, c69, c70, c71, c72, c73, c74, c75, c76, c77, .int .i64 1, u79, u80, u81, u82, u83, u84, u85, u86, u87, u88, u89, u90, u91, u92, u93, u94, u95, u96, u97, u98, u99, u100, u101, u102, u103, u104, u105, u106, u107, u108, u109, u110, u111, u112, u113, u114, u115, u116, u117, u118, u119, u120, u121, u122, u123, u124, u125, u126, u127, u128, u129, u130, u131, u132, u133, u134, u135, u136, u137, u138, u139, u140, u141, u142, u143, u144, u145, u146, u147, u148, u149, u150, u151, u152, u153, u154, u155, u156, u157, u158, u159, u160, u161, u162, u163, u164, u165, u166, u167, u168, u169, u170, u171, u172, u173, u174, u175, u176, u177, u178, u179, u180, u181, u182, u183, u184, u185, u186, u187, u188, u189, u190, u191, u192, u193, u194, u195, u196, u197, u198, u199, u200, u201, u202, u203, u204, u205, u206, u207, u208, u209, u210, u211, u212, u213, u214, u215, u216, u217, u218, u219, u220, u221, u222, u223, u224, u225, u226, u227, u228, u229, u230, u231, u232, u233, u234, u235, u236, u237, u238, u239, u240, u241, u242, u243, u244, u245, u246, u247, u248, u249, u250, u251, u252, u253, u254, u255, u256, u257, u258, u259, u260, u261, u262, u263, u264, u265, u266, u267, u268, u269, u270, u271, u272, u273, u274, u275, u276, u277, u278, u279, u280, u281, u282, u283, u284, c285, c286, c287, c288, c289, c290, c291, c292, c293], []⟩ w') :
    Code.wp Tryd.prog ((Tryd.f5.body.bind (blockAt 4)).getD .skip) Q ⟨#[c0, c1, c2, c3, c4, .pointer (some ⟨S, 0, none⟩), .int .i64 tm, .int .i64 gv, vi, vu, va, c11, .pointer (some ⟨B, 0, none⟩), c13, tv, .bool false, c16, c17, c18, c19, c20, c21, c22, c23, c24, c25, c26, c27, c28, c29, c30, c31, c32, c33, c34, c35, c36, c37, c38, c39, c40, c41, c42, c43, c44, c45, c46, c47, c48, c49, c50, c51, c52, c53, c54, c55, c56, c57, c58, c59, c60, c61, c62, c63, c64, c65, c66, c67, c68, c69, c70, c71, c72, c73, c74, c75, c76, c77, .int .i64 1, c79, c80, c81, c82, c83, c84, c85, c86, c87, c88, c89, c90, c91, c92, c93, c94, c95, c96, c97, c98, c99, c100, c101, c102, c103, c104, c105, c106, c107, c108, c109, c110, c111, c112, c113, c114, c115, c116, c117, c118, c119, c120, c121, c122, c123, c124, c125, c126, c127, c128, c129, c130, c131, c132, c133, c134, c135, c136, c137, c138, c139, c140, c141, c142, c143, c144, c145, c146, c147, c148, c149, c150, c151, c152, c153, c154, c155, c156, c157, c158, c159, c160, c161, c162, c163, c164, c165, c166, c167, c168, c169, c170, c171, c172, c173, c174, c175, c176, c177, c178, c179, c180, c181, c182, c183, c184, c185, c186, c187, c188, c189, c190, c191, c192, c193, c194, c195, c196, c197, c198, c199, c200, c201, c202, c203, c204, c205, c206, c207, c208, c209, c210, c211, c212, c213, c214, c215, c216, c217, c218, c219, c220, c221, c222, c223, c224, c225, c226, c227, c228, c229, c230, c231, c232, c233, c234, c235, c236, c237, c238, c239, c240, c241, c242, c243, c244, c245, c246, c247, c248, c249, c250, c251, c252, c253, c254, c255, c256, c257, c258, c259, c260, c261, c262, c263, c264, c265, c266, c267, c268, c269, c270, c271, c272, c273, c274, c275, c276, c277, c278, c279, c280, c281, c282, c283, c284, c285, c286, c287, c288, c289, c290, c291, c292, c293], []⟩ w1 := by
  conv => arg 2; whnf
  have HK1 := hide hT.lp
  have HAG := hide hT.ag
  have HTV := hide hT.tv
  have HG := hide hT.hand
  have HGV := hide (And.intro hT.g0 (And.intro hT.gk hT.k8))
  have HQ := hide hQ
  obtain ⟨b0w1, b1w1, b2w1, sBw1⟩ := cellsB HK1.out
  obtain ⟨ao, co, rfl⟩ := HK1.out.ls.shape
  obtain ⟨n, hn⟩ : ∃ n, n = E.length := ⟨_, rfl⟩
  have h20 : n ≤ 20 := by rw [hn]; exact HK1.out.len
  have HN := hide hn
  have HLI : Hid (I.length = n) := hide (by rw [hn]; exact HAG.out.lens.1)
  have HLU : Hid (U.length = n) := hide (by rw [hn]; exact HAG.out.lens.2.1)
  have HLA : Hid (A.length = n) := hide (by rw [hn]; exact HAG.out.lens.2.2)
  clear hT hQ hn
  obtain ⟨iI, hi1, hi2, hi3, hi4⟩ := info_parts infoI
  have HII := hide (And.intro hi1 (And.intro hi2 (And.intro hi3 hi4)))
  obtain ⟨iT, ht1, ht2, ht3, ht4⟩ := info_parts infoT
  have HIT := hide (And.intro ht1 (And.intro ht2 (And.intro ht3 ht4)))
  have HX := hide (And.intro h1 h2)
  have HFL : Hid (∀ j, (M.nowE (E.take j) z1).length ≤ j) := hide fun j => Nat.le_trans (nowE_len _ _) (by simp; omega)
  clear hi1 hi2 hi3 hi4 ht1 ht2 ht3 ht4
  obtain ⟨ai, ci, hvi⟩ : ∃ a c, vi = .slice a n c := by
    rcases HK1.out.ids.2 with ⟨h, h2⟩ | ⟨g, c, cur, h, _⟩
    · exact ⟨none, 0, by rw [h, ← HLI.out, h2]⟩
    · exact ⟨_, c, by rw [h, HLI.out]⟩
  obtain ⟨au, cu, hvu⟩ : ∃ a c, vu = .slice a n c := by
    rcases HK1.out.unt.2 with ⟨h, h2⟩ | ⟨g, c, cur, h, _⟩
    · exact ⟨none, 0, by rw [h, ← HLU.out, h2]⟩
    · exact ⟨_, c, by rw [h, HLU.out]⟩
  obtain ⟨aa, ca, hva⟩ : ∃ a c, va = .slice a n c := by
    obtain ⟨xs, h1, _⟩ := HK1.out.all
    rcases h1.2 with ⟨h, h2⟩ | ⟨g, c, cur, h, _⟩
    · exact ⟨none, 0, by rw [h, ← HLA.out, h2]⟩
    · exact ⟨_, c, by rw [h, HLA.out]⟩
  subst hvi hvu hva
  go_wp2_with fail
  go_loopw [19, 20, 21, 22, 23] (fun sg sa sb sc sk wr => ∃ (j f : Nat) (a b c : Value), j ≤ n ∧ f ≤ j ∧ a = sa ∧ b = sb ∧ c = sc ∧ sk = .int .i64 j ∧ sg = .int .i64 ((j : Int) - (f : Int)) ∧ Hid (f = (M.nowE (E.take j) z1).length) ∧ Hid (Tri w w1 wr a b c (M.nowE (E.take j) z1))) (fun _ _ _ _ sk _ => n - (intOf sk).toNat)
  case atStart => exact ⟨0, 0, _, _, _, Nat.zero_le _, Nat.le_refl _, rfl, rfl, rfl, rfl, rfl, hide (by simp [M.nowE]), hide (by simpa [M.nowE] using Tri.nil w w1)⟩
  case round =>
    clear b0w1 b1w1 b2w1 sBw1
    obtain ⟨j, f, a, b, c, hj, hfj, rfl, rfl, rfl, rfl, rfl, hf, hT⟩ := hrel
    by_cases hlt : j < n
    · have hjE : j < E.length := by rw [← HN.out]; exact hlt
      have ij0 : (0 : Int) ≤ (j : Int) := by omega
      have ijn : (j : Int) < (n : Int) := by omega
      obtain ⟨x, hxE⟩ : ∃ x, x = E[j] := ⟨_, rfl⟩
      obtain ⟨gu, capu, hvu, hcellu, _, hgul⟩ := ints_cell HK1.out.unt (by rw [HLU.out]; omega)
      rw [HLU.out] at hvu
      simp only [Value.slice.injEq, true_and] at hvu
      obtain ⟨rfl, rfl⟩ := hvu
      have cju1 : w1.cell? ⟨gu, j, none⟩ = some (.int .i64 x.u) := by
        rw [hxE, ← (HAG.out.at hjE).2.1]; exact hcellu j (by rw [HLU.out]; exact hlt)
      have HCU := hide fun wx (hb : Below w1.heap.size w1 wx) => (hb.cell (p := ⟨gu, j, none⟩) hgul).trans cju1
      obtain ⟨gi, capi, hvi, hcelli, _, hgil⟩ := ints_cell HK1.out.ids (by rw [HLI.out]; omega)
      rw [HLI.out] at hvi
      simp only [Value.slice.injEq, true_and] at hvi
      obtain ⟨rfl, rfl⟩ := hvi
      have cji1 : w1.cell? ⟨gi, j, none⟩ = some (.int .i64 x.i) := by
        rw [hxE, ← (HAG.out.at hjE).1]; exact hcelli j (by rw [HLI.out]; exact hlt)
      have HCI := hide fun wx (hb : Below w1.heap.size w1 wx) => (hb.cell (p := ⟨gi, j, none⟩) hgil).trans cji1
      obtain ⟨ga, capa, hva, hcella⟩ := rowOf_at HK1.out.all (by rw [HLA.out]; omega)
      rw [HLA.out] at hva
      simp only [Value.slice.injEq, true_and] at hva
      obtain ⟨rfl, rfl⟩ := hva
      obtain ⟨xv, cja1, hxv0⟩ := hcella j (by rw [HLA.out]; exact hlt)
      have hxv : IsVals w xv x.t := by
        have h3 := (HAG.out.at hjE).2.2
        rw [hxE, ← h3]; exact hxv0
      obtain ⟨ax, mx, kx, rfl⟩ := isVals_slice hxv
      have HCA := hide fun wx (hb : Below w1.heap.size w1 wx) => (hb.cell (p := ⟨ga, j, none⟩) (World.block_lt_of_cell? w1 _ cja1)).trans cja1
      have HXV := hide hxv
      have HSN : Hid (M.nowE (E.take (j + 1)) z1 = M.nowE (E.take j) z1 ++ (if z1 < x.u then [x] else [])) := hide (by rw [hxE]; exact now_snoc (x := z1) hjE)
      have cju := HCU.out wr hT.out.bel
      have cji := HCI.out wr hT.out.bel
      clear hcellu hcelli hcella hxv hxv0 cju1 cji1 cja1 hxE
      by_cases hov : x.u ≤ z1
      · have HS2 : Hid (M.nowE (E.take (j + 1)) z1 = M.nowE (E.take j) z1) := hide (by rw [HSN.out, if_neg (by omega)]; simp)
        have hwg : IntKind.i64.wrap ((j : Int) - (f : Int) + 1) = (j : Int) - (f : Int) + 1 := IntWalk.i64_in _ ⟨by omega, by omega⟩
        generalize x.u = xu at *
        go_wp2_with fail
        go_roundw
        case rel => exact ⟨j + 1, f, _, _, _, by omega, by omega, rfl, rfl, rfl, by go_num, by congr 1; omega, hide (by rw [HS2.out]; exact hf.out), hide (by rw [HS2.out]; exact hT.out)⟩
        case measure => simp [intOf] <;> omega
      · have HS2 : Hid (M.nowE (E.take (j + 1)) z1 = M.nowE (E.take j) z1 ++ [x]) := hide (by rw [HSN.out, if_pos (by omega)])
        obtain ⟨F, hF⟩ : ∃ F, F = M.nowE (E.take j) z1 := ⟨_, rfl⟩
        rw [← hF] at hT hf HS2
        clear hF HSN
        obtain ⟨xs, hx1, hx2⟩ := hT.out.rc
        rw [List.length_map, ← hf.out] at hx1
        have HXS := hide hx2
        have HXR := hide hx1
        have HRA := hide hT.out.ra
        have HRB := hide hT.out.rb
        rw [← hf.out] at HRA HRB
        obtain ⟨xi, hxi⟩ : ∃ xi, xi = x.i := ⟨_, rfl⟩
        obtain ⟨xu, hxu⟩ : ∃ xu, xu = x.u := ⟨_, rfl⟩
        rw [← hxi] at cji
        rw [← hxu] at cju hov HCU
        have HXI := hide (And.intro hxi hxu)
        clear hx1 hx2 hxi hxu
        have HXwa : Hid ((wr.alloc (.cells #[Value.int .i64 xi] 3)).ownsRow w1.heap.size 3 1 a f (ints (F.map (·.i)))) := hide (HRA.out.alloc _)
        have HNWwa : Hid (∀ j u, [Value.int .i64 xi][j]? = some u → (wr.alloc (.cells #[Value.int .i64 xi] 3)).cell? ((⟨wr.heap.size, 0, none⟩ : Addr).add j) = some u) := hide (World.news_of_block (heap_alloc_new wr _))
        have HWSwa : Hid (w1.heap.size ≤ (wr.alloc (.cells #[Value.int .i64 xi] 3)).heap.size) := hide (Nat.le_trans hT.out.bel.size (by simp))
        go_wp2_with (at_builtin; refine wpList_append_lies _ rfl (.tmp 208) (.tmp 213) 22 rfl w1.heap.size 3 iI (.int .i64 0) 1 8 Tryd.underlying22 HII.out.1 HII.out.2.1 HII.out.2.2.1 HII.out.2.2.2 rfl (by decide) a f (ints (F.map (·.i))) rfl HXwa.out ⟨wr.heap.size, 0, none⟩ 1 1 [Value.int .i64 xi] rfl rfl HNWwa.out (by intro u hu; simp at hu; subst hu; rfl) (by decide) (by unfold maxLen; omega) (by omega) HWSwa.out (wr.heap.size + 1) (by simp) ?_)
        intro g1 k1 wa hown hgrow hat hlt2
        have HOwa := hide hown
        have HGRwa := hide hgrow
        have HATwa := hide hat
        clear hown hgrow hat hlt2
        have HBa : Hid (Below w1.heap.size w1 wa) := hide ((hT.out.bel.alloc hT.out.bel.size _).grown HGRwa.out (Nat.le_trans hT.out.bel.size (by simp)) (fun k hk => (hT.out.ra.lt k hk).1))
        have cjua := HCU.out wa HBa.out
        have HRBa : Hid (wa.ownsRow w1.heap.size 3 1 b f (ints (F.map (·.u)))) := hide (row_apart (HRB.out.alloc _) hT.out.ap.symm HGRwa.out)
        have HRCa : Hid (wa.ownsRow w1.heap.size 30 1 c f xs) := hide (row_other (HXR.out.alloc _) (HRA.out.alloc _) (by decide) HGRwa.out)
        have HXwb : Hid ((wa.alloc (.cells #[Value.int .i64 xu] 3)).ownsRow w1.heap.size 3 1 b f (ints (F.map (·.u)))) := hide (HRBa.out.alloc _)
        have HNWwb : Hid (∀ j u, [Value.int .i64 xu][j]? = some u → (wa.alloc (.cells #[Value.int .i64 xu] 3)).cell? ((⟨wa.heap.size, 0, none⟩ : Addr).add j) = some u) := hide (World.news_of_block (heap_alloc_new wa _))
        have HWSwb : Hid (w1.heap.size ≤ (wa.alloc (.cells #[Value.int .i64 xu] 3)).heap.size) := hide (Nat.le_trans HBa.out.size (by simp))
        go_wp2_with (at_builtin; refine wpList_append_lies _ rfl (.tmp 215) (.tmp 220) 22 rfl w1.heap.size 3 iI (.int .i64 0) 1 8 Tryd.underlying22 HII.out.1 HII.out.2.1 HII.out.2.2.1 HII.out.2.2.2 rfl (by decide) b f (ints (F.map (·.u))) rfl HXwb.out ⟨wa.heap.size, 0, none⟩ 1 1 [Value.int .i64 xu] rfl rfl HNWwb.out (by intro u hu; simp at hu; subst hu; rfl) (by decide) (by unfold maxLen; omega) (by omega) HWSwb.out (wa.heap.size + 1) (by simp) ?_)
        intro g2 k2 wb hown hgrow hat hlt2
        have HOwb := hide hown
        have HGRwb := hide hgrow
        have HATwb := hide hat
        clear hown hgrow hat hlt2
        have HBb : Hid (Below w1.heap.size w1 wb) := hide ((HBa.out.alloc HBa.out.size _).grown HGRwb.out (Nat.le_trans HBa.out.size (by simp)) (fun k hk => (HRBa.out.lt k hk).1))
        have cjab := HCA.out wb HBb.out
        have HRCb : Hid (wb.ownsRow w1.heap.size 30 1 c f xs) := hide (row_other (HRCa.out.alloc _) (HRBa.out.alloc _) (by decide) HGRwb.out)
        have HXwc : Hid ((wb.alloc (.cells #[Value.slice ax mx kx] 30)).ownsRow w1.heap.size 30 1 c f xs) := hide (HRCb.out.alloc _)
        have HNWwc : Hid (∀ j u, [Value.slice ax mx kx][j]? = some u → (wb.alloc (.cells #[Value.slice ax mx kx] 30)).cell? ((⟨wb.heap.size, 0, none⟩ : Addr).add j) = some u) := hide (World.news_of_block (heap_alloc_new wb _))
        have HWSwc : Hid (w1.heap.size ≤ (wb.alloc (.cells #[Value.slice ax mx kx] 30)).heap.size) := hide (Nat.le_trans HBb.out.size (by simp))
        go_wp2_with (at_builtin; refine wpList_append_lies _ rfl (.tmp 222) (.tmp 227) 23 rfl w1.heap.size 30 iT (.slice none 0 0) 1 24 Tryd.underlying23 HIT.out.1 HIT.out.2.1 HIT.out.2.2.1 HIT.out.2.2.2 rfl (by decide) c f xs rfl HXwc.out ⟨wb.heap.size, 0, none⟩ 1 1 [Value.slice ax mx kx] rfl rfl HNWwc.out (by intro u hu; simp at hu; subst hu; rfl) (by decide) (by unfold maxLen; omega) (by omega) HWSwc.out (wb.heap.size + 1) (by simp) ?_)
        intro g3 k3 wc hown hgrow hat hlt2
        have HOwc := hide hown
        have HGRwc := hide hgrow
        have HATwc := hide hat
        clear hown hgrow hat hlt2
        go_wp2
        go_roundw
        case rel =>
          have hfF := hf.out
          subst hfF
          obtain ⟨e1, e2⟩ := HXI.out
          subst e1 e2
          exact ⟨j + 1, F.length + 1, _, _, _, by omega, by omega, rfl, rfl, rfl, by go_num, by congr 1; omega, hide (by rw [HS2.out]; simp), hide (by rw [HS2.out]; exact Tri.more hT.out HOwa.out HGRwa.out HATwa.out rfl HOwb.out HGRwb.out HATwb.out rfl HXwc.out HXS.out HXV.out HOwc.out HGRwc.out)⟩
        case measure => simp [intOf] <;> omega
    · have hjn : ¬ (j : Int) < (n : Int) := by omega
      have hjn2 : j = n := by omega
      subst hjn2
      have htk : M.nowE (E.take j) z1 = M.nowE E z1 := by rw [List.take_of_length_le (by rw [← HN.out]; exact Nat.le_refl _)]
      rw [htk] at hT hf
      have HKn : Hid (Lp (Arr B 1 z1 z2) w wr S tm gv (.slice ao E.length co) E a b c ((M.nowE E z1).map (·.i)) ((M.nowE E z1).map (·.u)) ((M.nowE E z1).map (·.t))) := hide (HK1.out.lists hT.out.bel (by rw [List.length_map]; exact hT.out.ra) (by rw [List.length_map]; exact hT.out.rb) hT.out.rc hT.out.ap)
      obtain ⟨b0, b1, b2, sB⟩ := cellsB HKn.out
      have HC : Hid (Calls Tryd.prog 22 #[.pointer (some ⟨S, 0, none⟩), .int .i64 z1] wr fun e w' => e = .returned (.tuple #[.int .i64 ((j : Int) - (f : Int)), errV 0]) ∧ ∃ v', Lp (Arr B 1 z1 z2) w w' S z1 gv v' (M.nowE E z1) a b c ((M.nowE E z1).map (·.i)) ((M.nowE E z1).map (·.u)) ((M.nowE E z1).map (·.t))) := hide (by
        refine (HKn.out.nowOk (by have := HX.out.1; omega) (by have := HX.out.2; omega)).mono ?_
        rintro e w' ⟨rfl, v', hv⟩
        exact ⟨by rw [HN.out, hf.out], v', hv⟩)
      clear htk
      go_wp2_with fail
      refine (unhide HC).mono ?_
      rintro e w6 ⟨rfl, v6, hK⟩
      have HK6 := hide hK
      obtain ⟨b0w6, b1w6, b2w6, sBw6⟩ := cellsB hK
      clear HKn b0 b1 b2 sB HC
      clear hK
      dsimp only
      go_wp2_with fail
      refine (HK6.out.same HG.out 0 0).mono ?_
      rintro e w7 ⟨rfl, hK, _⟩
      have HK7 := hide hK
      obtain ⟨b0w7, b1w7, b2w7, sBw7⟩ := cellsB hK
      clear HK6 b0w6 b1w6 b2w6 sBw6
      clear hK
      dsimp only
      go_wp2_with fail
      exact HQ.out _ _ _ _ _ _ _ _ _ _ _ _ _ _ _ _ _ _ _ _ _ _ _ _ _ _ _ _ _ _ _ _ _ _ _ _ _ _ _ _ _ _ _ _ _ _ _ _ _ _ _ _ _ _ _ _ _ _ _ _ _ _ _ _ _ _ _ _ _ _ _ _ _ _ _ _ _ _ _ _ _ _ _ _ _ _ _ _ _ _ _ _ _ _ _ _ _ _ _ _ _ _ _ _ _ _ _ _ _ _ _ _ _ _ _ _ _ _ _ _ _ _ _ _ _ _ _ _ _ _ _ _ _ _ _ _ _ _ _ _ _ _ _ _ _ _ _ _ _ _ _ _ _ _ _ _ _ _ _ _ _ _ _ _ _ _ _ _ _ _ _ _ _ _ _ _ _ _ _ _ _ _ _ _ _ _ _ _ _ _ _ _ _ _ _ _ _ _ _ _ _ _ _ _ _ _ _ _ _ _ _ _ _ _ _ _ _ _ _ _ _ _ _ _ _ _ _ z1 gv _ _ _ ⟨_, _, _, _, _, HAG.out.now z1, HK7.out.known (fun _ _ (hf : False) => hf.elim), ⟨HGV.out.1, by have := HGV.out.2.1; omega⟩⟩
end Go.Proofs.YtlefhfmckimlaacDoor.Lps
