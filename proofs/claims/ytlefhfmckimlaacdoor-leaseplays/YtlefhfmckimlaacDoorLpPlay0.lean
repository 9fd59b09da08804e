/-
  The first case of the switch of LeasePlays: one is renewed.
-/
import Derived.Test.YtlefhfmckimlaacDoorLpPlayA
import Derived.Deep.QuietTactic
import Derived.BigQuiet
namespace Go.Proofs.YtlefhfmckimlaacDoor.Lps
open Go.RowKit
attribute [local go_sem ↓] Go.wp_at_zero Go.wp_at_succ

set_option maxHeartbeats 4000000 in
set_option maxRecDepth 1000000 in
theorem br0n {Q : Exit → Act → World → Prop} {w w1 : World} {S B k : Nat} {tm gv : Int} {v vi vu va tv : Value} {E : List Ent} {I U : List Int} {A : List (List M.Val)} {l : List M.Val} {z1 z2 : Int} 
    (c0 c1 c2 c3 c4 c11 c13 c16 c17 c18 c19 c20 c21 c22 c23 c24 c25 c26 c27 c28 c29 c30 c31 c32 c33 c34 c35 c36 c37 c38 c39 c40 c41 c42 c43 c44 c45 c46 c47 c48 c49 c50 c51 c52 c53 c54 c55 c56 c57 c58 c59 c60 c61 c62 c63 c64 c65 c66 c67 c68 c69 c70 c71 c72 c73 c74 c75 c76 c77 c79 c80 c81 c82 c83 c84 c85 c86 c87 c88 c89 c90 c91 c92 c93 c94 c95 c96 c97 c98 c99 c100 c101 c102 c103 c104 c105 c106 c107 c108 c109 c110 c111 c112 c113 c114 c115 c116 c117 c118 c119 c120 c121 c122 c123 c124 c125 c126 c127 c128 c129 c130 c131 c132 c133 c134 c135 c136 c137 c138 c139 c140 c141 c142 c143 c144 c145 c146 c147 c148 c149 c150 c151 c152 c153 c154 c155 c156 c157 c158 c159 c160 c161 c162 c163 c164 c165 c166 c167 c168 c169 c170 c171 c172 c173 c174 c175 c176 c177 c178 c179 c180 c181 c182 c183 c184 c185 c186 c187 c188 c189 c190 c191 c192 c193 c194 c195 c196 c197 c198 c199 c200 c201 c202 c203 c204 c205 c206 c207 c208 c209 c210 c211 c212 c213 c214 c215 c216 c217 c218 c219 c220 c221 c222 c223 c224 c225 c226 c227 c228 c229 c230 c231 c232 c233 c234 c235 c236 c237 c238 c239 c240 c241 c242 c243 c244 c245 c246 c247 c248 c249 c250 c251 c252 c253 c254 c255 c256 c257 c258 c259 c260 c261 c262 c263 c264 c265 c266 c267 c268 c269 c270 c271 c272 c273 c274 c275 c276 c277 c278 c279 c280 c281 c282 c283 c284 c285 c286 c287 c288 c289 c290 c291 c292 c293 : Value) (hT : Tuned w w1 S B k tm gv v vi vu va tv E I U A l 0 z1 z2) (hp : ¬ M.numb z1 E < E.length)
    (hQ : ∀ (u16 u17 u18 u19 u20 u21 u22 u23 u24 u25 u26 u27 u28 u29 u30 u31 u32 u33 u34 u35 u79 u80 u81 u82 u83 u84 u85 u86 u87 u88 u89 u90 u91 u92 u93 u94 u95 u96 u97 u98 u99 u100 u101 u102 u103 u104 u105 u106 u107 u108 u109 u110 u111 u112 u113 u114 u115 u116 u117 u118 u119 u120 u121 u122 u123 u124 u125 u126 u127 u128 u129 u130 u131 u132 u133 u134 u135 u136 u137 u138 u139 u140 u141 u142 u143 u144 u145 u146 u147 u148 u149 u150 u151 u152 u153 u154 u155 u156 u157 u158 u159 u160 u161 u162 u163 u164 u165 u166 u167 u168 u169 u170 u171 u172 u173 u174 u175 u176 u177 u178 u179 u180 u181 u182 u183 u184 u185 u186 u187 u188 u189 u190 u191 u192 u193 u194 u195 u196 u197 u198 u199 u200 u201 u202 u203 u204 u205 u206 u207 u208 u209 u210 u211 u212 u213 u214 u215 u216 u217 u218 u219 u220 u221 u222 u223 u224 u225 u226 u227 u228 u229 u230 u231 u232 u233 u234 u235 u236 u237 u238 u239 u240 u241 u242 u243 u244 u245 u246 u247 u248 u249 u250 u251 u252 u253 u254 u255 u256 u257 u258 u259 u260 u261 u262 u263 u264 u265 u266 u267 u268 u269 u270 u271 u272 u273 u274 u275 u276 u277 u278 u279 u280 u281 u282 u283 u284 : Value) (w' : World) (tmN gvN : Int) (viN vuN vaN : Value), Done w w' S k tmN gvN viN vuN vaN → Q .normal ⟨#[c0, c1, c2, c3, c4, .pointer (some ⟨S, 0, none⟩), .int .i64 tmN, .int .i64 gvN, viN, vuN, vaN, c11, .pointer (some ⟨B, 0, none⟩), c13, tv, .bool true, u16, u17, u18, u19, u20, u21, u22, u23, u24, u25, u26, u27, u28, u29, u30, u31, u32, u33, u34, u35, c36, c37, c38, c39, c40, c41, c42, c43, c44, c45, c46, c47, c48, c49, c50, c51, c52, c53, c54, c55, c56, c57, c58, c59, c60, c61, c62, c63, c64, c65, c66, c67, c68, c69, c70, c71, c72, c73, c74, c75, c76, c77, .int .i64 0, u79, u80, u81, u82, u83, u84, u85, u86, u87, u88, u89, u90, u91, u92, u93, u94, u95, u96, u97, u98, u99, u100, u101, u102, u103, u104, u105, u106, u107, u108, u109, u110, u111, u112, u113, u114, u115, u116, u117, u118, u119, u120, u121, u122, u123, u124, u125, u126, u127, u128, u129, u130, u131, u132, u133, u134, u135, u136, u137, u138, u139, u140, u141, u142, u143, u144, u145, u146, u147, u148, u149, u150, u151, u152, u153, u154, u155, u156, u157, u158, u159, u160, u161, u162, u163, u164, u165, u166, u167, u168, u169, u170, u171, u172, u173, u174, u175, u176, u177, u178, u179, u180, u181, u182, u183, u184, u185, u186, u187, u188, u189, u190, u191, u192, u193, u194, u195, u196, u197, u198, u199, u200, u201, u202, u203, u204, u205, u206, u207, u208, u209, u210, u211, u212, u213, u214, u215, u216, u217, u218, u219, u220, u221, u222, u223, u224, u225, u226, u227, u228, u229, u230, u231, u232, u233, u234, u235, u236, u237, u238, u239, u240, u241, u242, u243, u244, u245, u246, u247, u248, u249, u250, u251, u252, u253, u254, u255, u256, u257, u258, u259, u260, u261, u262, u263, u264, u265, u266, u267, u268, u269, u270, u271, u272, u273, u274, u275, u276, u277, u278, u279, u280, u281, u282, u283, u284, c285, c286, c287, c288, c289, c290, c291, c292, c293], []⟩ w') :
    Code.wp Tryd.prog ((Tryd.f5.body.bind (blockAt 4)).getD .skip) Q ⟨#[c0, c1, c2, c3, c4, .pointer (some ⟨S, 0, none⟩), .int .i64 tm, .int .i64 gv, vi, vu, va, c11, .pointer (some ⟨B, 0, none⟩), c13, tv, .bool false, c16, c17, c18, c19, c20, c21, c22, c23, c24, c25, c26, c27, c28, c29, c30, c31, c32, c33, c34, c35, c36, c37, c38, c39, c40, c41, c42, c43, c44, c45, c46, c47, c48, c49, c50, c51, c52, c53, c54, c55, c56, c57, c58, c59, c60, c61, c62, c63, c64, c65, c66, c67, c68, c69, c70, c71, c72, c73, c74, c75, c76, c77, .int .i64 0, c79, c80, c81, c82, c83, c84, c85, c86, c87, c88, c89, c90, c91, c92, c93, c94, c95, c96, c97, c98, c99, c100, c101, c102, c103, c104, c105, c106, c107, c108, c109, c110, c111, c112, c113, c114, c115, c116, c117, c118, c119, c120, c121, c122, c123, c124, c125, c126, c127, c128, c129, c130, c131, c132, c133, c134, c135, c136, c137, c138, c139, c140, c141, c142, c143, c144, c145, c146, c147, c148, c149, c150, c151, c152, c153, c154, c155, c156, c157, c158, c159, c160, c161, c162, c163, c164, c165, c166, c167, c168, c169, c170, c171, c172, c173, c174, c175, c176, c177, c178, c179, c180, c181, c182, c183, c184, c185, c186, c187, c188, c189, c190, c191, c192, c193, c194, c195, c196, c197, c198, c199, c200, c201, c202, c203, c204, c205, c206, c207, c208, c209, c210, c211, c212, c213, c214, c215, c216, c217, c218, c219, c220, c221, c222, c223, c224, c225, c226, c227, c228, c229, c230, c231, c232, c233, c234, c235, c236, c237, c238, c239, c240, c241, c242, c243, c244, c245, c246, c247, c248, c249, c250, c251, c252, c253, c254, c255, c256, c257, c258, c259, c260, c261, c262, c263, c264, c265, c266, c267, c268, c269, c270, c271, c272, c273, c274, c275, c276, c277, c278, c279, c280, c281, c282, c283, c284, c285, c286, c287, c288, c289, c290, c291, c292, c293], []⟩ w1 := by
  conv => arg 2; whnf
  have HK1 := hide hT.lp
  have HAG := hide hT.ag
  have HTV := hide hT.tv
  have HG := hide hT.hand
  have HGV := hide (And.intro hT.g0 (And.intro hT.gk hT.k8))
  have HQ := hide hQ
  obtain ⟨b0w1, b1w1, b2w1, sBw1⟩ := cellsB HK1.out
  obtain ⟨ao, co, rfl⟩ := HK1.out.ls.shape
  obtain ⟨n, hn⟩ : ∃ n, n = E.length := ⟨_, rfl⟩
  have h20 : n ≤ 20 := by rw [hn]; exact HK1.out.len
  have HN := hide hn
  have HLI : Hid (I.length = n) := hide (by rw [hn]; exact HAG.out.lens.1)
  have HLU : Hid (U.length = n) := hide (by rw [hn]; exact HAG.out.lens.2.1)
  have HLA : Hid (A.length = n) := hide (by rw [hn]; exact HAG.out.lens.2.2)
  clear hT hQ hn
  have HE := hide hp
  have HNE : Hid (∀ j (hj : j < I.length), (I[j] == z1) = false) := hide fun j hj => by
    have hjE : j < E.length := by rw [← HAG.out.lens.1]; exact hj
    have h1 := numb_none hp hjE
    rw [← (HAG.out.at hjE).1] at h1
    simpa using h1
  clear hp
  obtain ⟨ai, ci, hvi⟩ : ∃ a c, vi = .slice a n c := by
    rcases HK1.out.ids.2 with ⟨h, h2⟩ | ⟨g, c, cur, h, _⟩
    · exact ⟨none, 0, by rw [h, ← HLI.out, h2]⟩
    · exact ⟨_, c, by rw [h, HLI.out]⟩
  obtain ⟨au, cu, hvu⟩ : ∃ a c, vu = .slice a n c := by
    rcases HK1.out.unt.2 with ⟨h, h2⟩ | ⟨g, c, cur, h, _⟩
    · exact ⟨none, 0, by rw [h, ← HLU.out, h2]⟩
    · exact ⟨_, c, by rw [h, HLU.out]⟩
  obtain ⟨aa, ca, hva⟩ : ∃ a c, va = .slice a n c := by
    obtain ⟨xs, h1, _⟩ := HK1.out.all
    rcases h1.2 with ⟨h, h2⟩ | ⟨g, c, cur, h, _⟩
    · exact ⟨none, 0, by rw [h, ← HLA.out, h2]⟩
    · exact ⟨_, c, by rw [h, HLA.out]⟩
  subst hvi hvu hva
  go_wp2_with fail
  go_loopw [16, 17] (fun se sk wr => ∃ j : Nat, j ≤ n ∧ se = .int .i64 5 ∧ sk = .int .i64 j ∧ Hid (Lp (Arr B 0 z1 z2) w wr S tm gv (.slice ao E.length co) E (.slice ai n ci) (.slice au n cu) (.slice aa n ca) I U A)) (fun _ sk _ => n - (intOf sk).toNat)
  case atStart => exact ⟨0, Nat.zero_le _, rfl, rfl, HK1⟩
  case round =>
    clear HK1 b0w1 b1w1 b2w1 sBw1
    obtain ⟨j, hj, rfl, rfl, hK2⟩ := hrel
    by_cases hlt : j < n
    · have htr : True := trivial
      obtain ⟨g, cap, hv, hcell, _, hgl⟩ := ints_cell hK2.out.ids (by rw [HLI.out]; omega)
      rw [HLI.out] at hv
      simp only [Value.slice.injEq, true_and] at hv
      obtain ⟨rfl, rfl⟩ := hv
      have cj := hcell j (by rw [HLI.out]; exact hlt)
      obtain ⟨b0, b1, b2, sB⟩ := cellsB hK2.out
      have ij0 : (0 : Int) ≤ (j : Int) := by omega
      have ijn : (j : Int) < (n : Int) := by omega
      clear hcell
      have hne := HNE.out j (by rw [HLI.out]; exact hlt)
      generalize I[j]'(by rw [HLI.out]; exact hlt) = y at cj hne
      go_wp2_with fail
      go_quiet (fail)
      go_wp2_with fail
      go_roundw
      case rel => exact ⟨j + 1, by omega, rfl, by go_num, hide (hK2.out.quiet (below_drewN (Below.refl _ _) _))⟩
      case measure => simp [intOf] <;> omega
    · have hjn : ¬ (j : Int) < (n : Int) := by omega
      obtain ⟨b0, b1, b2, sB⟩ := cellsB hK2.out
      go_wp2_with fail
      refine (hK2.out.renewNone HE.out).mono ?_
      rintro e w4 ⟨rfl, hK⟩
      have HK4 := hide hK
      obtain ⟨b0w4, b1w4, b2w4, sBw4⟩ := cellsB hK
      clear hK2 b0 b1 b2 sB
      clear hK
      dsimp only
      go_wp2_with fail
      refine (HK4.out.same HG.out 5 5).mono ?_
      rintro e w5 ⟨rfl, hK, _⟩
      have HK5 := hide hK
      obtain ⟨b0w5, b1w5, b2w5, sBw5⟩ := cellsB hK
      clear HK4 b0w4 b1w4 b2w4 sBw4
      clear hK
      dsimp only
      go_wp2_with fail
      exact HQ.out _ _ _ _ _ _ _ _ _ _ _ _ _ _ _ _ _ _ _ _ _ _ _ _ _ _ _ _ _ _ _ _ _ _ _ _ _ _ _ _ _ _ _ _ _ _ _ _ _ _ _ _ _ _ _ _ _ _ _ _ _ _ _ _ _ _ _ _ _ _ _ _ _ _ _ _ _ _ _ _ _ _ _ _ _ _ _ _ _ _ _ _ _ _ _ _ _ _ _ _ _ _ _ _ _ _ _ _ _ _ _ _ _ _ _ _ _ _ _ _ _ _ _ _ _ _ _ _ _ _ _ _ _ _ _ _ _ _ _ _ _ _ _ _ _ _ _ _ _ _ _ _ _ _ _ _ _ _ _ _ _ _ _ _ _ _ _ _ _ _ _ _ _ _ _ _ _ _ _ _ _ _ _ _ _ _ _ _ _ _ _ _ _ _ _ _ _ _ _ _ _ _ _ _ _ _ _ _ _ _ _ _ _ _ _ _ _ _ _ _ _ _ _ _ _ _ _ tm gv _ _ _ ⟨_, _, _, _, _, HAG.out, HK5.out.known (fun _ _ (hf : False) => hf.elim), ⟨HGV.out.1, by have := HGV.out.2.1; omega⟩⟩

set_option maxHeartbeats 4000000 in
set_option maxRecDepth 1000000 in
theorem br0b {Q : Exit → Act → World → Prop} {w w1 : World} {S B k : Nat} {tm gv : Int} {v vi vu va tv : Value} {E : List Ent} {I U : List Int} {A : List (List M.Val)} {l : List M.Val} {z1 z2 : Int} 
    (c0 c1 c2 c3 c4 c11 c13 c16 c17 c18 c19 c20 c21 c22 c23 c24 c25 c26 c27 c28 c29 c30 c31 c32 c33 c34 c35 c36 c37 c38 c39 c40 c41 c42 c43 c44 c45 c46 c47 c48 c49 c50 c51 c52 c53 c54 c55 c56 c57 c58 c59 c60 c61 c62 c63 c64 c65 c66 c67 c68 c69 c70 c71 c72 c73 c74 c75 c76 c77 c79 c80 c81 c82 c83 c84 c85 c86 c87 c88 c89 c90 c91 c92 c93 c94 c95 c96 c97 c98 c99 c100 c101 c102 c103 c104 c105 c106 c107 c108 c109 c110 c111 c112 c113 c114 c115 c116 c117 c118 c119 c120 c121 c122 c123 c124 c125 c126 c127 c128 c129 c130 c131 c132 c133 c134 c135 c136 c137 c138 c139 c140 c141 c142 c143 c144 c145 c146 c147 c148 c149 c150 c151 c152 c153 c154 c155 c156 c157 c158 c159 c160 c161 c162 c163 c164 c165 c166 c167 c168 c169 c170 c171 c172 c173 c174 c175 c176 c177 c178 c179 c180 c181 c182 c183 c184 c185 c186 c187 c188 c189 c190 c191 c192 c193 c194 c195 c196 c197 c198 c199 c200 c201 c202 c203 c204 c205 c206 c207 c208 c209 c210 c211 c212 c213 c214 c215 c216 c217 c218 c219 c220 c221 c222 c223 c224 c225 c226 c227 c228 c229 c230 c231 c232 c233 c234 c235 c236 c237 c238 c239 c240 c241 c242 c243 c244 c245 c246 c247 c248 c249 c250 c251 c252 c253 c254 c255 c256 c257 c258 c259 c260 c261 c262 c263 c264 c265 c266 c267 c268 c269 c270 c271 c272 c273 c274 c275 c276 c277 c278 c279 c280 c281 c282 c283 c284 c285 c286 c287 c288 c289 c290 c291 c292 c293 : Value) (hT : Tuned w w1 S B k tm gv v vi vu va tv E I U A l 0 z1 z2) (hp : M.numb z1 E < E.length) (hu : ¬ (M.may tm z2 = true ∧ E[M.numb z1 E].u ≤ z2))
    (hQ : ∀ (u16 u17 u18 u19 u20 u21 u22 u23 u24 u25 u26 u27 u28 u29 u30 u31 u32 u33 u34 u35 u79 u80 u81 u82 u83 u84 u85 u86 u87 u88 u89 u90 u91 u92 u93 u94 u95 u96 u97 u98 u99 u100 u101 u102 u103 u104 u105 u106 u107 u108 u109 u110 u111 u112 u113 u114 u115 u116 u117 u118 u119 u120 u121 u122 u123 u124 u125 u126 u127 u128 u129 u130 u131 u132 u133 u134 u135 u136 u137 u138 u139 u140 u141 u142 u143 u144 u145 u146 u147 u148 u149 u150 u151 u152 u153 u154 u155 u156 u157 u158 u159 u160 u161 u162 u163 u164 u165 u166 u167 u168 u169 u170 u171 u172 u173 u174 u175 u176 u177 u178 u179 u180 u181 u182 u183 u184 u185 u186 u187 u188 u189 u190 u191 u192 u193 u194 u195 u196 u197 u198 u199 u200 u201 u202 u203 u204 u205 u206 u207 u208 u209 u210 u211 u212 u213 u214 u215 u216 u217 u218 u219 u220 u221 u222 u223 u224 u225 u226 u227 u228 u229 u230 u231 u232 u233 u234 u235 u236 u237 u238 u239 u240 u241 u242 u243 u244 u245 u246 u247 u248 u249 u250 u251 u252 u253 u254 u255 u256 u257 u258 u259 u260 u261 u262 u263 u264 u265 u266 u267 u268 u269 u270 u271 u272 u273 u274 u275 u276 u277 u278 u279 u280 u281 u282 u283 u284 : Value) (w' : World) (tmN gvN : Int) (viN vuN vaN : Value), Done w w' S k tmN gvN viN vuN vaN → Q .normal ⟨#[c0, c1, c2, c3, c4, .pointer (some ⟨S, 0, none⟩), .int .i64 tmN, .int .i64 gvN, viN, vuN, vaN, c11, .pointer (some ⟨B, 0, none⟩), c13, tv, .bool true, u16, u17, u18, u19, u20, u21, u22, u23, u24, u25, u26, u27, u28, u29, u30, u31, u32, u33, u34, u35, c36, c37, c38, c39, c40, c41, c42, c43, c44, c45, c46, c47, c48, c49, c50, c51, c52, c53, c54, c55, c56, c57, c58, c59, c60, c61, c62, c63, c64, c65, c66, c67, c68, c69, c70, c71, c72, c73, c74, c75, c76, c77, .int .i64 0, u79, u80, u81, u82, u83, u84, u85, u86, u87, u88, u89, u90, u91, u92, u93, u94, u95, u96, u97, u98, u99, u100, u101, u102, u103, u104, u105, u106, u107, u108, u109, u110, u111, u112, u113, u114, u115, u116, u117, u118, u119, u120, u121, u122, u123, u124, u125, u126, u127, u128, u129, u130, u131, u132, u133, u134, u135, u136, u137, u138, u139, u140, u141, u142, u143, u144, u145, u146, u147, u148, u149, u150, u151, u152, u153, u154, u155, u156, u157, u158, u159, u160, u161, u162, u163, u164, u165, u166, u167, u168, u169, u170, u171, u172, u173, u174, u175, u176, u177, u178, u179, u180, u181, u182, u183, u184, u185, u186, u187, u188, u189, u190, u191, u192, u193, u194, u195, u196, u197, u198, u199, u200, u201, u202, u203, u204, u205, u206, u207, u208, u209, u210, u211, u212, u213, u214, u215, u216, u217, u218, u219, u220, u221, u222, u223, u224, u225, u226, u227, u228, u229, u230, u231, u232, u233, u234, u235, u236, u237, u238, u239, u240, u241, u242, u243, u244, u245, u246, u247, u248, u249, u250, u251, u252, u253, u254, u255, u256, u257, u258, u259, u260, u261, u262, u263, u264, u265, u266, u267, u268, u269, u270, u271, u272, u273, u274, u275, u276, u277, u278, u279, u280, u281, u282, u283, u284, c285, c286, c287, c288, c289, c290, c291, c292, c293], []⟩ w') :
    Code.wp Tryd.prog ((Tryd.f5.body.bind (blockAt 4)).getD .skip) Q ⟨#[c0, c1, c2, c3, c4, .pointer (some ⟨S, 0, none⟩), .int .i64 tm, .int .i64 gv, vi, vu, va, c11, .pointer (some ⟨B, 0, none⟩), c13, tv, .bool false, c16, c17, c18, c19, c20, c21, c22, c23, c24, c25, c26, c27, c28, c29, c30, c31, c32, c33, c34, c35, c36, c37, c38, c39, c40, c41, c42, c43, c44, c45, c46, c47, c48, c49, c50, c51, c52, c53, c54, c55, c56, c57, c58, c59, c60, c61, c62, c63, c64, c65, c66, c67, c68, c69, c70, c71, c72, c73, c74, c75, c76, c77, .int .i64 0, c79, c80, c81, c82, c83, c84, c85, c86, c87, c88, c89, c90, c91, c92, c93, c94, c95, c96, c97, c98, c99, c100, c101, c102, c103, c104, c105, c106, c107, c108, c109, c110, c111, c112, c113, c114, c115, c116, c117, c118, c119, c120, c121, c122, c123, c124, c125, c126, c127, c128, c129, c130, c131, c132, c133, c134, c135, c136, c137, c138, c139, c140, c141, c142, c143, c144, c145, c146, c147, c148, c149, c150, c151, c152, c153, c154, c155, c156, c157, c158, c159, c160, c161, c162, c163, c164, c165, c166, c167, c168, c169, c170, c171, c172, c173, c174, c175, c176, c177, c178, c179, c180, c181, c182, c183, c184, c185, c186, c187, c188, c189, c190, c191, c192, c193, c194, c195, c196, c197, c198, c199, c200, c201, c202, c203, c204, c205, c206, c207, c208, c209, c210, c211, c212, c213, c214, c215, c216, c217, c218, c219, c220, c221, c222, c223, c224, c225, c226, c227, c228, c229, c230, c231, c232, c233, c234, c235, c236, c237, c238, c239, c240, c241, c242, c243, c244, c245, c246, c247, c248, c249, c250, c251, c252, c253, c254, c255, c256, c257, c258, c259, c260, c261, c262, c263, c264, c265, c266, c267, c268, c269, c270, c271, c272, c273, c274, c275, c276, c277, c278, c279, c280, c281, c282, c283, c284, c285, c286, c287, c288, c289, c290, c291, c292, c293], []⟩ w1 := by
  conv => arg 2; whnf
  have HK1 := hide hT.lp
  have HAG := hide hT.ag
  have HTV := hide hT.tv
  have HG := hide hT.hand
  have HGV := hide (And.intro hT.g0 (And.intro hT.gk hT.k8))
  have HQ := hide hQ
  obtain ⟨b0w1, b1w1, b2w1, sBw1⟩ := cellsB HK1.out
  obtain ⟨ao, co, rfl⟩ := HK1.out.ls.shape
  obtain ⟨n, hn⟩ : ∃ n, n = E.length := ⟨_, rfl⟩
  have h20 : n ≤ 20 := by rw [hn]; exact HK1.out.len
  have HN := hide hn
  have HLI : Hid (I.length = n) := hide (by rw [hn]; exact HAG.out.lens.1)
  have HLU : Hid (U.length = n) := hide (by rw [hn]; exact HAG.out.lens.2.1)
  have HLA : Hid (A.length = n) := hide (by rw [hn]; exact HAG.out.lens.2.2)
  clear hT hQ hn
  have HE := hide (Exists.intro (p := fun h : M.numb z1 E < E.length => ¬ (M.may tm z2 = true ∧ E[M.numb z1 E].u ≤ z2)) hp hu)
  obtain ⟨p, hpe⟩ : ∃ p, p = M.numb z1 E := ⟨_, rfl⟩
  have hpn : p < n := by rw [hpe, HN.out]; exact hp
  have HPE := hide hpe
  have HNE : Hid (∀ j (hj : j < I.length), j ≠ p → (I[j] == z1) = false) := hide fun j hj hne => by
    have hjE : j < E.length := by rw [← HAG.out.lens.1]; exact hj
    have h1 := HAG.out.once hp hjE (by rw [← hpe]; exact hne)
    rw [← (HAG.out.at hjE).1] at h1
    simpa using h1
  obtain ⟨xu, hxu⟩ : ∃ xu, xu = E[M.numb z1 E].u := ⟨_, rfl⟩
  have HPU : Hid (∃ hj : p < I.length, I[p] = z1 ∧ ∃ hk : p < U.length, U[p] = xu) := hide (by
    have hk : p < E.length := by rw [← HN.out]; exact hpn
    refine ⟨by rw [HLI.out]; exact hpn, ?_, by rw [HLU.out]; exact hpn, ?_⟩
    · rw [(HAG.out.at hk).1]; simp only [hpe]; exact numb_at hp
    · rw [(HAG.out.at hk).2.1, hxu]; simp only [hpe])
  have hq : z2 ≤ tm ∨ ¬ z2 ≤ tm ∧ 10000 < z2 ∨ ¬ z2 ≤ tm ∧ ¬ 10000 < z2 ∧ z2 < xu := by
    by_cases h1 : z2 ≤ tm
    · exact Or.inl h1
    · by_cases h2 : 10000 < z2
      · exact Or.inr (Or.inl ⟨h1, h2⟩)
      · refine Or.inr (Or.inr ⟨h1, h2, ?_⟩)
        rcases Int.lt_or_le z2 xu with q | q
        · exact q
        · exact absurd ⟨may_yes (by omega) (by omega), hxu ▸ q⟩ hu
  clear hp hu hpe hxu
  obtain ⟨ai, ci, hvi⟩ : ∃ a c, vi = .slice a n c := by
    rcases HK1.out.ids.2 with ⟨h, h2⟩ | ⟨g, c, cur, h, _⟩
    · exact ⟨none, 0, by rw [h, ← HLI.out, h2]⟩
    · exact ⟨_, c, by rw [h, HLI.out]⟩
  obtain ⟨au, cu, hvu⟩ : ∃ a c, vu = .slice a n c := by
    rcases HK1.out.unt.2 with ⟨h, h2⟩ | ⟨g, c, cur, h, _⟩
    · exact ⟨none, 0, by rw [h, ← HLU.out, h2]⟩
    · exact ⟨_, c, by rw [h, HLU.out]⟩
  obtain ⟨aa, ca, hva⟩ : ∃ a c, va = .slice a n c := by
    obtain ⟨xs, h1, _⟩ := HK1.out.all
    rcases h1.2 with ⟨h, h2⟩ | ⟨g, c, cur, h, _⟩
    · exact ⟨none, 0, by rw [h, ← HLA.out, h2]⟩
    · exact ⟨_, c, by rw [h, HLA.out]⟩
  subst hvi hvu hva
  rcases hq with hq | ⟨hq, hq2⟩ | ⟨hq, hq2, hq3⟩
  all_goals
    go_wp2_with fail
    go_loopw [16, 17] (fun se sk wr => ∃ j : Nat, j ≤ n ∧ (j ≤ p ∧ se = .int .i64 5 ∨ p < j ∧ se = .int .i64 1) ∧ sk = .int .i64 j ∧ Hid (Lp (Arr B 0 z1 z2) w wr S tm gv (.slice ao E.length co) E (.slice ai n ci) (.slice au n cu) (.slice aa n ca) I U A)) (fun _ sk _ => n - (intOf sk).toNat)
    case atStart => exact ⟨0, Nat.zero_le _, Or.inl ⟨Nat.zero_le _, rfl⟩, rfl, HK1⟩
    case round =>
      clear HK1 b0w1 b1w1 b2w1 sBw1
      obtain ⟨j, hj, hcase, rfl, hK2⟩ := hrel
      by_cases hlt : j < n
      · have htr : True := trivial
        obtain ⟨g, cap, hv, hcell, _, hgl⟩ := ints_cell hK2.out.ids (by rw [HLI.out]; omega)
        rw [HLI.out] at hv
        simp only [Value.slice.injEq, true_and] at hv
        obtain ⟨rfl, rfl⟩ := hv
        have cj := hcell j (by rw [HLI.out]; exact hlt)
        obtain ⟨b0, b1, b2, sB⟩ := cellsB hK2.out
        have ij0 : (0 : Int) ≤ (j : Int) := by omega
        have ijn : (j : Int) < (n : Int) := by omega
        clear hcell
        by_cases hjp : j = p
        · subst hjp
          obtain ⟨hji, hi1, hku, hu1⟩ := HPU.out
          rw [hi1] at cj
          obtain ⟨gu, capu, hvu, hcellu, _, hglu⟩ := ints_cell hK2.out.unt (by rw [HLU.out]; omega)
          rw [HLU.out] at hvu
          simp only [Value.slice.injEq, true_and] at hvu
          obtain ⟨rfl, rfl⟩ := hvu
          have cju := hcellu j hku
          rw [hu1] at cju
          clear hcellu hi1 hu1 hji hku
          rcases hcase with ⟨_, rfl⟩ | ⟨hc, _⟩
          · go_wp2_with fail
            go_quiet (fail)
            go_wp2_with fail
            go_quiet (fail)
            go_wp2_with fail
            go_roundw
            case rel => exact ⟨j + 1, by omega, Or.inr ⟨by omega, rfl⟩, by go_num, hide (hK2.out.quiet (below_drewN (Below.refl _ _) _))⟩
            case measure => simp [intOf] <;> omega
          · omega
        · have hne := HNE.out j (by rw [HLI.out]; exact hlt) hjp
          generalize I[j]'(by rw [HLI.out]; exact hlt) = y at cj hne
          rcases hcase with ⟨hc, rfl⟩ | ⟨hc, rfl⟩
          all_goals
            go_wp2_with fail
            go_quiet (fail)
            go_wp2_with fail
            go_roundw
            case rel => first | exact ⟨j + 1, by omega, Or.inl ⟨by omega, rfl⟩, by go_num, hide (hK2.out.quiet (below_drewN (Below.refl _ _) _))⟩ | exact ⟨j + 1, by omega, Or.inr ⟨by omega, rfl⟩, by go_num, hide (hK2.out.quiet (below_drewN (Below.refl _ _) _))⟩
            case measure => simp [intOf] <;> omega
      · have hjn : ¬ (j : Int) < (n : Int) := by omega
        obtain ⟨b0, b1, b2, sB⟩ := cellsB hK2.out
        rcases hcase with ⟨hc, _⟩ | ⟨_, rfl⟩
        · omega
        · have htr : True := trivial
          go_wp2_with fail
          refine (hK2.out.renewBad HE.out.1 HE.out.2).mono ?_
          rintro e w4 ⟨rfl, hK⟩
          have HK4 := hide hK
          obtain ⟨b0w4, b1w4, b2w4, sBw4⟩ := cellsB hK
          clear hK2 b0 b1 b2 sB
          clear hK
          dsimp only
          go_wp2_with fail
          refine (HK4.out.same HG.out 1 1).mono ?_
          rintro e w5 ⟨rfl, hK, _⟩
          have HK5 := hide hK
          obtain ⟨b0w5, b1w5, b2w5, sBw5⟩ := cellsB hK
          clear HK4 b0w4 b1w4 b2w4 sBw4
          clear hK
          dsimp only
          go_wp2_with fail
          exact HQ.out _ _ _ _ _ _ _ _ _ _ _ _ _ _ _ _ _ _ _ _ _ _ _ _ _ _ _ _ _ _ _ _ _ _ _ _ _ _ _ _ _ _ _ _ _ _ _ _ _ _ _ _ _ _ _ _ _ _ _ _ _ _ _ _ _ _ _ _ _ _ _ _ _ _ _ _ _ _ _ _ _ _ _ _ _ _ _ _ _ _ _ _ _ _ _ _ _ _ _ _ _ _ _ _ _ _ _ _ _ _ _ _ _ _ _ _ _ _ _ _ _ _ _ _ _ _ _ _ _ _ _ _ _ _ _ _ _ _ _ _ _ _ _ _ _ _ _ _ _ _ _ _ _ _ _ _ _ _ _ _ _ _ _ _ _ _ _ _ _ _ _ _ _ _ _ _ _ _ _ _ _ _ _ _ _ _ _ _ _ _ _ _ _ _ _ _ _ _ _ _ _ _ _ _ _ _ _ _ _ _ _ _ _ _ _ _ _ _ _ _ _ _ _ _ _ _ _ tm gv _ _ _ ⟨_, _, _, _, _, HAG.out, HK5.out.known (fun _ _ (hf : False) => hf.elim), ⟨HGV.out.1, by have := HGV.out.2.1; omega⟩⟩

set_option maxHeartbeats 4000000 in
set_option maxRecDepth 1000000 in
theorem br0k {Q : Exit → Act → World → Prop} {w w1 : World} {S B k : Nat} {tm gv : Int} {v vi vu va tv : Value} {E : List Ent} {I U : List Int} {A : List (List M.Val)} {l : List M.Val} {z1 z2 : Int} 
    (c0 c1 c2 c3 c4 c11 c13 c16 c17 c18 c19 c20 c21 c22 c23 c24 c25 c26 c27 c28 c29 c30 c31 c32 c33 c34 c35 c36 c37 c38 c39 c40 c41 c42 c43 c44 c45 c46 c47 c48 c49 c50 c51 c52 c53 c54 c55 c56 c57 c58 c59 c60 c61 c62 c63 c64 c65 c66 c67 c68 c69 c70 c71 c72 c73 c74 c75 c76 c77 c79 c80 c81 c82 c83 c84 c85 c86 c87 c88 c89 c90 c91 c92 c93 c94 c95 c96 c97 c98 c99 c100 c101 c102 c103 c104 c105 c106 c107 c108 c109 c110 c111 c112 c113 c114 c115 c116 c117 c118 c119 c120 c121 c122 c123 c124 c125 c126 c127 c128 c129 c130 c131 c132 c133 c134 c135 c136 c137 c138 c139 c140 c141 c142 c143 c144 c145 c146 c147 c148 c149 c150 c151 c152 c153 c154 c155 c156 c157 c158 c159 c160 c161 c162 c163 c164 c165 c166 c167 c168 c169 c170 c171 c172 c173 c174 c175 c176 c177 c178 c179 c180 c181 c182 c183 c184 c185 c186 c187 c188 c189 c190 c191 c192 c193 c194 c195 c196 c197 c198 c199 c200 c201 c202 c203 c204 c205 c206 c207 c208 c209 c210 c211 c212 c213 c214 c215 c216 c217 c218 c219 c220 c221 c222 c223 c224 c225 c226 c227 c228 c229 c230 c231 c232 c233 c234 c235 c236 c237 c238 c239 c240 c241 c242 c243 c244 c245 c246 c247 c248 c249 c250 c251 c252 c253 c254 c255 c256 c257 c258 c259 c260 c261 c262 c263 c264 c265 c266 c267 c268 c269 c270 c271 c272 c273 c274 c275 c276 c277 c278 c279 c280 c281 c282 c283 c284 c285 c286 c287 c288 c289 c290 c291 c292 c293 : Value) (hT : Tuned w w1 S B k tm gv v vi vu va tv E I U A l 0 z1 z2) (hp : M.numb z1 E < E.length) (hm : M.may tm z2 = true) (hu : E[M.numb z1 E].u ≤ z2)
    (hQ : ∀ (u16 u17 u18 u19 u20 u21 u22 u23 u24 u25 u26 u27 u28 u29 u30 u31 u32 u33 u34 u35 u79 u80 u81 u82 u83 u84 u85 u86 u87 u88 u89 u90 u91 u92 u93 u94 u95 u96 u97 u98 u99 u100 u101 u102 u103 u104 u105 u106 u107 u108 u109 u110 u111 u112 u113 u114 u115 u116 u117 u118 u119 u120 u121 u122 u123 u124 u125 u126 u127 u128 u129 u130 u131 u132 u133 u134 u135 u136 u137 u138 u139 u140 u141 u142 u143 u144 u145 u146 u147 u148 u149 u150 u151 u152 u153 u154 u155 u156 u157 u158 u159 u160 u161 u162 u163 u164 u165 u166 u167 u168 u169 u170 u171 u172 u173 u174 u175 u176 u177 u178 u179 u180 u181 u182 u183 u184 u185 u186 u187 u188 u189 u190 u191 u192 u193 u194 u195 u196 u197 u198 u199 u200 u201 u202 u203 u204 u205 u206 u207 u208 u209 u210 u211 u212 u213 u214 u215 u216 u217 u218 u219 u220 u221 u222 u223 u224 u225 u226 u227 u228 u229 u230 u231 u232 u233 u234 u235 u236 u237 u238 u239 u240 u241 u242 u243 u244 u245 u246 u247 u248 u249 u250 u251 u252 u253 u254 u255 u256 u257 u258 u259 u260 u261 u262 u263 u264 u265 u266 u267 u268 u269 u270 u271 u272 u273 u274 u275 u276 u277 u278 u279 u280 u281 u282 u283 u284 : Value) (w' : World) (tmN gvN : Int) (viN vuN vaN : Value), Done w w' S k tmN gvN viN vuN vaN → Q .normal ⟨#[c0, c1, c2, c3, c4, .pointer (some ⟨S, 0, none⟩), .int .i64 tmN, .int .i64 gvN, viN, vuN, vaN, c11, .pointer (some ⟨B, 0, none⟩), c13, tv, .bool true, u16, u17, u18, u19, u20, u21, u22, u23, u24, u25, u26, u27, u28, u29, u30, u31, u32, u33, u34, u35, c36, c37, c38, c39, c40, c41, c42, c43, c44, c45, c46, c47, c48, c49, c50, c51, c52, c53, c54, c55, c56, c57, c58, c59, c60, c61, c62, c63, c64, c65, c66, c67, c68, c69, c70, c71, c72, c73, c74, c75, c76, c77, .int .i64 0, u79, u80, u81, u82, u83, u84, u85, u86, u87, u88, u89, u90, u91, u92, u93, u94, u95, u96, u97, u98, u99, u100, u101, u102, u103, u104, u105, u106, u107, u108, u109, u110, u111, u112, u113, u114, u115, u116, u117, u118, u119, u120, u121, u122, u123, u124, u125, u126, u127, u128, u129, u130, u131, u132, u133, u134, u135, u136, u137, u138, u139, u140, u141, u142, u143, u144, u145, u146, u147, u148, u149, u150, u151, u152, u153, u154, u155, u156, u157, u158, u159, u160, u161, u162, u163, u164, u165, u166, u167, u168, u169, u170, u171, u172, u173, u174, u175, u176, u177, u178, u179, u180, u181, u182, u183, u184, u185, u186, u187, u188, u189, u190, u191, u192, u193, u194, u195, u196, u197, u198, u199, u200, u201, u202, u203, u204, u205, u206, u207, u208, u209, u210, u211, u212, u213, u214, u215, u216, u217, u218, u219, u220, u221, u222, u223, u224, u225, u226, u227, u228, u229, u230, u231, u232, u233, u234, u235, u236, u237, u238, u239, u240, u241, u242, u243, u244, u245, u246, u247, u248, u249, u250, u251, u252, u253, u254, u255, u256, u257, u258, u259, u260, u261, u262, u263, u264, u265, u266, u267, u268, u269, u270, u271, u272, u273, u274, u275, u276, u277, u278, u279, u280, u281, u282, u283, u284, c285, c286, c287, c288, c289, c290, c291, c292, c293], []⟩ w') :
    Code.wp Tryd.prog ((Tryd.f5.body.bind (blockAt 4)).getD .skip) Q ⟨#[c0, c1, c2, c3, c4, .pointer (some ⟨S, 0, none⟩), .int .i64 tm, .int .i64 gv, vi, vu, va, c11, .pointer (some ⟨B, 0, none⟩), c13, tv, .bool false, c16, c17, c18, c19, c20, c21, c22, c23, c24, c25, c26, c27, c28, c29, c30, c31, c32, c33, c34, c35, c36, c37, c38, c39, c40, c41, c42, c43, c44, c45, c46, c47, c48, c49, c50, c51, c52, c53, c54, c55, c56, c57, c58, c59, c60, c61, c62, c63, c64, c65, c66, c67, c68, c69, c70, c71, c72, c73, c74, c75, c76, c77, .int .i64 0, c79, c80, c81, c82, c83, c84, c85, c86, c87, c88, c89, c90, c91, c92, c93, c94, c95, c96, c97, c98, c99, c100, c101, c102, c103, c104, c105, c106, c107, c108, c109, c110, c111, c112, c113, c114, c115, c116, c117, c118, c119, c120, c121, c122, c123, c124, c125, c126, c127, c128, c129, c130, c131, c132, c133, c134, c135, c136, c137, c138, c139, c140, c141, c142, c143, c144, c145, c146, c147, c148, c149, c150, c151, c152, c153, c154, c155, c156, c157, c158, c159, c160, c161, c162, c163, c164, c165, c166, c167, c168, c169, c170, c171, c172, c173, c174, c175, c176, c177, c178, c179, c180, c181, c182, c183, c184, c185, c186, c187, c188, c189, c190, c191, c192, c193, c194, c195, c196, c197, c198, c199, c200, c201, c202, c203, c204, c205, c206, c207, c208, c209, c210, c211, c212, c213, c214, c215, c216, c217, c218, c219, c220, c221, c222, c223, c224, c225, c226, c227, c228, c229, c230, c231, c232, c233, c234, c235, c236, c237, c238, c239, c240, c241, c242, c243, c244, c245, c246, c247, c248, c249, c250, c251, c252, c253, c254, c255, c256, c257, c258, c259, c260, c261, c262, c263, c264, c265, c266, c267, c268, c269, c270, c271, c272, c273, c274, c275, c276, c277, c278, c279, c280, c281, c282, c283, c284, c285, c286, c287, c288, c289, c290, c291, c292, c293], []⟩ w1 := by
  conv => arg 2; whnf
  have HK1 := hide hT.lp
  have HAG := hide hT.ag
  have HTV := hide hT.tv
  have HG := hide hT.hand
  have HGV := hide (And.intro hT.g0 (And.intro hT.gk hT.k8))
  have HQ := hide hQ
  obtain ⟨b0w1, b1w1, b2w1, sBw1⟩ := cellsB HK1.out
  obtain ⟨ao, co, rfl⟩ := HK1.out.ls.shape
  obtain ⟨n, hn⟩ : ∃ n, n = E.length := ⟨_, rfl⟩
  have h20 : n ≤ 20 := by rw [hn]; exact HK1.out.len
  have HN := hide hn
  have HLI : Hid (I.length = n) := hide (by rw [hn]; exact HAG.out.lens.1)
  have HLU : Hid (U.length = n) := hide (by rw [hn]; exact HAG.out.lens.2.1)
  have HLA : Hid (A.length = n) := hide (by rw [hn]; exact HAG.out.lens.2.2)
  clear hT hQ hn
  have HE := hide (Exists.intro (p := fun h : M.numb z1 E < E.length => M.may tm z2 = true ∧ E[M.numb z1 E].u ≤ z2) hp ⟨hm, hu⟩)
  obtain ⟨p, hpe⟩ : ∃ p, p = M.numb z1 E := ⟨_, rfl⟩
  have hpn : p < n := by rw [hpe, HN.out]; exact hp
  have HPE := hide hpe
  have HNE : Hid (∀ j (hj : j < I.length), j ≠ p → (I[j] == z1) = false) := hide fun j hj hne => by
    have hjE : j < E.length := by rw [← HAG.out.lens.1]; exact hj
    have h1 := HAG.out.once hp hjE (by rw [← hpe]; exact hne)
    rw [← (HAG.out.at hjE).1] at h1
    simpa using h1
  obtain ⟨xu, hxu⟩ : ∃ xu, xu = E[M.numb z1 E].u := ⟨_, rfl⟩
  have HPU : Hid (∃ hj : p < I.length, I[p] = z1 ∧ ∃ hk : p < U.length, U[p] = xu) := hide (by
    have hk : p < E.length := by rw [← HN.out]; exact hpn
    refine ⟨by rw [HLI.out]; exact hpn, ?_, by rw [HLU.out]; exact hpn, ?_⟩
    · rw [(HAG.out.at hk).1]; simp only [hpe]; exact numb_at hp
    · rw [(HAG.out.at hk).2.1, hxu]; simp only [hpe])
  have hq1 : ¬ z2 ≤ tm := by have := (may_iff.1 hm).1; omega
  have hq2 : ¬ 10000 < z2 := by have := (may_iff.1 hm).2; omega
  have hq3 : ¬ z2 < xu := by rw [hxu]; omega
  clear hp hu hm hpe hxu
  obtain ⟨ai, ci, hvi⟩ : ∃ a c, vi = .slice a n c := by
    rcases HK1.out.ids.2 with ⟨h, h2⟩ | ⟨g, c, cur, h, _⟩
    · exact ⟨none, 0, by rw [h, ← HLI.out, h2]⟩
    · exact ⟨_, c, by rw [h, HLI.out]⟩
  obtain ⟨au, cu, hvu⟩ : ∃ a c, vu = .slice a n c := by
    rcases HK1.out.unt.2 with ⟨h, h2⟩ | ⟨g, c, cur, h, _⟩
    · exact ⟨none, 0, by rw [h, ← HLU.out, h2]⟩
    · exact ⟨_, c, by rw [h, HLU.out]⟩
  obtain ⟨aa, ca, hva⟩ : ∃ a c, va = .slice a n c := by
    obtain ⟨xs, h1, _⟩ := HK1.out.all
    rcases h1.2 with ⟨h, h2⟩ | ⟨g, c, cur, h, _⟩
    · exact ⟨none, 0, by rw [h, ← HLA.out, h2]⟩
    · exact ⟨_, c, by rw [h, HLA.out]⟩
  subst hvi hvu hva
  go_wp2_with fail
  go_loopw [16, 17] (fun se sk wr => ∃ j : Nat, j ≤ n ∧ sk = .int .i64 j ∧ (j ≤ p ∧ se = .int .i64 5 ∧ Hid (Lp (Arr B 0 z1 z2) w wr S tm gv (.slice ao E.length co) E (.slice ai n ci) (.slice au n cu) (.slice aa n ca) I U A) ∨ p < j ∧ se = .int .i64 0 ∧ Hid (Lp (Arr B 0 z1 z2) w wr S tm gv (.slice ao E.length co) E (.slice ai n ci) (.slice au n cu) (.slice aa n ca) I (U.set p z2) A))) (fun _ sk _ => n - (intOf sk).toNat)
  case atStart => exact ⟨0, Nat.zero_le _, rfl, Or.inl ⟨Nat.zero_le _, rfl, HK1⟩⟩
  case round =>
    clear HK1 b0w1 b1w1 b2w1 sBw1
    obtain ⟨j, hj, rfl, hcase⟩ := hrel
    by_cases hlt : j < n
    · rcases hcase with ⟨hc, rfl, hK2⟩ | ⟨hc, rfl, hK2⟩
      · have htr : True := trivial
        obtain ⟨g, cap, hv, hcell, _, hgl⟩ := ints_cell hK2.out.ids (by rw [HLI.out]; omega)
        rw [HLI.out] at hv
        simp only [Value.slice.injEq, true_and] at hv
        obtain ⟨rfl, rfl⟩ := hv
        have cj := hcell j (by rw [HLI.out]; exact hlt)
        obtain ⟨b0, b1, b2, sB⟩ := cellsB hK2.out
        have ij0 : (0 : Int) ≤ (j : Int) := by omega
        have ijn : (j : Int) < (n : Int) := by omega
        clear hcell
        by_cases hjp : j = p
        · subst hjp
          obtain ⟨hji, hi1, hku, hu1⟩ := HPU.out
          rw [hi1] at cj
          obtain ⟨gu, capu, hvu, hcellu, hfzu, hglu⟩ := ints_cell hK2.out.unt (by rw [HLU.out]; omega)
          rw [HLU.out] at hvu
          simp only [Value.slice.injEq, true_and] at hvu
          obtain ⟨rfl, rfl⟩ := hvu
          have cju := hcellu j hku
          rw [hu1] at cju
          have fju := hfzu j
          clear hcellu hfzu hi1 hu1 hji hku
          go_wp2_with fail
          go_quiet (fail)
          go_wp2_with fail
          go_quiet (fail)
          go_wp2_with fail
          go_roundw
          case rel => exact ⟨j + 1, by omega, by go_num, Or.inr ⟨by omega, rfl, hide ((hK2.out.quiet (below_drewN (Below.refl _ _) _)).setUn HLU.out.symm j z2)⟩⟩
          case measure => simp [intOf] <;> omega
        · have hne := HNE.out j (by rw [HLI.out]; exact hlt) hjp
          generalize I[j]'(by rw [HLI.out]; exact hlt) = y at cj hne
          go_wp2_with fail
          go_quiet (fail)
          go_wp2_with fail
          go_roundw
          case rel => exact ⟨j + 1, by omega, by go_num, Or.inl ⟨by omega, rfl, hide (hK2.out.quiet (below_drewN (Below.refl _ _) _))⟩⟩
          case measure => simp [intOf] <;> omega
      · have htr : True := trivial
        obtain ⟨g, cap, hv, hcell, _, hgl⟩ := ints_cell hK2.out.ids (by rw [HLI.out]; omega)
        rw [HLI.out] at hv
        simp only [Value.slice.injEq, true_and] at hv
        obtain ⟨rfl, rfl⟩ := hv
        have cj := hcell j (by rw [HLI.out]; exact hlt)
        obtain ⟨b0, b1, b2, sB⟩ := cellsB hK2.out
        have ij0 : (0 : Int) ≤ (j : Int) := by omega
        have ijn : (j : Int) < (n : Int) := by omega
        clear hcell
        have hne := HNE.out j (by rw [HLI.out]; exact hlt) (by omega)
        generalize I[j]'(by rw [HLI.out]; exact hlt) = y at cj hne
        go_wp2_with fail
        go_quiet (fail)
        go_wp2_with fail
        go_roundw
        case rel => exact ⟨j + 1, by omega, by go_num, Or.inr ⟨by omega, rfl, hide (hK2.out.quiet (below_drewN (Below.refl _ _) _))⟩⟩
        case measure => simp [intOf] <;> omega
    · have hjn : ¬ (j : Int) < (n : Int) := by omega
      rcases hcase with ⟨hc, _⟩ | ⟨_, rfl, hK2⟩
      · omega
      · obtain ⟨b0, b1, b2, sB⟩ := cellsB hK2.out
        go_wp2_with fail
        refine (hK2.out.renewOk HE.out.1 HE.out.2.1 HE.out.2.2).mono ?_
        rintro e w4 ⟨rfl, hK⟩
        have HK4 := hide hK
        obtain ⟨b0w4, b1w4, b2w4, sBw4⟩ := cellsB hK
        clear hK2 b0 b1 b2 sB
        clear hK
        dsimp only
        go_wp2_with fail
        refine (HK4.out.same HG.out 0 0).mono ?_
        rintro e w5 ⟨rfl, hK, _⟩
        have HK5 := hide hK
        obtain ⟨b0w5, b1w5, b2w5, sBw5⟩ := cellsB hK
        clear HK4 b0w4 b1w4 b2w4 sBw4
        clear hK
        dsimp only
        go_wp2_with fail
        exact HQ.out _ _ _ _ _ _ _ _ _ _ _ _ _ _ _ _ _ _ _ _ _ _ _ _ _ _ _ _ _ _ _ _ _ _ _ _ _ _ _ _ _ _ _ _ _ _ _ _ _ _ _ _ _ _ _ _ _ _ _ _ _ _ _ _ _ _ _ _ _ _ _ _ _ _ _ _ _ _ _ _ _ _ _ _ _ _ _ _ _ _ _ _ _ _ _ _ _ _ _ _ _ _ _ _ _ _ _ _ _ _ _ _ _ _ _ _ _ _ _ _ _ _ _ _ _ _ _ _ _ _ _ _ _ _ _ _ _ _ _ _ _ _ _ _ _ _ _ _ _ _ _ _ _ _ _ _ _ _ _ _ _ _ _ _ _ _ _ _ _ _ _ _ _ _ _ _ _ _ _ _ _ _ _ _ _ _ _ _ _ _ _ _ _ _ _ _ _ _ _ _ _ _ _ _ _ _ _ _ _ _ _ _ _ _ _ _ _ _ _ _ _ _ _ _ _ _ _ tm gv _ _ _ ⟨_, _, _, _, _, (by rw [HPE.out]; exact HAG.out.till HE.out.1 z2), HK5.out.known (fun _ _ (hf : False) => hf.elim), ⟨HGV.out.1, by have := HGV.out.2.1; omega⟩⟩
end Go.Proofs.YtlefhfmckimlaacDoor.Lps
