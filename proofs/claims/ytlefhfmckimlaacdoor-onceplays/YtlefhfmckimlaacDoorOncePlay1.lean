/-
  The first case of the switch of OncePlays: a change.
-/
import Derived.Test.YtlefhfmckimlaacDoorOncePlayA
import Derived.Deep.RegionHeld3
import Derived.Deep.DrawnRows
namespace Go.Proofs.YtlefhfmckimlaacDoor
open Go.RowKit
attribute [local go_sem ↓] Go.wp_at_zero Go.wp_at_succ

set_option maxHeartbeats 4000000 in
set_option maxRecDepth 1000000 in
theorem br1d {Q : Exit → Act → World → Prop} {w w1 : World} {O R K b off n cap k mx kx my ky : Nat} {ax ay : Option Addr} {vs vo um uk : Value} {a l : List M.Val} {L Lo : List (List M.Val)} 
    (c0 c2 c3 c4 c11 c12 c13 c14 c15 c16 c17 c18 c19 c20 c21 c22 c23 c24 c25 c26 c27 c28 c29 c30 c31 c32 c33 c34 c35 c36 c37 c38 c39 c40 c41 c42 c43 c44 c45 c46 c47 c48 c49 c50 c51 c52 c53 c54 c55 c56 c57 c59 c60 c61 c62 c63 c64 c65 c66 c67 c68 c69 c70 c71 c72 c73 c74 c75 c76 c77 c78 c79 c80 c81 c82 c83 c84 c85 c86 c87 c88 c89 c90 c91 c92 c93 c94 c95 c96 c97 c98 c99 c100 c101 c102 c103 c104 c105 c106 c107 c108 c109 c110 c111 c112 c113 c114 c115 c116 c117 c118 c119 c120 c121 c122 c123 c124 c125 c126 c127 c128 c129 c130 c131 c132 c133 c134 c135 c136 c137 c138 c139 c140 c141 c142 c143 c144 c145 c146 c147 c148 c149 c150 c151 c152 c153 c154 c155 c156 c157 c158 c159 c160 c161 c162 c163 c164 c165 c166 c167 c168 c169 c170 c171 c172 c173 c174 c175 c176 c177 c178 c179 c180 c181 c182 c183 c184 c185 c186 c187 c188 c189 c190 c191 c192 c193 c194 c195 c196 c197 c198 c199 c200 c201 c202 c203 c204 c205 c206 c207 c208 c209 c210 c211 c212 c213 c214 c215 c216 c217 c218 c219 c220 c221 c222 c223 c224 c225 c226 c227 c228 c229 c230 c231 c232 c233 c234 c235 c236 c237 c238 c239 c240 c241 c242 c243 c244 c245 c246 c247 c248 c249 c250 c251 c252 c253 : Value) (hT : Tuned w w1 O R K b off k mx kx my ky ax ay vs vo um uk a l L Lo) (ik2 : (k : Int) + 1 < (n : Int)) (hk8 : k < 80) (ha : M.likeF a = 0) (hl : M.tupF l = 0) (hg : M.getF a L = 0)
    (hQ : ∀ (u10 u12 u13 u14 u15 u16 u17 u18 u19 u20 u21 u22 u23 u24 u25 u59 u60 u61 u62 u63 u64 u65 u66 u67 u68 u69 u70 u71 u72 u73 u74 u75 u76 u77 u78 u79 u80 u81 u82 u83 u84 u85 u86 u87 u88 u89 u90 u91 u92 u93 u94 u95 u96 u97 u98 u99 u100 u101 u102 u103 u104 u105 u106 u107 u108 u109 u110 u111 u112 u113 u114 u115 u116 u117 u118 u119 u120 u121 u122 u123 u124 u125 u126 u127 u128 u129 u130 u131 u132 u133 u134 u135 u136 u137 u138 u139 u140 u141 u142 u143 u144 u145 u146 u147 u148 u149 u150 u151 u152 u153 u154 u155 u156 u157 u158 u159 u160 u161 u162 u163 u164 u165 u166 u167 u168 u169 u170 u171 u172 u173 u174 u175 u176 u177 u178 u179 u180 u181 u182 u183 u184 u185 u186 u187 u188 u189 u190 u191 u192 u193 u194 u195 u196 u197 u198 u199 u200 u201 u202 u203 u204 u205 u206 u207 u208 u209 u210 u211 u212 u213 u214 u215 u216 u217 u218 u219 u220 u221 u222 u223 u224 u225 u226 u227 u228 u229 u230 u231 : Value) (w' : World), Done w w' O R K → Q .normal ⟨#[c0, .slice (some ⟨b, off, none⟩) n cap, c2, c3, c4, .pointer (some ⟨w.heap.size, 0, none⟩), .pointer (some ⟨O, 0, none⟩), .pointer (some ⟨R, 0, none⟩), .pointer (some ⟨K, 0, none⟩), .int .i64 k, u10, .bool true, u12, u13, u14, u15, u16, u17, u18, u19, u20, u21, u22, u23, u24, u25, c26, c27, c28, c29, c30, c31, c32, c33, c34, c35, c36, c37, c38, c39, c40, c41, c42, c43, c44, c45, c46, c47, c48, c49, c50, c51, c52, c53, c54, c55, c56, c57, .int .i64 1, u59, u60, u61, u62, u63, u64, u65, u66, u67, u68, u69, u70, u71, u72, u73, u74, u75, u76, u77, u78, u79, u80, u81, u82, u83, u84, u85, u86, u87, u88, u89, u90, u91, u92, u93, u94, u95, u96, u97, u98, u99, u100, u101, u102, u103, u104, u105, u106, u107, u108, u109, u110, u111, u112, u113, u114, u115, u116, u117, u118, u119, u120, u121, u122, u123, u124, u125, u126, u127, u128, u129, u130, u131, u132, u133, u134, u135, u136, u137, u138, u139, u140, u141, u142, u143, u144, u145, u146, u147, u148, u149, u150, u151, u152, u153, u154, u155, u156, u157, u158, u159, u160, u161, u162, u163, u164, u165, u166, u167, u168, u169, u170, u171, u172, u173, u174, u175, u176, u177, u178, u179, u180, u181, u182, u183, u184, u185, u186, u187, u188, u189, u190, u191, u192, u193, u194, u195, u196, u197, u198, u199, u200, u201, u202, u203, u204, u205, u206, u207, u208, u209, u210, u211, u212, u213, u214, u215, u216, u217, u218, u219, u220, u221, u222, u223, u224, u225, u226, u227, u228, u229, u230, u231, c232, c233, c234, c235, c236, c237, c238, c239, c240, c241, c242, c243, c244, c245, c246, c247, c248, c249, c250, c251, c252, c253], []⟩ w') :
    Code.wp Tryd.prog ((Tryd.f3.body.bind (blockAt 2)).getD .skip) Q ⟨#[c0, .slice (some ⟨b, off, none⟩) n cap, c2, c3, c4, .pointer (some ⟨w.heap.size, 0, none⟩), .pointer (some ⟨O, 0, none⟩), .pointer (some ⟨R, 0, none⟩), .pointer (some ⟨K, 0, none⟩), .int .i64 k, .int .i64 0, c11, c12, c13, c14, c15, c16, c17, c18, c19, c20, c21, c22, c23, c24, c25, c26, c27, c28, c29, c30, c31, c32, c33, c34, c35, c36, c37, c38, c39, c40, c41, c42, c43, c44, c45, c46, c47, c48, c49, c50, c51, c52, c53, c54, c55, c56, c57, .int .i64 1, c59, c60, c61, c62, c63, c64, c65, c66, c67, c68, c69, c70, c71, c72, c73, c74, c75, c76, c77, c78, c79, c80, c81, c82, c83, c84, c85, c86, c87, c88, c89, c90, c91, c92, c93, c94, c95, c96, c97, c98, c99, c100, c101, c102, c103, c104, c105, c106, c107, c108, c109, c110, c111, c112, c113, c114, c115, c116, c117, c118, c119, c120, c121, c122, c123, c124, c125, c126, c127, c128, c129, c130, c131, c132, c133, c134, c135, c136, c137, c138, c139, c140, c141, c142, c143, c144, c145, c146, c147, c148, c149, c150, c151, c152, c153, c154, c155, c156, c157, c158, c159, c160, c161, c162, c163, c164, c165, c166, c167, c168, c169, c170, c171, c172, c173, c174, c175, c176, c177, c178, c179, c180, c181, c182, c183, c184, c185, c186, c187, c188, c189, c190, c191, c192, c193, c194, c195, c196, c197, c198, c199, c200, c201, c202, c203, c204, c205, c206, c207, c208, c209, c210, c211, c212, c213, c214, c215, c216, c217, c218, c219, c220, c221, c222, c223, c224, c225, c226, c227, c228, c229, c230, c231, c232, c233, c234, c235, c236, c237, c238, c239, c240, c241, c242, c243, c244, c245, c246, c247, c248, c249, c250, c251, c252, c253], []⟩ w1 := by
  conv => arg 2; whnf
  have ik5 : (k : Int) < (n : Int) := by omega
  have ik6 : (0 : Int) ≤ (k : Int) := by omega
  have ik7 : (0 : Int) ≤ (k : Int) + 1 := by omega
  have ik8 : IntKind.i64.wrap ((k : Int) + 1) = (k : Int) + 1 := IntWalk.i64_in _ ⟨by omega, by omega⟩
  have HK1 := hide hT.q
  have HXR := hide hT.xr
  have HYR := hide hT.yr
  have HXV := hide hT.xv
  have HYV := hide hT.yv
  have HG := hide hT.hand
  have HQ := hide hQ
  have cxw1 := HXR.out w1 HK1.out.bel
  have cyw1 := HYR.out w1 HK1.out.bel
  clear hT hQ
  have HE := hide (And.intro ha (And.intro hl hg))
  clear ha hl hg
  go_wp2_with fail
  refine (HK1.out.tupIs HYV.out HE.out.2.1).mono ?_
  rintro e w2 ⟨rfl, hK⟩
  have HK2 := hide hK
  have cxw2 := HXR.out w2 hK.bel
  have cyw2 := HYR.out w2 hK.bel
  clear HK1 cxw1 cyw1
  clear hK
  go_wp2_with fail
  refine (HK2.out.getYes HXV.out HE.out.2.2).mono ?_
  rintro e w3 ⟨r3, u3, rfl, hr3, hK⟩
  have HK3 := hide hK
  have cxw3 := HXR.out w3 hK.bel
  have cyw3 := HYR.out w3 hK.bel
  have HR3 := hide hr3
  clear HK2 cxw2 cyw2 hr3
  clear hK
  go_wp2_with fail
  refine (HK3.out.putYes HYV.out (ch_room HK3.out.fs HE.out.2.2 HE.out.2.1)).mono ?_
  rintro e w4 ⟨rfl, u4, hK⟩
  have HK4 := hide hK
  have cxw4 := HXR.out w4 hK.bel
  have cyw4 := HYR.out w4 hK.bel
  clear HK3 cxw3 cyw3
  clear hK
  have HKd := hide HK4.out.drew
  have HCd := hide (HKd.out.chMore HXV.out HYV.out (ch_ok HE.out.1 HE.out.2.1 HE.out.2.2))
  go_wp2_with fail
  go_region_held3 (fun w' => w'.cell? ⟨b, off + k, none⟩ = some (.slice ax mx kx) ∧ w'.cell? ⟨b, off + (k + 1), none⟩ = some (.slice ay my ky)) (first | go_keep | assumption)
    (first
      | (go_at_call 12; refine (unhide HCd).mono ?_; rintro e w5 ⟨r5, v5, rfl, hr5, hK⟩; have HK5 := hide hK; have cxw5 := HXR.out w5 hK.bel; have cyw5 := HYR.out w5 hK.bel; have HR5 := hide hr5; clear hr5; clear hK))
  clear HKd HCd HK4
  go_wp2_with fail
  refine (HK5.out.same HG.out 0).mono ?_
  rintro e w6 ⟨rfl, hK, hb6⟩
  have HK6 := hide hK
  have HR6 := hide (HR5.out.stays hb6 (Nat.le_refl _))
  clear hK hb6 HK5 HR5 cxw5 cyw5
  go_wp2_with fail
  refine (HK6.out.tuple HR6.out HR3.out).mono ?_
  rintro e w7 ⟨rfl, hK⟩
  have HK7 := hide hK
  clear hK HK6 HR6
  go_wp2_with fail
  exact HQ.out _ _ _ _ _ _ _ _ _ _ _ _ _ _ _ _ _ _ _ _ _ _ _ _ _ _ _ _ _ _ _ _ _ _ _ _ _ _ _ _ _ _ _ _ _ _ _ _ _ _ _ _ _ _ _ _ _ _ _ _ _ _ _ _ _ _ _ _ _ _ _ _ _ _ _ _ _ _ _ _ _ _ _ _ _ _ _ _ _ _ _ _ _ _ _ _ _ _ _ _ _ _ _ _ _ _ _ _ _ _ _ _ _ _ _ _ _ _ _ _ _ _ _ _ _ _ _ _ _ _ _ _ _ _ _ _ _ _ _ _ _ _ _ _ _ _ _ _ _ _ _ _ _ _ _ _ _ _ _ _ _ _ _ _ _ _ _ _ _ _ _ _ _ _ _ _ _ _ _ _ _ _ _ _ _ _ _ _ _ ⟨v5, vo, u4, uk, _, _, HK7.out⟩

set_option maxHeartbeats 4000000 in
set_option maxRecDepth 1000000 in
theorem br1c {Q : Exit → Act → World → Prop} {w w1 : World} {O R K b off n cap k mx kx my ky : Nat} {ax ay : Option Addr} {vs vo um uk : Value} {a l : List M.Val} {L Lo : List (List M.Val)} {c : Int}
    (c0 c2 c3 c4 c11 c12 c13 c14 c15 c16 c17 c18 c19 c20 c21 c22 c23 c24 c25 c26 c27 c28 c29 c30 c31 c32 c33 c34 c35 c36 c37 c38 c39 c40 c41 c42 c43 c44 c45 c46 c47 c48 c49 c50 c51 c52 c53 c54 c55 c56 c57 c59 c60 c61 c62 c63 c64 c65 c66 c67 c68 c69 c70 c71 c72 c73 c74 c75 c76 c77 c78 c79 c80 c81 c82 c83 c84 c85 c86 c87 c88 c89 c90 c91 c92 c93 c94 c95 c96 c97 c98 c99 c100 c101 c102 c103 c104 c105 c106 c107 c108 c109 c110 c111 c112 c113 c114 c115 c116 c117 c118 c119 c120 c121 c122 c123 c124 c125 c126 c127 c128 c129 c130 c131 c132 c133 c134 c135 c136 c137 c138 c139 c140 c141 c142 c143 c144 c145 c146 c147 c148 c149 c150 c151 c152 c153 c154 c155 c156 c157 c158 c159 c160 c161 c162 c163 c164 c165 c166 c167 c168 c169 c170 c171 c172 c173 c174 c175 c176 c177 c178 c179 c180 c181 c182 c183 c184 c185 c186 c187 c188 c189 c190 c191 c192 c193 c194 c195 c196 c197 c198 c199 c200 c201 c202 c203 c204 c205 c206 c207 c208 c209 c210 c211 c212 c213 c214 c215 c216 c217 c218 c219 c220 c221 c222 c223 c224 c225 c226 c227 c228 c229 c230 c231 c232 c233 c234 c235 c236 c237 c238 c239 c240 c241 c242 c243 c244 c245 c246 c247 c248 c249 c250 c251 c252 c253 : Value) (hT : Tuned w w1 O R K b off k mx kx my ky ax ay vs vo um uk a l L Lo) (ik2 : (k : Int) + 1 < (n : Int)) (hk8 : k < 80) (ha : M.likeF a = 0) (hl : M.tupF l = 0) (hg : M.getF a L = c) (hc : c ≠ 0)
    (hQ : ∀ (u10 u12 u13 u14 u15 u16 u17 u18 u19 u20 u21 u22 u23 u24 u25 u59 u60 u61 u62 u63 u64 u65 u66 u67 u68 u69 u70 u71 u72 u73 u74 u75 u76 u77 u78 u79 u80 u81 u82 u83 u84 u85 u86 u87 u88 u89 u90 u91 u92 u93 u94 u95 u96 u97 u98 u99 u100 u101 u102 u103 u104 u105 u106 u107 u108 u109 u110 u111 u112 u113 u114 u115 u116 u117 u118 u119 u120 u121 u122 u123 u124 u125 u126 u127 u128 u129 u130 u131 u132 u133 u134 u135 u136 u137 u138 u139 u140 u141 u142 u143 u144 u145 u146 u147 u148 u149 u150 u151 u152 u153 u154 u155 u156 u157 u158 u159 u160 u161 u162 u163 u164 u165 u166 u167 u168 u169 u170 u171 u172 u173 u174 u175 u176 u177 u178 u179 u180 u181 u182 u183 u184 u185 u186 u187 u188 u189 u190 u191 u192 u193 u194 u195 u196 u197 u198 u199 u200 u201 u202 u203 u204 u205 u206 u207 u208 u209 u210 u211 u212 u213 u214 u215 u216 u217 u218 u219 u220 u221 u222 u223 u224 u225 u226 u227 u228 u229 u230 u231 : Value) (w' : World), Done w w' O R K → Q .normal ⟨#[c0, .slice (some ⟨b, off, none⟩) n cap, c2, c3, c4, .pointer (some ⟨w.heap.size, 0, none⟩), .pointer (some ⟨O, 0, none⟩), .pointer (some ⟨R, 0, none⟩), .pointer (some ⟨K, 0, none⟩), .int .i64 k, u10, .bool true, u12, u13, u14, u15, u16, u17, u18, u19, u20, u21, u22, u23, u24, u25, c26, c27, c28, c29, c30, c31, c32, c33, c34, c35, c36, c37, c38, c39, c40, c41, c42, c43, c44, c45, c46, c47, c48, c49, c50, c51, c52, c53, c54, c55, c56, c57, .int .i64 1, u59, u60, u61, u62, u63, u64, u65, u66, u67, u68, u69, u70, u71, u72, u73, u74, u75, u76, u77, u78, u79, u80, u81, u82, u83, u84, u85, u86, u87, u88, u89, u90, u91, u92, u93, u94, u95, u96, u97, u98, u99, u100, u101, u102, u103, u104, u105, u106, u107, u108, u109, u110, u111, u112, u113, u114, u115, u116, u117, u118, u119, u120, u121, u122, u123, u124, u125, u126, u127, u128, u129, u130, u131, u132, u133, u134, u135, u136, u137, u138, u139, u140, u141, u142, u143, u144, u145, u146, u147, u148, u149, u150, u151, u152, u153, u154, u155, u156, u157, u158, u159, u160, u161, u162, u163, u164, u165, u166, u167, u168, u169, u170, u171, u172, u173, u174, u175, u176, u177, u178, u179, u180, u181, u182, u183, u184, u185, u186, u187, u188, u189, u190, u191, u192, u193, u194, u195, u196, u197, u198, u199, u200, u201, u202, u203, u204, u205, u206, u207, u208, u209, u210, u211, u212, u213, u214, u215, u216, u217, u218, u219, u220, u221, u222, u223, u224, u225, u226, u227, u228, u229, u230, u231, c232, c233, c234, c235, c236, c237, c238, c239, c240, c241, c242, c243, c244, c245, c246, c247, c248, c249, c250, c251, c252, c253], []⟩ w') :
    Code.wp Tryd.prog ((Tryd.f3.body.bind (blockAt 2)).getD .skip) Q ⟨#[c0, .slice (some ⟨b, off, none⟩) n cap, c2, c3, c4, .pointer (some ⟨w.heap.size, 0, none⟩), .pointer (some ⟨O, 0, none⟩), .pointer (some ⟨R, 0, none⟩), .pointer (some ⟨K, 0, none⟩), .int .i64 k, .int .i64 0, c11, c12, c13, c14, c15, c16, c17, c18, c19, c20, c21, c22, c23, c24, c25, c26, c27, c28, c29, c30, c31, c32, c33, c34, c35, c36, c37, c38, c39, c40, c41, c42, c43, c44, c45, c46, c47, c48, c49, c50, c51, c52, c53, c54, c55, c56, c57, .int .i64 1, c59, c60, c61, c62, c63, c64, c65, c66, c67, c68, c69, c70, c71, c72, c73, c74, c75, c76, c77, c78, c79, c80, c81, c82, c83, c84, c85, c86, c87, c88, c89, c90, c91, c92, c93, c94, c95, c96, c97, c98, c99, c100, c101, c102, c103, c104, c105, c106, c107, c108, c109, c110, c111, c112, c113, c114, c115, c116, c117, c118, c119, c120, c121, c122, c123, c124, c125, c126, c127, c128, c129, c130, c131, c132, c133, c134, c135, c136, c137, c138, c139, c140, c141, c142, c143, c144, c145, c146, c147, c148, c149, c150, c151, c152, c153, c154, c155, c156, c157, c158, c159, c160, c161, c162, c163, c164, c165, c166, c167, c168, c169, c170, c171, c172, c173, c174, c175, c176, c177, c178, c179, c180, c181, c182, c183, c184, c185, c186, c187, c188, c189, c190, c191, c192, c193, c194, c195, c196, c197, c198, c199, c200, c201, c202, c203, c204, c205, c206, c207, c208, c209, c210, c211, c212, c213, c214, c215, c216, c217, c218, c219, c220, c221, c222, c223, c224, c225, c226, c227, c228, c229, c230, c231, c232, c233, c234, c235, c236, c237, c238, c239, c240, c241, c242, c243, c244, c245, c246, c247, c248, c249, c250, c251, c252, c253], []⟩ w1 := by
  conv => arg 2; whnf
  have ik5 : (k : Int) < (n : Int) := by omega
  have ik6 : (0 : Int) ≤ (k : Int) := by omega
  have ik7 : (0 : Int) ≤ (k : Int) + 1 := by omega
  have ik8 : IntKind.i64.wrap ((k : Int) + 1) = (k : Int) + 1 := IntWalk.i64_in _ ⟨by omega, by omega⟩
  have HK1 := hide hT.q
  have HXR := hide hT.xr
  have HYR := hide hT.yr
  have HXV := hide hT.xv
  have HYV := hide hT.yv
  have HG := hide hT.hand
  have HQ := hide hQ
  have cxw1 := HXR.out w1 HK1.out.bel
  have cyw1 := HYR.out w1 HK1.out.bel
  clear hT hQ
  have hc0 : (c == 0) = false := by simpa using hc
  have HE := hide (And.intro ha (And.intro hl hg))
  have HC0 := hide hc
  have HCH := hide (ch_none (L := L) ha hl (by rw [hg]; exact hc))
  rw [hg] at HCH
  clear ha hl hg hc
  go_wp2_with fail
  refine (HK1.out.tupIs HYV.out HE.out.2.1).mono ?_
  rintro e w2 ⟨rfl, hK⟩
  have HK2 := hide hK
  have cxw2 := HXR.out w2 hK.bel
  have cyw2 := HYR.out w2 hK.bel
  clear HK1 cxw1 cyw1
  clear hK
  go_wp2_with fail
  refine (HK2.out.getNo HXV.out HE.out.2.2 HC0.out).mono ?_
  rintro e w3 ⟨r3, u3, rfl, hr3, hK⟩
  have HK3 := hide hK
  have cxw3 := HXR.out w3 hK.bel
  have cyw3 := HYR.out w3 hK.bel
  have HR3 := hide hr3
  clear HK2 cxw2 cyw2 hr3
  clear hK
  have HKd := hide HK3.out.drew
  have HCd := hide (HKd.out.chStill HXV.out HYV.out HCH.out)
  go_wp2_with fail
  go_region_held3 (fun w' => w'.cell? ⟨b, off + k, none⟩ = some (.slice ax mx kx) ∧ w'.cell? ⟨b, off + (k + 1), none⟩ = some (.slice ay my ky)) (first | go_keep | assumption)
    (first
      | (go_at_call 12; refine (unhide HCd).mono ?_; rintro e w5 ⟨r5, v5, rfl, hr5, hK⟩; have HK5 := hide hK; have cxw5 := HXR.out w5 hK.bel; have cyw5 := HYR.out w5 hK.bel; have HR5 := hide hr5; clear hr5; clear hK))
  clear HKd HCd HK3
  go_wp2_with fail
  refine (HK5.out.same HG.out c).mono ?_
  rintro e w6 ⟨rfl, hK, hb6⟩
  have HK6 := hide hK
  have HR6 := hide (HR5.out.stays hb6 (Nat.le_refl _))
  clear hK hb6 HK5 HR5 cxw5 cyw5
  go_wp2_with fail
  refine (HK6.out.tuple HR6.out HR3.out).mono ?_
  rintro e w7 ⟨rfl, hK⟩
  have HK7 := hide hK
  clear hK HK6 HR6
  go_wp2_with fail
  exact HQ.out _ _ _ _ _ _ _ _ _ _ _ _ _ _ _ _ _ _ _ _ _ _ _ _ _ _ _ _ _ _ _ _ _ _ _ _ _ _ _ _ _ _ _ _ _ _ _ _ _ _ _ _ _ _ _ _ _ _ _ _ _ _ _ _ _ _ _ _ _ _ _ _ _ _ _ _ _ _ _ _ _ _ _ _ _ _ _ _ _ _ _ _ _ _ _ _ _ _ _ _ _ _ _ _ _ _ _ _ _ _ _ _ _ _ _ _ _ _ _ _ _ _ _ _ _ _ _ _ _ _ _ _ _ _ _ _ _ _ _ _ _ _ _ _ _ _ _ _ _ _ _ _ _ _ _ _ _ _ _ _ _ _ _ _ _ _ _ _ _ _ _ _ _ _ _ _ _ _ _ _ _ _ _ _ _ _ _ _ _ ⟨v5, vo, u3, uk, _, _, HK7.out⟩

set_option maxHeartbeats 4000000 in
set_option maxRecDepth 1000000 in
theorem br1b {Q : Exit → Act → World → Prop} {w w1 : World} {O R K b off n cap k mx kx my ky : Nat} {ax ay : Option Addr} {vs vo um uk : Value} {a l : List M.Val} {L Lo : List (List M.Val)} {c : Int}
    (c0 c2 c3 c4 c11 c12 c13 c14 c15 c16 c17 c18 c19 c20 c21 c22 c23 c24 c25 c26 c27 c28 c29 c30 c31 c32 c33 c34 c35 c36 c37 c38 c39 c40 c41 c42 c43 c44 c45 c46 c47 c48 c49 c50 c51 c52 c53 c54 c55 c56 c57 c59 c60 c61 c62 c63 c64 c65 c66 c67 c68 c69 c70 c71 c72 c73 c74 c75 c76 c77 c78 c79 c80 c81 c82 c83 c84 c85 c86 c87 c88 c89 c90 c91 c92 c93 c94 c95 c96 c97 c98 c99 c100 c101 c102 c103 c104 c105 c106 c107 c108 c109 c110 c111 c112 c113 c114 c115 c116 c117 c118 c119 c120 c121 c122 c123 c124 c125 c126 c127 c128 c129 c130 c131 c132 c133 c134 c135 c136 c137 c138 c139 c140 c141 c142 c143 c144 c145 c146 c147 c148 c149 c150 c151 c152 c153 c154 c155 c156 c157 c158 c159 c160 c161 c162 c163 c164 c165 c166 c167 c168 c169 c170 c171 c172 c173 c174 c175 c176 c177 c178 c179 c180 c181 c182 c183 c184 c185 c186 c187 c188 c189 c190 c191 c192 c193 c194 c195 c196 c197 c198 c199 c200 c201 c202 c203 c204 c205 c206 c207 c208 c209 c210 c211 c212 c213 c214 c215 c216 c217 c218 c219 c220 c221 c222 c223 c224 c225 c226 c227 c228 c229 c230 c231 c232 c233 c234 c235 c236 c237 c238 c239 c240 c241 c242 c243 c244 c245 c246 c247 c248 c249 c250 c251 c252 c253 : Value) (hT : Tuned w w1 O R K b off k mx kx my ky ax ay vs vo um uk a l L Lo) (ik2 : (k : Int) + 1 < (n : Int)) (hk8 : k < 80) (ha : M.likeF a = 0) (hl : M.tupF l = c) (hc : c ≠ 0)
    (hQ : ∀ (u10 u12 u13 u14 u15 u16 u17 u18 u19 u20 u21 u22 u23 u24 u25 u59 u60 u61 u62 u63 u64 u65 u66 u67 u68 u69 u70 u71 u72 u73 u74 u75 u76 u77 u78 u79 u80 u81 u82 u83 u84 u85 u86 u87 u88 u89 u90 u91 u92 u93 u94 u95 u96 u97 u98 u99 u100 u101 u102 u103 u104 u105 u106 u107 u108 u109 u110 u111 u112 u113 u114 u115 u116 u117 u118 u119 u120 u121 u122 u123 u124 u125 u126 u127 u128 u129 u130 u131 u132 u133 u134 u135 u136 u137 u138 u139 u140 u141 u142 u143 u144 u145 u146 u147 u148 u149 u150 u151 u152 u153 u154 u155 u156 u157 u158 u159 u160 u161 u162 u163 u164 u165 u166 u167 u168 u169 u170 u171 u172 u173 u174 u175 u176 u177 u178 u179 u180 u181 u182 u183 u184 u185 u186 u187 u188 u189 u190 u191 u192 u193 u194 u195 u196 u197 u198 u199 u200 u201 u202 u203 u204 u205 u206 u207 u208 u209 u210 u211 u212 u213 u214 u215 u216 u217 u218 u219 u220 u221 u222 u223 u224 u225 u226 u227 u228 u229 u230 u231 : Value) (w' : World), Done w w' O R K → Q .normal ⟨#[c0, .slice (some ⟨b, off, none⟩) n cap, c2, c3, c4, .pointer (some ⟨w.heap.size, 0, none⟩), .pointer (some ⟨O, 0, none⟩), .pointer (some ⟨R, 0, none⟩), .pointer (some ⟨K, 0, none⟩), .int .i64 k, u10, .bool true, u12, u13, u14, u15, u16, u17, u18, u19, u20, u21, u22, u23, u24, u25, c26, c27, c28, c29, c30, c31, c32, c33, c34, c35, c36, c37, c38, c39, c40, c41, c42, c43, c44, c45, c46, c47, c48, c49, c50, c51, c52, c53, c54, c55, c56, c57, .int .i64 1, u59, u60, u61, u62, u63, u64, u65, u66, u67, u68, u69, u70, u71, u72, u73, u74, u75, u76, u77, u78, u79, u80, u81, u82, u83, u84, u85, u86, u87, u88, u89, u90, u91, u92, u93, u94, u95, u96, u97, u98, u99, u100, u101, u102, u103, u104, u105, u106, u107, u108, u109, u110, u111, u112, u113, u114, u115, u116, u117, u118, u119, u120, u121, u122, u123, u124, u125, u126, u127, u128, u129, u130, u131, u132, u133, u134, u135, u136, u137, u138, u139, u140, u141, u142, u143, u144, u145, u146, u147, u148, u149, u150, u151, u152, u153, u154, u155, u156, u157, u158, u159, u160, u161, u162, u163, u164, u165, u166, u167, u168, u169, u170, u171, u172, u173, u174, u175, u176, u177, u178, u179, u180, u181, u182, u183, u184, u185, u186, u187, u188, u189, u190, u191, u192, u193, u194, u195, u196, u197, u198, u199, u200, u201, u202, u203, u204, u205, u206, u207, u208, u209, u210, u211, u212, u213, u214, u215, u216, u217, u218, u219, u220, u221, u222, u223, u224, u225, u226, u227, u228, u229, u230, u231, c232, c233, c234, c235, c236, c237, c238, c239, c240, c241, c242, c243, c244, c245, c246, c247, c248, c249, c250, c251, c252, c253], []⟩ w') :
    Code.wp Tryd.prog ((Tryd.f3.body.bind (blockAt 2)).getD .skip) Q ⟨#[c0, .slice (some ⟨b, off, none⟩) n cap, c2, c3, c4, .pointer (some ⟨w.heap.size, 0, none⟩), .pointer (some ⟨O, 0, none⟩), .pointer (some ⟨R, 0, none⟩), .pointer (some ⟨K, 0, none⟩), .int .i64 k, .int .i64 0, c11, c12, c13, c14, c15, c16, c17, c18, c19, c20, c21, c22, c23, c24, c25, c26, c27, c28, c29, c30, c31, c32, c33, c34, c35, c36, c37, c38, c39, c40, c41, c42, c43, c44, c45, c46, c47, c48, c49, c50, c51, c52, c53, c54, c55, c56, c57, .int .i64 1, c59, c60, c61, c62, c63, c64, c65, c66, c67, c68, c69, c70, c71, c72, c73, c74, c75, c76, c77, c78, c79, c80, c81, c82, c83, c84, c85, c86, c87, c88, c89, c90, c91, c92, c93, c94, c95, c96, c97, c98, c99, c100, c101, c102, c103, c104, c105, c106, c107, c108, c109, c110, c111, c112, c113, c114, c115, c116, c117, c118, c119, c120, c121, c122, c123, c124, c125, c126, c127, c128, c129, c130, c131, c132, c133, c134, c135, c136, c137, c138, c139, c140, c141, c142, c143, c144, c145, c146, c147, c148, c149, c150, c151, c152, c153, c154, c155, c156, c157, c158, c159, c160, c161, c162, c163, c164, c165, c166, c167, c168, c169, c170, c171, c172, c173, c174, c175, c176, c177, c178, c179, c180, c181, c182, c183, c184, c185, c186, c187, c188, c189, c190, c191, c192, c193, c194, c195, c196, c197, c198, c199, c200, c201, c202, c203, c204, c205, c206, c207, c208, c209, c210, c211, c212, c213, c214, c215, c216, c217, c218, c219, c220, c221, c222, c223, c224, c225, c226, c227, c228, c229, c230, c231, c232, c233, c234, c235, c236, c237, c238, c239, c240, c241, c242, c243, c244, c245, c246, c247, c248, c249, c250, c251, c252, c253], []⟩ w1 := by
  conv => arg 2; whnf
  have ik5 : (k : Int) < (n : Int) := by omega
  have ik6 : (0 : Int) ≤ (k : Int) := by omega
  have ik7 : (0 : Int) ≤ (k : Int) + 1 := by omega
  have ik8 : IntKind.i64.wrap ((k : Int) + 1) = (k : Int) + 1 := IntWalk.i64_in _ ⟨by omega, by omega⟩
  have HK1 := hide hT.q
  have HXR := hide hT.xr
  have HYR := hide hT.yr
  have HXV := hide hT.xv
  have HYV := hide hT.yv
  have HG := hide hT.hand
  have HQ := hide hQ
  have cxw1 := HXR.out w1 HK1.out.bel
  have cyw1 := HYR.out w1 HK1.out.bel
  clear hT hQ
  have hc0 : (c == 0) = false := by simpa using hc
  have HE := hide hl
  have HCH := hide (ch_tup (L := L) ha (by rw [hl]; exact hc))
  rw [hl] at HCH
  clear ha hl hc
  go_wp2_with fail
  refine (HK1.out.tupIs HYV.out HE.out).mono ?_
  rintro e w2 ⟨rfl, hK⟩
  have HK2 := hide hK
  have cxw2 := HXR.out w2 hK.bel
  have cyw2 := HYR.out w2 hK.bel
  clear HK1 cxw1 cyw1
  clear hK
  have HKd := hide HK2.out.drew
  have HCd := hide (HKd.out.chStill HXV.out HYV.out HCH.out)
  go_wp2_with fail
  go_region_held3 (fun w' => w'.cell? ⟨b, off + k, none⟩ = some (.slice ax mx kx) ∧ w'.cell? ⟨b, off + (k + 1), none⟩ = some (.slice ay my ky)) (first | go_keep | assumption)
    (first
      | (go_at_call 12; refine (unhide HCd).mono ?_; rintro e w5 ⟨r5, v5, rfl, hr5, hK⟩; have HK5 := hide hK; have cxw5 := HXR.out w5 hK.bel; have cyw5 := HYR.out w5 hK.bel; have HR5 := hide hr5; clear hr5; clear hK))
  clear HKd HCd HK2
  go_wp2_with fail
  refine (HK5.out.same HG.out c).mono ?_
  rintro e w6 ⟨rfl, hK, hb6⟩
  have HK6 := hide hK
  have HR6 := hide (HR5.out.stays hb6 (Nat.le_refl _))
  clear hK hb6 HK5 HR5 cxw5 cyw5
  go_wp2_with fail
  refine (HK6.out.tuple HR6.out (Or.inl ⟨rfl, rfl⟩)).mono ?_
  rintro e w7 ⟨rfl, hK⟩
  have HK7 := hide hK
  clear hK HK6 HR6
  go_wp2_with fail
  exact HQ.out _ _ _ _ _ _ _ _ _ _ _ _ _ _ _ _ _ _ _ _ _ _ _ _ _ _ _ _ _ _ _ _ _ _ _ _ _ _ _ _ _ _ _ _ _ _ _ _ _ _ _ _ _ _ _ _ _ _ _ _ _ _ _ _ _ _ _ _ _ _ _ _ _ _ _ _ _ _ _ _ _ _ _ _ _ _ _ _ _ _ _ _ _ _ _ _ _ _ _ _ _ _ _ _ _ _ _ _ _ _ _ _ _ _ _ _ _ _ _ _ _ _ _ _ _ _ _ _ _ _ _ _ _ _ _ _ _ _ _ _ _ _ _ _ _ _ _ _ _ _ _ _ _ _ _ _ _ _ _ _ _ _ _ _ _ _ _ _ _ _ _ _ _ _ _ _ _ _ _ _ _ _ _ _ _ _ _ _ _ ⟨v5, vo, um, uk, _, _, HK7.out⟩

set_option maxHeartbeats 4000000 in
set_option maxRecDepth 1000000 in
theorem br1a {Q : Exit → Act → World → Prop} {w w1 : World} {O R K b off n cap k mx kx my ky : Nat} {ax ay : Option Addr} {vs vo um uk : Value} {a l : List M.Val} {L Lo : List (List M.Val)} {c : Int}
    (c0 c2 c3 c4 c11 c12 c13 c14 c15 c16 c17 c18 c19 c20 c21 c22 c23 c24 c25 c26 c27 c28 c29 c30 c31 c32 c33 c34 c35 c36 c37 c38 c39 c40 c41 c42 c43 c44 c45 c46 c47 c48 c49 c50 c51 c52 c53 c54 c55 c56 c57 c59 c60 c61 c62 c63 c64 c65 c66 c67 c68 c69 c70 c71 c72 c73 c74 c75 c76 c77 c78 c79 c80 c81 c82 c83 c84 c85 c86 c87 c88 c89 c90 c91 c92 c93 c94 c95 c96 c97 c98 c99 c100 c101 c102 c103 c104 c105 c106 c107 c108 c109 c110 c111 c112 c113 c114 c115 c116 c117 c118 c119 c120 c121 c122 c123 c124 c125 c126 c127 c128 c129 c130 c131 c132 c133 c134 c135 c136 c137 c138 c139 c140 c141 c142 c143 c144 c145 c146 c147 c148 c149 c150 c151 c152 c153 c154 c155 c156 c157 c158 c159 c160 c161 c162 c163 c164 c165 c166 c167 c168 c169 c170 c171 c172 c173 c174 c175 c176 c177 c178 c179 c180 c181 c182 c183 c184 c185 c186 c187 c188 c189 c190 c191 c192 c193 c194 c195 c196 c197 c198 c199 c200 c201 c202 c203 c204 c205 c206 c207 c208 c209 c210 c211 c212 c213 c214 c215 c216 c217 c218 c219 c220 c221 c222 c223 c224 c225 c226 c227 c228 c229 c230 c231 c232 c233 c234 c235 c236 c237 c238 c239 c240 c241 c242 c243 c244 c245 c246 c247 c248 c249 c250 c251 c252 c253 : Value) (hT : Tuned w w1 O R K b off k mx kx my ky ax ay vs vo um uk a l L Lo) (ik2 : (k : Int) + 1 < (n : Int)) (hk8 : k < 80) (ha : M.likeF a = c) (hc : c ≠ 0)
    (hQ : ∀ (u10 u12 u13 u14 u15 u16 u17 u18 u19 u20 u21 u22 u23 u24 u25 u59 u60 u61 u62 u63 u64 u65 u66 u67 u68 u69 u70 u71 u72 u73 u74 u75 u76 u77 u78 u79 u80 u81 u82 u83 u84 u85 u86 u87 u88 u89 u90 u91 u92 u93 u94 u95 u96 u97 u98 u99 u100 u101 u102 u103 u104 u105 u106 u107 u108 u109 u110 u111 u112 u113 u114 u115 u116 u117 u118 u119 u120 u121 u122 u123 u124 u125 u126 u127 u128 u129 u130 u131 u132 u133 u134 u135 u136 u137 u138 u139 u140 u141 u142 u143 u144 u145 u146 u147 u148 u149 u150 u151 u152 u153 u154 u155 u156 u157 u158 u159 u160 u161 u162 u163 u164 u165 u166 u167 u168 u169 u170 u171 u172 u173 u174 u175 u176 u177 u178 u179 u180 u181 u182 u183 u184 u185 u186 u187 u188 u189 u190 u191 u192 u193 u194 u195 u196 u197 u198 u199 u200 u201 u202 u203 u204 u205 u206 u207 u208 u209 u210 u211 u212 u213 u214 u215 u216 u217 u218 u219 u220 u221 u222 u223 u224 u225 u226 u227 u228 u229 u230 u231 : Value) (w' : World), Done w w' O R K → Q .normal ⟨#[c0, .slice (some ⟨b, off, none⟩) n cap, c2, c3, c4, .pointer (some ⟨w.heap.size, 0, none⟩), .pointer (some ⟨O, 0, none⟩), .pointer (some ⟨R, 0, none⟩), .pointer (some ⟨K, 0, none⟩), .int .i64 k, u10, .bool true, u12, u13, u14, u15, u16, u17, u18, u19, u20, u21, u22, u23, u24, u25, c26, c27, c28, c29, c30, c31, c32, c33, c34, c35, c36, c37, c38, c39, c40, c41, c42, c43, c44, c45, c46, c47, c48, c49, c50, c51, c52, c53, c54, c55, c56, c57, .int .i64 1, u59, u60, u61, u62, u63, u64, u65, u66, u67, u68, u69, u70, u71, u72, u73, u74, u75, u76, u77, u78, u79, u80, u81, u82, u83, u84, u85, u86, u87, u88, u89, u90, u91, u92, u93, u94, u95, u96, u97, u98, u99, u100, u101, u102, u103, u104, u105, u106, u107, u108, u109, u110, u111, u112, u113, u114, u115, u116, u117, u118, u119, u120, u121, u122, u123, u124, u125, u126, u127, u128, u129, u130, u131, u132, u133, u134, u135, u136, u137, u138, u139, u140, u141, u142, u143, u144, u145, u146, u147, u148, u149, u150, u151, u152, u153, u154, u155, u156, u157, u158, u159, u160, u161, u162, u163, u164, u165, u166, u167, u168, u169, u170, u171, u172, u173, u174, u175, u176, u177, u178, u179, u180, u181, u182, u183, u184, u185, u186, u187, u188, u189, u190, u191, u192, u193, u194, u195, u196, u197, u198, u199, u200, u201, u202, u203, u204, u205, u206, u207, u208, u209, u210, u211, u212, u213, u214, u215, u216, u217, u218, u219, u220, u221, u222, u223, u224, u225, u226, u227, u228, u229, u230, u231, c232, c233, c234, c235, c236, c237, c238, c239, c240, c241, c242, c243, c244, c245, c246, c247, c248, c249, c250, c251, c252, c253], []⟩ w') :
    Code.wp Tryd.prog ((Tryd.f3.body.bind (blockAt 2)).getD .skip) Q ⟨#[c0, .slice (some ⟨b, off, none⟩) n cap, c2, c3, c4, .pointer (some ⟨w.heap.size, 0, none⟩), .pointer (some ⟨O, 0, none⟩), .pointer (some ⟨R, 0, none⟩), .pointer (some ⟨K, 0, none⟩), .int .i64 k, .int .i64 c, c11, c12, c13, c14, c15, c16, c17, c18, c19, c20, c21, c22, c23, c24, c25, c26, c27, c28, c29, c30, c31, c32, c33, c34, c35, c36, c37, c38, c39, c40, c41, c42, c43, c44, c45, c46, c47, c48, c49, c50, c51, c52, c53, c54, c55, c56, c57, .int .i64 1, c59, c60, c61, c62, c63, c64, c65, c66, c67, c68, c69, c70, c71, c72, c73, c74, c75, c76, c77, c78, c79, c80, c81, c82, c83, c84, c85, c86, c87, c88, c89, c90, c91, c92, c93, c94, c95, c96, c97, c98, c99, c100, c101, c102, c103, c104, c105, c106, c107, c108, c109, c110, c111, c112, c113, c114, c115, c116, c117, c118, c119, c120, c121, c122, c123, c124, c125, c126, c127, c128, c129, c130, c131, c132, c133, c134, c135, c136, c137, c138, c139, c140, c141, c142, c143, c144, c145, c146, c147, c148, c149, c150, c151, c152, c153, c154, c155, c156, c157, c158, c159, c160, c161, c162, c163, c164, c165, c166, c167, c168, c169, c170, c171, c172, c173, c174, c175, c176, c177, c178, c179, c180, c181, c182, c183, c184, c185, c186, c187, c188, c189, c190, c191, c192, c193, c194, c195, c196, c197, c198, c199, c200, c201, c202, c203, c204, c205, c206, c207, c208, c209, c210, c211, c212, c213, c214, c215, c216, c217, c218, c219, c220, c221, c222, c223, c224, c225, c226, c227, c228, c229, c230, c231, c232, c233, c234, c235, c236, c237, c238, c239, c240, c241, c242, c243, c244, c245, c246, c247, c248, c249, c250, c251, c252, c253], []⟩ w1 := by
  conv => arg 2; whnf
  have ik5 : (k : Int) < (n : Int) := by omega
  have ik6 : (0 : Int) ≤ (k : Int) := by omega
  have ik7 : (0 : Int) ≤ (k : Int) + 1 := by omega
  have ik8 : IntKind.i64.wrap ((k : Int) + 1) = (k : Int) + 1 := IntWalk.i64_in _ ⟨by omega, by omega⟩
  have HK1 := hide hT.q
  have HXR := hide hT.xr
  have HYR := hide hT.yr
  have HXV := hide hT.xv
  have HYV := hide hT.yv
  have HG := hide hT.hand
  have HQ := hide hQ
  have cxw1 := HXR.out w1 HK1.out.bel
  have cyw1 := HYR.out w1 HK1.out.bel
  clear hT hQ
  have hc0 : (c == 0) = false := by simpa using hc
  have HCH := hide (ch_like (L := L) (t := l) (by rw [ha]; exact hc))
  rw [ha] at HCH
  clear ha hc
  have HKd := hide HK1.out.drew
  have HCd := hide (HKd.out.chStill HXV.out HYV.out HCH.out)
  go_wp2_with fail
  go_region_held3 (fun w' => w'.cell? ⟨b, off + k, none⟩ = some (.slice ax mx kx) ∧ w'.cell? ⟨b, off + (k + 1), none⟩ = some (.slice ay my ky)) (first | go_keep | assumption)
    (first
      | (go_at_call 12; refine (unhide HCd).mono ?_; rintro e w5 ⟨r5, v5, rfl, hr5, hK⟩; have HK5 := hide hK; have cxw5 := HXR.out w5 hK.bel; have cyw5 := HYR.out w5 hK.bel; have HR5 := hide hr5; clear hr5; clear hK))
  clear HKd HCd HK1
  go_wp2_with fail
  refine (HK5.out.same HG.out c).mono ?_
  rintro e w6 ⟨rfl, hK, hb6⟩
  have HK6 := hide hK
  have HR6 := hide (HR5.out.stays hb6 (Nat.le_refl _))
  clear hK hb6 HK5 HR5 cxw5 cyw5
  go_wp2_with fail
  refine (HK6.out.tuple HR6.out (Or.inl ⟨rfl, rfl⟩)).mono ?_
  rintro e w7 ⟨rfl, hK⟩
  have HK7 := hide hK
  clear hK HK6 HR6
  go_wp2_with fail
  exact HQ.out _ _ _ _ _ _ _ _ _ _ _ _ _ _ _ _ _ _ _ _ _ _ _ _ _ _ _ _ _ _ _ _ _ _ _ _ _ _ _ _ _ _ _ _ _ _ _ _ _ _ _ _ _ _ _ _ _ _ _ _ _ _ _ _ _ _ _ _ _ _ _ _ _ _ _ _ _ _ _ _ _ _ _ _ _ _ _ _ _ _ _ _ _ _ _ _ _ _ _ _ _ _ _ _ _ _ _ _ _ _ _ _ _ _ _ _ _ _ _ _ _ _ _ _ _ _ _ _ _ _ _ _ _ _ _ _ _ _ _ _ _ _ _ _ _ _ _ _ _ _ _ _ _ _ _ _ _ _ _ _ _ _ _ _ _ _ _ _ _ _ _ _ _ _ _ _ _ _ _ _ _ _ _ _ _ _ _ _ _ ⟨v5, vo, um, uk, _, _, HK7.out⟩
end Go.Proofs.YtlefhfmckimlaacDoor
