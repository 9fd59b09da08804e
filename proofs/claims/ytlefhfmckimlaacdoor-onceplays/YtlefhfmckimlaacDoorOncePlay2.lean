/-
  The second case of the switch of OncePlays: all that fit are moved.
-/
import Derived.Test.YtlefhfmckimlaacDoorOncePlayA
import Derived.Deep.RegionHeld3
import Derived.Deep.DrawnRows
namespace Go.Proofs.YtlefhfmckimlaacDoor
open Go.RowKit
attribute [local go_sem ↓] Go.wp_at_zero Go.wp_at_succ

set_option maxHeartbeats 4000000 in
set_option maxRecDepth 1000000 in
theorem br2a {Q : Exit → Act → World → Prop} {w w1 : World} {O R K b off n cap k mx kx my ky : Nat} {ax ay : Option Addr} {vs vo um uk : Value} {a l : List M.Val} {L Lo : List (List M.Val)} {c : Int}
    (c0 c2 c3 c4 c11 c12 c13 c14 c15 c16 c17 c18 c19 c20 c21 c22 c23 c24 c25 c26 c27 c28 c29 c30 c31 c32 c33 c34 c35 c36 c37 c38 c39 c40 c41 c42 c43 c44 c45 c46 c47 c48 c49 c50 c51 c52 c53 c54 c55 c56 c57 c59 c60 c61 c62 c63 c64 c65 c66 c67 c68 c69 c70 c71 c72 c73 c74 c75 c76 c77 c78 c79 c80 c81 c82 c83 c84 c85 c86 c87 c88 c89 c90 c91 c92 c93 c94 c95 c96 c97 c98 c99 c100 c101 c102 c103 c104 c105 c106 c107 c108 c109 c110 c111 c112 c113 c114 c115 c116 c117 c118 c119 c120 c121 c122 c123 c124 c125 c126 c127 c128 c129 c130 c131 c132 c133 c134 c135 c136 c137 c138 c139 c140 c141 c142 c143 c144 c145 c146 c147 c148 c149 c150 c151 c152 c153 c154 c155 c156 c157 c158 c159 c160 c161 c162 c163 c164 c165 c166 c167 c168 c169 c170 c171 c172 c173 c174 c175 c176 c177 c178 c179 c180 c181 c182 c183 c184 c185 c186 c187 c188 c189 c190 c191 c192 c193 c194 c195 c196 c197 c198 c199 c200 c201 c202 c203 c204 c205 c206 c207 c208 c209 c210 c211 c212 c213 c214 c215 c216 c217 c218 c219 c220 c221 c222 c223 c224 c225 c226 c227 c228 c229 c230 c231 c232 c233 c234 c235 c236 c237 c238 c239 c240 c241 c242 c243 c244 c245 c246 c247 c248 c249 c250 c251 c252 c253 : Value) (hT : Tuned w w1 O R K b off k mx kx my ky ax ay vs vo um uk a l L Lo) (ik2 : (k : Int) + 1 < (n : Int)) (hk8 : k < 80) (ha : M.likeF a = c) (hc : c ≠ 0)
    (hQ : ∀ (u10 u12 u13 u14 u15 u16 u17 u18 u19 u20 u21 u22 u23 u24 u25 u59 u60 u61 u62 u63 u64 u65 u66 u67 u68 u69 u70 u71 u72 u73 u74 u75 u76 u77 u78 u79 u80 u81 u82 u83 u84 u85 u86 u87 u88 u89 u90 u91 u92 u93 u94 u95 u96 u97 u98 u99 u100 u101 u102 u103 u104 u105 u106 u107 u108 u109 u110 u111 u112 u113 u114 u115 u116 u117 u118 u119 u120 u121 u122 u123 u124 u125 u126 u127 u128 u129 u130 u131 u132 u133 u134 u135 u136 u137 u138 u139 u140 u141 u142 u143 u144 u145 u146 u147 u148 u149 u150 u151 u152 u153 u154 u155 u156 u157 u158 u159 u160 u161 u162 u163 u164 u165 u166 u167 u168 u169 u170 u171 u172 u173 u174 u175 u176 u177 u178 u179 u180 u181 u182 u183 u184 u185 u186 u187 u188 u189 u190 u191 u192 u193 u194 u195 u196 u197 u198 u199 u200 u201 u202 u203 u204 u205 u206 u207 u208 u209 u210 u211 u212 u213 u214 u215 u216 u217 u218 u219 u220 u221 u222 u223 u224 u225 u226 u227 u228 u229 u230 u231 : Value) (w' : World), Done w w' O R K → Q .normal ⟨#[c0, .slice (some ⟨b, off, none⟩) n cap, c2, c3, c4, .pointer (some ⟨w.heap.size, 0, none⟩), .pointer (some ⟨O, 0, none⟩), .pointer (some ⟨R, 0, none⟩), .pointer (some ⟨K, 0, none⟩), .int .i64 k, u10, .bool true, u12, u13, u14, u15, u16, u17, u18, u19, u20, u21, u22, u23, u24, u25, c26, c27, c28, c29, c30, c31, c32, c33, c34, c35, c36, c37, c38, c39, c40, c41, c42, c43, c44, c45, c46, c47, c48, c49, c50, c51, c52, c53, c54, c55, c56, c57, .int .i64 2, u59, u60, u61, u62, u63, u64, u65, u66, u67, u68, u69, u70, u71, u72, u73, u74, u75, u76, u77, u78, u79, u80, u81, u82, u83, u84, u85, u86, u87, u88, u89, u90, u91, u92, u93, u94, u95, u96, u97, u98, u99, u100, u101, u102, u103, u104, u105, u106, u107, u108, u109, u110, u111, u112, u113, u114, u115, u116, u117, u118, u119, u120, u121, u122, u123, u124, u125, u126, u127, u128, u129, u130, u131, u132, u133, u134, u135, u136, u137, u138, u139, u140, u141, u142, u143, u144, u145, u146, u147, u148, u149, u150, u151, u152, u153, u154, u155, u156, u157, u158, u159, u160, u161, u162, u163, u164, u165, u166, u167, u168, u169, u170, u171, u172, u173, u174, u175, u176, u177, u178, u179, u180, u181, u182, u183, u184, u185, u186, u187, u188, u189, u190, u191, u192, u193, u194, u195, u196, u197, u198, u199, u200, u201, u202, u203, u204, u205, u206, u207, u208, u209, u210, u211, u212, u213, u214, u215, u216, u217, u218, u219, u220, u221, u222, u223, u224, u225, u226, u227, u228, u229, u230, u231, c232, c233, c234, c235, c236, c237, c238, c239, c240, c241, c242, c243, c244, c245, c246, c247, c248, c249, c250, c251, c252, c253], []⟩ w') :
    Code.wp Tryd.prog ((Tryd.f3.body.bind (blockAt 2)).getD .skip) Q ⟨#[c0, .slice (some ⟨b, off, none⟩) n cap, c2, c3, c4, .pointer (some ⟨w.heap.size, 0, none⟩), .pointer (some ⟨O, 0, none⟩), .pointer (some ⟨R, 0, none⟩), .pointer (some ⟨K, 0, none⟩), .int .i64 k, .int .i64 c, c11, c12, c13, c14, c15, c16, c17, c18, c19, c20, c21, c22, c23, c24, c25, c26, c27, c28, c29, c30, c31, c32, c33, c34, c35, c36, c37, c38, c39, c40, c41, c42, c43, c44, c45, c46, c47, c48, c49, c50, c51, c52, c53, c54, c55, c56, c57, .int .i64 2, c59, c60, c61, c62, c63, c64, c65, c66, c67, c68, c69, c70, c71, c72, c73, c74, c75, c76, c77, c78, c79, c80, c81, c82, c83, c84, c85, c86, c87, c88, c89, c90, c91, c92, c93, c94, c95, c96, c97, c98, c99, c100, c101, c102, c103, c104, c105, c106, c107, c108, c109, c110, c111, c112, c113, c114, c115, c116, c117, c118, c119, c120, c121, c122, c123, c124, c125, c126, c127, c128, c129, c130, c131, c132, c133, c134, c135, c136, c137, c138, c139, c140, c141, c142, c143, c144, c145, c146, c147, c148, c149, c150, c151, c152, c153, c154, c155, c156, c157, c158, c159, c160, c161, c162, c163, c164, c165, c166, c167, c168, c169, c170, c171, c172, c173, c174, c175, c176, c177, c178, c179, c180, c181, c182, c183, c184, c185, c186, c187, c188, c189, c190, c191, c192, c193, c194, c195, c196, c197, c198, c199, c200, c201, c202, c203, c204, c205, c206, c207, c208, c209, c210, c211, c212, c213, c214, c215, c216, c217, c218, c219, c220, c221, c222, c223, c224, c225, c226, c227, c228, c229, c230, c231, c232, c233, c234, c235, c236, c237, c238, c239, c240, c241, c242, c243, c244, c245, c246, c247, c248, c249, c250, c251, c252, c253], []⟩ w1 := by
  conv => arg 2; whnf
  have ik5 : (k : Int) < (n : Int) := by omega
  have ik6 : (0 : Int) ≤ (k : Int) := by omega
  have ik7 : (0 : Int) ≤ (k : Int) + 1 := by omega
  have ik8 : IntKind.i64.wrap ((k : Int) + 1) = (k : Int) + 1 := IntWalk.i64_in _ ⟨by omega, by omega⟩
  have HK1 := hide hT.q
  have HXR := hide hT.xr
  have HYR := hide hT.yr
  have HXV := hide hT.xv
  have HYV := hide hT.yv
  have HG := hide hT.hand
  have HQ := hide hQ
  have cxw1 := HXR.out w1 HK1.out.bel
  have cyw1 := HYR.out w1 HK1.out.bel
  clear hT hQ
  have hc0 : (c == 0) = false := by simpa using hc
  have HE := hide ha
  have HC0 := hide hc
  have HS3 : Hid (M.sameF a = c) := hide (by unfold M.sameF; rw [if_neg (by rw [ha]; exact hc), ha])
  clear ha hc
  go_wp2_with fail
  go_loopw [15] (fun m wr => m = .int .i64 0 ∧ wr = w1) (fun _ _ => 0)
  case atStart => exact ⟨rfl, rfl⟩
  case round =>
    obtain ⟨rfl, rfl⟩ := hrel
    go_wp2_with fail
    refine (HK1.out.moveNo HXV.out HE.out HC0.out).mono ?_
    rintro e w11 ⟨rfl, hK⟩
    have HK11 := hide hK
    have cxw11 := HXR.out w11 hK.bel
    clear hK HK1
    go_wp2_with fail
    refine (HK11.out.sameIs (c := c) HXV.out HS3.out).mono ?_
    rintro e w12 ⟨rfl, hK⟩
    have HK12 := hide hK
    clear hK HK11 cxw11
    go_wp2_with fail
    refine (HK12.out.same HG.out c).mono ?_
    rintro e w13 ⟨rfl, hK, _⟩
    have HK13 := hide hK
    clear hK HK12
    go_wp2_with fail
    refine (HK13.out.same HG.out c).mono ?_
    rintro e w14 ⟨rfl, hK, _⟩
    have HK14 := hide hK
    clear hK HK13
    go_wp2_with fail
    exact HQ.out _ _ _ _ _ _ _ _ _ _ _ _ _ _ _ _ _ _ _ _ _ _ _ _ _ _ _ _ _ _ _ _ _ _ _ _ _ _ _ _ _ _ _ _ _ _ _ _ _ _ _ _ _ _ _ _ _ _ _ _ _ _ _ _ _ _ _ _ _ _ _ _ _ _ _ _ _ _ _ _ _ _ _ _ _ _ _ _ _ _ _ _ _ _ _ _ _ _ _ _ _ _ _ _ _ _ _ _ _ _ _ _ _ _ _ _ _ _ _ _ _ _ _ _ _ _ _ _ _ _ _ _ _ _ _ _ _ _ _ _ _ _ _ _ _ _ _ _ _ _ _ _ _ _ _ _ _ _ _ _ _ _ _ _ _ _ _ _ _ _ _ _ _ _ _ _ _ _ _ _ _ _ _ _ _ _ _ _ _ ⟨vs, vo, um, uk, _, _, HK14.out⟩

set_option maxHeartbeats 4000000 in
set_option maxRecDepth 1000000 in
theorem br2b {Q : Exit → Act → World → Prop} {w w1 : World} {O R K b off n cap k mx kx my ky : Nat} {ax ay : Option Addr} {vs vo um uk : Value} {a l : List M.Val} {L Lo : List (List M.Val)} 
    (c0 c2 c3 c4 c11 c12 c13 c14 c15 c16 c17 c18 c19 c20 c21 c22 c23 c24 c25 c26 c27 c28 c29 c30 c31 c32 c33 c34 c35 c36 c37 c38 c39 c40 c41 c42 c43 c44 c45 c46 c47 c48 c49 c50 c51 c52 c53 c54 c55 c56 c57 c59 c60 c61 c62 c63 c64 c65 c66 c67 c68 c69 c70 c71 c72 c73 c74 c75 c76 c77 c78 c79 c80 c81 c82 c83 c84 c85 c86 c87 c88 c89 c90 c91 c92 c93 c94 c95 c96 c97 c98 c99 c100 c101 c102 c103 c104 c105 c106 c107 c108 c109 c110 c111 c112 c113 c114 c115 c116 c117 c118 c119 c120 c121 c122 c123 c124 c125 c126 c127 c128 c129 c130 c131 c132 c133 c134 c135 c136 c137 c138 c139 c140 c141 c142 c143 c144 c145 c146 c147 c148 c149 c150 c151 c152 c153 c154 c155 c156 c157 c158 c159 c160 c161 c162 c163 c164 c165 c166 c167 c168 c169 c170 c171 c172 c173 c174 c175 c176 c177 c178 c179 c180 c181 c182 c183 c184 c185 c186 c187 c188 c189 c190 c191 c192 c193 c194 c195 c196 c197 c198 c199 c200 c201 c202 c203 c204 c205 c206 c207 c208 c209 c210 c211 c212 c213 c214 c215 c216 c217 c218 c219 c220 c221 c222 c223 c224 c225 c226 c227 c228 c229 c230 c231 c232 c233 c234 c235 c236 c237 c238 c239 c240 c241 c242 c243 c244 c245 c246 c247 c248 c249 c250 c251 c252 c253 : Value) (hT : Tuned w w1 O R K b off k mx kx my ky ax ay vs vo um uk a l L Lo) (ik2 : (k : Int) + 1 < (n : Int)) (hk8 : k < 80) (ha : M.likeF a = 0)
    (hQ : ∀ (u10 u12 u13 u14 u15 u16 u17 u18 u19 u20 u21 u22 u23 u24 u25 u59 u60 u61 u62 u63 u64 u65 u66 u67 u68 u69 u70 u71 u72 u73 u74 u75 u76 u77 u78 u79 u80 u81 u82 u83 u84 u85 u86 u87 u88 u89 u90 u91 u92 u93 u94 u95 u96 u97 u98 u99 u100 u101 u102 u103 u104 u105 u106 u107 u108 u109 u110 u111 u112 u113 u114 u115 u116 u117 u118 u119 u120 u121 u122 u123 u124 u125 u126 u127 u128 u129 u130 u131 u132 u133 u134 u135 u136 u137 u138 u139 u140 u141 u142 u143 u144 u145 u146 u147 u148 u149 u150 u151 u152 u153 u154 u155 u156 u157 u158 u159 u160 u161 u162 u163 u164 u165 u166 u167 u168 u169 u170 u171 u172 u173 u174 u175 u176 u177 u178 u179 u180 u181 u182 u183 u184 u185 u186 u187 u188 u189 u190 u191 u192 u193 u194 u195 u196 u197 u198 u199 u200 u201 u202 u203 u204 u205 u206 u207 u208 u209 u210 u211 u212 u213 u214 u215 u216 u217 u218 u219 u220 u221 u222 u223 u224 u225 u226 u227 u228 u229 u230 u231 : Value) (w' : World), Done w w' O R K → Q .normal ⟨#[c0, .slice (some ⟨b, off, none⟩) n cap, c2, c3, c4, .pointer (some ⟨w.heap.size, 0, none⟩), .pointer (some ⟨O, 0, none⟩), .pointer (some ⟨R, 0, none⟩), .pointer (some ⟨K, 0, none⟩), .int .i64 k, u10, .bool true, u12, u13, u14, u15, u16, u17, u18, u19, u20, u21, u22, u23, u24, u25, c26, c27, c28, c29, c30, c31, c32, c33, c34, c35, c36, c37, c38, c39, c40, c41, c42, c43, c44, c45, c46, c47, c48, c49, c50, c51, c52, c53, c54, c55, c56, c57, .int .i64 2, u59, u60, u61, u62, u63, u64, u65, u66, u67, u68, u69, u70, u71, u72, u73, u74, u75, u76, u77, u78, u79, u80, u81, u82, u83, u84, u85, u86, u87, u88, u89, u90, u91, u92, u93, u94, u95, u96, u97, u98, u99, u100, u101, u102, u103, u104, u105, u106, u107, u108, u109, u110, u111, u112, u113, u114, u115, u116, u117, u118, u119, u120, u121, u122, u123, u124, u125, u126, u127, u128, u129, u130, u131, u132, u133, u134, u135, u136, u137, u138, u139, u140, u141, u142, u143, u144, u145, u146, u147, u148, u149, u150, u151, u152, u153, u154, u155, u156, u157, u158, u159, u160, u161, u162, u163, u164, u165, u166, u167, u168, u169, u170, u171, u172, u173, u174, u175, u176, u177, u178, u179, u180, u181, u182, u183, u184, u185, u186, u187, u188, u189, u190, u191, u192, u193, u194, u195, u196, u197, u198, u199, u200, u201, u202, u203, u204, u205, u206, u207, u208, u209, u210, u211, u212, u213, u214, u215, u216, u217, u218, u219, u220, u221, u222, u223, u224, u225, u226, u227, u228, u229, u230, u231, c232, c233, c234, c235, c236, c237, c238, c239, c240, c241, c242, c243, c244, c245, c246, c247, c248, c249, c250, c251, c252, c253], []⟩ w') :
    Code.wp Tryd.prog ((Tryd.f3.body.bind (blockAt 2)).getD .skip) Q ⟨#[c0, .slice (some ⟨b, off, none⟩) n cap, c2, c3, c4, .pointer (some ⟨w.heap.size, 0, none⟩), .pointer (some ⟨O, 0, none⟩), .pointer (some ⟨R, 0, none⟩), .pointer (some ⟨K, 0, none⟩), .int .i64 k, .int .i64 0, c11, c12, c13, c14, c15, c16, c17, c18, c19, c20, c21, c22, c23, c24, c25, c26, c27, c28, c29, c30, c31, c32, c33, c34, c35, c36, c37, c38, c39, c40, c41, c42, c43, c44, c45, c46, c47, c48, c49, c50, c51, c52, c53, c54, c55, c56, c57, .int .i64 2, c59, c60, c61, c62, c63, c64, c65, c66, c67, c68, c69, c70, c71, c72, c73, c74, c75, c76, c77, c78, c79, c80, c81, c82, c83, c84, c85, c86, c87, c88, c89, c90, c91, c92, c93, c94, c95, c96, c97, c98, c99, c100, c101, c102, c103, c104, c105, c106, c107, c108, c109, c110, c111, c112, c113, c114, c115, c116, c117, c118, c119, c120, c121, c122, c123, c124, c125, c126, c127, c128, c129, c130, c131, c132, c133, c134, c135, c136, c137, c138, c139, c140, c141, c142, c143, c144, c145, c146, c147, c148, c149, c150, c151, c152, c153, c154, c155, c156, c157, c158, c159, c160, c161, c162, c163, c164, c165, c166, c167, c168, c169, c170, c171, c172, c173, c174, c175, c176, c177, c178, c179, c180, c181, c182, c183, c184, c185, c186, c187, c188, c189, c190, c191, c192, c193, c194, c195, c196, c197, c198, c199, c200, c201, c202, c203, c204, c205, c206, c207, c208, c209, c210, c211, c212, c213, c214, c215, c216, c217, c218, c219, c220, c221, c222, c223, c224, c225, c226, c227, c228, c229, c230, c231, c232, c233, c234, c235, c236, c237, c238, c239, c240, c241, c242, c243, c244, c245, c246, c247, c248, c249, c250, c251, c252, c253], []⟩ w1 := by
  conv => arg 2; whnf
  have ik5 : (k : Int) < (n : Int) := by omega
  have ik6 : (0 : Int) ≤ (k : Int) := by omega
  have ik7 : (0 : Int) ≤ (k : Int) + 1 := by omega
  have ik8 : IntKind.i64.wrap ((k : Int) + 1) = (k : Int) + 1 := IntWalk.i64_in _ ⟨by omega, by omega⟩
  have HK1 := hide hT.q
  have HXR := hide hT.xr
  have HYR := hide hT.yr
  have HXV := hide hT.xv
  have HYV := hide hT.yv
  have HG := hide hT.hand
  have HQ := hide hQ
  have cxw1 := HXR.out w1 HK1.out.bel
  have cyw1 := HYR.out w1 HK1.out.bel
  clear hT hQ
  obtain ⟨i0, hi, hz0, hz1, hz2⟩ := info_parts infoT
  have HI := hide (And.intro hi (And.intro hz0 (And.intro hz1 hz2)))
  have HE := hide ha
  have HS3 : Hid (M.sameF a = 3) := hide (by unfold M.sameF; rw [if_pos ha])
  have HFL := hide HK1.out.fs
  have HFO := hide HK1.out.fo
  obtain ⟨mv, hmv⟩ : ∃ m, M.movN a L Lo = m := ⟨_, rfl⟩
  obtain ⟨mq, hmq⟩ : ∃ m, M.many a L = m := ⟨_, rfl⟩
  have HST : Hid (∀ j, j ≤ mv → (Lo ++ M.gotN a L j).length ≤ 20 ∧ (j < mv ↔ (Lo ++ M.gotN a L j).length < 20 ∧ j < mq)) := hide fun j hj => by rw [← hmv, ← hmq]; exact movN_step ha HFO.out.2 (by rw [hmv]; exact hj)
  have hmv20 : mv ≤ mq := by rw [← hmv, ← hmq]; exact movN_le
  have hmq20 : mq ≤ 20 := by rw [← hmq]; exact Nat.le_trans (many_le a L) HFL.out.2
  have HGY : Hid (∀ j, j < mq → M.getF a (M.lessN a L j) = 0) := hide fun j hj => lessN_get ha (by rw [hmq]; exact hj)
  have HGN : Hid (M.getF a (M.lessN a L mq) = 5) := hide (by
    have hm0 := lessN_many (L := L) ha mq (by rw [hmq]; exact Nat.le_refl _)
    rw [hmq] at hm0
    refine getF_miss ha (fun hs => ?_)
    exact get_many (getF_hit ha hs) (by omega))
  have HGF : Hid (∀ j, j < mv → M.Fine (Lo ++ M.gotN a L j ++ [M.getV a (M.lessN a L j)])) := hide fun j hj => by
    have := gotN_fine (K := Lo) ha HFL.out HFO.out (j + 1) (by rw [hmv]; omega)
    simp only [M.gotN] at this
    rwa [← List.append_assoc] at this
  have HM := hide hmv
  clear ha hmv hmq hi hz0 hz1 hz2
  go_wp2_with fail
  go_loopw [15] (fun m wr => ∃ j : Nat, ∃ um2 uk2 : Value, j ≤ mv ∧ m = .int .i64 j ∧ Hid (Q4 w wr w.heap.size O R K vs vo um2 uk2 L Lo (M.lessN a L j) (Lo ++ M.gotN a L j))) (fun m _ => mv + 1 - (intOf m).toNat)
  case atStart => exact ⟨0, um, uk, Nat.zero_le _, rfl, hide (by simpa [M.lessN, M.gotN] using HK1.out)⟩
  case round =>
    clear HK1 cxw1 cyw1
    obtain ⟨j, um2, uk2, hj, rfl, hK2⟩ := hrel
    have cx := HXR.out wr hK2.out.bel
    obtain ⟨aq, kq, hq⟩ := hK2.out.k.row.shape
    obtain ⟨q, hql⟩ : ∃ q, (Lo ++ M.gotN a L j).length = q := ⟨_, rfl⟩
    have hst := HST.out j hj
    rw [hql] at hst
    have hq20 := hst.1
    rw [hql] at hq
    subst hq
    have HQL := hide hql
    have ck := hK2.out.k.cell.1
    clear hql
    by_cases hroom : q < 20
    · have hr1 : (q : Int) < 20 := by omega
      by_cases hjm : j < mq
      · have hjv : j < mv := hst.2.2 ⟨hroom, hjm⟩
        have HGJ := hide (HGY.out j hjm)
        have HFJ := hide (HGF.out j hjv)
        clear hst
        go_wp2_with fail
        refine (hK2.out.getYes HXV.out HGJ.out).mono ?_
        rintro e w3 ⟨r3, u3, rfl, hr3, hK⟩
        obtain ⟨ar, kr, rfl, _⟩ := hr3.shape
        have HR3 := hide hr3
        obtain ⟨mr, hmr⟩ : ∃ m, (M.getV a (M.lessN a L j)).length = m := ⟨_, rfl⟩
        rw [hmr] at HR3 ⊢
        have ck3 := hK.k.cell.1
        have HKA := hide (hK.quiet ((Below.refl _ _).alloc (Nat.le_refl _) (.cells #[.slice ar mr kr] 30)))
        obtain ⟨xs, hx1, hx2⟩ := HKA.out.k.row
        rw [HQL.out] at hx1
        have HX := hide hx1
        have HX2 := hide hx2
        have HNW : Hid (∀ j u, [Value.slice ar mr kr][j]? = some u → (w3.alloc (.cells #[.slice ar mr kr] 30)).cell? ((⟨w3.heap.size, 0, none⟩ : Addr).add j) = some u) := hide (World.news_of_block (heap_alloc_new w3 _))
        have HWS : Hid (w.heap.size ≤ (w3.alloc (.cells #[.slice ar mr kr] 30)).heap.size) := hide HKA.out.bel.size
        have HRW : Hid (∀ w4 : World, (w3.alloc (.cells #[.slice ar mr kr] 30)).grownBy w4 (Value.slice aq q kq).ownBlock → w4.cell? ⟨K, 0, none⟩ = some (.slice aq q kq) ∧ w4.frozen? ⟨K, 0, none⟩ = false) := hide fun w4 hg => by
          have hne := HKA.out.k.row_ne (by decide)
          exact ⟨hg.cell HKA.out.k.cell.1 (fun e => hne e.symm), (World.frozen?_of_block (hg.block K HKA.out.k.cell.2.2 (fun e => hne e.symm))).trans HKA.out.k.cell.2.1⟩
        have hKl := hK.k.cell.2.2
        clear hx1 hx2 hK hr3 hmr
        go_wp2_with (at_builtin; refine wpList_append_lies _ rfl (.tmp 188) (.tmp 190) 23 rfl w.heap.size 30 i0 (.slice none 0 0) 1 24 Tryd.underlying23 HI.out.1 HI.out.2.1 HI.out.2.2.1 HI.out.2.2.2 rfl (by decide) (.slice aq q kq) q xs rfl HX.out ⟨w3.heap.size, 0, none⟩ 1 1 [.slice ar mr kr] rfl rfl HNW.out (by intro u hu; simp at hu; subst hu; rfl) (by decide) (by unfold maxLen; omega) (by omega) HWS.out (w3.heap.size + 1) (by simp) ?_)
        intro g3 k3 w5 hown3 hgrow3 hat3 hlt3
        obtain ⟨c5, f5⟩ := HRW.out w5 hgrow3
        have HO3 := hide hown3
        have HG3 := hide hgrow3
        have HAT := hide hat3
        clear hown3 hgrow3 hat3
        go_wp2
        go_roundw
        case rel =>
          refine ⟨j + 1, u3, .slice (some ⟨g3, 0, none⟩) (q + 1) k3, by omega, by go_num, hide ?_⟩
          have := Q4.more (uk' := .slice (some ⟨g3, 0, none⟩) (q + 1) k3) HKA.out (by rw [HQL.out]; exact HX.out) HX2.out HR3.out (by rw [HQL.out]; exact HO3.out) HG3.out (near_lies HAT.out (by simp)) HFJ.out
          rw [List.append_assoc] at this
          exact this
        case measure => simp [intOf]; omega
      · have hjv : j = mv := by omega
        have hjq : j = mq := by omega
        have HG5 : Hid (M.getF a (M.lessN a L j) = 5) := hide (by rw [hjq]; exact HGN.out)
        clear hst hjq
        subst hjv
        go_wp2_with fail
        refine (hK2.out.getNo HXV.out HG5.out (by decide)).mono ?_
        rintro e w3 ⟨r3, u3, rfl, hr3, hK⟩
        have HK3 := hide hK
        have cx3 := HXR.out w3 hK.bel
        clear hK hr3
        go_wp2_with fail
        refine (HK3.out.moveYes HXV.out HE.out HM.out).mono ?_
        rintro e w11 ⟨rfl, v11, o11, hK⟩
        have HK11 := hide hK
        have cxw11 := HXR.out w11 hK.bel
        clear hK HK3
        go_wp2_with fail
        refine (HK11.out.sameIs (c := 3) HXV.out HS3.out).mono ?_
        rintro e w12 ⟨rfl, hK⟩
        have HK12 := hide hK
        clear hK HK11 cxw11
        go_wp2_with fail
        refine (HK12.out.same HG.out 0).mono ?_
        rintro e w13 ⟨rfl, hK, _⟩
        have HK13 := hide hK
        clear hK HK12
        go_wp2_with fail
        refine (HK13.out.same HG.out 3).mono ?_
        rintro e w14 ⟨rfl, hK, _⟩
        have HK14 := hide hK
        clear hK HK13
        go_wp2_with fail
        exact HQ.out _ _ _ _ _ _ _ _ _ _ _ _ _ _ _ _ _ _ _ _ _ _ _ _ _ _ _ _ _ _ _ _ _ _ _ _ _ _ _ _ _ _ _ _ _ _ _ _ _ _ _ _ _ _ _ _ _ _ _ _ _ _ _ _ _ _ _ _ _ _ _ _ _ _ _ _ _ _ _ _ _ _ _ _ _ _ _ _ _ _ _ _ _ _ _ _ _ _ _ _ _ _ _ _ _ _ _ _ _ _ _ _ _ _ _ _ _ _ _ _ _ _ _ _ _ _ _ _ _ _ _ _ _ _ _ _ _ _ _ _ _ _ _ _ _ _ _ _ _ _ _ _ _ _ _ _ _ _ _ _ _ _ _ _ _ _ _ _ _ _ _ _ _ _ _ _ _ _ _ _ _ _ _ _ _ _ _ _ _ ⟨v11, o11, u3, _, _, _, HK14.out⟩
    · have hr1 : ¬ (q : Int) < 20 := by omega
      have hjv : j = mv := by
        rcases Nat.lt_or_ge j mv with g | g
        · exact absurd (hst.2.1 g).1 hroom
        · omega
      clear hst
      subst hjv
      go_wp2_with fail
      refine (hK2.out.moveYes HXV.out HE.out HM.out).mono ?_
      rintro e w11 ⟨rfl, v11, o11, hK⟩
      have HK11 := hide hK
      have cxw11 := HXR.out w11 hK.bel
      clear hK hK2
      go_wp2_with fail
      refine (HK11.out.sameIs (c := 3) HXV.out HS3.out).mono ?_
      rintro e w12 ⟨rfl, hK⟩
      have HK12 := hide hK
      clear hK HK11 cxw11
      go_wp2_with fail
      refine (HK12.out.same HG.out 0).mono ?_
      rintro e w13 ⟨rfl, hK, _⟩
      have HK13 := hide hK
      clear hK HK12
      go_wp2_with fail
      refine (HK13.out.same HG.out 3).mono ?_
      rintro e w14 ⟨rfl, hK, _⟩
      have HK14 := hide hK
      clear hK HK13
      go_wp2_with fail
      exact HQ.out _ _ _ _ _ _ _ _ _ _ _ _ _ _ _ _ _ _ _ _ _ _ _ _ _ _ _ _ _ _ _ _ _ _ _ _ _ _ _ _ _ _ _ _ _ _ _ _ _ _ _ _ _ _ _ _ _ _ _ _ _ _ _ _ _ _ _ _ _ _ _ _ _ _ _ _ _ _ _ _ _ _ _ _ _ _ _ _ _ _ _ _ _ _ _ _ _ _ _ _ _ _ _ _ _ _ _ _ _ _ _ _ _ _ _ _ _ _ _ _ _ _ _ _ _ _ _ _ _ _ _ _ _ _ _ _ _ _ _ _ _ _ _ _ _ _ _ _ _ _ _ _ _ _ _ _ _ _ _ _ _ _ _ _ _ _ _ _ _ _ _ _ _ _ _ _ _ _ _ _ _ _ _ _ _ _ _ _ _ ⟨v11, o11, um2, _, _, _, HK14.out⟩
end Go.Proofs.YtlefhfmckimlaacDoor
