/-
  The walk of the Go function LogKeeps: it returns true, whatever comes in.
-/
import Derived.Test.YtlefhfmckimlaakGreatDoorJ45A
import Derived.BigQuiet
import Derived.Deep.QuietTactic
import Derived.Deep.CutRange
import Derived.Deep.CutBlock
import Derived.Test.YtlefhfmckimlaakGreatDoorJ47A
import Derived.Test.YtlefhfmckimlaakGreatDoorJ35A
import Derived.Test.YtlefhfmckimlaakGreatDoorJ41A
set_option linter.unusedVariables false
set_option linter.unusedSimpArgs false
namespace Go.Proofs.YtlefhfmckimlaakGreatDoor.logKeeps
open Go.RowKit logStops
attribute [local go_sem ↓] Go.wp_at_zero Go.wp_at_succ

set_option maxRecDepth 100000 in
set_option maxHeartbeats 4000000 in
theorem walk (rav : Option Addr) (rn rcap : Nat) (R : List M.Rul) (aa : Option Addr) (an ac : Nat) (l : List M.Ask) (sa : Option Addr) (sn sc : Nat) (fa : Option Addr) (fn fc : Nat) (ka : Option Addr) (kn kc : Nat) (w : World)
    (hrn : rn = R.length) (hrm : rn ≤ maxLen) (hR : AtR w rav R) (han : an = l.length) (ham : an ≤ maxLen) (hA : AtA w aa l) (hsm : sn ≤ maxLen) (hfm : fn ≤ maxLen) (hkm : kn ≤ maxLen)
    (hSY : ∀ i : Nat, (i : Int) < sn → ∃ b2 o2 z, sa = some ⟨b2, o2, none⟩ ∧ ∀ wy, Below w.heap.size w wy → wy.cell? ⟨b2, o2 + i, none⟩ = some (.int .i64 z))
    (hFA : ∀ i : Nat, (i : Int) < fn → ∃ b2 o2 z, fa = some ⟨b2, o2, none⟩ ∧ z ≤ 9223372036854775807 ∧ ∀ wy, Below w.heap.size w wy → wy.cell? ⟨b2, o2 + i, none⟩ = some (.int .i64 z))
    (hKP : ∀ i : Nat, (i : Int) < kn → ∃ b2 o2 z, ka = some ⟨b2, o2, none⟩ ∧ ∀ wy, Below w.heap.size w wy → wy.cell? ⟨b2, o2 + i, none⟩ = some (.int .i64 z)) (hg : Hand w) (ht : Tab w) :
    Calls Tryz.prog 3 #[.slice rav rn rcap, .slice aa an ac, .slice sa sn sc, .slice fa fn fc, .slice ka kn kc] w fun e w' => e = .returned (.bool true) ∧ Below w.heap.size w w' := by
  have HN := hide (log1 w)
  have HH := hide hg
  have HT := hide ht
  have HSY := hide hSY
  have HFA := hide hFA
  have HKP := hide hKP
  have HAT : Hid (∀ i, i < an → ∃ b off x a n cp, aa = some ⟨b, off, none⟩ ∧ IsVals w (.slice a n cp) (M.Ask.t x) ∧ ∀ wy, Below w.heap.size w wy → wy.cell? ⟨b, off + i * 4, none⟩ = some (.int .i64 x.who) ∧ wy.cell? ⟨b, off + i * 4 + 1, none⟩ = some (.int .i64 x.seq) ∧ wy.cell? ⟨b, off + i * 4 + 2, none⟩ = some (.int .i64 x.deed) ∧ wy.cell? ⟨b, off + i * 4 + 3, none⟩ = some (.slice a n cp)) := hide fun k hk => by
    obtain ⟨b, off, e, hlie⟩ := hA (by omega)
    obtain ⟨a, n, c, h1, h2, h3, h4, h5⟩ := hlie.get (k := k) (by omega)
    have hlt := World.block_lt_of_cell? w _ h1
    exact ⟨b, off, l[k], a, n, c, e, h5, fun wy hy => ⟨(hy.cell (p := ⟨b, off + k * 4, none⟩) hlt).trans h1, (hy.cell (p := ⟨b, off + k * 4 + 1, none⟩) hlt).trans h2, (hy.cell (p := ⟨b, off + k * 4 + 2, none⟩) hlt).trans h3, (hy.cell (p := ⟨b, off + k * 4 + 3, none⟩) hlt).trans h4⟩⟩
  have HRU : Hid (∀ wx, Below w.heap.size w wx → Calls Tryz.prog 15 #[.slice rav rn rcap] wx fun e w' => e = .returned (.int .i64 (M.rulE R)) ∧ Below wx.heap.size wx w') := hide fun wx hb => refRules rav rn rcap R wx hrn hrm (hR.stays hb (Nat.le_refl _))
  have HRR := hide (And.intro hrn (And.intro hrm hR))
  unfold maxLen at ham hsm hfm hkm
  clear hg ht hSY hFA hKP hA hrn hrm hR han
  go_enter Tryz.func3, Tryz.ntmps3
  go_wp2_with fail
  refine (unhide HN).mono ?_
  rintro e w2 ⟨J0, F0, rfl, hJ0, hb2⟩
  dsimp only
  have HP1 := hide (At.put (w := w) ⟨⟨F0, hJ0⟩, hb2⟩ 1 1 4 HT.out)
  clear hJ0 hb2 HN
  go_wp2_with fail
  refine (unhide HP1).mono ?_
  rintro e w3 ⟨k, _, rfl, hA3⟩
  dsimp only
  rw [first1] at hA3 ⊢
  have HS3 := hide hA3.sync
  rw [first2] at HS3
  clear hA3 HP1
  rw [show errV (0, M.sOk, G1 k).1 = Value.nilIface from rfl]
  go_wp2_with fail
  refine (unhide HS3).mono ?_
  rintro e w4 ⟨rfl, hA4⟩
  dsimp only
  rw [show errV 0 = Value.nilIface from rfl]
  have HP4 := hide (hA4.put 1 2 5 HT.out)
  clear hA4 HS3
  go_wp2_with fail
  refine (unhide HP4).mono ?_
  rintro e w5 ⟨j, hj, rfl, hA5⟩
  dsimp only
  rw [show M.lgDo R1 (G2 k) (xP 1 2 5) j = (0, M.sOk, G3 k j) from first3 k j] at hA5 ⊢
  rw [show errV (0, M.sOk, G3 k j).1 = Value.nilIface from rfl]
  have HC5 := hide (hA5.crash 0 HT.out)
  have HG := hide (first4 k j hj)
  generalize M.lgCrash (G3 k j) 0 = g5 at *
  clear hA5 HP4
  go_wp2_with fail
  refine (unhide HC5).mono ?_
  rintro e w6 ⟨rfl, hA6⟩
  dsimp only
  have HM6 := hide (hA6.mark HT.out)
  rw [HG.out.1] at HM6
  have HB6 : Hid (∀ wx, At w wx J0 g5 → Calls Tryz.prog 13 #[.pointer (some ⟨J0, 0, none⟩)] wx fun e w' => e = .returned (.int .i64 k) ∧ At w w' J0 g5) := hide fun wx h => by
    have := h.bytes
    rwa [HG.out.2.1] at this
  have HF6 : Hid (∀ wx, At w wx J0 g5 → Calls Tryz.prog 14 #[.pointer (some ⟨J0, 0, none⟩)] wx fun e w' => e = .returned (.int .i64 k) ∧ At w w' J0 g5) := hide fun wx h => by
    have := h.safe
    rwa [HG.out.2.2] at this
  clear hA6 HC5 hj
  generalize M.mark g5.cop.l = y5 at *
  go_wp2_with fail
  refine (unhide HM6).mono ?_
  rintro e w7 ⟨rfl, hA7⟩
  dsimp only
  have HB7 := hide (HB6.out _ hA7)
  clear hA7 HM6 HB6
  go_wp2_with fail
  refine (unhide HB7).mono ?_
  rintro e w8 ⟨rfl, hA8⟩
  dsimp only
  have HF8 := hide (HF6.out _ hA8)
  clear hA8 HB7 HF6
  go_wp2_with fail
  refine (unhide HF8).mono ?_
  rintro e w9 ⟨rfl, hA9⟩
  dsimp only
  have HB9 := hide hA9.2
  clear hA9 HF8
  go_wp2_with fail
  refine (HRU.out _ HB9.out).mono ?_
  rintro e w10 ⟨rfl, hb10⟩
  dsimp only
  have HB10 := hide (HB9.out.trans (hb10.mono HB9.out.size))
  clear hb10 HB9 HRU
  by_cases hE : M.rulE R = 0
  · have HJ : Hid (Calls Tryz.prog 8 #[.slice rav rn rcap] w10 fun e w' => ∃ J F, e = .returned (.tuple #[.pointer (some ⟨J, 0, none⟩), .nilIface]) ∧ LgIs w.heap.size w' F J M.Lg.new R ∧ (∀ i, F i → w10.heap.size ≤ i) ∧ Below w10.heap.size w10 w') := hide (lNew_ok w.heap.size rav rn rcap R w10 HB10.out.size HRR.out.1 HRR.out.2.1 (HRR.out.2.2.stays HB10.out (Nat.le_refl _)) hE)
    have HEE := hide hE
    rw [hE]
    clear hE
    go_wp2_with fail
    refine (unhide HJ).mono ?_
    rintro e w11 ⟨J, F, rfl, hJ, _, hb11⟩
    dsimp only
    have HB11 := hide (HB10.out.trans (hb11.mono HB10.out.size))
    have HSM : Hid (Calls Tryz.prog 16 #[.nilIface, .int .i64 0] w11 fun e w' => e = .returned (.bool true) ∧ Below w11.heap.size w11 w') := hide (sameErr 0 0 w11 (HH.out.stays HB11.out (Nat.le_refl _)))
    have HJ1 := hide hJ
    clear hb11 HJ hJ HB10
    go_wp2_with fail
    refine (unhide HSM).mono ?_
    rintro e w12 ⟨rfl, hb12⟩
    dsimp only
    have HB12 := hide (HB11.out.trans (hb12.mono HB11.out.size))
    have HL0 := hide (Lk.start (rcap := rcap) HB12.out (HJ1.out.quiet hb12) HRR.out.2.2 HRR.out.1 HEE.out)
    have HNC := hide (rNewCopy rav rn rcap w12)
    clear hb12 HSM HB11 HJ1 HRR HEE HB12
    go_wp2_with fail
    refine (unhide HNC).mono ?_
    rintro e w13 ⟨rfl, rfl⟩
    dsimp only
    clear HNC
    go_wp2_with fail
    go_loopw [24, 25, 26, 27] (fun sd sm sq st wx => ∃ (t q : Nat) (g1 : M.Lg) (Cs1 : Nat → Nat) (gd1 dc1 gm1 mc1 p1 : Nat), sd = .slice (some ⟨gd1, 0, none⟩) p1 dc1 ∧ sm = .slice (some ⟨gm1, 0, none⟩) p1 mc1 ∧ sq = .int .i64 q ∧ st = .int .i64 t ∧ t ≤ 4 ∧ q ≤ an ∧ Hid (p1 = g1.cs.length) ∧ Hid (Lk w wx J (.slice (some ⟨gd1, 0, none⟩) p1 dc1) (.slice (some ⟨gm1, 0, none⟩) p1 mc1) p1 Cs1 g1.cs g1.ms g1 rav rn rcap R)) (fun _ _ _ st _ => 4 - (intOf st).toNat)
    case atStart => exact ⟨0, 0, M.Lg.new, _, _, 1, _, 1, 1, rfl, rfl, rfl, rfl, by omega, by omega, hide rfl, HL0⟩
    case round =>
      clear HL0
      obtain ⟨t, q, g1, Cs1, gd1, dc1, gm1, mc1, p1, rfl, rfl, rfl, rfl, ht4, hq, HP, HK⟩ := hrel
      by_cases h1 : t ≤ fn
      · have i1 : (t : Int) ≤ (fn : Int) := by omega
        by_cases h2 : t < 4
        · have i2 : (t : Int) < 4 := by omega
          go_upto_block 1 with fail
          refine blk1 _ _ _ _ _ _ _ _ _ _ _ _ _ _ _ _ _ _ _ _ _ _ _ _ _ _ _ _ _ _ _ _ _ _ _ _ _ _ _ _ _ _ _ _ _ _ _ _ _ _ _ _ _ _ _ _ _ _ _ _ _ _ _ _ _ _ _ _ _ _ _ _ _ _ _ _ _ _ _ _ _ _ _ _ _ _ _ _ _ _ _ _ _ _ _ _ _ _ _ _ _ _ _ _ _ _ _ _ _ _ _ _ _ _ _ _ _ _ _ _ _ _ _ _ _ _ _ _ _ _ _ _ _ _ _ _ _ _ _ _ _ _ _ _ _ _ _ _ _ _ _ _ _ _ _ _ _ _ _ _ _ _ _ _ _ _ _ _ _ _ _ _ _ _ _ _ _ _ _ _ _ _ _ _ _ _ _ _ _ _ _ _ _ _ _ _ _ _ _ _ _ _ _ _ _ _ _ _ _ _ _ _ _ _ _ _ _ _ _ _ _ _ _ _ _ _ _ _ _ _ _ _ _ _ _ _ _ _ _ _ _ _ _ _ _ _ _ _ _ _ _ _ _ _ _ _ _ _ _ _ _ _ _ _ _ _ _ _ _ _ _ _ _ _ _ _ _ _ _ _ _ _ _ _ _ _ _ _ _ _ _ _ _ _ _ _ _ _ _ _ _ _ _ _ _ _ _ _ _ _ _ _ _ _ _ _ _ _ _ _ _ _ _ _ _ _ _ _ _ _ _ _ _ _ _ _ _ _ _ _ _ _ _ _ _ _ _ _ _ _ _ _ _ _ _ _ _ _ _ _ _ _ _ _ _ _ _ _ _ _ _ _ _ _ _ _ _ _ _ _ _ _ _ _ _ _ _ _ _ _ _ _ hq ham hsm hfm hkm HP.out HAT.out HSY.out HFA.out HKP.out HH.out HT.out HK.out ?_
          intro v0 v1 v2 v3 v4 v5 v6 v7 v8 v9 v10 v11 v12 v13 v14 v15 v16 v17 v18 v19 v20 v21 v22 v23 v24 v25 v26 v27 v28 v29 v30 v31 v32 v33 v34 v35 v36 v37 v38 v39 v40 v41 v42 v43 v44 v45 v46 v47 v48 v49 v50 v51 v52 v53 v54 v55 v56 v57 v58 v59 v60 v61 v62 v63 v64 v65 v66 v67 v68 v69 v70 v71 v72 v73 v74 v75 v76 v77 v78 v79 v80 v81 v82 v83 v84 v85 v86 v87 v88 v89 v90 v91 v92 v93 v94 v95 v96 v97 v98 v99 v100 v101 v102 v103 v104 v105 v106 v107 v108 v109 v110 v111 v112 v113 v114 v115 v116 v117 v118 v119 v120 v121 v122 v123 v124 v125 v126 v127 v128 v129 v130 v131 v132 v133 v134 v135 v136 v137 v138 v139 v140 v141 v142 v143 v144 v145 v146 v147 v148 v149 v150 v151 v152 v153 v154 v155 v156 v157 v158 v159 v160 v161 v162 v163 v164 v165 v166 v167 v168 v169 v170 v171 v172 v173 v174 v175 v176 v177 v178 v179 v180 v181 v182 v183 v184 v185 v186 v187 v188 v189 v190 v191 v192 v193 v194 v195 v196 v197 v198 v199 v200 v201 v202 v203 v204 v205 v206 v207 v208 v209 v210 v211 v212 v213 v214 v215 v216 v217 v218 v219 v220 v221 v222 v223 v224 v225 v226 v227 v228 v229 v230 v231 v232 v233 v234 v235 v236 v237 v238 v239 v240 v241 v242 v243 v244 v245 v246 v247 v248 v249 v250 v251 v252 v253 v254 v255 v256 v257 v258 v259 v260 v261 v262 v263 v264 v265 v266 v267 v268 v269 v270 v271 v272 v273 v274 v275 v276 v277 v278 v279 v280 v281 v282 v283 v284 v285 v286 v287 w9 g9 Cs9 gd9 dc9 gm9 mc9 p9 q9 hq9 hp9 hL9
          have HP9 := hide hp9
          have HL9 := hide hL9
          clear hp9 hL9 HP HK
          go_wp2_with fail
          go_roundw
          case rel => exact ⟨t + 1, q9, g9, Cs9, gd9, dc9, gm9, mc9, p9, rfl, rfl, rfl, by go_num, by omega, hq9, HP9, HL9⟩
          case measure => simp [intOf]; omega
        · have i2 : ¬ (t : Int) < 4 := by omega
          go_wp2_with fail
          go_ret
          exact ⟨rfl, HK.out.bel⟩
      · have i1 : ¬ (t : Int) ≤ (fn : Int) := by omega
        go_wp2_with fail
        go_ret
        exact ⟨rfl, HK.out.bel⟩
  · have HJ : Hid (Calls Tryz.prog 8 #[.slice rav rn rcap] w10 fun e w' => e = .returned (.tuple #[.pointer none, errV (M.rulE R)]) ∧ Below w10.heap.size w10 w') := hide (lNew_bad rav rn rcap R w10 HRR.out.1 HRR.out.2.1 (HRR.out.2.2.stays HB10.out (Nat.le_refl _)) hE)
    have HSM : Hid (∀ wx, Below w.heap.size w wx → Calls Tryz.prog 16 #[errV (M.rulE R), .int .i64 (M.rulE R)] wx fun e w' => e = .returned (.bool true) ∧ Below wx.heap.size wx w') := hide fun wx hb => by
      have := sameErr (M.rulE R) (M.rulE R) wx (HH.out.stays hb (Nat.le_refl _))
      rwa [show (M.rulE R == M.rulE R) = true by simp] at this
    rw [errV_bad hE] at HJ HSM
    generalize M.rulE R = E at *
    have hz : (E == 0) = false := by simpa using hE
    clear hE
    go_wp2_with fail
    refine (unhide HJ).mono ?_
    rintro e w11 ⟨rfl, hb11⟩
    dsimp only
    have HB11 := hide (HB10.out.trans (hb11.mono HB10.out.size))
    have HS1 := hide (HSM.out _ HB11.out)
    clear hb11 HJ HB10 HSM
    go_wp2_with fail
    refine (unhide HS1).mono ?_
    rintro e w12 ⟨rfl, hb12⟩
    dsimp only
    have HB12 := hide (HB11.out.trans (hb12.mono HB11.out.size))
    clear hb12 HS1 HB11
    go_wp2_with fail
    go_ret
    exact ⟨rfl, HB12.out⟩

end Go.Proofs.YtlefhfmckimlaakGreatDoor.logKeeps
