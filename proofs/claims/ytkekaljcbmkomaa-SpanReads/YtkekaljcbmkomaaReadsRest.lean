/- SpanReads: the two Puts, either way round. -/
import Derived.Test.YtkekaljcbmkomaaReads28
import Derived.Test.YtkekaljcbmkomaaReadsIn
import Derived.Deep.DeepCutAuto
namespace Go.Proofs.Ytkekaljcbmkomaa
set_option linter.unusedVariables false
set_option linter.unusedSimpArgs false
open Go.RowKit
attribute [local simp] lcells_nil readB_length bcells_length

set_option maxHeartbeats 8000000 in
set_option maxRecDepth 1000000 in
theorem reads_rest (w w' wc : World) (b2 szs sz1 : Nat) (lv1 lvt : Value) (Ls L1 Lt : List Piece) (r1 : Int) (m1 m2 : Mv)
    (KP : Aside (∀ X, Below w'.heap.size w' X → (X.cell? ⟨w.heap.size, 1, none⟩ = some (.int .i64 m1.t) ∧ X.cell? ⟨w.heap.size, 3, none⟩ = some (.slice m1.a m1.bs.length m1.c)) ∧ (X.cell? ⟨w.heap.size + 1, 1, none⟩ = some (.int .i64 m2.t) ∧ X.cell? ⟨w.heap.size + 1, 3, none⟩ = some (.slice m2.a m2.bs.length m2.c))))
    (HB1 : Aside (BsAt w' m1.a m1.bs)) (HB2 : Aside (BsAt w' m2.a m2.bs)) (TC : Aside (Two w' wc ⟨w'.heap.size, sz1, lv1, L1⟩ ⟨b2, szs, lvt, Lt⟩)) (P1 : Aside (PutR szs Ls m1.t m1.bs r1 sz1 L1)) (HCT : Aside (ct Ls = ct Lt)) (HI : Aside (Inv szs Ls))
    (EARLY : Aside (∀ x, Below w'.heap.size w' x → Below w.heap.size w x)) (ht1 : m1.t ≤ 9223372036854775807 ∧ -9223372036854775808 ≤ m1.t) (ht2 : m2.t ≤ 9223372036854775807 ∧ -9223372036854775808 ≤ m2.t) (hg1 : m1.bs.length ≤ 1000) (hg2 : m2.bs.length ≤ 1000) (v0 v1 v2 v3 v4 v5 v8 v11 v12 v14 v15 v16 v17 v18 v19 v20 v21 v22 v23 v24 v25 v26 v27 v28 v29 v30 v31 v32 v33 v34 v35 v36 v37 v38 v39 v40 v41 v42 v43 v44 v45 v46 v47 v48 v49 v50 v51 v52 v53 v54 v55 v56 v57 v58 v59 v60 v61 v62 v63 v64 v65 v66 v67 v68 v69 v70 v71 v72 v73 v74 v75 v76 v77 v78 v79 v80 v81 v82 v83 v84 v85 v86 v87 v88 v89 v90 v91 v92 v93 v94 v95 v96 v97 v98 v99 v100 v101 v102 v103 v104 v105 v106 v107 v108 v109 v110 v111 v112 v113 v114 v115 v116 v117 v118 v119 v120 v121 v122 v123 v124 v125 v126 v127 v128 v129 v130 v131 v132 v133 v134 v135 v136 v137 v138 v139 v140 v141 v142 v143 v144 v145 v146 v147 v148 v149 v150 v151 v152 v153 v154 v155 v156 v157 v158 v159 v160 v161 v162 v163 v164 v165 v166 v167 v168 v169 v170 v171 v172 v173 v174 v175 v176 v177 v178 v179 v180 v181 v182 v183 v184 v185 v186 v187 v188 v189 v190 v191 v192 v193 v194 v195 v196 v197 v198 v199 v200 v201 v202 v203 v204 v205 v206 v207 v208 v209 v210 v211 v212 v213 v214 v215 v216 v217 v218 v219 v220 v221 v222 v223 v224 v225 v226 v227 v228 v229 v230 v231 v232 v233 v234 v235 v236 v237 v238 v239 v240 v241 v242 v243 v244 v245 v246 v247 v248 v249 v250 v251 v252 v253 v254 v255 : Value) :
    Code.wp Try.prog (readsRest Try.f7) (bodyPost Try.prog Try.f7 fun e w'' => e = .returned (.bool true) ∧ Below w.heap.size w w'') ⟨(v0 :: v1 :: v2 :: v3 :: v4 :: v5 :: .pointer (some ⟨w.heap.size, 0, none⟩) :: .pointer (some ⟨w.heap.size + 1, 0, none⟩) :: v8 :: .pointer (some ⟨w'.heap.size, 0, none⟩) :: .pointer (some ⟨b2, 0, none⟩) :: v11 :: v12 :: .int .i64 r1 :: v14 :: v15 :: v16 :: v17 :: v18 :: v19 :: v20 :: v21 :: v22 :: v23 :: v24 :: v25 :: v26 :: v27 :: v28 :: v29 :: v30 :: v31 :: v32 :: v33 :: v34 :: v35 :: v36 :: v37 :: v38 :: v39 :: v40 :: v41 :: v42 :: v43 :: v44 :: v45 :: v46 :: v47 :: v48 :: v49 :: v50 :: v51 :: v52 :: v53 :: v54 :: v55 :: v56 :: v57 :: v58 :: v59 :: v60 :: v61 :: v62 :: v63 :: v64 :: v65 :: v66 :: v67 :: v68 :: v69 :: v70 :: v71 :: v72 :: v73 :: v74 :: v75 :: v76 :: v77 :: v78 :: v79 :: v80 :: v81 :: v82 :: v83 :: v84 :: v85 :: v86 :: v87 :: v88 :: v89 :: v90 :: v91 :: v92 :: v93 :: v94 :: v95 :: v96 :: v97 :: v98 :: v99 :: v100 :: v101 :: v102 :: v103 :: v104 :: v105 :: v106 :: v107 :: v108 :: v109 :: v110 :: v111 :: v112 :: v113 :: v114 :: v115 :: v116 :: v117 :: v118 :: v119 :: v120 :: v121 :: v122 :: v123 :: v124 :: v125 :: v126 :: v127 :: v128 :: v129 :: v130 :: v131 :: v132 :: v133 :: v134 :: v135 :: v136 :: v137 :: v138 :: v139 :: v140 :: v141 :: v142 :: v143 :: v144 :: v145 :: v146 :: v147 :: v148 :: v149 :: v150 :: v151 :: v152 :: v153 :: v154 :: v155 :: v156 :: v157 :: v158 :: v159 :: v160 :: v161 :: v162 :: v163 :: v164 :: v165 :: v166 :: v167 :: v168 :: v169 :: v170 :: v171 :: v172 :: v173 :: v174 :: v175 :: v176 :: v177 :: v178 :: v179 :: v180 :: v181 :: v182 :: v183 :: v184 :: v185 :: v186 :: v187 :: v188 :: v189 :: v190 :: v191 :: v192 :: v193 :: v194 :: v195 :: v196 :: v197 :: v198 :: v199 :: v200 :: v201 :: v202 :: v203 :: v204 :: v205 :: v206 :: v207 :: v208 :: v209 :: v210 :: v211 :: v212 :: v213 :: v214 :: v215 :: v216 :: v217 :: v218 :: v219 :: v220 :: v221 :: v222 :: v223 :: v224 :: v225 :: v226 :: v227 :: v228 :: v229 :: v230 :: v231 :: v232 :: v233 :: v234 :: v235 :: v236 :: v237 :: v238 :: v239 :: v240 :: v241 :: v242 :: v243 :: v244 :: v245 :: v246 :: v247 :: v248 :: v249 :: v250 :: v251 :: v252 :: v253 :: v254 :: v255 :: []).toArray, []⟩ wc := by
  conv => arg 2; whnf
  obtain ⟨⟨k1, k3⟩, ⟨j1, j3⟩⟩ := KP.out wc TC.out.below
  go_wp2_with fail
  refine (put_all w'.heap.size sz1 lv1 L1 m2.t m2.a m2.bs m2.c wc TC.out.rs (HB2.out.below TC.out.below) ht2.1 (by omega)).mono ?_
  rintro e w2 ⟨r2, sz2, lv2, L2, rfl, hP2, hR2, hG2, hu2⟩
  have T2 := aside (TC.out.left hR2 hG2 hu2)
  have P2 := aside hP2
  clear hR2 hG2 hu2 hP2 k1 k3 j1 j3
  obtain ⟨⟨k1, k3⟩, ⟨j1, j3⟩⟩ := KP.out w2 T2.out.below
  go_wp2_with fail
  refine (put_all b2 szs lvt Lt m2.t m2.a m2.bs m2.c w2 T2.out.rt (HB2.out.below T2.out.below) ht2.1 (by omega)).mono ?_
  rintro e w3 ⟨r3, tz1, lvt1, M1, rfl, hP3, hR3, hG3, hu3⟩
  have T3 := aside (T2.out.right hR3 hG3 hu3)
  have P3 := aside hP3
  clear hR3 hG3 hu3 hP3 k1 k3 j1 j3
  obtain ⟨⟨k1, k3⟩, ⟨j1, j3⟩⟩ := KP.out w3 T3.out.below
  go_wp2_with fail
  refine (put_all b2 tz1 lvt1 M1 m1.t m1.a m1.bs m1.c w3 T3.out.rt (HB1.out.below T3.out.below) ht1.1 (by omega)).mono ?_
  rintro e w4 ⟨r4, tz2, lvt2, M2, rfl, hP4, hR4, hG4, hu4⟩
  have T4 := aside (T3.out.right hR4 hG4 hu4)
  have P4 := aside hP4
  clear hR4 hG4 hu4 hP4 k1 k3 j1 j3
  obtain ⟨⟨k1, k3⟩, ⟨j1, j3⟩⟩ := KP.out w4 T4.out.below
  have HWK := aside (fun W => wakes_any W)
  have hcase : r1 ≠ 0 ∨ (r1 = 0 ∧ r2 ≠ 0) ∨ (r1 = 0 ∧ r2 = 0 ∧ r3 ≠ 0) ∨ (r1 = 0 ∧ r2 = 0 ∧ r3 = 0 ∧ r4 ≠ 0) ∨ (r1 = 0 ∧ r2 = 0 ∧ r3 = 0 ∧ r4 = 0) := by omega
  rcases hcase with h | ⟨rfl, h⟩ | ⟨rfl, rfl, h⟩ | ⟨rfl, rfl, rfl, h⟩ | ⟨rfl, rfl, rfl, rfl⟩
  · have e1 : (r1 == 0) = false := by simpa using h
    have e2 : (r1 != 0) = true := by simpa using h
    clear h
    go_wp2_with fail
    refine (HWK.out w4).mono ?_
    rintro e w5 ⟨rfl, hb⟩
    have HB := aside (EARLY.out _ (T4.out.below.trans (hb.mono T4.out.below.size)))
    clear hb
    go_wp2
    go_ret
    exact ⟨rfl, HB.out⟩
  · have e1 : (r2 == 0) = false := by simpa using h
    have e2 : (r2 != 0) = true := by simpa using h
    clear h
    go_wp2_with fail
    refine (HWK.out w4).mono ?_
    rintro e w5 ⟨rfl, hb⟩
    have HB := aside (EARLY.out _ (T4.out.below.trans (hb.mono T4.out.below.size)))
    clear hb
    go_wp2
    go_ret
    exact ⟨rfl, HB.out⟩
  · have e1 : (r3 == 0) = false := by simpa using h
    have e2 : (r3 != 0) = true := by simpa using h
    clear h
    go_wp2_with fail
    refine (HWK.out w4).mono ?_
    rintro e w5 ⟨rfl, hb⟩
    have HB := aside (EARLY.out _ (T4.out.below.trans (hb.mono T4.out.below.size)))
    clear hb
    go_wp2
    go_ret
    exact ⟨rfl, HB.out⟩
  · have e1 : (r4 == 0) = false := by simpa using h
    have e2 : (r4 != 0) = true := by simpa using h
    clear h
    go_wp2_with fail
    refine (HWK.out w4).mono ?_
    rintro e w5 ⟨rfl, hb⟩
    have HB := aside (EARLY.out _ (T4.out.below.trans (hb.mono T4.out.below.size)))
    clear hb
    go_wp2
    go_ret
    exact ⟨rfl, HB.out⟩
  · obtain ⟨hszt, hmeet⟩ := puts_meet HCT.out HI.out P1.out P2.out P3.out P4.out
    subst hszt
    have MEET := aside hmeet
    have b1 : 0 ≤ m1.t ∧ m1.t + m1.bs.length ≤ 9223372036854775807 := by
      rcases putR_ok P1.out with ⟨h1, h2, -⟩ | ⟨-, h2, h3, -⟩
      · rw [h1]; exact ⟨h2, by simpa using ht1.1⟩
      · omega
    have b3 : 0 ≤ m2.t ∧ m2.t + m2.bs.length ≤ 9223372036854775807 := by
      rcases putR_ok P3.out with ⟨h1, h2, -⟩ | ⟨-, h2, h3, -⟩
      · rw [h1]; exact ⟨h2, by simpa using ht2.1⟩
      · omega
    clear hmeet
    go_upto_region 27 with fail
    go_cut [20] (fun s20 wd => BoolIs s20 (fun b => b = true → (m1.t + m1.bs.length ≤ m2.t ∨ m2.t + m2.bs.length ≤ m1.t ∨ m1.bs = [] ∨ m2.bs = [])) ∧ wd = w4)
    case first =>
      by_cases g1 : m1.t + m1.bs.length ≤ m2.t
      · go_wp2_with fail
        go_meet
        exact ⟨boolIs fun _ => .inl g1, rfl⟩
      · by_cases g2 : m2.t + m2.bs.length ≤ m1.t
        · go_wp2_with fail
          go_meet
          exact ⟨boolIs fun _ => .inr (.inl g2), rfl⟩
        · by_cases g3 : m1.bs.length = 0
          · have G3 := aside g3
            have q3 : ((m1.bs.length : Int) == 0) = true := by simp [g3]
            clear g3
            go_wp2_with fail
            go_meet
            exact ⟨boolIs fun _ => .inr (.inr (.inl (List.length_eq_zero_iff.1 G3.out))), rfl⟩
          · by_cases g4 : m2.bs.length = 0
            · have G4 := aside g4
              have q3 : ((m1.bs.length : Int) == 0) = false := by rw [beq_eq_false_iff_ne]; omega
              have q4 : ((m2.bs.length : Int) == 0) = true := by simp [g4]
              clear g3 g4
              go_wp2_with fail
              go_meet
              exact ⟨boolIs fun _ => .inr (.inr (.inr (List.length_eq_zero_iff.1 G4.out))), rfl⟩
            · have q3 : ((m1.bs.length : Int) == 0) = false := by rw [beq_eq_false_iff_ne]; omega
              have q4 : ((m2.bs.length : Int) == 0) = false := by rw [beq_eq_false_iff_ne]; omega
              clear g3 g4
              go_wp2_with fail
              go_meet
              exact ⟨boolIs fun h => (by cases h), rfl⟩
    case rest =>
      obtain ⟨⟨b, rfl, hbt⟩, hwc⟩ := hcut
      have hwc2 := hwc.symm
      subst hwc2
      have HBT := aside hbt
      clear hwc hbt
      go_upto_region 28 with fail
      refine reads_28 w'.heap.size b2 w.heap.size sz2 lv2 lvt2 L2 M2 m1.t m2.t w' w4 T4 k1 j1 _ _ _ _ _ _ _ _ _ _ _ _ _ _ _ _ _ _ _ _ _ _ _ _ _ _ _ _ _ _ _ _ _ _ _ _ _ _ _ _ _ _ _ _ _ _ _ _ _ _ _ _ _ _ _ _ _ _ _ _ _ _ _ _ _ _ _ _ _ _ _ _ _ _ _ _ _ _ _ _ _ _ _ _ _ _ _ _ _ _ _ _ _ _ _ _ _ _ _ _ _ _ _ _ _ _ _ _ _ _ _ _ _ _ _ _ _ _ _ _ _ _ _ _ _ _ _ _ _ _ _ _ _ _ _ _ _ _ _ _ _ _ _ _ _ _ _ _ _ _ _ _ _ _ _ _ _ _ _ _ _ _ _ _ _ _ _ _ _ _ _ _ _ _ _ _ _ _ _ _ _ _ _ _ _ _ _ _ _ _ _ _ _ _ _ _ _ _ _ _ _ _ _ _ _ _ _ _ _ _ _ _ _ _ _ _ _ _ _ _ _ _ _ _ _ _ _ _ _ _ _ _ _ _ _ _ _ _ _ _ _ _ _ _ _ _ _ _ _ _ _ _ _ _ ?_
      intro bb wd hsame hb
      intros
      have HS : Aside (b = true → bb = true) := fun h => hsame (MEET.out (HBT.out h))
      have HD := aside (T4.out.below.trans (hb.mono T4.out.below.size))
      clear hsame hb
      cases b
      · go_wp2_with fail
        refine (HWK.out wd).mono ?_
        rintro e w5 ⟨rfl, hb⟩
        have HB := aside (EARLY.out _ (HD.out.trans (hb.mono HD.out.size)))
        clear hb
        go_wp2
        go_ret
        exact ⟨rfl, HB.out⟩
      · obtain rfl := HS.out rfl
        go_wp2_with fail
        refine (HWK.out wd).mono ?_
        rintro e w5 ⟨rfl, hb⟩
        have HB := aside (EARLY.out _ (HD.out.trans (hb.mono HD.out.size)))
        clear hb
        go_wp2
        go_ret
        exact ⟨rfl, HB.out⟩
end Go.Proofs.Ytkekaljcbmkomaa
