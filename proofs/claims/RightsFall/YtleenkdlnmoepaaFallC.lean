/- RightsFall: what is asked of each number behind a step. -/
import Derived.Test.YtleenkdlnmoepaaFallP
import Derived.Deep.CutBlock
import Derived.Deep.CutRange
import Derived.Deep.DeepCutAuto
namespace Go.Proofs.Ytleenkdlnmoepaa
open Go.RowKit Go.MapLit Go.ChangeMaps

set_option maxRecDepth 1000000 in
set_option maxHeartbeats 8000000 in
theorem fall_rest (w2 W : World) (p mb mk : Nat) (L' : List Gr) (Of' : List Int) (Al' : List Bool) (oa' : Option Addr) (oc' : Nat) (aa' : Option Addr) (ac' : Nat)
    (hmk : mk ≤ 302) (hR' : Aside (FR w2 W ⟨p, mb, mk, L'⟩ mk Of' Al' oa' oc' aa' ac')) (hI' : Aside (FI L' mk Of' Al'))
    (Q : Exit → Act → World → Prop) (v0 v1 v2 v6 v7 v8 v9 v10 v11 v12 v13 v14 v15 v16 v17 v18 v19 v20 v21 v22 v23 v24 v25 v26 v27 v28 v29 v30 v31 v32 v33 v34 v35 v36 v37 v38 v39 v40 v41 v42 v43 v44 v45 v46 v47 v48 v49 v50 v51 v52 v53 v54 v55 v56 v57 v58 v59 v60 v61 v62 v63 v64 v65 v66 v67 v68 v69 v70 v71 v72 v73 v74 v75 v76 v77 v78 v79 v80 v81 v82 v83 v84 v85 v86 v87 v88 v89 v90 v91 v92 v93 v94 v95 v96 v97 v98 v99 v100 v101 v102 v103 v104 v105 v106 v107 v108 v109 v110 v111 v112 v113 v114 v115 v116 v117 v118 v119 v120 v121 v122 v123 v124 v125 v126 v127 v128 v129 v130 v131 v132 v133 v134 v135 v136 v137 v138 v139 v140 v141 v142 v143 v144 v145 v146 v147 v148 v149 v150 v151 v152 v153 v154 v155 v156 v157 v158 v159 v160 v161 v162 v163 v164 v165 v166 v167 v168 v169 v170 v171 v172 v173 v174 v175 v176 v177 v178 v179 v180 v181 v182 v183 v184 v185 v186 v187 v188 v189 v190 v191 v192 v193 v194 v195 v196 v197 v198 v199 v200 v201 v202 v203 v204 v205 v206 v207 v208 v209 v210 v211 v212 v213 v214 v215 v216 v217 v218 v219 v220 v221 v222 v223 v224 : Value)
    (hK : ∀ (wc : World), Aside (FR w2 wc ⟨p, mb, mk, L'⟩ mk Of' Al' oa' oc' aa' ac') → ∀ (z2 z16 z17 z167 z168 z169 z170 z171 z172 z173 z174 z175 z176 z177 z178 z179 z180 z181 z182 z183 z184 z185 z186 z187 z188 z189 z190 z191 z192 z193 z194 z195 z196 z197 z198 z199 z200 z201 z202 z203 z204 z205 z206 z207 z208 z209 z210 z211 z212 z213 : Value), Q .normal ⟨(v0 :: v1 :: z2 :: pt p :: .slice oa' mk oc' :: .slice aa' mk ac' :: v6 :: v7 :: v8 :: v9 :: v10 :: v11 :: v12 :: v13 :: v14 :: v15 :: z16 :: z17 :: v18 :: v19 :: v20 :: v21 :: v22 :: v23 :: v24 :: v25 :: v26 :: v27 :: v28 :: v29 :: v30 :: v31 :: v32 :: v33 :: v34 :: v35 :: v36 :: v37 :: v38 :: v39 :: v40 :: v41 :: v42 :: v43 :: v44 :: v45 :: v46 :: v47 :: v48 :: v49 :: v50 :: v51 :: v52 :: v53 :: v54 :: v55 :: v56 :: v57 :: v58 :: v59 :: v60 :: v61 :: v62 :: v63 :: v64 :: v65 :: v66 :: v67 :: v68 :: v69 :: v70 :: v71 :: v72 :: v73 :: v74 :: v75 :: v76 :: v77 :: v78 :: v79 :: v80 :: v81 :: v82 :: v83 :: v84 :: v85 :: v86 :: v87 :: v88 :: v89 :: v90 :: v91 :: v92 :: v93 :: v94 :: v95 :: v96 :: v97 :: v98 :: v99 :: v100 :: v101 :: v102 :: v103 :: v104 :: v105 :: v106 :: v107 :: v108 :: v109 :: v110 :: v111 :: v112 :: v113 :: v114 :: v115 :: v116 :: v117 :: v118 :: v119 :: v120 :: v121 :: v122 :: v123 :: v124 :: v125 :: v126 :: v127 :: v128 :: v129 :: v130 :: v131 :: v132 :: v133 :: v134 :: v135 :: v136 :: v137 :: v138 :: v139 :: v140 :: v141 :: v142 :: v143 :: v144 :: v145 :: v146 :: v147 :: v148 :: v149 :: v150 :: v151 :: v152 :: v153 :: v154 :: v155 :: v156 :: v157 :: v158 :: v159 :: v160 :: v161 :: v162 :: v163 :: v164 :: v165 :: v166 :: z167 :: z168 :: z169 :: z170 :: z171 :: z172 :: z173 :: z174 :: z175 :: z176 :: z177 :: z178 :: z179 :: z180 :: z181 :: z182 :: z183 :: z184 :: z185 :: z186 :: z187 :: z188 :: z189 :: z190 :: z191 :: z192 :: z193 :: z194 :: z195 :: z196 :: z197 :: z198 :: z199 :: z200 :: z201 :: z202 :: z203 :: z204 :: z205 :: z206 :: z207 :: z208 :: z209 :: z210 :: z211 :: z212 :: z213 :: v214 :: v215 :: v216 :: v217 :: v218 :: v219 :: v220 :: v221 :: v222 :: v223 :: v224 :: []).toArray, []⟩ wc) :
    Code.wp Try.prog (piece 31 Try.f4) Q ⟨(v0 :: v1 :: v2 :: pt p :: .slice oa' mk oc' :: .slice aa' mk ac' :: v6 :: v7 :: v8 :: v9 :: v10 :: v11 :: v12 :: v13 :: v14 :: v15 :: v16 :: v17 :: v18 :: v19 :: v20 :: v21 :: v22 :: v23 :: v24 :: v25 :: v26 :: v27 :: v28 :: v29 :: v30 :: v31 :: v32 :: v33 :: v34 :: v35 :: v36 :: v37 :: v38 :: v39 :: v40 :: v41 :: v42 :: v43 :: v44 :: v45 :: v46 :: v47 :: v48 :: v49 :: v50 :: v51 :: v52 :: v53 :: v54 :: v55 :: v56 :: v57 :: v58 :: v59 :: v60 :: v61 :: v62 :: v63 :: v64 :: v65 :: v66 :: v67 :: v68 :: v69 :: v70 :: v71 :: v72 :: v73 :: v74 :: v75 :: v76 :: v77 :: v78 :: v79 :: v80 :: v81 :: v82 :: v83 :: v84 :: v85 :: v86 :: v87 :: v88 :: v89 :: v90 :: v91 :: v92 :: v93 :: v94 :: v95 :: v96 :: v97 :: v98 :: v99 :: v100 :: v101 :: v102 :: v103 :: v104 :: v105 :: v106 :: v107 :: v108 :: v109 :: v110 :: v111 :: v112 :: v113 :: v114 :: v115 :: v116 :: v117 :: v118 :: v119 :: v120 :: v121 :: v122 :: v123 :: v124 :: v125 :: v126 :: v127 :: v128 :: v129 :: v130 :: v131 :: v132 :: v133 :: v134 :: v135 :: v136 :: v137 :: v138 :: v139 :: v140 :: v141 :: v142 :: v143 :: v144 :: v145 :: v146 :: v147 :: v148 :: v149 :: v150 :: v151 :: v152 :: v153 :: v154 :: v155 :: v156 :: v157 :: v158 :: v159 :: v160 :: v161 :: v162 :: v163 :: v164 :: v165 :: v166 :: v167 :: v168 :: v169 :: v170 :: v171 :: v172 :: v173 :: v174 :: v175 :: v176 :: v177 :: v178 :: v179 :: v180 :: v181 :: v182 :: v183 :: v184 :: v185 :: v186 :: v187 :: v188 :: v189 :: v190 :: v191 :: v192 :: v193 :: v194 :: v195 :: v196 :: v197 :: v198 :: v199 :: v200 :: v201 :: v202 :: v203 :: v204 :: v205 :: v206 :: v207 :: v208 :: v209 :: v210 :: v211 :: v212 :: v213 :: v214 :: v215 :: v216 :: v217 :: v218 :: v219 :: v220 :: v221 :: v222 :: v223 :: v224 :: []).toArray, []⟩ W := by
  conv => arg 2; whnf
  have HK := aside hK
  clear hK
  go_wp2_with fail
  go_loopg [169] mk (fun G s169 wx => ∃ k : Nat, k + G = mk ∧ s169 = .int .i64 (k : Int) ∧ Aside (FR w2 wx ⟨p, mb, mk, L'⟩ mk Of' Al' oa' oc' aa' ac'))
  case atStart => exact ⟨0, by omega, rfl, hR'⟩
  case round =>
    obtain ⟨k, hkG, rfl, hX⟩ := hrel
    rename World => wx
    by_cases hk : k < mk
    · have t2 : (k : Int) < (mk : Int) := by omega
      have hwk := wf_nat (n := k) (by omega)
      have HRk := aside (rights_any ⟨p, mb, mk, L'⟩ (k : Int) wx hX.out.st.bk hwk)
      have hal := hI'.out.al k hk
      cases hl : lk L' (k : Int) with
      | none =>
        rw [hl] at hal
        obtain ⟨ga, rfl, ca, -⟩ := hX.out.atA hal
        have HD := aside (fi_dead (made := mk) hl)
        rw [HD.out.1] at HRk
        have HBl := aside (below_no ⟨p, mb, mk, L'⟩ (k : Int) wx hX.out.st.bk hwk hl)
        clear hal hl hwk
        go_wp2_with fail
        refine HRk.out.mono ?_
        rintro e w5 ⟨rfl, rfl⟩
        go_wp2_with fail
        refine HBl.out.mono ?_
        rintro e w6 ⟨rfl, hb6⟩
        have HX6 := aside (hX.out.below hb6)
        clear hb6 HBl HRk
        go_wp2_with fail
        go_roundg (mk - (k + 1))
        case measure => omega
        case rel => exact ⟨k + 1, by omega, by go_num, HX6⟩
      | some gr =>
        rw [hl] at hal
        obtain ⟨ga, rfl, ca, -⟩ := hX.out.atA hal
        by_cases hk0 : k = 0
        · subst hk0
          clear hal hl hwk
          go_wp2_with fail
          refine HRk.out.mono ?_
          rintro e w5 ⟨rfl, rfl⟩
          go_wp2_with fail
          go_roundg (mk - 1)
          case measure => omega
          case rel => exact ⟨1, by omega, by go_num, hX⟩
        · obtain ⟨op, h1, h2, h3, h4, h5, h6⟩ := fi_par (L := L') (made := mk) hX.out.st.bk.inv hI'.out hl (by omega)
          obtain ⟨go, rfl, co⟩ := hX.out.atO h1
          obtain ⟨ga2, hga, cp, -⟩ := hX.out.atA h3
          obtain rfl : ga = ga2 := by simpa using hga
          have t3 : (0 : Int) < (k : Int) := by omega
          have HRo := aside (rights_any ⟨p, mb, mk, L'⟩ (op : Int) wx hX.out.st.bk (wf_nat (by omega)))
          have hand : bits .and .u8 (rof L' k : Int) (rof L' op : Int) = (rof L' k : Int) := by rw [u8_and_nat _ _ h5 h6, h4]
          simp only at HRo HRk
          obtain ⟨rk, hrk⟩ : ∃ rk, rk = rof L' k := ⟨_, rfl⟩
          obtain ⟨ro, hro⟩ : ∃ ro, ro = rof L' op := ⟨_, rfl⟩
          rw [← hrk] at hand HRk
          rw [← hro] at hand HRo
          clear hal hl hwk h1 h3 h4 h5 h6 hga hrk hro
          go_wp2_with fail
          refine HRk.out.mono ?_
          rintro e w5 ⟨rfl, rfl⟩
          go_wp2_with fail
          refine HRo.out.mono ?_
          rintro e w6 ⟨rfl, rfl⟩
          go_wp2_with fail
          go_roundg (mk - (k + 1))
          case measure => omega
          case rel => exact ⟨k + 1, by omega, by go_num, hX⟩
    · have t2 : ¬ ((k : Int) < (mk : Int)) := by omega
      go_wp2_with fail
      exact HK.out _ hX _ _ _ _ _ _ _ _ _ _ _ _ _ _ _ _ _ _ _ _ _ _ _ _ _ _ _ _ _ _ _ _ _ _ _ _ _ _ _ _ _ _ _ _ _ _ _ _ _ _
end Go.Proofs.Ytleenkdlnmoepaa
