/- RightsFall: a step that gives. -/
import Derived.Test.YtleenkdlnmoepaaFallP
import Derived.Deep.CutBlock
import Derived.Deep.CutRange
import Derived.Deep.DeepCutAuto
namespace Go.Proofs.Ytleenkdlnmoepaa
open Go.RowKit Go.MapLit Go.ChangeMaps

set_option maxRecDepth 1000000 in
set_option maxHeartbeats 8000000 in
theorem fall_give (w2 W : World) (p mb made bx : Nat) (L : List Gr) (Of : List Int) (Al : List Bool) (oa : Option Addr) (oc : Nat) (aa : Option Addr) (ac : Nat)
    (s : Sp) (HRW : Aside (FR w2 W ⟨p, mb, made, L⟩ made Of Al oa oc aa ac)) (hI : Aside (FI L made Of Al)) (HBX : Aside (W.heap[bx]? = some (.cells #[.int .i8 s.d, .int .i64 s.id, .int .u8 (s.r : Int), .int .i64 s.g, .int .i8 s.od, .int .i64 s.ot, .int .i64 s.n, .slice s.ba s.bn s.bc] 45 (0, 0)))) (HOK : Aside (SpOk s)) (hmm : made ≤ 302)
    (Q : Exit → Act → World → Prop) (v0 v1 v2 v6 v8 v9 v10 v11 v12 v13 v14 v15 v16 v17 v18 v19 v20 v21 v22 v23 v24 v25 v26 v27 v28 v29 v30 v31 v32 v33 v34 v35 v36 v37 v38 v39 v40 v41 v42 v43 v44 v45 v46 v47 v48 v49 v50 v51 v52 v53 v54 v55 v56 v57 v58 v59 v60 v61 v62 v63 v64 v65 v66 v67 v68 v69 v70 v71 v72 v73 v74 v75 v76 v77 v78 v79 v80 v81 v82 v83 v84 v85 v86 v87 v88 v89 v90 v91 v92 v93 v94 v95 v96 v97 v98 v99 v100 v101 v102 v103 v104 v105 v106 v107 v108 v109 v110 v111 v112 v113 v114 v115 v116 v117 v118 v119 v120 v121 v122 v123 v124 v125 v126 v127 v128 v129 v130 v131 v132 v133 v134 v135 v136 v137 v138 v139 v140 v141 v142 v143 v144 v145 v146 v147 v148 v149 v150 v151 v152 v153 v154 v155 v156 v157 v158 v159 v160 v161 v162 v163 v164 v165 v166 v167 v168 v169 v170 v171 v172 v173 v174 v175 v176 v177 v178 v179 v180 v181 v182 v183 v184 v185 v186 v187 v188 v189 v190 v191 v192 v193 v194 v195 v196 v197 v198 v199 v200 v201 v202 v203 v204 v205 v206 v207 v208 v209 v210 v211 v212 v213 v214 v215 v216 v217 v218 v219 v220 v221 v222 v223 v224 : Value)
    (hK : ∀ (wc : World) (mk : Nat) (L' : List Gr) (Of' : List Int) (Al' : List Bool) (oa' : Option Addr) (oc' : Nat) (aa' : Option Addr) (ac' : Nat), mk ≤ made + 1 → Aside (FR w2 wc ⟨p, mb, mk, L'⟩ mk Of' Al' oa' oc' aa' ac') → Aside (FI L' mk Of' Al') → ∀ (z2 z14 z15 z124 z125 z126 z127 z128 z129 z130 z131 z132 z133 z134 z135 z136 z137 z138 z139 z140 z141 z142 z143 z144 z145 z146 z147 z148 z149 z150 z151 z152 z153 z154 z155 z156 z157 z158 z159 z160 z161 z162 z163 z164 z165 z166 : Value), Q .normal ⟨(v0 :: v1 :: z2 :: pt p :: .slice oa' mk oc' :: .slice aa' mk ac' :: v6 :: pt bx :: v8 :: v9 :: v10 :: v11 :: v12 :: v13 :: z14 :: z15 :: v16 :: v17 :: v18 :: v19 :: v20 :: v21 :: v22 :: v23 :: v24 :: v25 :: v26 :: v27 :: v28 :: v29 :: v30 :: v31 :: v32 :: v33 :: v34 :: v35 :: v36 :: v37 :: v38 :: v39 :: v40 :: v41 :: v42 :: v43 :: v44 :: v45 :: v46 :: v47 :: v48 :: v49 :: v50 :: v51 :: v52 :: v53 :: v54 :: v55 :: v56 :: v57 :: v58 :: v59 :: v60 :: v61 :: v62 :: v63 :: v64 :: v65 :: v66 :: v67 :: v68 :: v69 :: v70 :: v71 :: v72 :: v73 :: v74 :: v75 :: v76 :: v77 :: v78 :: v79 :: v80 :: v81 :: v82 :: v83 :: v84 :: v85 :: v86 :: v87 :: v88 :: v89 :: v90 :: v91 :: v92 :: v93 :: v94 :: v95 :: v96 :: v97 :: v98 :: v99 :: v100 :: v101 :: v102 :: v103 :: v104 :: v105 :: v106 :: v107 :: v108 :: v109 :: v110 :: v111 :: v112 :: v113 :: v114 :: v115 :: v116 :: v117 :: v118 :: v119 :: v120 :: v121 :: v122 :: v123 :: z124 :: z125 :: z126 :: z127 :: z128 :: z129 :: z130 :: z131 :: z132 :: z133 :: z134 :: z135 :: z136 :: z137 :: z138 :: z139 :: z140 :: z141 :: z142 :: z143 :: z144 :: z145 :: z146 :: z147 :: z148 :: z149 :: z150 :: z151 :: z152 :: z153 :: z154 :: z155 :: z156 :: z157 :: z158 :: z159 :: z160 :: z161 :: z162 :: z163 :: z164 :: z165 :: z166 :: v167 :: v168 :: v169 :: v170 :: v171 :: v172 :: v173 :: v174 :: v175 :: v176 :: v177 :: v178 :: v179 :: v180 :: v181 :: v182 :: v183 :: v184 :: v185 :: v186 :: v187 :: v188 :: v189 :: v190 :: v191 :: v192 :: v193 :: v194 :: v195 :: v196 :: v197 :: v198 :: v199 :: v200 :: v201 :: v202 :: v203 :: v204 :: v205 :: v206 :: v207 :: v208 :: v209 :: v210 :: v211 :: v212 :: v213 :: v214 :: v215 :: v216 :: v217 :: v218 :: v219 :: v220 :: v221 :: v222 :: v223 :: v224 :: []).toArray, []⟩ wc) :
    Code.wp Try.prog (piece 26 Try.f4) Q ⟨(v0 :: v1 :: v2 :: pt p :: .slice oa made oc :: .slice aa made ac :: v6 :: pt bx :: v8 :: v9 :: v10 :: v11 :: v12 :: v13 :: v14 :: v15 :: v16 :: v17 :: v18 :: v19 :: v20 :: v21 :: v22 :: v23 :: v24 :: v25 :: v26 :: v27 :: v28 :: v29 :: v30 :: v31 :: v32 :: v33 :: v34 :: v35 :: v36 :: v37 :: v38 :: v39 :: v40 :: v41 :: v42 :: v43 :: v44 :: v45 :: v46 :: v47 :: v48 :: v49 :: v50 :: v51 :: v52 :: v53 :: v54 :: v55 :: v56 :: v57 :: v58 :: v59 :: v60 :: v61 :: v62 :: v63 :: v64 :: v65 :: v66 :: v67 :: v68 :: v69 :: v70 :: v71 :: v72 :: v73 :: v74 :: v75 :: v76 :: v77 :: v78 :: v79 :: v80 :: v81 :: v82 :: v83 :: v84 :: v85 :: v86 :: v87 :: v88 :: v89 :: v90 :: v91 :: v92 :: v93 :: v94 :: v95 :: v96 :: v97 :: v98 :: v99 :: v100 :: v101 :: v102 :: v103 :: v104 :: v105 :: v106 :: v107 :: v108 :: v109 :: v110 :: v111 :: v112 :: v113 :: v114 :: v115 :: v116 :: v117 :: v118 :: v119 :: v120 :: v121 :: v122 :: v123 :: v124 :: v125 :: v126 :: v127 :: v128 :: v129 :: v130 :: v131 :: v132 :: v133 :: v134 :: v135 :: v136 :: v137 :: v138 :: v139 :: v140 :: v141 :: v142 :: v143 :: v144 :: v145 :: v146 :: v147 :: v148 :: v149 :: v150 :: v151 :: v152 :: v153 :: v154 :: v155 :: v156 :: v157 :: v158 :: v159 :: v160 :: v161 :: v162 :: v163 :: v164 :: v165 :: v166 :: v167 :: v168 :: v169 :: v170 :: v171 :: v172 :: v173 :: v174 :: v175 :: v176 :: v177 :: v178 :: v179 :: v180 :: v181 :: v182 :: v183 :: v184 :: v185 :: v186 :: v187 :: v188 :: v189 :: v190 :: v191 :: v192 :: v193 :: v194 :: v195 :: v196 :: v197 :: v198 :: v199 :: v200 :: v201 :: v202 :: v203 :: v204 :: v205 :: v206 :: v207 :: v208 :: v209 :: v210 :: v211 :: v212 :: v213 :: v214 :: v215 :: v216 :: v217 :: v218 :: v219 :: v220 :: v221 :: v222 :: v223 :: v224 :: []).toArray, []⟩ W := by
  conv => arg 2; whnf
  have HK := aside hK
  clear hK
  have b1 : W.cell? ⟨bx, 1, none⟩ = some (.int .i64 s.id) := by rw [cell_of_row W _ 1 _ _ _ HBX.out]; rfl
  have b2 : W.cell? ⟨bx, 2, none⟩ = some (.int .u8 (s.r : Int)) := by rw [cell_of_row W _ 2 _ _ _ HBX.out]; rfl
  obtain ⟨x, hx⟩ : ∃ x, x = s.id := ⟨_, rfl⟩
  have hwx := HOK.out.w
  have hr := HOK.out.r
  rw [← hx] at b1 hwx
  obtain ⟨r, hrr⟩ : ∃ r, r = s.r := ⟨_, rfl⟩
  rw [← hrr] at b2 hr
  have CG := give_any ⟨p, mb, made, L⟩ x r W HRW.out.st.bk hwx hr
  simp only at CG
  have HB0 : Aside (W.heap[bx]? = some (.cells #[.int .i8 s.d, .int .i64 x, .int .u8 (r : Int), .int .i64 s.g, .int .i8 s.od, .int .i64 s.ot, .int .i64 s.n, .slice s.ba s.bn s.bc] 45 (0, 0))) := by rw [hx, hrr]; exact HBX
  clear hx hrr HBX
  by_cases hE : giveE L made x r = 0
  · obtain ⟨⟨gp, hgp⟩, e1, e2, e3⟩ := give_took hE
    have hxl := lk_lt (L := L) (made := made) HRW.out.st.bk.inv hgp
    obtain ⟨xn, rfl⟩ : ∃ xn : Nat, x = (xn : Int) := ⟨x.toNat, by omega⟩
    have hal : Al[xn]? = some true := by rw [hI.out.al xn (by omega), hgp]; rfl
    have HFI := aside (fi_give (L := L) (made := made) HRW.out.st.bk.inv hI.out hgp r)
    rw [e1, e2, e3, hE] at CG
    have HCG := aside CG
    clear CG e1 e2 e3 hE hgp
    go_wp2_with fail
    refine HCG.out.mono ?_
    rintro e w5 ⟨rfl, hnx⟩
    have hR5 := HRW.out.next hnx
    obtain ⟨ga, rfl, ca, -, -⟩ := hR5.atA hal
    have hbox : w5.heap[bx]? = some (.cells #[.int .i8 s.d, .int .i64 (xn : Int), .int .u8 (r : Int), .int .i64 s.g, .int .i8 s.od, .int .i64 s.ot, .int .i64 s.n, .slice s.ba s.bn s.bc] 45 (0, 0)) := by
      have hXX : FX w2 W ⟨p, mb, made, L⟩ made Of Al oa oc (some ⟨ga, 0, none⟩) ac bx _ (.slice none 0 0) [] := ⟨HRW.out, HB0.out, ownI_none _⟩
      exact (hXX.next hnx).box
    have c5 : w5.cell? ⟨bx, 1, none⟩ = some (.int .i64 (xn : Int)) := by rw [cell_of_row w5 _ 1 _ _ _ hbox]; rfl
    have t3 : ¬ ((made : Int) ≤ (xn : Int)) := by omega
    have t4 : ¬ ((xn : Int) < 0) := by omega
    have HR5 := aside hR5
    have HV5 := aside (hR5.below (below_al w5 (.cells #[.int .i64 (xn : Int)] 3))).rowO
    clear hnx hR5 hbox HCG hal b1 b2
    go_wp2_with (first
      | (at_builtin; refine wpList_push rfl _ _ 33 rfl 3 (.int .i64 0) 1 8 Try.underlying33 info3 rfl (by decide) (.slice oa made oc) made (made + 1) _ rfl HV5.out w5.heap.size [.int .i64 (xn : Int)] rfl rfl (0, 0) (heap_alloc_new w5 _) (one_i _) (by omega) (by decide) rfl ?_; intro a' c' w6 h1 h2 h3; have HH6 := aside (push_o HR5.out (below_al w5 _) h1 h2 h3); have HV6 := aside (HH6.out.below (below_al w6 (.cells #[.bool true] 4))).rowA; clear h1 h2 h3)
      | (at_builtin; refine wpList_push rfl _ _ 39 rfl 4 (.bool false) 1 1 Try.underlying39 info4 rfl (by decide) (.slice (some ⟨ga, 0, none⟩) made ac) made (made + 1) _ rfl HV6.out w6.heap.size [.bool true] rfl rfl (0, 0) (heap_alloc_new w6 _) (one_b _) (by omega) (by decide) rfl ?_; intro a2 c2 w7 h1 h2 h3; have HR7 := aside (push_a HH6.out (below_al w6 _) h1 h2 h3); clear h1 h2 h3))
    exact HK.out _ _ _ _ _ _ _ _ _ (by omega) HR7 HFI _ _ _ _ _ _ _ _ _ _ _ _ _ _ _ _ _ _ _ _ _ _ _ _ _ _ _ _ _ _ _ _ _ _ _ _ _ _ _ _ _ _ _ _ _ _
  · obtain ⟨e1, e2, e3⟩ := give_not hE
    obtain ⟨ge, hge⟩ : ∃ ge, ge = giveE L made x r := ⟨_, rfl⟩
    rw [e1, e2, e3, ← hge] at CG
    rw [← hge] at hE
    have hE2 : ((ge : Int) == 0) = false := by simpa using hE
    have hE3 : ¬ ((ge : Int) = 0) := by omega
    have HCG := aside CG
    clear CG e1 e2 e3 hge
    go_wp2_with fail
    refine HCG.out.mono ?_
    rintro e w5 ⟨rfl, hnx⟩
    have HR5 := aside (HRW.out.next hnx)
    clear hnx HCG
    go_wp2_with fail
    exact HK.out _ _ _ _ _ _ _ _ _ (by omega) HR5 hI _ _ _ _ _ _ _ _ _ _ _ _ _ _ _ _ _ _ _ _ _ _ _ _ _ _ _ _ _ _ _ _ _ _ _ _ _ _ _ _ _ _ _ _ _ _
end Go.Proofs.Ytleenkdlnmoepaa
