/- SpanReads: the region that holds the two objects against each other. -/
import Derived.Test.YtkekaljcbmkomaaReads
import Derived.Test.YtkekaljcbmkomaaLoose2
namespace Go.Proofs.Ytkekaljcbmkomaa
set_option linter.unusedVariables false
set_option linter.unusedSimpArgs false
open Go.RowKit

set_option maxHeartbeats 8000000 in
set_option maxRecDepth 1000000 in
theorem reads_28 (b1 b2 pw s2 : Nat) (lv2 lvt : Value) (L2 M2 : List Piece) (x1 x2 : Int) (w' wc : World)
    (T : Aside (Two w' wc ⟨b1, s2, lv2, L2⟩ ⟨b2, s2, lvt, M2⟩)) (k1 : wc.cell? ⟨pw, 1, none⟩ = some (.int .i64 x1)) (j1 : wc.cell? ⟨pw + 1, 1, none⟩ = some (.int .i64 x2))
    (K : Act → World → Prop) (Q0 : Exit → Act → World → Prop) (v0 v1 v2 v3 v4 v5 v8 v11 v12 v13 v14 v15 v16 v17 v18 v19 v20 v21 v22 v23 v24 v25 v26 v27 v28 v29 v30 v31 v32 v33 v34 v35 v36 v37 v38 v39 v40 v41 v42 v43 v44 v45 v46 v47 v48 v49 v50 v51 v52 v53 v54 v55 v56 v57 v58 v59 v60 v61 v62 v63 v64 v65 v66 v67 v68 v69 v70 v71 v72 v73 v74 v75 v76 v77 v78 v79 v80 v81 v82 v83 v84 v85 v86 v87 v88 v89 v90 v91 v92 v93 v94 v95 v96 v97 v98 v99 v100 v101 v102 v103 v104 v105 v106 v107 v108 v109 v110 v111 v112 v113 v114 v115 v116 v117 v118 v119 v120 v121 v122 v123 v124 v125 v126 v127 v128 v129 v130 v131 v132 v133 v134 v135 v136 v137 v138 v139 v140 v141 v142 v143 v144 v145 v146 v147 v148 v149 v150 v151 v152 v153 v154 v155 v156 v157 v158 v159 v160 v161 v162 v163 v164 v165 v166 v167 v168 v169 v170 v171 v172 v173 v174 v175 v176 v177 v178 v179 v180 v181 v182 v183 v184 v185 v186 v187 v188 v189 v190 v191 v192 v193 v194 v195 v196 v197 v198 v199 v200 v201 v202 v203 v204 v205 v206 v207 v208 v209 v210 v211 v212 v213 v214 v215 v216 v217 v218 v219 v220 v221 v222 v223 v224 v225 v226 v227 v228 v229 v230 v231 v232 v233 v234 v235 v236 v237 v238 v239 v240 v241 v242 v243 v244 v245 v246 v247 v248 v249 v250 v251 v252 v253 v254 v255 : Value)
    (hK : ∀ (bb : Bool) (wd : World), (ct L2 = ct M2 → bb = true) → Below wc.heap.size wc wd → ∀ (z201 z202 z203 z204 z205 z206 z207 z208 z209 z210 z211 z212 z213 z214 z215 z216 z217 z218 z219 z220 z221 z222 z223 z224 z225 z226 z227 z228 z229 z230 z231 z232 z233 z234 z235 z236 z237 z238 z239 z240 z241 z242 z243 z244 z245 z246 z247 : Value), K ⟨(v0 :: v1 :: v2 :: v3 :: v4 :: v5 :: .pointer (some ⟨pw, 0, none⟩) :: .pointer (some ⟨pw + 1, 0, none⟩) :: v8 :: .pointer (some ⟨b1, 0, none⟩) :: .pointer (some ⟨b2, 0, none⟩) :: v11 :: v12 :: v13 :: v14 :: v15 :: v16 :: v17 :: v18 :: v19 :: v20 :: .bool bb :: v22 :: v23 :: v24 :: v25 :: v26 :: v27 :: v28 :: v29 :: v30 :: v31 :: v32 :: v33 :: v34 :: v35 :: v36 :: v37 :: v38 :: v39 :: v40 :: v41 :: v42 :: v43 :: v44 :: v45 :: v46 :: v47 :: v48 :: v49 :: v50 :: v51 :: v52 :: v53 :: v54 :: v55 :: v56 :: v57 :: v58 :: v59 :: v60 :: v61 :: v62 :: v63 :: v64 :: v65 :: v66 :: v67 :: v68 :: v69 :: v70 :: v71 :: v72 :: v73 :: v74 :: v75 :: v76 :: v77 :: v78 :: v79 :: v80 :: v81 :: v82 :: v83 :: v84 :: v85 :: v86 :: v87 :: v88 :: v89 :: v90 :: v91 :: v92 :: v93 :: v94 :: v95 :: v96 :: v97 :: v98 :: v99 :: v100 :: v101 :: v102 :: v103 :: v104 :: v105 :: v106 :: v107 :: v108 :: v109 :: v110 :: v111 :: v112 :: v113 :: v114 :: v115 :: v116 :: v117 :: v118 :: v119 :: v120 :: v121 :: v122 :: v123 :: v124 :: v125 :: v126 :: v127 :: v128 :: v129 :: v130 :: v131 :: v132 :: v133 :: v134 :: v135 :: v136 :: v137 :: v138 :: v139 :: v140 :: v141 :: v142 :: v143 :: v144 :: v145 :: v146 :: v147 :: v148 :: v149 :: v150 :: v151 :: v152 :: v153 :: v154 :: v155 :: v156 :: v157 :: v158 :: v159 :: v160 :: v161 :: v162 :: v163 :: v164 :: v165 :: v166 :: v167 :: v168 :: v169 :: v170 :: v171 :: v172 :: v173 :: v174 :: v175 :: v176 :: v177 :: v178 :: v179 :: v180 :: v181 :: v182 :: v183 :: v184 :: v185 :: v186 :: v187 :: v188 :: v189 :: v190 :: v191 :: v192 :: v193 :: v194 :: v195 :: v196 :: v197 :: v198 :: v199 :: v200 :: z201 :: z202 :: z203 :: z204 :: z205 :: z206 :: z207 :: z208 :: z209 :: z210 :: z211 :: z212 :: z213 :: z214 :: z215 :: z216 :: z217 :: z218 :: z219 :: z220 :: z221 :: z222 :: z223 :: z224 :: z225 :: z226 :: z227 :: z228 :: z229 :: z230 :: z231 :: z232 :: z233 :: z234 :: z235 :: z236 :: z237 :: z238 :: z239 :: z240 :: z241 :: z242 :: z243 :: z244 :: z245 :: z246 :: z247 :: v248 :: v249 :: v250 :: v251 :: v252 :: v253 :: v254 :: v255 :: []).toArray, []⟩ wd) :
    Code.wp Try.prog (reads28 Try.f7) (Exit.then K Q0) ⟨(v0 :: v1 :: v2 :: v3 :: v4 :: v5 :: .pointer (some ⟨pw, 0, none⟩) :: .pointer (some ⟨pw + 1, 0, none⟩) :: v8 :: .pointer (some ⟨b1, 0, none⟩) :: .pointer (some ⟨b2, 0, none⟩) :: v11 :: v12 :: v13 :: v14 :: v15 :: v16 :: v17 :: v18 :: v19 :: v20 :: v21 :: v22 :: v23 :: v24 :: v25 :: v26 :: v27 :: v28 :: v29 :: v30 :: v31 :: v32 :: v33 :: v34 :: v35 :: v36 :: v37 :: v38 :: v39 :: v40 :: v41 :: v42 :: v43 :: v44 :: v45 :: v46 :: v47 :: v48 :: v49 :: v50 :: v51 :: v52 :: v53 :: v54 :: v55 :: v56 :: v57 :: v58 :: v59 :: v60 :: v61 :: v62 :: v63 :: v64 :: v65 :: v66 :: v67 :: v68 :: v69 :: v70 :: v71 :: v72 :: v73 :: v74 :: v75 :: v76 :: v77 :: v78 :: v79 :: v80 :: v81 :: v82 :: v83 :: v84 :: v85 :: v86 :: v87 :: v88 :: v89 :: v90 :: v91 :: v92 :: v93 :: v94 :: v95 :: v96 :: v97 :: v98 :: v99 :: v100 :: v101 :: v102 :: v103 :: v104 :: v105 :: v106 :: v107 :: v108 :: v109 :: v110 :: v111 :: v112 :: v113 :: v114 :: v115 :: v116 :: v117 :: v118 :: v119 :: v120 :: v121 :: v122 :: v123 :: v124 :: v125 :: v126 :: v127 :: v128 :: v129 :: v130 :: v131 :: v132 :: v133 :: v134 :: v135 :: v136 :: v137 :: v138 :: v139 :: v140 :: v141 :: v142 :: v143 :: v144 :: v145 :: v146 :: v147 :: v148 :: v149 :: v150 :: v151 :: v152 :: v153 :: v154 :: v155 :: v156 :: v157 :: v158 :: v159 :: v160 :: v161 :: v162 :: v163 :: v164 :: v165 :: v166 :: v167 :: v168 :: v169 :: v170 :: v171 :: v172 :: v173 :: v174 :: v175 :: v176 :: v177 :: v178 :: v179 :: v180 :: v181 :: v182 :: v183 :: v184 :: v185 :: v186 :: v187 :: v188 :: v189 :: v190 :: v191 :: v192 :: v193 :: v194 :: v195 :: v196 :: v197 :: v198 :: v199 :: v200 :: v201 :: v202 :: v203 :: v204 :: v205 :: v206 :: v207 :: v208 :: v209 :: v210 :: v211 :: v212 :: v213 :: v214 :: v215 :: v216 :: v217 :: v218 :: v219 :: v220 :: v221 :: v222 :: v223 :: v224 :: v225 :: v226 :: v227 :: v228 :: v229 :: v230 :: v231 :: v232 :: v233 :: v234 :: v235 :: v236 :: v237 :: v238 :: v239 :: v240 :: v241 :: v242 :: v243 :: v244 :: v245 :: v246 :: v247 :: v248 :: v249 :: v250 :: v251 :: v252 :: v253 :: v254 :: v255 :: []).toArray, []⟩ wc := by
  conv => arg 2; whnf
  have HK := aside hK
  obtain ⟨A3, hA3⟩ : ∃ A : ByteArray, A = ⟨(getL L2 s2 0 4000).toArray⟩ := ⟨_, rfl⟩
  obtain ⟨B3, hB3⟩ : ∃ A : ByteArray, A = ⟨(getL M2 s2 0 4000).toArray⟩ := ⟨_, rfl⟩
  obtain ⟨A4, hA4⟩ : ∃ A : ByteArray, A = ⟨(getL L2 s2 x1 1000).toArray⟩ := ⟨_, rfl⟩
  obtain ⟨B4, hB4⟩ : ∃ A : ByteArray, A = ⟨(getL M2 s2 x1 1000).toArray⟩ := ⟨_, rfl⟩
  obtain ⟨A5, hA5⟩ : ∃ A : ByteArray, A = ⟨(getL L2 s2 x2 1000).toArray⟩ := ⟨_, rfl⟩
  obtain ⟨B5, hB5⟩ : ∃ A : ByteArray, A = ⟨(getL M2 s2 x2 1000).toArray⟩ := ⟨_, rfl⟩
  have HA3 := aside hA3
  have HB3 := aside hB3
  have HA4 := aside hA4
  have HB4 := aside hB4
  have HA5 := aside hA5
  have HB5 := aside hB5
  have CT : Aside (ct L2 = ct M2 → heldOf L2 = heldOf M2 ∧ A3 = B3 ∧ A4 = B4 ∧ A5 = B5) := fun h => ⟨ct_held h, by rw [hA3, hB3, ct_get h], by rw [hA4, hB4, ct_get h], by rw [hA5, hB5, ct_get h]⟩
  have SZ1 := aside (fun W (hW : Below wc.heap.size wc W) => size_any b1 s2 lv2 L2 W (T.out.quiet hW).rs)
  have SZ2 := aside (fun W (hW : Below wc.heap.size wc W) => size_any b2 s2 lvt M2 W (T.out.quiet hW).rt)
  have HE1 := aside (fun W (hW : Below wc.heap.size wc W) => held_any b1 s2 lv2 L2 W (T.out.quiet hW).rs)
  have HE2 := aside (fun W (hW : Below wc.heap.size wc W) => held_any b2 s2 lvt M2 W (T.out.quiet hW).rt)
  have GE1 := aside (fun x n hn W (hW : Below wc.heap.size wc W) => get_all b1 s2 lv2 L2 x n W (T.out.quiet hW).rs hn)
  have GE2 := aside (fun x n hn W (hW : Below wc.heap.size wc W) => get_all b2 s2 lvt M2 x n W (T.out.quiet hW).rt hn)
  have xt := fun d os => ext_cell k1 d os
  have xj := fun d os => ext_cell j1 d os
  obtain ⟨h1, h1e⟩ : ∃ h : Nat, h = heldOf L2 := ⟨_, rfl⟩
  obtain ⟨h2, h2e⟩ : ∃ h : Nat, h = heldOf M2 := ⟨_, rfl⟩
  rw [← h1e] at HE1 CT
  rw [← h2e] at HE2 CT
  clear hA3 hB3 hA4 hB4 hA5 hB5 hK h1e h2e k1 j1
  have hcase : ((h1 : Int) == (h2 : Int)) = false ∨ (((h1 : Int) == (h2 : Int)) = true ∧ (A3.toList == B3.toList) = false) ∨ (((h1 : Int) == (h2 : Int)) = true ∧ (A3.toList == B3.toList) = true ∧ (A4.toList == B4.toList) = false) ∨
      (((h1 : Int) == (h2 : Int)) = true ∧ (A3.toList == B3.toList) = true ∧ (A4.toList == B4.toList) = true ∧ (A5.toList == B5.toList) = false) ∨ (((h1 : Int) == (h2 : Int)) = true ∧ (A3.toList == B3.toList) = true ∧ (A4.toList == B4.toList) = true ∧ (A5.toList == B5.toList) = true) := by
    cases ((h1 : Int) == (h2 : Int)) <;> cases (A3.toList == B3.toList) <;> cases (A4.toList == B4.toList) <;> cases (A5.toList == B5.toList) <;> simp
  rcases hcase with f2 | ⟨f2, f3⟩ | ⟨f2, f3, f4⟩ | ⟨f2, f3, f4, f5⟩ | ⟨f2, f3, f4, f5⟩
  all_goals refine region_loose [215, 218, 226, 231, 239, 244] Tok (by kernel_rfl) (by kernel_rfl) tok_grow tok_undef ?_
  all_goals repeat (first
    | (refine loose_quiet rfl (by kernel_rfl) (by kernel_rfl) rfl (fun K hK => ?_); go_big_quiet_op; refine hK _ ?_; clear hK K)
    | (refine loose_skip rfl ?_; simp only [Act.put, List.setIfInBounds_toArray, List.set_cons_succ, List.set_cons_zero])
    | (refine loose_fn (.int .i64 s2) 17 [.pointer (some ⟨b1, 0, none⟩)] rfl enter17 rfl (by kernel_rfl) rfl (fun W hW => (SZ1.out W hW).mono (by rintro e w7 ⟨rfl, rfl⟩; exact ⟨_, rfl, Below.refl _ _, rfl⟩)) ?_; simp only [Act.put, List.setIfInBounds_toArray, List.set_cons_succ, List.set_cons_zero])
    | (refine loose_fn (.int .i64 s2) 17 [.pointer (some ⟨b2, 0, none⟩)] rfl enter17 rfl (by kernel_rfl) rfl (fun W hW => (SZ2.out W hW).mono (by rintro e w7 ⟨rfl, rfl⟩; exact ⟨_, rfl, Below.refl _ _, rfl⟩)) ?_; simp only [Act.put, List.setIfInBounds_toArray, List.set_cons_succ, List.set_cons_zero])
    | (refine loose_fn (.int .i64 h1) 18 [.pointer (some ⟨b1, 0, none⟩)] rfl enter18 rfl (by kernel_rfl) rfl (fun W hW => (HE1.out W hW).mono (by rintro e w7 ⟨rfl, rfl⟩; exact ⟨_, rfl, Below.refl _ _, rfl⟩)) ?_; simp only [Act.put, List.setIfInBounds_toArray, List.set_cons_succ, List.set_cons_zero])
    | (refine loose_fn (.int .i64 h2) 18 [.pointer (some ⟨b2, 0, none⟩)] rfl enter18 rfl (by kernel_rfl) rfl (fun W hW => (HE2.out W hW).mono (by rintro e w7 ⟨rfl, rfl⟩; exact ⟨_, rfl, Below.refl _ _, rfl⟩)) ?_; simp only [Act.put, List.setIfInBounds_toArray, List.set_cons_succ, List.set_cons_zero])
    | (refine loose_fn (.string A3) 21 [.pointer (some ⟨b1, 0, none⟩), .int .i64 0, .int .i64 4000] rfl enter21 rfl (by kernel_rfl) rfl (fun W hW => (GE1.out 0 4000 (by decide) W hW).mono (by rintro e w7 ⟨a, c, rfl, -, hn, hb⟩; exact ⟨_, rfl, hb, tok_get HA3.out (by decide) hn.bs⟩)) ?_; simp only [Act.put, List.setIfInBounds_toArray, List.set_cons_succ, List.set_cons_zero])
    | (refine loose_fn (.string B3) 21 [.pointer (some ⟨b2, 0, none⟩), .int .i64 0, .int .i64 4000] rfl enter21 rfl (by kernel_rfl) rfl (fun W hW => (GE2.out 0 4000 (by decide) W hW).mono (by rintro e w7 ⟨a, c, rfl, -, hn, hb⟩; exact ⟨_, rfl, hb, tok_get HB3.out (by decide) hn.bs⟩)) ?_; simp only [Act.put, List.setIfInBounds_toArray, List.set_cons_succ, List.set_cons_zero])
    | (refine loose_fn (.string A4) 21 [.pointer (some ⟨b1, 0, none⟩), .int .i64 x1, .int .i64 1000] rfl enter21 rfl (by kernel_rfl) rfl (fun W hW => (GE1.out x1 1000 (by decide) W hW).mono (by rintro e w7 ⟨a, c, rfl, -, hn, hb⟩; exact ⟨_, rfl, hb, tok_get HA4.out (by decide) hn.bs⟩)) ?_; simp only [Act.put, List.setIfInBounds_toArray, List.set_cons_succ, List.set_cons_zero])
    | (refine loose_fn (.string B4) 21 [.pointer (some ⟨b2, 0, none⟩), .int .i64 x1, .int .i64 1000] rfl enter21 rfl (by kernel_rfl) rfl (fun W hW => (GE2.out x1 1000 (by decide) W hW).mono (by rintro e w7 ⟨a, c, rfl, -, hn, hb⟩; exact ⟨_, rfl, hb, tok_get HB4.out (by decide) hn.bs⟩)) ?_; simp only [Act.put, List.setIfInBounds_toArray, List.set_cons_succ, List.set_cons_zero])
    | (refine loose_fn (.string A5) 21 [.pointer (some ⟨b1, 0, none⟩), .int .i64 x2, .int .i64 1000] rfl enter21 rfl (by kernel_rfl) rfl (fun W hW => (GE1.out x2 1000 (by decide) W hW).mono (by rintro e w7 ⟨a, c, rfl, -, hn, hb⟩; exact ⟨_, rfl, hb, tok_get HA5.out (by decide) hn.bs⟩)) ?_; simp only [Act.put, List.setIfInBounds_toArray, List.set_cons_succ, List.set_cons_zero])
    | (refine loose_fn (.string B5) 21 [.pointer (some ⟨b2, 0, none⟩), .int .i64 x2, .int .i64 1000] rfl enter21 rfl (by kernel_rfl) rfl (fun W hW => (GE2.out x2 1000 (by decide) W hW).mono (by rintro e w7 ⟨a, c, rfl, -, hn, hb⟩; exact ⟨_, rfl, hb, tok_get HB5.out (by decide) hn.bs⟩)) ?_; simp only [Act.put, List.setIfInBounds_toArray, List.set_cons_succ, List.set_cons_zero])
    | (refine loose_conv 215 _ rfl (by decide) (by simp [Oper.looksAt, Op.operands]) (by kernel_rfl) HA3.out rfl rfl ?_; simp only [Act.put, List.setIfInBounds_toArray, List.set_cons_succ, List.set_cons_zero])
    | (refine loose_conv 218 _ rfl (by decide) (by simp [Oper.looksAt, Op.operands]) (by kernel_rfl) HB3.out rfl rfl ?_; simp only [Act.put, List.setIfInBounds_toArray, List.set_cons_succ, List.set_cons_zero])
    | (refine loose_conv 226 _ rfl (by decide) (by simp [Oper.looksAt, Op.operands]) (by kernel_rfl) HA4.out rfl rfl ?_; simp only [Act.put, List.setIfInBounds_toArray, List.set_cons_succ, List.set_cons_zero])
    | (refine loose_conv 231 _ rfl (by decide) (by simp [Oper.looksAt, Op.operands]) (by kernel_rfl) HB4.out rfl rfl ?_; simp only [Act.put, List.setIfInBounds_toArray, List.set_cons_succ, List.set_cons_zero])
    | (refine loose_conv 239 _ rfl (by decide) (by simp [Oper.looksAt, Op.operands]) (by kernel_rfl) HA5.out rfl rfl ?_; simp only [Act.put, List.setIfInBounds_toArray, List.set_cons_succ, List.set_cons_zero])
    | (refine loose_conv 244 _ rfl (by decide) (by simp [Oper.looksAt, Op.operands]) (by kernel_rfl) HB5.out rfl rfl ?_; simp only [Act.put, List.setIfInBounds_toArray, List.set_cons_succ, List.set_cons_zero]))
  all_goals refine loose_nil ?_
  all_goals intro wd ρ hb
  all_goals simp only [fill, Act.put, List.setIfInBounds_toArray, List.set_cons_succ, List.set_cons_zero]
  · exact HK.out false wd (fun h => by simp [(CT.out h).1] at f2) hb _ _ _ _ _ _ _ _ _ _ _ _ _ _ _ _ _ _ _ _ _ _ _ _ _ _ _ _ _ _ _ _ _ _ _ _ _ _ _ _ _ _ _ _ _ _ _
  · exact HK.out false wd (fun h => by simp [(CT.out h).2.1] at f3) hb _ _ _ _ _ _ _ _ _ _ _ _ _ _ _ _ _ _ _ _ _ _ _ _ _ _ _ _ _ _ _ _ _ _ _ _ _ _ _ _ _ _ _ _ _ _ _
  · exact HK.out false wd (fun h => by simp [(CT.out h).2.2.1] at f4) hb _ _ _ _ _ _ _ _ _ _ _ _ _ _ _ _ _ _ _ _ _ _ _ _ _ _ _ _ _ _ _ _ _ _ _ _ _ _ _ _ _ _ _ _ _ _ _
  · exact HK.out false wd (fun h => by simp [(CT.out h).2.2.2] at f5) hb _ _ _ _ _ _ _ _ _ _ _ _ _ _ _ _ _ _ _ _ _ _ _ _ _ _ _ _ _ _ _ _ _ _ _ _ _ _ _ _ _ _ _ _ _ _ _
  · exact HK.out true wd (fun _ => rfl) hb _ _ _ _ _ _ _ _ _ _ _ _ _ _ _ _ _ _ _ _ _ _ _ _ _ _ _ _ _ _ _ _ _ _ _ _ _ _ _ _ _ _ _ _ _ _ _
end Go.Proofs.Ytkekaljcbmkomaa
