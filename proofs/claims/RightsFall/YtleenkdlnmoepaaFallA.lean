/- RightsFall: a step that takes back. -/
import Derived.Test.YtleenkdlnmoepaaFallP
import Derived.Deep.CutBlock
import Derived.Deep.CutRange
import Derived.Deep.DeepCutAuto
namespace Go.Proofs.Ytleenkdlnmoepaa
open Go.RowKit Go.MapLit Go.ChangeMaps

set_option maxRecDepth 1000000 in
set_option maxHeartbeats 8000000 in
theorem fall_back (w2 W : World) (p mb made bx : Nat) (L : List Gr) (Of : List Int) (Al : List Bool) (oa : Option Addr) (oc : Nat) (aa : Option Addr) (ac : Nat)
    (s : Sp) (HRW : Aside (FR w2 W ⟨p, mb, made, L⟩ made Of Al oa oc aa ac)) (hI : Aside (FI L made Of Al)) (HBX : Aside (W.heap[bx]? = some (.cells #[.int .i8 s.d, .int .i64 s.id, .int .u8 (s.r : Int), .int .i64 s.g, .int .i8 s.od, .int .i64 s.ot, .int .i64 s.n, .slice s.ba s.bn s.bc] 45 (0, 0)))) (HOK : Aside (SpOk s)) (hmm : made ≤ 302)
    (Q : Exit → Act → World → Prop) (v0 v1 v2 v6 v8 v9 v10 v11 v12 v13 v14 v15 v16 v17 v18 v19 v20 v21 v22 v23 v24 v25 v26 v27 v28 v29 v30 v31 v32 v33 v34 v35 v36 v37 v38 v39 v40 v41 v42 v43 v44 v45 v46 v47 v48 v49 v50 v51 v52 v53 v54 v55 v56 v57 v58 v59 v60 v61 v62 v63 v64 v65 v66 v67 v68 v69 v70 v71 v72 v73 v74 v75 v76 v77 v78 v79 v80 v81 v82 v83 v84 v85 v86 v87 v88 v89 v90 v91 v92 v93 v94 v95 v96 v97 v98 v99 v100 v101 v102 v103 v104 v105 v106 v107 v108 v109 v110 v111 v112 v113 v114 v115 v116 v117 v118 v119 v120 v121 v122 v123 v124 v125 v126 v127 v128 v129 v130 v131 v132 v133 v134 v135 v136 v137 v138 v139 v140 v141 v142 v143 v144 v145 v146 v147 v148 v149 v150 v151 v152 v153 v154 v155 v156 v157 v158 v159 v160 v161 v162 v163 v164 v165 v166 v167 v168 v169 v170 v171 v172 v173 v174 v175 v176 v177 v178 v179 v180 v181 v182 v183 v184 v185 v186 v187 v188 v189 v190 v191 v192 v193 v194 v195 v196 v197 v198 v199 v200 v201 v202 v203 v204 v205 v206 v207 v208 v209 v210 v211 v212 v213 v214 v215 v216 v217 v218 v219 v220 v221 v222 v223 v224 : Value)
    (hK : ∀ (wc : World) (L' : List Gr) (Al' : List Bool), Aside (FR w2 wc ⟨p, mb, made, L'⟩ made Of Al' oa oc aa ac) → Aside (FI L' made Of Al') → ∀ (z2 z8 z9 z10 z11 z13 z38 z39 z40 z41 z42 z43 z44 z45 z46 z47 z48 z49 z50 z51 z52 z53 z54 z55 z56 z57 z58 z59 z60 z61 z62 z63 z64 z65 z66 z67 z68 z69 z70 z71 z72 z73 z74 z75 z76 z77 z78 z79 z80 z81 z82 z83 z84 z85 z86 z87 z88 z89 z90 z91 z92 z93 z94 z95 z96 z97 z98 z99 z100 z101 z102 z103 z104 z105 z106 z107 z108 z109 z110 z111 z112 z113 z114 z115 z116 z117 z118 z119 z120 : Value), Q .normal ⟨(v0 :: v1 :: z2 :: pt p :: .slice oa made oc :: .slice aa made ac :: v6 :: pt bx :: z8 :: z9 :: z10 :: z11 :: v12 :: z13 :: v14 :: v15 :: v16 :: v17 :: v18 :: v19 :: v20 :: v21 :: v22 :: v23 :: v24 :: v25 :: v26 :: v27 :: v28 :: v29 :: v30 :: v31 :: v32 :: v33 :: v34 :: v35 :: v36 :: v37 :: z38 :: z39 :: z40 :: z41 :: z42 :: z43 :: z44 :: z45 :: z46 :: z47 :: z48 :: z49 :: z50 :: z51 :: z52 :: z53 :: z54 :: z55 :: z56 :: z57 :: z58 :: z59 :: z60 :: z61 :: z62 :: z63 :: z64 :: z65 :: z66 :: z67 :: z68 :: z69 :: z70 :: z71 :: z72 :: z73 :: z74 :: z75 :: z76 :: z77 :: z78 :: z79 :: z80 :: z81 :: z82 :: z83 :: z84 :: z85 :: z86 :: z87 :: z88 :: z89 :: z90 :: z91 :: z92 :: z93 :: z94 :: z95 :: z96 :: z97 :: z98 :: z99 :: z100 :: z101 :: z102 :: z103 :: z104 :: z105 :: z106 :: z107 :: z108 :: z109 :: z110 :: z111 :: z112 :: z113 :: z114 :: z115 :: z116 :: z117 :: z118 :: z119 :: z120 :: v121 :: v122 :: v123 :: v124 :: v125 :: v126 :: v127 :: v128 :: v129 :: v130 :: v131 :: v132 :: v133 :: v134 :: v135 :: v136 :: v137 :: v138 :: v139 :: v140 :: v141 :: v142 :: v143 :: v144 :: v145 :: v146 :: v147 :: v148 :: v149 :: v150 :: v151 :: v152 :: v153 :: v154 :: v155 :: v156 :: v157 :: v158 :: v159 :: v160 :: v161 :: v162 :: v163 :: v164 :: v165 :: v166 :: v167 :: v168 :: v169 :: v170 :: v171 :: v172 :: v173 :: v174 :: v175 :: v176 :: v177 :: v178 :: v179 :: v180 :: v181 :: v182 :: v183 :: v184 :: v185 :: v186 :: v187 :: v188 :: v189 :: v190 :: v191 :: v192 :: v193 :: v194 :: v195 :: v196 :: v197 :: v198 :: v199 :: v200 :: v201 :: v202 :: v203 :: v204 :: v205 :: v206 :: v207 :: v208 :: v209 :: v210 :: v211 :: v212 :: v213 :: v214 :: v215 :: v216 :: v217 :: v218 :: v219 :: v220 :: v221 :: v222 :: v223 :: v224 :: []).toArray, []⟩ wc) :
    Code.wp Try.prog (piece 11 Try.f4) Q ⟨(v0 :: v1 :: v2 :: pt p :: .slice oa made oc :: .slice aa made ac :: v6 :: pt bx :: v8 :: v9 :: v10 :: v11 :: v12 :: v13 :: v14 :: v15 :: v16 :: v17 :: v18 :: v19 :: v20 :: v21 :: v22 :: v23 :: v24 :: v25 :: v26 :: v27 :: v28 :: v29 :: v30 :: v31 :: v32 :: v33 :: v34 :: v35 :: v36 :: v37 :: v38 :: v39 :: v40 :: v41 :: v42 :: v43 :: v44 :: v45 :: v46 :: v47 :: v48 :: v49 :: v50 :: v51 :: v52 :: v53 :: v54 :: v55 :: v56 :: v57 :: v58 :: v59 :: v60 :: v61 :: v62 :: v63 :: v64 :: v65 :: v66 :: v67 :: v68 :: v69 :: v70 :: v71 :: v72 :: v73 :: v74 :: v75 :: v76 :: v77 :: v78 :: v79 :: v80 :: v81 :: v82 :: v83 :: v84 :: v85 :: v86 :: v87 :: v88 :: v89 :: v90 :: v91 :: v92 :: v93 :: v94 :: v95 :: v96 :: v97 :: v98 :: v99 :: v100 :: v101 :: v102 :: v103 :: v104 :: v105 :: v106 :: v107 :: v108 :: v109 :: v110 :: v111 :: v112 :: v113 :: v114 :: v115 :: v116 :: v117 :: v118 :: v119 :: v120 :: v121 :: v122 :: v123 :: v124 :: v125 :: v126 :: v127 :: v128 :: v129 :: v130 :: v131 :: v132 :: v133 :: v134 :: v135 :: v136 :: v137 :: v138 :: v139 :: v140 :: v141 :: v142 :: v143 :: v144 :: v145 :: v146 :: v147 :: v148 :: v149 :: v150 :: v151 :: v152 :: v153 :: v154 :: v155 :: v156 :: v157 :: v158 :: v159 :: v160 :: v161 :: v162 :: v163 :: v164 :: v165 :: v166 :: v167 :: v168 :: v169 :: v170 :: v171 :: v172 :: v173 :: v174 :: v175 :: v176 :: v177 :: v178 :: v179 :: v180 :: v181 :: v182 :: v183 :: v184 :: v185 :: v186 :: v187 :: v188 :: v189 :: v190 :: v191 :: v192 :: v193 :: v194 :: v195 :: v196 :: v197 :: v198 :: v199 :: v200 :: v201 :: v202 :: v203 :: v204 :: v205 :: v206 :: v207 :: v208 :: v209 :: v210 :: v211 :: v212 :: v213 :: v214 :: v215 :: v216 :: v217 :: v218 :: v219 :: v220 :: v221 :: v222 :: v223 :: v224 :: []).toArray, []⟩ W := by
  conv => arg 2; whnf
  have HK := aside hK
  clear hK
  have b1 : W.cell? ⟨bx, 1, none⟩ = some (.int .i64 s.id) := by rw [cell_of_row W _ 1 _ _ _ HBX.out]; rfl
  obtain ⟨x, hx⟩ : ∃ x, x = s.id := ⟨_, rfl⟩
  have hwx := HOK.out.w
  rw [← hx] at b1 hwx HBX
  obtain ⟨D, hD⟩ : ∃ D, D = belowL L made x := ⟨_, rfl⟩
  have HD := aside hD
  have hDl : D.length ≤ made := by rw [hD]; exact below_len x
  obtain ⟨isb, hisb⟩ : ∃ isb : Bool, isb = decide (backE L x = 0) := ⟨_, rfl⟩
  have HIS := aside hisb
  have CB : Aside (∀ V : World, Below W.heap.size W V → Calls Try.prog 13 #[pt p, .int .i64 x] V fun e w' => ∃ sa n c, e = .returned (.slice sa n c) ∧ OwnI w' (.slice sa n c) D ∧ Below V.heap.size V w') := fun V hV => by
    refine (below_any ⟨p, mb, made, L⟩ x V (HRW.out.below hV).st.bk hwx).mono ?_
    rintro e w' ⟨sa, n, c, rfl, h1, h2, -⟩
    exact ⟨sa, n, c, rfl, by rw [hD]; exact h1, h2⟩
  clear hx hD hisb
  go_upto_region 11 with fail
  go_cut [8, 9] from 38 to 58 (fun s8 s9 wc => ∃ (sa : Option Addr) (n c : Nat), s8 = .slice sa n c ∧ s9 = .bool isb ∧ Aside (OwnI wc (.slice sa n c) D ∧ Below W.heap.size W wc))
  case first =>
    have d1 : W.drew.cell? ⟨bx, 1, none⟩ = some (.int .i64 x) := b1
    by_cases h0 : 0 < x
    · by_cases h1 : x < (made : Int)
      · obtain ⟨xn, rfl⟩ : ∃ xn : Nat, x = (xn : Int) := ⟨x.toNat, by omega⟩
        have hal := hI.out.al xn (by omega)
        obtain rfl : isb = (lk L (xn : Int)).isSome := by
          rw [HIS.out]; unfold backE; rw [if_neg (by omega)]
          cases (lk L (xn : Int)).isSome <;> rfl
        obtain ⟨isb, hisb⟩ : ∃ isb : Bool, isb = (lk L (xn : Int)).isSome := ⟨_, rfl⟩
        rw [← hisb] at hal
        have HEQ := aside hisb
        obtain ⟨ga, rfl, ca, -⟩ := HRW.out.atA hal
        have e1 : W.drew.cell? ⟨ga, xn, none⟩ = some (.bool isb) := ca
        have hg0 : decide (0 < xn) = true := by simp; omega
        have hg1 : decide (xn < made) = true := by simp; omega
        clear hal hisb
        go_region_held3 (fun w' => w'.cell? ⟨bx, 1, none⟩ = some (.int .i64 (xn : Int)) ∧ w'.cell? ⟨ga, xn, none⟩ = some (.bool isb)) (go_keep) ((go_at_call 13; with_reducible refine (CB.out _ (below_dr W)).mono ?_; rintro e w5 ⟨sa, n, c, rfl, ho, hb5⟩; have q1 : w5.cell? ⟨bx, 1, none⟩ = some (.int .i64 (xn : Int)) := ((below_tr (below_dr W) hb5).cell (World.block_lt_of_cell? W _ b1)).trans b1; have q2 : w5.cell? ⟨ga, xn, none⟩ = some (.bool isb) := ((below_tr (below_dr W) hb5).cell (World.block_lt_of_cell? W _ ca)).trans ca; have HO5 := aside ho; have HB5 := aside (below_tr (below_dr W) hb5); clear ho hb5))
        go_wp2_with fail
        go_meet
        case rel => exact ⟨sa, n, c, rfl, by rw [HEQ.out], aside ⟨HO5.out, HB5.out⟩⟩
      · have hln : lk L x = none := by
          cases hl : lk L x with
          | none => rfl
          | some y => have := lk_lt (L := L) (made := made) HRW.out.st.bk.inv hl; omega
        obtain rfl : isb = false := by
          rw [HIS.out]; unfold backE; rw [if_neg (by omega), hln]; rfl
        have hg0 : decide (0 < x) = true := by simpa using h0
        have hg1 : decide (x < (made : Int)) = false := by simpa using h1
        clear hln
        refine wp_region_noPanic ?_
        refine wp_region_held_drew (S := fun w' => w'.cell? ⟨bx, 1, none⟩ = some (.int .i64 x)) (by kernel_rfl) d1 (fun hHeld => ?_)
        refine wpAnyH_take (i := 0) (v := pt p) rfl (by kernel_rfl) (by kernel_rfl) (by kernel_rfl) (fun _ _ _ h => h) (Or.inl ⟨by rfl, by intro w hSw; (try dsimp only at hSw); go_simp⟩) hHeld ?_
        try simp only [Act.put, List.getElem_toArray, List.getElem_cons_zero, List.setIfInBounds_toArray, List.set_cons_succ, List.set_cons_zero]
        refine wpAnyH_take (i := 1) (v := .pointer (some ⟨bx, 1, none⟩)) rfl (by kernel_rfl) (by kernel_rfl) (by kernel_rfl) (fun _ _ _ h => h) (Or.inl ⟨by rfl, by intro w hSw; (try dsimp only at hSw); go_simp⟩) hHeld ?_
        try simp only [Act.put, List.getElem_toArray, List.getElem_cons_succ, List.getElem_cons_zero, List.setIfInBounds_toArray, List.set_cons_succ, List.set_cons_zero]
        refine wpAnyH_take (i := 2) (v := .int .i64 x) rfl (by kernel_rfl) (by kernel_rfl) (by kernel_rfl) (fun _ _ _ h => h) (Or.inl ⟨by rfl, by intro w hSw; (try dsimp only at hSw); go_simp⟩) hHeld ?_
        try simp only [Act.put, List.getElem_toArray, List.getElem_cons_succ, List.getElem_cons_zero, List.setIfInBounds_toArray, List.set_cons_succ, List.set_cons_zero]
        refine wpAnyH_take (i := 4) (v := .pointer (some ⟨bx, 1, none⟩)) rfl (by kernel_rfl) (by kernel_rfl) (by kernel_rfl) (fun _ _ _ h => h) (Or.inl ⟨by rfl, by intro w hSw; (try dsimp only at hSw); go_simp⟩) hHeld ?_
        try simp only [Act.put, List.getElem_toArray, List.getElem_cons_succ, List.getElem_cons_zero, List.setIfInBounds_toArray, List.set_cons_succ, List.set_cons_zero]
        refine wpAnyH_take (i := 5) (v := .int .i64 x) rfl (by kernel_rfl) (by kernel_rfl) (by kernel_rfl) (fun _ _ _ h => h) (Or.inl ⟨by rfl, by intro w hSw; (try dsimp only at hSw); go_simp⟩) hHeld ?_
        try simp only [Act.put, List.getElem_toArray, List.getElem_cons_succ, List.getElem_cons_zero, List.setIfInBounds_toArray, List.set_cons_succ, List.set_cons_zero]
        refine wpAnyH_take (i := 6) (v := .bool true) rfl (by kernel_rfl) (by kernel_rfl) (by kernel_rfl) (fun _ _ _ h => h) (Or.inl ⟨by rfl, by intro w hSw; (try dsimp only at hSw); go_simp⟩) hHeld ?_
        try simp only [Act.put, List.getElem_toArray, List.getElem_cons_succ, List.getElem_cons_zero, List.setIfInBounds_toArray, List.set_cons_succ, List.set_cons_zero]
        refine wpAnyH_ready (rs := [3]) (by kernel_rfl) (by simp) ?_
        refine AllReadyH.cons rfl (fun K hK => ?_) AllReadyH.nil
        go_simp
        refine (CB.out _ (below_dr W)).mono ?_
        rintro e w5 ⟨sa, n, c, rfl, ho, hb5⟩
        have q1 : w5.cell? ⟨bx, 1, none⟩ = some (.int .i64 x) := ((below_tr (below_dr W) hb5).cell (World.block_lt_of_cell? W _ b1)).trans b1
        have HO5 := aside ho
        have HB5 := aside (below_tr (below_dr W) hb5)
        clear ho hb5 hHeld
        refine hK.out _ _ q1 (fun hHeld => ?_)
        clear hK K
        try simp only [Act.put, List.getElem_toArray, List.getElem_cons_succ, List.getElem_cons_zero, List.setIfInBounds_toArray, List.set_cons_succ, List.set_cons_zero]
        refine wpAnyH_take (i := 7) (v := .bool true) rfl (by kernel_rfl) (by kernel_rfl) (by kernel_rfl) (fun _ _ _ h => h) (Or.inl ⟨by rfl, by intro w hSw; (try dsimp only at hSw); go_simp⟩) hHeld ?_
        try simp only [Act.put, List.getElem_toArray, List.getElem_cons_succ, List.getElem_cons_zero, List.setIfInBounds_toArray, List.set_cons_succ, List.set_cons_zero]
        refine wpAnyH_take (i := 8) (v := .pointer (some ⟨bx, 1, none⟩)) rfl (by kernel_rfl) (by kernel_rfl) (by kernel_rfl) (fun _ _ _ h => h) (Or.inl ⟨by rfl, by intro w hSw; (try dsimp only at hSw); go_simp⟩) hHeld ?_
        try simp only [Act.put, List.getElem_toArray, List.getElem_cons_succ, List.getElem_cons_zero, List.setIfInBounds_toArray, List.set_cons_succ, List.set_cons_zero]
        refine wpAnyH_take (i := 9) (v := .int .i64 x) rfl (by kernel_rfl) (by kernel_rfl) (by kernel_rfl) (fun _ _ _ h => h) (Or.inl ⟨by rfl, by intro w hSw; (try dsimp only at hSw); go_simp⟩) hHeld ?_
        try simp only [Act.put, List.getElem_toArray, List.getElem_cons_succ, List.getElem_cons_zero, List.setIfInBounds_toArray, List.set_cons_succ, List.set_cons_zero]
        refine wpAnyH_take (i := 10) (v := .slice oa made oc) rfl (by kernel_rfl) (by kernel_rfl) (by kernel_rfl) (fun _ _ _ h => h) (Or.inl ⟨by rfl, by intro w hSw; (try dsimp only at hSw); go_simp⟩) hHeld ?_
        try simp only [Act.put, List.getElem_toArray, List.getElem_cons_succ, List.getElem_cons_zero, List.setIfInBounds_toArray, List.set_cons_succ, List.set_cons_zero]
        refine wpAnyH_take (i := 11) (v := .int .i64 (made : Int)) rfl (by kernel_rfl) (by kernel_rfl) (by kernel_rfl) (fun _ _ _ h => h) (Or.inl ⟨by rfl, by intro w hSw; (try dsimp only at hSw); go_simp⟩) hHeld ?_
        try simp only [Act.put, List.getElem_toArray, List.getElem_cons_succ, List.getElem_cons_zero, List.setIfInBounds_toArray, List.set_cons_succ, List.set_cons_zero]
        refine wpAnyH_take (i := 12) (v := .bool false) rfl (by kernel_rfl) (by kernel_rfl) (by kernel_rfl) (fun _ _ _ h => h) (Or.inl ⟨by rfl, by intro w hSw; (try dsimp only at hSw); go_simp⟩) hHeld ?_
        try simp only [Act.put, List.getElem_toArray, List.getElem_cons_succ, List.getElem_cons_zero, List.setIfInBounds_toArray, List.set_cons_succ, List.set_cons_zero]
        refine wpAnyH_take (i := 13) (v := .bool false) rfl (by kernel_rfl) (by kernel_rfl) (by kernel_rfl) (fun _ _ _ h => h) (Or.inl ⟨by rfl, by intro w hSw; (try dsimp only at hSw); go_simp⟩) hHeld ?_
        try simp only [Act.put, List.getElem_toArray, List.getElem_cons_succ, List.getElem_cons_zero, List.setIfInBounds_toArray, List.set_cons_succ, List.set_cons_zero]
        refine wpAnyH_take (i := 14) (v := .bool false) rfl (by kernel_rfl) (by kernel_rfl) (by kernel_rfl) (fun _ _ _ h => h) (Or.inl ⟨by rfl, by intro w hSw; (try dsimp only at hSw); go_simp⟩) hHeld ?_
        try simp only [Act.put, List.getElem_toArray, List.getElem_cons_succ, List.getElem_cons_zero, List.setIfInBounds_toArray, List.set_cons_succ, List.set_cons_zero]
        refine wpAnyH_take (i := 15) (v := undef) rfl (by kernel_rfl) (by kernel_rfl) (by kernel_rfl) (fun _ _ _ h => h) (Or.inr ⟨by rfl, rfl⟩) hHeld ?_
        try simp only [Act.put, List.getElem_toArray, List.getElem_cons_succ, List.getElem_cons_zero, List.setIfInBounds_toArray, List.set_cons_succ, List.set_cons_zero]
        refine wpAnyH_take (i := 16) (v := undef) rfl (by kernel_rfl) (by kernel_rfl) (by kernel_rfl) (fun _ _ _ h => h) (Or.inr ⟨by rfl, rfl⟩) hHeld ?_
        try simp only [Act.put, List.getElem_toArray, List.getElem_cons_succ, List.getElem_cons_zero, List.setIfInBounds_toArray, List.set_cons_succ, List.set_cons_zero]
        refine wpAnyH_take (i := 17) (v := undef) rfl (by kernel_rfl) (by kernel_rfl) (by kernel_rfl) (fun _ _ _ h => h) (Or.inr ⟨by rfl, rfl⟩) hHeld ?_
        try simp only [Act.put, List.getElem_toArray, List.getElem_cons_succ, List.getElem_cons_zero, List.setIfInBounds_toArray, List.set_cons_succ, List.set_cons_zero]
        refine wpAnyH_take (i := 18) (v := undef) rfl (by kernel_rfl) (by kernel_rfl) (by kernel_rfl) (fun _ _ _ h => h) (Or.inr ⟨by rfl, rfl⟩) hHeld ?_
        try simp only [Act.put, List.getElem_toArray, List.getElem_cons_succ, List.getElem_cons_zero, List.setIfInBounds_toArray, List.set_cons_succ, List.set_cons_zero]
        refine wpAnyH_take (i := 19) (v := undef) rfl (by kernel_rfl) (by kernel_rfl) (by kernel_rfl) (fun _ _ _ h => h) (Or.inr ⟨by rfl, rfl⟩) hHeld ?_
        try simp only [Act.put, List.getElem_toArray, List.getElem_cons_succ, List.getElem_cons_zero, List.setIfInBounds_toArray, List.set_cons_succ, List.set_cons_zero]
        refine wpAnyH_take (i := 20) (v := .bool false) rfl (by kernel_rfl) (by kernel_rfl) (by kernel_rfl) (fun _ _ _ h => h) (Or.inl ⟨by rfl, by intro w hSw; (try dsimp only at hSw); go_simp⟩) hHeld ?_
        try simp only [Act.put, List.getElem_toArray, List.getElem_cons_succ, List.getElem_cons_zero, List.setIfInBounds_toArray, List.set_cons_succ, List.set_cons_zero]
        refine wpAnyH_take (i := 21) (v := .slice sa n c) rfl (by kernel_rfl) (by kernel_rfl) (by kernel_rfl) (fun _ _ _ h => h) (Or.inl ⟨by rfl, by intro w hSw; (try dsimp only at hSw); go_simp⟩) hHeld ?_
        try simp only [Act.put, List.getElem_toArray, List.getElem_cons_succ, List.getElem_cons_zero, List.setIfInBounds_toArray, List.set_cons_succ, List.set_cons_zero]
        refine wpAnyH_take (i := 22) (v := .bool false) rfl (by kernel_rfl) (by kernel_rfl) (by kernel_rfl) (fun _ _ _ h => h) (Or.inl ⟨by rfl, by intro w hSw; (try dsimp only at hSw); go_simp⟩) hHeld ?_
        try simp only [Act.put, List.getElem_toArray, List.getElem_cons_succ, List.getElem_cons_zero, List.setIfInBounds_toArray, List.set_cons_succ, List.set_cons_zero]
        refine wpAnyH_done (by kernel_rfl) ?_ _
        refine NoPanic.normal ?_
        go_wp2_with fail
        go_meet
        case rel => exact ⟨sa, n, c, rfl, rfl, aside ⟨HO5.out, HB5.out⟩⟩
    · have hE : ¬ backE L x = 0 := by
        unfold backE
        by_cases hx0 : x = 0
        · rw [if_pos hx0]; decide
        · rw [if_neg hx0]
          cases hl : lk L x with
          | none => decide
          | some y => have := lk_lt (L := L) (made := made) HRW.out.st.bk.inv hl; omega
      obtain rfl : isb = false := by rw [HIS.out]; simpa using hE
      have hg0 : decide (0 < x) = false := by simpa using h0
      clear hE
      refine wp_region_noPanic ?_
      refine wp_region_held_drew (S := fun w' => w'.cell? ⟨bx, 1, none⟩ = some (.int .i64 x)) (by kernel_rfl) d1 (fun hHeld => ?_)
      refine wpAnyH_take (i := 0) (v := pt p) rfl (by kernel_rfl) (by kernel_rfl) (by kernel_rfl) (fun _ _ _ h => h) (Or.inl ⟨by rfl, by intro w hSw; (try dsimp only at hSw); go_simp⟩) hHeld ?_
      try simp only [Act.put, List.getElem_toArray, List.getElem_cons_zero, List.setIfInBounds_toArray, List.set_cons_succ, List.set_cons_zero]
      refine wpAnyH_take (i := 1) (v := .pointer (some ⟨bx, 1, none⟩)) rfl (by kernel_rfl) (by kernel_rfl) (by kernel_rfl) (fun _ _ _ h => h) (Or.inl ⟨by rfl, by intro w hSw; (try dsimp only at hSw); go_simp⟩) hHeld ?_
      try simp only [Act.put, List.getElem_toArray, List.getElem_cons_succ, List.getElem_cons_zero, List.setIfInBounds_toArray, List.set_cons_succ, List.set_cons_zero]
      refine wpAnyH_take (i := 2) (v := .int .i64 x) rfl (by kernel_rfl) (by kernel_rfl) (by kernel_rfl) (fun _ _ _ h => h) (Or.inl ⟨by rfl, by intro w hSw; (try dsimp only at hSw); go_simp⟩) hHeld ?_
      try simp only [Act.put, List.getElem_toArray, List.getElem_cons_succ, List.getElem_cons_zero, List.setIfInBounds_toArray, List.set_cons_succ, List.set_cons_zero]
      refine wpAnyH_take (i := 4) (v := .pointer (some ⟨bx, 1, none⟩)) rfl (by kernel_rfl) (by kernel_rfl) (by kernel_rfl) (fun _ _ _ h => h) (Or.inl ⟨by rfl, by intro w hSw; (try dsimp only at hSw); go_simp⟩) hHeld ?_
      try simp only [Act.put, List.getElem_toArray, List.getElem_cons_succ, List.getElem_cons_zero, List.setIfInBounds_toArray, List.set_cons_succ, List.set_cons_zero]
      refine wpAnyH_take (i := 5) (v := .int .i64 x) rfl (by kernel_rfl) (by kernel_rfl) (by kernel_rfl) (fun _ _ _ h => h) (Or.inl ⟨by rfl, by intro w hSw; (try dsimp only at hSw); go_simp⟩) hHeld ?_
      try simp only [Act.put, List.getElem_toArray, List.getElem_cons_succ, List.getElem_cons_zero, List.setIfInBounds_toArray, List.set_cons_succ, List.set_cons_zero]
      refine wpAnyH_take (i := 6) (v := .bool false) rfl (by kernel_rfl) (by kernel_rfl) (by kernel_rfl) (fun _ _ _ h => h) (Or.inl ⟨by rfl, by intro w hSw; (try dsimp only at hSw); go_simp⟩) hHeld ?_
      try simp only [Act.put, List.getElem_toArray, List.getElem_cons_succ, List.getElem_cons_zero, List.setIfInBounds_toArray, List.set_cons_succ, List.set_cons_zero]
      refine wpAnyH_ready (rs := [3]) (by kernel_rfl) (by simp) ?_
      refine AllReadyH.cons rfl (fun K hK => ?_) AllReadyH.nil
      go_simp
      refine (CB.out _ (below_dr W)).mono ?_
      rintro e w5 ⟨sa, n, c, rfl, ho, hb5⟩
      have q1 : w5.cell? ⟨bx, 1, none⟩ = some (.int .i64 x) := ((below_tr (below_dr W) hb5).cell (World.block_lt_of_cell? W _ b1)).trans b1
      have HO5 := aside ho
      have HB5 := aside (below_tr (below_dr W) hb5)
      clear ho hb5 hHeld
      refine hK.out _ _ q1 (fun hHeld => ?_)
      clear hK K
      try simp only [Act.put, List.getElem_toArray, List.getElem_cons_succ, List.getElem_cons_zero, List.setIfInBounds_toArray, List.set_cons_succ, List.set_cons_zero]
      refine wpAnyH_take (i := 7) (v := .bool false) rfl (by kernel_rfl) (by kernel_rfl) (by kernel_rfl) (fun _ _ _ h => h) (Or.inl ⟨by rfl, by intro w hSw; (try dsimp only at hSw); go_simp⟩) hHeld ?_
      try simp only [Act.put, List.getElem_toArray, List.getElem_cons_succ, List.getElem_cons_zero, List.setIfInBounds_toArray, List.set_cons_succ, List.set_cons_zero]
      refine wpAnyH_take (i := 8) (v := undef) rfl (by kernel_rfl) (by kernel_rfl) (by kernel_rfl) (fun _ _ _ h => h) (Or.inr ⟨by rfl, rfl⟩) hHeld ?_
      try simp only [Act.put, List.getElem_toArray, List.getElem_cons_succ, List.getElem_cons_zero, List.setIfInBounds_toArray, List.set_cons_succ, List.set_cons_zero]
      refine wpAnyH_take (i := 9) (v := undef) rfl (by kernel_rfl) (by kernel_rfl) (by kernel_rfl) (fun _ _ _ h => h) (Or.inr ⟨by rfl, rfl⟩) hHeld ?_
      try simp only [Act.put, List.getElem_toArray, List.getElem_cons_succ, List.getElem_cons_zero, List.setIfInBounds_toArray, List.set_cons_succ, List.set_cons_zero]
      refine wpAnyH_take (i := 10) (v := undef) rfl (by kernel_rfl) (by kernel_rfl) (by kernel_rfl) (fun _ _ _ h => h) (Or.inr ⟨by rfl, rfl⟩) hHeld ?_
      try simp only [Act.put, List.getElem_toArray, List.getElem_cons_succ, List.getElem_cons_zero, List.setIfInBounds_toArray, List.set_cons_succ, List.set_cons_zero]
      refine wpAnyH_take (i := 11) (v := undef) rfl (by kernel_rfl) (by kernel_rfl) (by kernel_rfl) (fun _ _ _ h => h) (Or.inr ⟨by rfl, rfl⟩) hHeld ?_
      try simp only [Act.put, List.getElem_toArray, List.getElem_cons_succ, List.getElem_cons_zero, List.setIfInBounds_toArray, List.set_cons_succ, List.set_cons_zero]
      refine wpAnyH_take (i := 12) (v := undef) rfl (by kernel_rfl) (by kernel_rfl) (by kernel_rfl) (fun _ _ _ h => h) (Or.inr ⟨by rfl, rfl⟩) hHeld ?_
      try simp only [Act.put, List.getElem_toArray, List.getElem_cons_succ, List.getElem_cons_zero, List.setIfInBounds_toArray, List.set_cons_succ, List.set_cons_zero]
      refine wpAnyH_take (i := 13) (v := .bool false) rfl (by kernel_rfl) (by kernel_rfl) (by kernel_rfl) (fun _ _ _ h => h) (Or.inl ⟨by rfl, by intro w hSw; (try dsimp only at hSw); go_simp⟩) hHeld ?_
      try simp only [Act.put, List.getElem_toArray, List.getElem_cons_succ, List.getElem_cons_zero, List.setIfInBounds_toArray, List.set_cons_succ, List.set_cons_zero]
      refine wpAnyH_take (i := 14) (v := .bool false) rfl (by kernel_rfl) (by kernel_rfl) (by kernel_rfl) (fun _ _ _ h => h) (Or.inl ⟨by rfl, by intro w hSw; (try dsimp only at hSw); go_simp⟩) hHeld ?_
      try simp only [Act.put, List.getElem_toArray, List.getElem_cons_succ, List.getElem_cons_zero, List.setIfInBounds_toArray, List.set_cons_succ, List.set_cons_zero]
      refine wpAnyH_take (i := 15) (v := undef) rfl (by kernel_rfl) (by kernel_rfl) (by kernel_rfl) (fun _ _ _ h => h) (Or.inr ⟨by rfl, rfl⟩) hHeld ?_
      try simp only [Act.put, List.getElem_toArray, List.getElem_cons_succ, List.getElem_cons_zero, List.setIfInBounds_toArray, List.set_cons_succ, List.set_cons_zero]
      refine wpAnyH_take (i := 16) (v := undef) rfl (by kernel_rfl) (by kernel_rfl) (by kernel_rfl) (fun _ _ _ h => h) (Or.inr ⟨by rfl, rfl⟩) hHeld ?_
      try simp only [Act.put, List.getElem_toArray, List.getElem_cons_succ, List.getElem_cons_zero, List.setIfInBounds_toArray, List.set_cons_succ, List.set_cons_zero]
      refine wpAnyH_take (i := 17) (v := undef) rfl (by kernel_rfl) (by kernel_rfl) (by kernel_rfl) (fun _ _ _ h => h) (Or.inr ⟨by rfl, rfl⟩) hHeld ?_
      try simp only [Act.put, List.getElem_toArray, List.getElem_cons_succ, List.getElem_cons_zero, List.setIfInBounds_toArray, List.set_cons_succ, List.set_cons_zero]
      refine wpAnyH_take (i := 18) (v := undef) rfl (by kernel_rfl) (by kernel_rfl) (by kernel_rfl) (fun _ _ _ h => h) (Or.inr ⟨by rfl, rfl⟩) hHeld ?_
      try simp only [Act.put, List.getElem_toArray, List.getElem_cons_succ, List.getElem_cons_zero, List.setIfInBounds_toArray, List.set_cons_succ, List.set_cons_zero]
      refine wpAnyH_take (i := 19) (v := undef) rfl (by kernel_rfl) (by kernel_rfl) (by kernel_rfl) (fun _ _ _ h => h) (Or.inr ⟨by rfl, rfl⟩) hHeld ?_
      try simp only [Act.put, List.getElem_toArray, List.getElem_cons_succ, List.getElem_cons_zero, List.setIfInBounds_toArray, List.set_cons_succ, List.set_cons_zero]
      refine wpAnyH_take (i := 20) (v := .bool false) rfl (by kernel_rfl) (by kernel_rfl) (by kernel_rfl) (fun _ _ _ h => h) (Or.inl ⟨by rfl, by intro w hSw; (try dsimp only at hSw); go_simp⟩) hHeld ?_
      try simp only [Act.put, List.getElem_toArray, List.getElem_cons_succ, List.getElem_cons_zero, List.setIfInBounds_toArray, List.set_cons_succ, List.set_cons_zero]
      refine wpAnyH_take (i := 21) (v := .slice sa n c) rfl (by kernel_rfl) (by kernel_rfl) (by kernel_rfl) (fun _ _ _ h => h) (Or.inl ⟨by rfl, by intro w hSw; (try dsimp only at hSw); go_simp⟩) hHeld ?_
      try simp only [Act.put, List.getElem_toArray, List.getElem_cons_succ, List.getElem_cons_zero, List.setIfInBounds_toArray, List.set_cons_succ, List.set_cons_zero]
      refine wpAnyH_take (i := 22) (v := .bool false) rfl (by kernel_rfl) (by kernel_rfl) (by kernel_rfl) (fun _ _ _ h => h) (Or.inl ⟨by rfl, by intro w hSw; (try dsimp only at hSw); go_simp⟩) hHeld ?_
      try simp only [Act.put, List.getElem_toArray, List.getElem_cons_succ, List.getElem_cons_zero, List.setIfInBounds_toArray, List.set_cons_succ, List.set_cons_zero]
      refine wpAnyH_done (by kernel_rfl) ?_ _
      refine NoPanic.normal ?_
      go_wp2_with fail
      go_meet
      case rel => exact ⟨sa, n, c, rfl, rfl, aside ⟨HO5.out, HB5.out⟩⟩
  case rest =>
    obtain ⟨sa, n, cd, rfl, rfl, hOB⟩ := hcut
    have hX : FX w2 wc ⟨p, mb, made, L⟩ made Of Al oa oc aa ac bx #[.int .i8 s.d, .int .i64 x, .int .u8 (s.r : Int), .int .i64 s.g, .int .i8 s.od, .int .i64 s.ot, .int .i64 s.n, .slice s.ba s.bn s.bc] (.slice sa n cd) D :=
      ⟨HRW.out.below hOB.out.2, (hOB.out.2.block _ (Array.getElem?_eq_some_iff.1 HBX.out).1).trans HBX.out, hOB.out.1⟩
    have HX := aside hX
    have c1 : wc.cell? ⟨bx, 1, none⟩ = some (.int .i64 x) := hX.cell 1
    have hnD : n = D.length := hOB.out.1.len
    have hn302 : n ≤ 302 := by omega
    have CK := back_any ⟨p, mb, made, L⟩ x wc hX.fr.st.bk hwx
    simp only at CK
    clear hX hOB CB HRW b1
    by_cases hE : backE L x = 0
    · obtain rfl : isb = true := by rw [HIS.out, hE]; rfl
      have hx0 : x ≠ 0 := fun e => by rw [e] at hE; simp [backE] at hE
      obtain ⟨q, hq⟩ : ∃ q, lk L x = some q := by
        unfold backE at hE
        rw [if_neg hx0] at hE
        cases hl : lk L x with
        | none => rw [hl] at hE; simp at hE
        | some y => exact ⟨y, rfl⟩
      have hxl := lk_lt (L := L) (made := made) HX.out.fr.st.bk.inv hq
      obtain ⟨xn, rfl⟩ : ∃ xn : Nat, x = (xn : Int) := ⟨x.toNat, by omega⟩
      have hBN : ((backN L made (xn : Int) : Nat) : Int) = (n : Int) + 1 := by unfold backN; rw [if_pos hE, ← HD.out, ← hnD]; omega
      have hBL : backL L made (xn : Int) = dels L (D ++ [(xn : Int)]) := by unfold backL; rw [if_pos hE, ← HD.out]
      rw [hBN, hE, hBL] at CK
      have HCK := aside CK
      have HBI : Aside (BInv L made) := HX.out.fr.st.bk.inv
      have hal : Al[xn]? = some true := by rw [hI.out.al xn (by omega), hq]; rfl
      have HQ := aside hq
      have HND := aside hnD
      clear hE CK hBN hBL hq hnD
      go_wp2_with fail
      refine HCK.out.mono ?_
      rintro e w5 ⟨rfl, hnx⟩
      have hX5 := HX.out.next hnx
      obtain ⟨ga, rfl, ca, fa, hX6⟩ := hX5.atA hal
      have c5 : w5.cell? ⟨bx, 1, none⟩ = some (.int .i64 (xn : Int)) := hX5.cell 1
      obtain ⟨w6, hw6⟩ : ∃ w6, w6 = w5.setCell ⟨ga, xn, none⟩ (.bool false) := ⟨_, rfl⟩
      rw [← hw6] at hX6
      have HX6 := aside hX6
      clear hnx hX5 hX6 HCK HX hal
      go_wp2_with fail
      rw [← hw6]
      clear hw6 ca fa c5 c1
      go_loopg [96] n (fun G s96 wx => ∃ k : Nat, k + G = n ∧ s96 = .int .i64 (k : Int) ∧ Aside (FX w2 wx ⟨p, mb, made, dels L (D ++ [(xn : Int)])⟩ made Of (offs Al ((xn : Int) :: D.take k)) oa oc (some ⟨ga, 0, none⟩) ac bx #[.int .i8 s.d, .int .i64 (xn : Int), .int .u8 (s.r : Int), .int .i64 s.g, .int .i8 s.od, .int .i64 s.ot, .int .i64 s.n, .slice s.ba s.bn s.bc] (.slice sa n cd) D))
      case atStart => exact ⟨0, by omega, rfl, HX6⟩
      case round =>
        obtain ⟨k, hkG, rfl, hY⟩ := hrel
        rename World => wx
        by_cases hk : k < n
        · have t2 : (k : Int) < (n : Int) := by omega
          obtain ⟨y, hy⟩ : ∃ y, D[k]? = some y := ⟨_, List.getElem?_eq_getElem (by have := HND.out; omega)⟩
          have hy2 := hy
          rw [HD.out] at hy2
          obtain ⟨h1, h2, h3, h4⟩ := next_there (L := L) (made := made) HBI.out hI.out HQ.out hy2
          rw [← HD.out] at h3 h4
          obtain ⟨gd, od, rfl, hcd⟩ := hY.out.dd.ns (fun h0 => by rw [h0] at hy; simp at hy)
          have cy := hcd k y hy
          have cb : wx.cell? ⟨bx, 1, none⟩ = some (.int .i64 (xn : Int)) := hY.out.cell 1
          obtain ⟨yn, rfl⟩ : ∃ yn : Nat, y = (yn : Int) := ⟨y.toNat, by omega⟩
          rw [Int.toNat_natCast] at h3 h4
          obtain ⟨ga2, hga, ca, fa, hY2⟩ := hY.out.atA h3
          obtain rfl : ga = ga2 := by simpa using hga
          rw [h4] at hY2
          have HY2 := aside hY2
          have t3 : ¬ ((yn : Int) ≤ (xn : Int)) := by omega
          have t4 : ¬ ((made : Int) ≤ (yn : Int)) := by omega
          clear hcd hy hy2 h3 h4 hga hY2 hY
          go_wp2_with fail
          go_roundg (n - (k + 1))
          case measure => omega
          case rel => exact ⟨k + 1, by omega, by go_num, HY2⟩
        · have t2 : ¬ ((k : Int) < (n : Int)) := by omega
          have hkn : D.take k = D := List.take_of_length_le (by have := HND.out; omega)
          have hR' := hY.out.fr
          rw [hkn] at hR'
          have HR' := aside hR'
          have HF' : Aside (FI (dels L (D ++ [(xn : Int)])) made Of (offs Al ((xn : Int) :: D))) := by
            have h1 := fi_back (L := L) (made := made) HBI.out hI.out HQ.out
            rw [← HD.out] at h1
            exact aside h1
          clear hkn hR' hY
          go_wp2_with fail
          exact HK.out _ _ _ HR' HF' _ _ _ _ _ _ _ _ _ _ _ _ _ _ _ _ _ _ _ _ _ _ _ _ _ _ _ _ _ _ _ _ _ _ _ _ _ _ _ _ _ _ _ _ _ _ _ _ _ _ _ _ _ _ _ _ _ _ _ _ _ _ _ _ _ _ _ _ _ _ _ _ _ _ _ _ _ _ _ _ _ _ _ _ _ _ _ _ _
    · obtain rfl : isb = false := by rw [HIS.out]; simpa using hE
      have hBN : backN L made x = 0 := by unfold backN; rw [if_neg hE]
      have hBL : backL L made x = L := by unfold backL; rw [if_neg hE]
      rw [hBN, hBL] at CK
      obtain ⟨eb, heb⟩ : ∃ eb, eb = backE L x := ⟨_, rfl⟩
      rw [← heb] at CK hE
      have hE2 : ((eb : Int) == 0) = false := by simpa using hE
      have hE3 : ¬ ((eb : Int) = 0) := by omega
      have HCK := aside CK
      clear CK hBN hBL heb hnD
      go_wp2_with fail
      refine HCK.out.mono ?_
      rintro e w5 ⟨rfl, hnx⟩
      have HX5 := aside (HX.out.next hnx).fr
      clear hnx HCK HX c1
      go_wp2_with fail
      exact HK.out _ _ _ HX5 hI _ _ _ _ _ _ _ _ _ _ _ _ _ _ _ _ _ _ _ _ _ _ _ _ _ _ _ _ _ _ _ _ _ _ _ _ _ _ _ _ _ _ _ _ _ _ _ _ _ _ _ _ _ _ _ _ _ _ _ _ _ _ _ _ _ _ _ _ _ _ _ _ _ _ _ _ _ _ _ _ _ _ _ _ _ _ _ _ _
end Go.Proofs.Ytleenkdlnmoepaa
