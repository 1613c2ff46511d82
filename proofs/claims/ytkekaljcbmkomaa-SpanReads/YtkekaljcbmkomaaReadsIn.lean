/- SpanReads: what stands under 'if the first Put was well'. -/
import Derived.Test.YtkekaljcbmkomaaReads
import Derived.Test.YtkekaljcbmkomaaLoose2
import Derived.Deep.DeepCutAuto
namespace Go.Proofs.Ytkekaljcbmkomaa
set_option linter.unusedVariables false
set_option linter.unusedSimpArgs false
open Go.RowKit
attribute [local simp] lcells_nil readB_length bcells_length

/-- A bool of which something is known. -/
def BoolIs (v : Value) (P : Bool → Prop) : Prop := ∃ b, v = .bool b ∧ P b
theorem boolIs {b : Bool} {P : Bool → Prop} (h : P b) : BoolIs (.bool b) P := ⟨b, rfl, h⟩

theorem newb_at {w : World} {B : Nat} {a : Option Addr} {l : List UInt8} (h : NewB w B a l) (hl : 0 < l.length) : a = some ⟨B, 0, none⟩ ∧ ∀ i b, l[i]? = some b → w.cell? ⟨B, i, none⟩ = some (.int .u8 b.toNat) := by
  rcases h with rfl | ⟨rfl, hh⟩
  · simp at hl
  · refine ⟨rfl, fun i b hb => ?_⟩
    rw [cell_of_row w B i _ _ _ hh]
    simp [bcells, hb]

theorem getL_get {L : List Piece} {sz i : Nat} (hi : i < (getL L sz 0 2000).length) : (getL L sz 0 2000)[i]? = some (byteAt L i) := by
  have h := hi
  unfold getL at h ⊢
  split at h
  · simp at h
  · rename_i h0
    rw [if_neg h0]
    simp at h
    simp [readB, h]

set_option maxHeartbeats 8000000 in
set_option maxRecDepth 1000000 in
theorem reads_in (pw b1 szs sz1 Bw Bn : Nat) (lv1 : Value) (Ls L1 : List Piece) (m1 : Mv) (aw an : Option Addr) (cw cn : Nat) (w6 : World)
    (R6 : Aside (∀ W, Below w6.heap.size w6 W → Rep W b1 sz1 lv1 L1)) (KC : Aside (∀ W, Below w6.heap.size w6 W → W.cell? ⟨pw, 1, none⟩ = some (.int .i64 m1.t) ∧ W.cell? ⟨pw, 3, none⟩ = some (.slice m1.a m1.bs.length m1.c)))
    (HB1 : Aside (BsAt w6 m1.a m1.bs)) (P1 : Aside (PutR szs Ls m1.t m1.bs 0 sz1 L1)) (hne : Aside (m1.bs ≠ [])) (hle : m1.bs.length ≤ 1000) (HI : Aside (Inv szs Ls)) (NN6 : Aside (NewB w6 Bn an (getL L1 sz1 0 2000))) (NW6 : Aside (NewB w6 Bw aw (getL Ls szs 0 2000)))
    (K : Act → World → Prop) (Q0 : Exit → Act → World → Prop) (v0 v1 v2 v3 v4 v5 v7 v8 v10 v13 v15 v16 v17 v18 v19 v20 v21 v22 v23 v24 v25 v26 v27 v28 v29 v30 v31 v32 v33 v34 v35 v36 v37 v38 v39 v40 v41 v42 v43 v44 v45 v46 v47 v48 v49 v50 v51 v52 v53 v54 v55 v56 v57 v58 v59 v60 v61 v62 v64 v65 v66 v67 v68 v69 v70 v71 v72 v73 v74 v75 v76 v77 v78 v79 v80 v81 v82 v83 v84 v85 v86 v87 v88 v89 v90 v91 v92 v93 v94 v95 v96 v97 v98 v99 v100 v101 v102 v103 v104 v105 v106 v107 v108 v109 v110 v111 v112 v113 v114 v115 v116 v117 v118 v119 v120 v121 v122 v123 v124 v125 v126 v127 v128 v129 v130 v131 v132 v133 v134 v135 v136 v137 v138 v139 v140 v141 v142 v143 v144 v145 v146 v147 v148 v149 v150 v151 v152 v153 v154 v155 v156 v157 v158 v159 v160 v161 v162 v163 v164 v165 v166 v167 v168 v169 v170 v171 v172 v173 v174 v175 v176 v177 v178 v179 v180 v181 v182 v183 v184 v185 v186 v187 v188 v189 v190 v191 v192 v193 v194 v195 v196 v197 v198 v199 v200 v201 v202 v203 v204 v205 v206 v207 v208 v209 v210 v211 v212 v213 v214 v215 v216 v217 v218 v219 v220 v221 v222 v223 v224 v225 v226 v227 v228 v229 v230 v231 v232 v233 v234 v235 v236 v237 v238 v239 v240 v241 v242 v243 v244 v245 v246 v247 v248 v249 v250 v251 v252 v253 v254 v255 : Value)
    (hK : ∀ wd, Below w6.heap.size w6 wd → ∀ (z8 z11 z14 z15 z16 z22 z23 z24 z25 z26 z27 z28 z29 z30 z31 z32 z33 z34 z35 z36 z37 z38 z39 z40 z41 z42 z43 z44 z45 z46 z47 z48 z49 z50 z51 z52 z53 z54 z55 z56 z57 z58 z59 z60 z61 z62 z63 z64 z65 z66 z67 z68 z69 z70 z71 z72 z73 z74 z75 z76 z77 z78 z79 z80 z81 z82 z83 z84 z85 z86 z87 z88 z89 z90 z91 z92 z93 z94 z95 z96 z97 z98 z99 z100 z101 z102 z103 z104 z105 z106 z107 z108 z109 z110 z111 z112 z113 z114 z115 z116 z117 z118 z119 z120 z121 z122 z123 z124 z125 z126 z127 z128 z129 z130 z131 z132 z133 z134 z135 z136 z137 z138 z139 z140 z141 z142 z143 z144 z145 z146 z147 z148 z149 z150 z151 z152 z153 z154 z155 z156 z157 z158 z159 z160 z161 z162 z163 z164 z165 z166 z167 z168 z169 z170 z171 z172 z173 z174 z175 z176 z177 z178 z179 z180 z181 z182 z183 z184 z185 z186 z187 z188 z189 z190 z191 z192 z193 z194 z195 z196 z197 z198 z199 z200 z201 z202 z203 z204 z205 z206 z207 z208 z209 z210 z211 z212 z213 z214 z215 z216 z217 z218 z219 z220 z221 z222 z223 z224 z225 z226 z227 z228 z229 z230 z231 z232 z233 z234 z235 z236 z237 z238 z239 z240 z241 z242 z243 z244 z245 z246 z247 z248 z249 z250 z251 z252 z253 z254 z255 : Value), K ⟨(v0 :: v1 :: v2 :: v3 :: v4 :: v5 :: .pointer (some ⟨pw, 0, none⟩) :: v7 :: z8 :: .pointer (some ⟨b1, 0, none⟩) :: v10 :: z11 :: .int .i64 szs :: v13 :: z14 :: z15 :: z16 :: v17 :: v18 :: v19 :: v20 :: v21 :: z22 :: z23 :: z24 :: z25 :: z26 :: z27 :: z28 :: z29 :: z30 :: z31 :: z32 :: z33 :: z34 :: z35 :: z36 :: z37 :: z38 :: z39 :: z40 :: z41 :: z42 :: z43 :: z44 :: z45 :: z46 :: z47 :: z48 :: z49 :: z50 :: z51 :: z52 :: z53 :: z54 :: z55 :: z56 :: z57 :: z58 :: z59 :: z60 :: z61 :: z62 :: z63 :: z64 :: z65 :: z66 :: z67 :: z68 :: z69 :: z70 :: z71 :: z72 :: z73 :: z74 :: z75 :: z76 :: z77 :: z78 :: z79 :: z80 :: z81 :: z82 :: z83 :: z84 :: z85 :: z86 :: z87 :: z88 :: z89 :: z90 :: z91 :: z92 :: z93 :: z94 :: z95 :: z96 :: z97 :: z98 :: z99 :: z100 :: z101 :: z102 :: z103 :: z104 :: z105 :: z106 :: z107 :: z108 :: z109 :: z110 :: z111 :: z112 :: z113 :: z114 :: z115 :: z116 :: z117 :: z118 :: z119 :: z120 :: z121 :: z122 :: z123 :: z124 :: z125 :: z126 :: z127 :: z128 :: z129 :: z130 :: z131 :: z132 :: z133 :: z134 :: z135 :: z136 :: z137 :: z138 :: z139 :: z140 :: z141 :: z142 :: z143 :: z144 :: z145 :: z146 :: z147 :: z148 :: z149 :: z150 :: z151 :: z152 :: z153 :: z154 :: z155 :: z156 :: z157 :: z158 :: z159 :: z160 :: z161 :: z162 :: z163 :: z164 :: z165 :: z166 :: z167 :: z168 :: z169 :: z170 :: z171 :: z172 :: z173 :: z174 :: z175 :: z176 :: z177 :: z178 :: z179 :: z180 :: z181 :: z182 :: z183 :: z184 :: z185 :: z186 :: z187 :: z188 :: z189 :: z190 :: z191 :: z192 :: z193 :: z194 :: z195 :: z196 :: z197 :: z198 :: z199 :: z200 :: z201 :: z202 :: z203 :: z204 :: z205 :: z206 :: z207 :: z208 :: z209 :: z210 :: z211 :: z212 :: z213 :: z214 :: z215 :: z216 :: z217 :: z218 :: z219 :: z220 :: z221 :: z222 :: z223 :: z224 :: z225 :: z226 :: z227 :: z228 :: z229 :: z230 :: z231 :: z232 :: z233 :: z234 :: z235 :: z236 :: z237 :: z238 :: z239 :: z240 :: z241 :: z242 :: z243 :: z244 :: z245 :: z246 :: z247 :: z248 :: z249 :: z250 :: z251 :: z252 :: z253 :: z254 :: z255 :: []).toArray, []⟩ wd) :
    Code.wp Try.prog (readsIf Try.f7) (Exit.then K Q0) ⟨(v0 :: v1 :: v2 :: v3 :: v4 :: v5 :: .pointer (some ⟨pw, 0, none⟩) :: v7 :: v8 :: .pointer (some ⟨b1, 0, none⟩) :: v10 :: .slice aw (getL Ls szs 0 2000).length cw :: .int .i64 szs :: v13 :: .slice an (getL L1 sz1 0 2000).length cn :: v15 :: v16 :: v17 :: v18 :: v19 :: v20 :: v21 :: v22 :: v23 :: v24 :: v25 :: v26 :: v27 :: v28 :: v29 :: v30 :: v31 :: v32 :: v33 :: v34 :: v35 :: v36 :: v37 :: v38 :: v39 :: v40 :: v41 :: v42 :: v43 :: v44 :: v45 :: v46 :: v47 :: v48 :: v49 :: v50 :: v51 :: v52 :: v53 :: v54 :: v55 :: v56 :: v57 :: v58 :: v59 :: v60 :: v61 :: v62 :: .bool true :: v64 :: v65 :: v66 :: v67 :: v68 :: v69 :: v70 :: v71 :: v72 :: v73 :: v74 :: v75 :: v76 :: v77 :: v78 :: v79 :: v80 :: v81 :: v82 :: v83 :: v84 :: v85 :: v86 :: v87 :: v88 :: v89 :: v90 :: v91 :: v92 :: v93 :: v94 :: v95 :: v96 :: v97 :: v98 :: v99 :: v100 :: v101 :: v102 :: v103 :: v104 :: v105 :: v106 :: v107 :: v108 :: v109 :: v110 :: v111 :: v112 :: v113 :: v114 :: v115 :: v116 :: v117 :: v118 :: v119 :: v120 :: v121 :: v122 :: v123 :: v124 :: v125 :: v126 :: v127 :: v128 :: v129 :: v130 :: v131 :: v132 :: v133 :: v134 :: v135 :: v136 :: v137 :: v138 :: v139 :: v140 :: v141 :: v142 :: v143 :: v144 :: v145 :: v146 :: v147 :: v148 :: v149 :: v150 :: v151 :: v152 :: v153 :: v154 :: v155 :: v156 :: v157 :: v158 :: v159 :: v160 :: v161 :: v162 :: v163 :: v164 :: v165 :: v166 :: v167 :: v168 :: v169 :: v170 :: v171 :: v172 :: v173 :: v174 :: v175 :: v176 :: v177 :: v178 :: v179 :: v180 :: v181 :: v182 :: v183 :: v184 :: v185 :: v186 :: v187 :: v188 :: v189 :: v190 :: v191 :: v192 :: v193 :: v194 :: v195 :: v196 :: v197 :: v198 :: v199 :: v200 :: v201 :: v202 :: v203 :: v204 :: v205 :: v206 :: v207 :: v208 :: v209 :: v210 :: v211 :: v212 :: v213 :: v214 :: v215 :: v216 :: v217 :: v218 :: v219 :: v220 :: v221 :: v222 :: v223 :: v224 :: v225 :: v226 :: v227 :: v228 :: v229 :: v230 :: v231 :: v232 :: v233 :: v234 :: v235 :: v236 :: v237 :: v238 :: v239 :: v240 :: v241 :: v242 :: v243 :: v244 :: v245 :: v246 :: v247 :: v248 :: v249 :: v250 :: v251 :: v252 :: v253 :: v254 :: v255 :: []).toArray, []⟩ w6 := by
  conv => arg 2; whnf
  have HK := aside hK
  clear hK
  obtain ⟨y, hy⟩ : ∃ y : Nat, m1.t = y := by
    rcases putR_ok P1.out with ⟨h, -⟩ | ⟨-, h, -⟩
    · exact absurd h hne.out
    · exact ⟨m1.t.toNat, by omega⟩
  rcases putR_ok P1.out with ⟨h, -⟩ | ⟨-, h02, h03, h04, h05⟩
  · exact absurd h hne.out
  obtain ⟨k1, k3⟩ := KC.out w6 (Below.refl _ _)
  rw [hy] at h03 h04 h05 k1
  simp only [Int.toNat_natCast] at h03 h04 h05
  have hpos : 0 < m1.bs.length := List.length_pos_iff.2 hne.out
  have GP := aside (get_put (sz := szs) (L := Ls) (L' := L1) (x := (y : Int)) (l := m1.bs) (by omega) hne.out (by omega) (by simpa using h05))
  rw [Int.toNat_natCast, ← h04] at GP
  have GX := aside (fun W (hW : Below w6.heap.size w6 W) => get_all b1 sz1 lv1 L1 (y : Int) (m1.bs.length : Int) W (R6.out W hW) (by omega))
  rw [GP.out] at GX
  have SB := aside (fun W (hW : Below w6.heap.size w6 W) => str_all W m1.a m1.bs m1.c (HB1.out.below hW))
  have HY := aside hy
  have H03 := aside h03
  have H04 := aside h04
  have H05 := aside h05
  have H02 := aside h02
  clear hy h03 h04 h05 h02 GP
  go_upto_region 10 with fail
  go_cut [88] from 22 (fun s88 wc => s88 = .bool false ∧ Aside (Below w6.heap.size w6 wc))
  case first =>
    have xt := fun d os => ext_cell k1 d os
    have xb := fun d os => ext_cell k3 d os
    have sb0 := fun d os => SB.out _ (below_ext w6 d os)
    refine region_loose [70] Tok (by kernel_rfl) (by kernel_rfl) tok_grow tok_undef ?_
    repeat (refine loose_quiet rfl (by kernel_rfl) (by kernel_rfl) rfl (fun K hK => ?_); go_big_quiet_op; refine hK _ ?_; clear hK K)
    refine loose_fn (.string ⟨m1.bs.toArray⟩) 21 [.pointer (some ⟨b1, 0, none⟩), .int .i64 (y : Int), .int .i64 (m1.bs.length : Int)] rfl enter21 rfl (by kernel_rfl) rfl (fun W hW => (GX.out W hW).mono (by
      rintro e w7 ⟨a, c, rfl, -, hn, hb⟩
      exact ⟨_, rfl, hb, tok_get rfl (by decide) hn.bs⟩)) ?_
    simp only [Act.put, List.setIfInBounds_toArray, List.set_cons_succ, List.set_cons_zero]
    refine loose_conv 70 m1.bs rfl (by decide) (by simp [Oper.looksAt, Op.operands]) (by kernel_rfl) rfl rfl rfl ?_
    simp only [Act.put, List.setIfInBounds_toArray, List.set_cons_succ, List.set_cons_zero]
    repeat (refine loose_quiet rfl (by kernel_rfl) (by kernel_rfl) rfl (fun K hK => ?_); go_big_quiet_op; refine hK _ ?_; clear hK K)
    refine loose_fn (.int .i64 sz1) 17 [.pointer (some ⟨b1, 0, none⟩)] rfl enter17 rfl (by kernel_rfl) rfl (fun W hW => (size_any b1 sz1 lv1 L1 W (R6.out W hW)).mono (by
      rintro e w7 ⟨rfl, rfl⟩
      exact ⟨_, rfl, Below.refl _ _, rfl⟩)) ?_
    simp only [Act.put, List.setIfInBounds_toArray, List.set_cons_succ, List.set_cons_zero]
    repeat (refine loose_quiet rfl (by kernel_rfl) (by kernel_rfl) rfl (fun K hK => ?_); go_big_quiet_op; refine hK _ ?_; clear hK K)
    refine loose_nil ?_
    intro w7 ρ hb7
    simp only [fill, Act.put, List.setIfInBounds_toArray, List.set_cons_succ, List.set_cons_zero]
    have HB7 := aside hb7
    clear hb7
    have hwr : wrap64 ((y : Int) + (m1.bs.length : Int)) = (y : Int) + (m1.bs.length : Int) := IntWalk.wrap64_in _ (by have := H03.out; omega)
    have HWR := aside hwr
    clear hwr
    go_wp2_with fail
    all_goals go_meet
    all_goals refine ⟨?_, HB7.out⟩
    all_goals have e4 := H04.out
    all_goals rw [HWR.out] at h
    · rw [HWR.out, show (sz1 : Int) = (y : Int) + (m1.bs.length : Int) by omega]; simp
    · rw [show (sz1 : Int) = (szs : Int) by omega]; simp
  case rest =>
    obtain ⟨rfl, hB7⟩ := hcut
    obtain ⟨rfl, hnb⟩ := newb_at (NN6.out.below hB7.out) (by rw [(get_len L1 sz1)]; have := H04.out; omega)
    have NN7 := aside (NN6.out.below hB7.out)
    have NW7 := aside (NW6.out.below hB7.out)
    have HB7 := aside hB7.out
    obtain ⟨k1, k3⟩ := KC.out wc HB7.out
    rw [HY.out] at k1
    clear hB7 hnb
    have BS := aside (fun i hi h2 => get_beside HI.out H05.out (i := i) hi h2)
    obtain ⟨n, hn⟩ : ∃ n, (getL L1 sz1 0 2000).length = n := ⟨_, rfl⟩
    obtain ⟨lw, hlw⟩ : ∃ lw, (getL Ls szs 0 2000).length = lw := ⟨_, rfl⟩
    have hn2 : n ≤ 2000 := by have := (get_len L1 sz1); omega
    have hlw2 : lw ≤ 2000 := by have := (get_len Ls szs); omega
    have HN := aside hn
    have HL := aside hlw
    have hyb : (y : Int) + (m1.bs.length : Int) ≤ 1073741824 := H03.out
    rw [hn, hlw]
    clear hn hlw
    go_wp2
    go_loop [15] (fun s15 => ∃ k : Nat, k ≤ n ∧ s15 = .int .i64 k) (fun s15 => n - (intOf s15).toNat)
    case atStart => exact ⟨0, Nat.zero_le _, rfl⟩
    case round =>
      obtain ⟨k, hk, rfl⟩ := hrel
      by_cases h1 : k < n
      · have t1 : (k : Int) < (n : Int) := by omega
        have cn := (newb_at NN7.out (by rw [HN.out]; omega)).2 k _ (getL_get (by rw [HN.out]; exact h1))
        have hcase : (k < y ∨ y + m1.bs.length ≤ k) ∨ (¬ k < y ∧ ¬ y + m1.bs.length ≤ k) := by omega
        by_cases h2 : k < lw
        · have t2 : (k : Int) < (lw : Int) := by omega
          obtain ⟨rfl, cw0⟩ := newb_at NW7.out (by rw [HL.out]; omega)
          have cwk := cw0 k _ (getL_get (by rw [HL.out]; exact h2))
          clear cw0
          rcases hcase with (h3 | h3) | ⟨h3, h4⟩
          · have t3 : (k : Int) < (y : Int) := by omega
            rw [(BS.out k (.inl h3) (by omega)).1] at cn
            go_wp2
            go_round
            case rel => exact ⟨k + 1, by omega, by go_num⟩
            case measure => simp [intOf]; omega
          · have t3 : ¬ (k : Int) < (y : Int) := by omega
            have t4 : (y : Int) + (m1.bs.length : Int) ≤ (k : Int) := by omega
            rw [(BS.out k (.inr h3) (by omega)).1] at cn
            go_wp2
            go_round
            case rel => exact ⟨k + 1, by omega, by go_num⟩
            case measure => simp [intOf]; omega
          · have t3 : ¬ (k : Int) < (y : Int) := by omega
            have t4 : ¬ (y : Int) + (m1.bs.length : Int) ≤ (k : Int) := by omega
            go_wp2
            go_round
            case rel => exact ⟨k + 1, by omega, by go_num⟩
            case measure => simp [intOf]; omega
        · have t2 : ¬ (k : Int) < (lw : Int) := by omega
          rcases hcase with (h3 | h3) | ⟨h3, h4⟩
          · have t3 : (k : Int) < (y : Int) := by omega
            obtain ⟨b1, b2⟩ := BS.out k (.inl h3) (by omega)
            rw [b1, b2 (by rw [HL.out]; exact h2)] at cn
            go_wp2
            go_round
            case rel => exact ⟨k + 1, by omega, by go_num⟩
            case measure => simp [intOf]; omega
          · have t3 : ¬ (k : Int) < (y : Int) := by omega
            have t4 : (y : Int) + (m1.bs.length : Int) ≤ (k : Int) := by omega
            obtain ⟨b1, b2⟩ := BS.out k (.inr h3) (by omega)
            rw [b1, b2 (by rw [HL.out]; exact h2)] at cn
            go_wp2
            go_round
            case rel => exact ⟨k + 1, by omega, by go_num⟩
            case measure => simp [intOf]; omega
          · have t3 : ¬ (k : Int) < (y : Int) := by omega
            have t4 : ¬ (y : Int) + (m1.bs.length : Int) ≤ (k : Int) := by omega
            go_wp2
            go_round
            case rel => exact ⟨k + 1, by omega, by go_num⟩
            case measure => simp [intOf]; omega
      · have t1 : ¬ (k : Int) < (n : Int) := by omega
        go_wp2_with fail
        exact HK.out wc HB7.out _ _ _ _ _ _ _ _ _ _ _ _ _ _ _ _ _ _ _ _ _ _ _ _ _ _ _ _ _ _ _ _ _ _ _ _ _ _ _ _ _ _ _ _ _ _ _ _ _ _ _ _ _ _ _ _ _ _ _ _ _ _ _ _ _ _ _ _ _ _ _ _ _ _ _ _ _ _ _ _ _ _ _ _ _ _ _ _ _ _ _ _ _ _ _ _ _ _ _ _ _ _ _ _ _ _ _ _ _ _ _ _ _ _ _ _ _ _ _ _ _ _ _ _ _ _ _ _ _ _ _ _ _ _ _ _ _ _ _ _ _ _ _ _ _ _ _ _ _ _ _ _ _ _ _ _ _ _ _ _ _ _ _ _ _ _ _ _ _ _ _ _ _ _ _ _ _ _ _ _ _ _ _ _ _ _ _ _ _ _ _ _ _ _ _ _ _ _ _ _ _ _ _ _ _ _ _ _ _ _ _ _ _ _ _ _ _ _ _ _ _ _ _ _ _ _ _ _ _ _ _ _ _ _ _ _ _ _ _
end Go.Proofs.Ytkekaljcbmkomaa
