/- The document's own Try. -/
import Derived.Test.YtfpegmmciphjiaaRefB
namespace Go.Proofs.Ytfpegmmciphjiaa
open Go.RowKit

set_option maxHeartbeats 2000000 in
theorem rTry_any (t : Tb) (l : Lk) (hl : InR l) (w : World) (h : Tab 43 w t) :
    Calls Try.prog 12 #[.pointer (some ⟨t.p, 0, none⟩), l.val] w fun e w' => ∃ t', e = .returned (.int .i64 (tryE t.H t.W l : Nat)) ∧ Nx 43 w w' t t' ∧ t'.H = tryH t.H t.W l ∧ t'.W = t.W := by
  obtain ⟨ha, hc, hhv, -, -, hls⟩ := h.oh.tel
  obtain ⟨wa, wc, hwv, -, -, wls⟩ := h.ow.tel
  have c0 := h.c0
  have c1 := h.c1
  rw [hhv] at c0
  rw [hwv] at c1
  have hfew := h.few
  obtain ⟨L, hL⟩ : ∃ L, L = l := ⟨_, rfl⟩
  have hval : L.val = .agg #[.int .i64 l.who, .int .i64 l.org, .int .i64 l.len, .bool l.sh] := by rw [hL]; rfl
  obtain ⟨W, hW⟩ : ∃ W, W = w.alloc (.cells #[.int .i64 l.who, .int .i64 l.org, .int .i64 l.len, .bool l.sh] 29) := ⟨_, rfl⟩
  have BW : Aside (Below w.heap.size w W) := by rw [hW]; exact below_al w _
  have BX : Aside (Bx W w.heap.size l.who l.org l.len l.sh) := by rw [hW]; exact bx_new w _ _ _ _
  have R := aside (fun (V : World) (hV : Below w.heap.size w V) => refused_any t.p L ha wa t.H.length t.W.length hc wc (by rw [hL]; exact hl) (by omega) V ((hV.cell h.lt).trans c0) ((hV.cell (p := ⟨t.p, 1, none⟩) h.lt).trans c1))
  have KH := aside (fun (V : World) (hV : Below w.heap.size w V) (hm : may L = true) => rMeets_any L t.H ha hc hm h.mh (by omega) V (hls.below hV))
  have KW := aside (fun (V : World) (hV : Below w.heap.size w V) (hm : may L = true) => rMeets_any L t.W wa wc hm h.mw (by omega) V (wls.below hV))
  have HT := aside h
  have HW := aside hW
  have HF := aside hfew
  rw [hval] at R KH KW
  rw [show l.val = .agg #[.int .i64 l.who, .int .i64 l.org, .int .i64 l.len, .bool l.sh] from rfl]
  have x0 := BX.out.c0
  have x1 := BX.out.c1
  have x2 := BX.out.c2
  have x3 := BX.out.c3
  rw [HW.out] at x0 x1 x2 x3
  have hpw : ∀ V, Below w.heap.size w V → V.cell? ⟨t.p, 0, none⟩ = some (.slice ha t.H.length hc) ∧ V.cell? ⟨t.p, 1, none⟩ = some (.slice wa t.W.length wc) := fun V hV => ⟨(hV.cell h.lt).trans c0, (hV.cell (p := ⟨t.p, 1, none⟩) h.lt).trans c1⟩
  have HP := aside hpw
  have HHV := aside hhv
  clear hval hW hls wls h hfew hpw hhv hwv
  by_cases hr : refE L (t.H.length + t.W.length) = 0
  · have hm : may L = true := by
      unfold refE at hr
      split at hr
      · simp at hr
      · rename_i hx; simpa using hx
    have hlt : ¬ 256 ≤ t.H.length + t.W.length := by
      unfold refE at hr
      rw [if_neg (by rw [hm]; simp)] at hr
      intro hc; rw [if_pos hc] at hr; simp at hr
    have K2 := aside (fun V hV => KH.out V hV hm)
    have K3 := aside (fun V hV => KW.out V hV hm)
    rw [hr] at R
    by_cases hk : (hit L t.H || hit L t.W) = true
    · obtain ⟨m1, hm1⟩ : ∃ m1, m1 = hit L t.H := ⟨_, rfl⟩
      obtain ⟨m2, hm2⟩ : ∃ m2, m2 = hit L t.W := ⟨_, rfl⟩
      rw [← hm1] at K2
      rw [← hm2] at K3
      have hE : tryE t.H t.W l = 150 := by unfold tryE; rw [← hL, if_neg (by rw [hm]; simp), if_neg hlt, if_pos hk]
      rw [← hm1, ← hm2] at hk
      have hH : tryH t.H t.W l = t.H := by unfold tryH; rw [hE]; simp
      rw [hE, hH]
      clear hE hH KH KW hr hlt hm hm1 hm2
      cases m1
      · obtain rfl : m2 = true := by simpa using hk
        clear hk
        go_enter Try.func12, Try.ntmps12
        go_wp2_with ((go_at_call 28; refine (R.out _ (below_al w _)).mono ?_; rintro e w2 ⟨rfl, hb2⟩; have HB2 : Aside (Below w.heap.size w w2) := aside (below_tr (below_al w _) hb2); have HB3 := aside hb2; clear hb2))
        have y0 := fun d os => ext_cell (HP.out _ HB2.out).2 d os
        have y1 := fun d os => ext_cell (HP.out _ HB2.out).1 d os
        have BX2 := BX.out
        rw [HW.out] at BX2
        have BX3 := BX2.below HB3.out
        have z0 := fun d os => ext_cell BX3.c0 d os
        have z1 := fun d os => ext_cell BX3.c1 d os
        have z2 := fun d os => ext_cell BX3.c2 d os
        have z3 := fun d os => ext_cell BX3.c3 d os
        clear BX2 BX3
        refine region_ext (by kernel_rfl) (by kernel_rfl) ?_
        repeat (any_goals (first | go_big_quiet_step ((first | (with_reducible exact calls_ext (K2.out _ (below_tr HB2.out (below_ext _ _ _)))) | (with_reducible exact calls_ext (K3.out _ (below_tr HB2.out (below_ext _ _ _)))))) | quiet_step ((first | (with_reducible exact calls_ext (K2.out _ (below_tr HB2.out (below_ext _ _ _)))) | (with_reducible exact calls_ext (K3.out _ (below_tr HB2.out (below_ext _ _ _))))))))
        refine wpQuiet_nil ?_
        intro wq hwq
        go_wp2
        go_ret
        exact ⟨t, rfl, Nx.of_below HT.out (below_tr HB2.out hwq), rfl, rfl⟩
      · clear hk
        go_enter Try.func12, Try.ntmps12
        go_wp2_with ((go_at_call 28; refine (R.out _ (below_al w _)).mono ?_; rintro e w2 ⟨rfl, hb2⟩; have HB2 : Aside (Below w.heap.size w w2) := aside (below_tr (below_al w _) hb2); have HB3 := aside hb2; clear hb2))
        have y0 := fun d os => ext_cell (HP.out _ HB2.out).2 d os
        have y1 := fun d os => ext_cell (HP.out _ HB2.out).1 d os
        have BX2 := BX.out
        rw [HW.out] at BX2
        have BX3 := BX2.below HB3.out
        have z0 := fun d os => ext_cell BX3.c0 d os
        have z1 := fun d os => ext_cell BX3.c1 d os
        have z2 := fun d os => ext_cell BX3.c2 d os
        have z3 := fun d os => ext_cell BX3.c3 d os
        clear BX2 BX3
        refine region_ext (by kernel_rfl) (by kernel_rfl) ?_
        repeat (any_goals (first | go_big_quiet_step ((first | (with_reducible exact calls_ext (K2.out _ (below_tr HB2.out (below_ext _ _ _)))) | (with_reducible exact calls_ext (K3.out _ (below_tr HB2.out (below_ext _ _ _)))))) | quiet_step ((first | (with_reducible exact calls_ext (K2.out _ (below_tr HB2.out (below_ext _ _ _)))) | (with_reducible exact calls_ext (K3.out _ (below_tr HB2.out (below_ext _ _ _))))))))
        refine wpQuiet_nil ?_
        intro wq hwq
        go_wp2
        go_ret
        exact ⟨t, rfl, Nx.of_below HT.out (below_tr HB2.out hwq), rfl, rfl⟩
    · have hk0 : (hit L t.H || hit L t.W) = false := by simpa using hk
      have hk1 : hit L t.H = false := by rw [Bool.or_eq_false_iff] at hk0; exact hk0.1
      have hk2 : hit L t.W = false := by rw [Bool.or_eq_false_iff] at hk0; exact hk0.2
      rw [hk1] at K2
      rw [hk2] at K3
      have hE : tryE t.H t.W l = 0 := by unfold tryE; rw [← hL, if_neg (by rw [hm]; simp), if_neg hlt, if_neg hk]
      have hH : tryH t.H t.W l = t.H ++ [l] := by unfold tryH; rw [hE]; simp
      rw [hE, hH]
      rw [hL] at hm
      have HM := aside hm
      have HLT := aside hlt
      clear hE hH KH KW hr hk hlt hm hk0 hk1 hk2
      go_enter Try.func12, Try.ntmps12
      go_wp2_with ((go_at_call 28; refine (R.out _ (below_al w _)).mono ?_; rintro e w2 ⟨rfl, hb2⟩; have HB2 : Aside (Below w.heap.size w w2) := aside (below_tr (below_al w _) hb2); have HB3 := aside hb2; clear hb2))
      have y0 := fun d os => ext_cell (HP.out _ HB2.out).2 d os
      have y1 := fun d os => ext_cell (HP.out _ HB2.out).1 d os
      have BX2 := BX.out
      rw [HW.out] at BX2
      have BX3 := BX2.below HB3.out
      have z0 := fun d os => ext_cell BX3.c0 d os
      have z1 := fun d os => ext_cell BX3.c1 d os
      have z2 := fun d os => ext_cell BX3.c2 d os
      have z3 := fun d os => ext_cell BX3.c3 d os
      refine region_ext (by kernel_rfl) (by kernel_rfl) ?_
      repeat (any_goals (first | go_big_quiet_step ((first | (with_reducible exact calls_ext (K2.out _ (below_tr HB2.out (below_ext _ _ _)))) | (with_reducible exact calls_ext (K3.out _ (below_tr HB2.out (below_ext _ _ _)))))) | quiet_step ((first | (with_reducible exact calls_ext (K2.out _ (below_tr HB2.out (below_ext _ _ _)))) | (with_reducible exact calls_ext (K3.out _ (below_tr HB2.out (below_ext _ _ _))))))))
      refine wpQuiet_nil ?_
      intro wq hwq
      have BX4 := BX3.below hwq
      have HB4 := aside (below_tr HB2.out hwq)
      clear y0 y1 z0 z1 z2 z3 x0 x1 x2 x3 BX2 BX3 hwq
      have p0 := (HP.out _ HB4.out).1
      have b0 := BX4.c0
      have b1 := BX4.c1
      have b2 := BX4.c2
      have b3 := BX4.c3
      have LS := aside (ls_lit wq.drew l)
      have OW : Aside (Own (wq.drew.alloc (.cells #[.int .i64 l.who, .int .i64 l.org, .int .i64 l.len, .bool l.sh] 29)) t.hv t.H) := HT.out.oh.below (below_tr HB4.out (below_tr (below_dr _) (below_al _ _)))
      have NH : Aside (¬ t.hv.ownBlock = some t.p) := HT.out.nh
      have BV : Aside (Below w.heap.size w (wq.drew.alloc (.cells #[.int .i64 l.who, .int .i64 l.org, .int .i64 l.len, .bool l.sh] 29))) := below_tr HB4.out (below_tr (below_dr _) (below_al _ _))
      have FW : Aside (t.H.length + [l].length ≤ 33554432) := by have := HF.out; show t.H.length + 1 ≤ _; omega
      have GK := aside (push_keep (w := w) (v := t.hv) (c := ⟨t.p, 0, none⟩) (fun k hk => ⟨HT.out.oh.lt hk, fun e => NH.out (by rw [hk, e])⟩) p0 ((HT.out.below HB4.out).f0 0) BX4 (Nat.le_refl _) (.cells #[.int .i64 l.who, .int .i64 l.org, .int .i64 l.len, .bool l.sh] 29))
      rw [HHV.out] at OW GK
      clear BX4
      have q0 : (wq.alloc (.cells #[.int .i64 l.who, .int .i64 l.org, .int .i64 l.len, .bool l.sh] 29)).cell? ⟨t.p, 0, none⟩ = some (.slice ha t.H.length hc) := ((below_al wq _).cell (World.block_lt_of_cell? wq _ p0)).trans p0
      go_wp2
      go_region_law ((refine step_app rfl _ _ rfl (.slice ha t.H.length hc) t.H [l] (some ⟨wq.heap.size, 0, none⟩) 1 1 rfl rfl rfl OW.out LS.out FW.out (t.H.length + 1) rfl ?_; intro a' c' w' ho hu hv; obtain ⟨g0, g1, g2, g3, g4, g5⟩ := GK.out w' hu; have HO := aside ho; have HU := aside hu; have HV := aside hv; clear ho hu hv))
      all_goals (go_wp2; go_ret)
      all_goals (refine ⟨_, rfl, pushed_held HT.out BV.out HO.out (by rw [HHV.out]; exact HU.out) (by rw [HHV.out]; exact HV.out) HM.out HLT.out, rfl, rfl⟩)
  · have hE : (tryE t.H t.W l : Int) = refE L (t.H.length + t.W.length) ∧ tryE t.H t.W l ≠ 0 := by
      unfold tryE
      unfold refE at hr ⊢
      rw [← hL]
      by_cases h1 : may L = false
      · rw [if_pos h1, if_pos h1]; simp
      · rw [if_neg h1] at hr
        rw [if_neg h1, if_neg h1]
        by_cases h2 : 256 ≤ t.H.length + t.W.length
        · rw [if_pos h2, if_pos h2]; simp
        · rw [if_neg h2] at hr; simp at hr
    have hH : tryH t.H t.W l = t.H := by unfold tryH; rw [if_neg hE.2]
    rw [hE.1, hH]
    clear hE hH KH KW
    generalize refE L (t.H.length + t.W.length) = r at *
    go_enter Try.func12, Try.ntmps12
    go_wp2_with ((go_at_call 28; refine (R.out _ (below_al w _)).mono ?_; rintro e w2 ⟨rfl, hb2⟩; have HB2 : Aside (Below w.heap.size w w2) := aside (below_tr (below_al w _) hb2); have HB3 := aside hb2; clear hb2))
    go_ret
    exact ⟨t, rfl, Nx.of_below HT.out HB2.out, rfl, rfl⟩
end Go.Proofs.Ytfpegmmciphjiaa
