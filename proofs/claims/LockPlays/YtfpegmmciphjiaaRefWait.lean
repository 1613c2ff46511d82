/- The document's own Wait. -/
import Derived.Test.YtfpegmmciphjiaaRefE
import Derived.Test.YtfpegmmciphjiaaRefTry
import Derived.Test.YtfpegmmciphjiaaWait
namespace Go.Proofs.Ytfpegmmciphjiaa
open Go.RowKit

theorem own_made0 (w : World) : Own (w.alloc (.cells #[] 29)) (.slice (some ⟨w.heap.size, 0, none⟩) 0 0) [] := World.ownsRow_made w #[] 0 (Nat.zero_le _) (by decide) (by simp)

set_option maxHeartbeats 4000000 in
set_option maxRecDepth 20000 in
theorem rWait_any (t : Tb) (l : Lk) (hl : InR l) (w : World) (h : Tab 43 w t) (hnc : ¬ Circ t.H t.W) :
    Calls Try.prog 14 #[.pointer (some ⟨t.p, 0, none⟩), l.val] w fun e w' => WaitP 43 w w' t l e := by
  obtain ⟨ha, hc, hhv, -, -, hls⟩ := h.oh.tel
  obtain ⟨wa, wc, hwv, hwl, hwm, wls⟩ := h.ow.tel
  have c0 := h.c0
  have c1 := h.c1
  rw [hhv] at c0
  rw [hwv] at c1
  have hfew := h.few
  obtain ⟨L, hL⟩ : ∃ L, L = l := ⟨_, rfl⟩
  have hval : L.val = .agg #[.int .i64 l.who, .int .i64 l.org, .int .i64 l.len, .bool l.sh] := by rw [hL]; rfl
  obtain ⟨W, hW⟩ : ∃ W, W = w.alloc (.cells #[.int .i64 l.who, .int .i64 l.org, .int .i64 l.len, .bool l.sh] 29) := ⟨_, rfl⟩
  have BX : Aside (Bx W w.heap.size l.who l.org l.len l.sh) := by rw [hW]; exact bx_new w _ _ _ _
  have R := aside (fun (V : World) (hV : Below w.heap.size w V) => refused_any t.p L ha wa t.H.length t.W.length hc wc (by rw [hL]; exact hl) (by omega) V ((hV.cell h.lt).trans c0) ((hV.cell (p := ⟨t.p, 1, none⟩) h.lt).trans c1))
  have KH := aside (fun (V : World) (hV : Below w.heap.size w V) (hm : may L = true) => rMeets_any L t.H ha hc hm h.mh (by omega) V (hls.below hV))
  have KW := aside (fun (V : World) (hV : Below w.heap.size w V) (hm : may L = true) => rMeets_any L t.W wa wc hm h.mw (by omega) V (wls.below hV))
  have HT := aside h
  have HW := aside hW
  have HF := aside hfew
  have HNC := aside hnc
  have HLS := aside hls
  have WLS := aside wls
  rw [hval] at R KH KW
  rw [show l.val = .agg #[.int .i64 l.who, .int .i64 l.org, .int .i64 l.len, .bool l.sh] from rfl]
  have x0 := BX.out.c0
  have x1 := BX.out.c1
  have x2 := BX.out.c2
  have x3 := BX.out.c3
  rw [HW.out] at x0 x1 x2 x3
  have hpw : ∀ V, Below w.heap.size w V → V.cell? ⟨t.p, 0, none⟩ = some (.slice ha t.H.length hc) ∧ V.cell? ⟨t.p, 1, none⟩ = some (.slice wa t.W.length wc) := fun V hV => ⟨(hV.cell h.lt).trans c0, (hV.cell (p := ⟨t.p, 1, none⟩) h.lt).trans c1⟩
  have HP := aside hpw
  have HHV := aside hhv
  have HWV := aside hwv
  clear hval hW hls wls h hfew hpw hhv hwv hnc hwl hwm
  by_cases hr : refE L (t.H.length + t.W.length) = 0
  · have hm : may L = true := by
      unfold refE at hr
      split at hr
      · simp at hr
      · rename_i hx; simpa using hx
    have hlt : ¬ 256 ≤ t.H.length + t.W.length := by
      unfold refE at hr
      rw [if_neg (by rw [hm]; simp)] at hr
      intro hc; rw [if_pos hc] at hr; simp at hr
    have K2 := aside (fun V hV => KH.out V hV hm)
    have K3 := aside (fun V hV => KW.out V hV hm)
    rw [hr] at R
    rw [hL] at hm
    have HM := aside hm
    have HLT := aside hlt
    by_cases hk : (hit L t.H || hit L t.W) = true
    · obtain ⟨m1, hm1⟩ : ∃ m1, m1 = hit L t.H := ⟨_, rfl⟩
      obtain ⟨m2, hm2⟩ : ∃ m2, m2 = hit L t.W := ⟨_, rfl⟩
      rw [← hm1] at K2
      rw [← hm2] at K3
      have hE : ∀ d, waitE t.H t.W l d = if d = true then 151 else 1 := fun d => by unfold waitE; rw [if_neg (by rw [hm]; simp), if_neg hlt, if_neg (by rw [← hL, hk]; simp)]
      have HE := aside hE
      rw [← hm1, ← hm2] at hk
      clear hE KH KW hr hlt hm hm1 hm2
      cases m1
      · obtain rfl : m2 = true := by simpa using hk
        clear hk
        go_enter Try.func14, Try.ntmps14
        go_wp2_with ((go_at_call 28; refine (R.out _ (below_al w _)).mono ?_; rintro e w2 ⟨rfl, hb2⟩; have HB2 : Aside (Below w.heap.size w w2) := aside (below_tr (below_al w _) hb2); have HB3 := aside hb2; clear hb2))
        have y0 := fun d os => ext_cell (HP.out _ HB2.out).2 d os
        have y1 := fun d os => ext_cell (HP.out _ HB2.out).1 d os
        have BX2 := BX.out
        rw [HW.out] at BX2
        have BX3 := BX2.below HB3.out
        have z0 := fun d os => ext_cell BX3.c0 d os
        have z1 := fun d os => ext_cell BX3.c1 d os
        have z2 := fun d os => ext_cell BX3.c2 d os
        have z3 := fun d os => ext_cell BX3.c3 d os
        refine region_ext (by kernel_rfl) (by kernel_rfl) ?_
        repeat (any_goals (first | go_big_quiet_step ((first | (with_reducible exact calls_ext (K2.out _ (below_tr HB2.out (below_ext _ _ _)))) | (with_reducible exact calls_ext (K3.out _ (below_tr HB2.out (below_ext _ _ _)))))) | quiet_step ((first | (with_reducible exact calls_ext (K2.out _ (below_tr HB2.out (below_ext _ _ _)))) | (with_reducible exact calls_ext (K3.out _ (below_tr HB2.out (below_ext _ _ _))))))))
        refine wpQuiet_nil ?_
        intro wq hwq
        have BX4 := BX3.below hwq
        have HB4 := aside (below_tr HB2.out hwq)
        clear y0 y1 z0 z1 z2 z3 x0 x1 x2 x3 BX2 BX3 hwq
        have BQ := below_al wq (.cells #[] 29)
        have q1 := (HP.out _ (below_tr HB4.out BQ)).2
        have OA := aside (own_made0 wq)
        have LA := aside (WLS.out.below (below_tr HB4.out BQ))
        have BX5 := aside BX4
        clear BQ BX4
        have nW : Aside (([] : List Lk).length + t.W.length ≤ 33554432) := aside (by have := HF.out; simp; omega)
        have nW1 : Aside (t.W.length + [l].length ≤ 33554432) := aside (by have := HF.out; simp; omega)
        go_wp2_with (first
          | ((with_reducible refine wpList_app rfl _ _ rfl (.slice (some ⟨wq.heap.size, 0, none⟩) 0 0) [] t.W wa t.W.length wc rfl rfl rfl OA.out LA.out nW.out t.W.length (by simp) ?_); intro a1 c1 w5 ho hu hv; have B5 := aside (below_tr HB4.out ((below_al wq (.cells #[] 29)).trans (hu.below (by simp) (fun k hk => by simp only [Value.ownBlock, Option.some.injEq] at hk; omega)))); have G5 : Aside (∀ k, (Value.slice a1 t.W.length c1).ownBlock = some k → w.heap.size ≤ k) := (fun k hk => by (have := HB4.out.size; rcases hv with h1 | ⟨h1, -⟩; (rw [h1] at hk; simp only [Value.ownBlock, Option.some.injEq] at hk; omega); (rw [h1] at hk; simp only [Option.some.injEq, World.size_alloc] at hk; omega))); have U5 := aside ((below_al wq (.cells #[] 29)).trans (hu.below (B := wq.heap.size) (by simp) (fun k hk => by simp only [Value.ownBlock, Option.some.injEq] at hk; omega))); have BX6 := BX5.out.below U5.out; have b0 := BX6.c0; have b1 := BX6.c1; have b2 := BX6.c2; have b3 := BX6.c3; have OB := aside (show Own (w5.alloc (.cells #[.int .i64 l.who, .int .i64 l.org, .int .i64 l.len, .bool l.sh] 29)) (.slice a1 t.W.length c1) t.W from (by rw [List.nil_append] at ho; exact Own.below ho (below_al w5 _))); have LB := aside (ls_lit w5 l); clear ho hu hv BX6 OA LA)
          | ((with_reducible refine wpList_app rfl _ _ rfl (.slice a1 t.W.length c1) t.W [l] (some ⟨w5.heap.size, 0, none⟩) 1 1 rfl rfl rfl OB.out LB.out nW1.out (t.W.length + 1) rfl ?_); intro a2 c2 w6 ho hu hv; have B6 := aside ((below_tr B5.out (below_al w5 (.cells #[.int .i64 l.who, .int .i64 l.org, .int .i64 l.len, .bool l.sh] 29))).trans (hu.below (Nat.le_trans B5.out.size (by simp)) G5.out)); have G6 : Aside (∀ k, (Value.slice a2 (t.W.length + 1) c2).ownBlock = some k → w.heap.size ≤ k) := (fun k hk => by (have := B5.out.size; rcases hv with h1 | ⟨h1, -⟩; (rw [h1] at hk; exact G5.out k hk); (rw [h1] at hk; simp only [Option.some.injEq, World.size_alloc] at hk; omega))); have OC := aside ho; have r0 := (HP.out _ B6.out).1; clear ho hu hv OB LB G5 B5 U5 b0 b1 b2 b3))
        obtain ⟨a3, c3, e3, -, -, LC⟩ := OC.out.tel
        have e3' : a3 = a2 ∧ c3 = c2 := by
          injection e3 with e4 e5 e6
          exact ⟨e4.symm, e6.symm⟩
        obtain ⟨rfl, rfl⟩ := e3'
        have CI := rCircle_any ha a3 t.H (t.W ++ [l]) hc c3 w6 (HLS.out.below B6.out) LC HT.out.mh (fun x hx => by
          rcases List.mem_append.1 hx with hx | hx
          · exact HT.out.mw x hx
          · simp at hx; subst hx; exact HM.out) (by have := HF.out; simp; omega)
        rw [show (t.W ++ [l]).length = t.W.length + 1 by simp] at CI
        refine CI.mono ?_
        rintro e w7 ⟨d, rfl, hd, b7⟩
        have HD := aside (hd.trans (circ_snoc HNC.out))
        have B7 := aside (below_tr B6.out b7)
        have OD := aside (OC.out.below b7)
        clear CI LC e3 hd b7 OC r0
        have r1 := (HP.out _ B7.out).2
        have fz : w7.frozen? ⟨t.p, 1, none⟩ = false := (HT.out.below B7.out).f0 1
        cases d
        · go_wp2
          go_ret2
          have hE := HE.out false
          rw [if_neg (by simp)] at hE
          refine ⟨false, _, by rw [hE]; rfl, HD.out, nx_waits HT.out OD.out (Upd.of_below B7.out) (fun k hk => .inr (G6.out k hk)) (fun x hx => ?_) (by have := HLT.out; simp; omega), ?_, ?_⟩
          · rcases List.mem_append.1 hx with hx | hx
            · exact HT.out.mw x hx
            · simp at hx; subst hx; exact HM.out
          · simp [waitH, hE]
          · simp [waitW, hE]
        · go_wp2
          go_ret2
          have hE := HE.out true
          simp only [if_true] at hE
          refine ⟨true, t, by rw [hE]; rfl, by have := HD.out; simpa using this, Nx.of_below HT.out B7.out, ?_, ?_⟩
          · simp [waitH, hE]
          · simp [waitW, hE]
      · clear hk
        go_enter Try.func14, Try.ntmps14
        go_wp2_with ((go_at_call 28; refine (R.out _ (below_al w _)).mono ?_; rintro e w2 ⟨rfl, hb2⟩; have HB2 : Aside (Below w.heap.size w w2) := aside (below_tr (below_al w _) hb2); have HB3 := aside hb2; clear hb2))
        have y0 := fun d os => ext_cell (HP.out _ HB2.out).2 d os
        have y1 := fun d os => ext_cell (HP.out _ HB2.out).1 d os
        have BX2 := BX.out
        rw [HW.out] at BX2
        have BX3 := BX2.below HB3.out
        have z0 := fun d os => ext_cell BX3.c0 d os
        have z1 := fun d os => ext_cell BX3.c1 d os
        have z2 := fun d os => ext_cell BX3.c2 d os
        have z3 := fun d os => ext_cell BX3.c3 d os
        refine region_ext (by kernel_rfl) (by kernel_rfl) ?_
        repeat (any_goals (first | go_big_quiet_step ((first | (with_reducible exact calls_ext (K2.out _ (below_tr HB2.out (below_ext _ _ _)))) | (with_reducible exact calls_ext (K3.out _ (below_tr HB2.out (below_ext _ _ _)))))) | quiet_step ((first | (with_reducible exact calls_ext (K2.out _ (below_tr HB2.out (below_ext _ _ _)))) | (with_reducible exact calls_ext (K3.out _ (below_tr HB2.out (below_ext _ _ _))))))))
        refine wpQuiet_nil ?_
        intro wq hwq
        have BX4 := BX3.below hwq
        have HB4 := aside (below_tr HB2.out hwq)
        clear y0 y1 z0 z1 z2 z3 x0 x1 x2 x3 BX2 BX3 hwq
        have BQ := below_al wq (.cells #[] 29)
        have q1 := (HP.out _ (below_tr HB4.out BQ)).2
        have OA := aside (own_made0 wq)
        have LA := aside (WLS.out.below (below_tr HB4.out BQ))
        have BX5 := aside BX4
        clear BQ BX4
        have nW : Aside (([] : List Lk).length + t.W.length ≤ 33554432) := aside (by have := HF.out; simp; omega)
        have nW1 : Aside (t.W.length + [l].length ≤ 33554432) := aside (by have := HF.out; simp; omega)
        go_wp2_with (first
          | ((with_reducible refine wpList_app rfl _ _ rfl (.slice (some ⟨wq.heap.size, 0, none⟩) 0 0) [] t.W wa t.W.length wc rfl rfl rfl OA.out LA.out nW.out t.W.length (by simp) ?_); intro a1 c1 w5 ho hu hv; have B5 := aside (below_tr HB4.out ((below_al wq (.cells #[] 29)).trans (hu.below (by simp) (fun k hk => by simp only [Value.ownBlock, Option.some.injEq] at hk; omega)))); have G5 : Aside (∀ k, (Value.slice a1 t.W.length c1).ownBlock = some k → w.heap.size ≤ k) := (fun k hk => by (have := HB4.out.size; rcases hv with h1 | ⟨h1, -⟩; (rw [h1] at hk; simp only [Value.ownBlock, Option.some.injEq] at hk; omega); (rw [h1] at hk; simp only [Option.some.injEq, World.size_alloc] at hk; omega))); have U5 := aside ((below_al wq (.cells #[] 29)).trans (hu.below (B := wq.heap.size) (by simp) (fun k hk => by simp only [Value.ownBlock, Option.some.injEq] at hk; omega))); have BX6 := BX5.out.below U5.out; have b0 := BX6.c0; have b1 := BX6.c1; have b2 := BX6.c2; have b3 := BX6.c3; have OB := aside (show Own (w5.alloc (.cells #[.int .i64 l.who, .int .i64 l.org, .int .i64 l.len, .bool l.sh] 29)) (.slice a1 t.W.length c1) t.W from (by rw [List.nil_append] at ho; exact Own.below ho (below_al w5 _))); have LB := aside (ls_lit w5 l); clear ho hu hv BX6 OA LA)
          | ((with_reducible refine wpList_app rfl _ _ rfl (.slice a1 t.W.length c1) t.W [l] (some ⟨w5.heap.size, 0, none⟩) 1 1 rfl rfl rfl OB.out LB.out nW1.out (t.W.length + 1) rfl ?_); intro a2 c2 w6 ho hu hv; have B6 := aside ((below_tr B5.out (below_al w5 (.cells #[.int .i64 l.who, .int .i64 l.org, .int .i64 l.len, .bool l.sh] 29))).trans (hu.below (Nat.le_trans B5.out.size (by simp)) G5.out)); have G6 : Aside (∀ k, (Value.slice a2 (t.W.length + 1) c2).ownBlock = some k → w.heap.size ≤ k) := (fun k hk => by (have := B5.out.size; rcases hv with h1 | ⟨h1, -⟩; (rw [h1] at hk; exact G5.out k hk); (rw [h1] at hk; simp only [Option.some.injEq, World.size_alloc] at hk; omega))); have OC := aside ho; have r0 := (HP.out _ B6.out).1; clear ho hu hv OB LB G5 B5 U5 b0 b1 b2 b3))
        obtain ⟨a3, c3, e3, -, -, LC⟩ := OC.out.tel
        have e3' : a3 = a2 ∧ c3 = c2 := by
          injection e3 with e4 e5 e6
          exact ⟨e4.symm, e6.symm⟩
        obtain ⟨rfl, rfl⟩ := e3'
        have CI := rCircle_any ha a3 t.H (t.W ++ [l]) hc c3 w6 (HLS.out.below B6.out) LC HT.out.mh (fun x hx => by
          rcases List.mem_append.1 hx with hx | hx
          · exact HT.out.mw x hx
          · simp at hx; subst hx; exact HM.out) (by have := HF.out; simp; omega)
        rw [show (t.W ++ [l]).length = t.W.length + 1 by simp] at CI
        refine CI.mono ?_
        rintro e w7 ⟨d, rfl, hd, b7⟩
        have HD := aside (hd.trans (circ_snoc HNC.out))
        have B7 := aside (below_tr B6.out b7)
        have OD := aside (OC.out.below b7)
        clear CI LC e3 hd b7 OC r0
        have r1 := (HP.out _ B7.out).2
        have fz : w7.frozen? ⟨t.p, 1, none⟩ = false := (HT.out.below B7.out).f0 1
        cases d
        · go_wp2
          go_ret2
          have hE := HE.out false
          rw [if_neg (by simp)] at hE
          refine ⟨false, _, by rw [hE]; rfl, HD.out, nx_waits HT.out OD.out (Upd.of_below B7.out) (fun k hk => .inr (G6.out k hk)) (fun x hx => ?_) (by have := HLT.out; simp; omega), ?_, ?_⟩
          · rcases List.mem_append.1 hx with hx | hx
            · exact HT.out.mw x hx
            · simp at hx; subst hx; exact HM.out
          · simp [waitH, hE]
          · simp [waitW, hE]
        · go_wp2
          go_ret2
          have hE := HE.out true
          simp only [if_true] at hE
          refine ⟨true, t, by rw [hE]; rfl, by have := HD.out; simpa using this, Nx.of_below HT.out B7.out, ?_, ?_⟩
          · simp [waitH, hE]
          · simp [waitW, hE]
    · have hk0 : (hit L t.H || hit L t.W) = false := by simpa using hk
      have hk1 : hit L t.H = false := by rw [Bool.or_eq_false_iff] at hk0; exact hk0.1
      have hk2 : hit L t.W = false := by rw [Bool.or_eq_false_iff] at hk0; exact hk0.2
      rw [hk1] at K2
      rw [hk2] at K3
      have hE : ∀ d, waitE t.H t.W l d = 0 := fun d => by unfold waitE; rw [if_neg (by rw [hm]; simp), if_neg hlt, if_pos (by rw [← hL]; exact hk0)]
      have HE := aside hE
      clear hE KH KW hr hk hlt hm hk0 hk1 hk2
      go_enter Try.func14, Try.ntmps14
      go_wp2_with ((go_at_call 28; refine (R.out _ (below_al w _)).mono ?_; rintro e w2 ⟨rfl, hb2⟩; have HB2 : Aside (Below w.heap.size w w2) := aside (below_tr (below_al w _) hb2); have HB3 := aside hb2; clear hb2))
      have y0 := fun d os => ext_cell (HP.out _ HB2.out).2 d os
      have y1 := fun d os => ext_cell (HP.out _ HB2.out).1 d os
      have BX2 := BX.out
      rw [HW.out] at BX2
      have BX3 := BX2.below HB3.out
      have z0 := fun d os => ext_cell BX3.c0 d os
      have z1 := fun d os => ext_cell BX3.c1 d os
      have z2 := fun d os => ext_cell BX3.c2 d os
      have z3 := fun d os => ext_cell BX3.c3 d os
      refine region_ext (by kernel_rfl) (by kernel_rfl) ?_
      repeat (any_goals (first | go_big_quiet_step ((first | (with_reducible exact calls_ext (K2.out _ (below_tr HB2.out (below_ext _ _ _)))) | (with_reducible exact calls_ext (K3.out _ (below_tr HB2.out (below_ext _ _ _)))))) | quiet_step ((first | (with_reducible exact calls_ext (K2.out _ (below_tr HB2.out (below_ext _ _ _)))) | (with_reducible exact calls_ext (K3.out _ (below_tr HB2.out (below_ext _ _ _))))))))
      refine wpQuiet_nil ?_
      intro wq hwq
      have BX4 := BX3.below hwq
      have HB4 := aside (below_tr HB2.out hwq)
      clear y0 y1 z0 z1 z2 z3 x0 x1 x2 x3 BX2 BX3 hwq
      have p0 := (HP.out _ HB4.out).1
      have b0 := BX4.c0
      have b1 := BX4.c1
      have b2 := BX4.c2
      have b3 := BX4.c3
      have LS := aside (ls_lit wq.drew l)
      have OW : Aside (Own (wq.drew.alloc (.cells #[.int .i64 l.who, .int .i64 l.org, .int .i64 l.len, .bool l.sh] 29)) t.hv t.H) := HT.out.oh.below (below_tr HB4.out (below_tr (below_dr _) (below_al _ _)))
      have NH : Aside (¬ t.hv.ownBlock = some t.p) := HT.out.nh
      have BV : Aside (Below w.heap.size w (wq.drew.alloc (.cells #[.int .i64 l.who, .int .i64 l.org, .int .i64 l.len, .bool l.sh] 29))) := below_tr HB4.out (below_tr (below_dr _) (below_al _ _))
      have FW : Aside (t.H.length + [l].length ≤ 33554432) := aside (by have := HF.out; show t.H.length + 1 ≤ _; omega)
      have GK := aside (push_keep (w := w) (v := t.hv) (c := ⟨t.p, 0, none⟩) (fun k hk => ⟨HT.out.oh.lt hk, fun e => NH.out (by rw [hk, e])⟩) p0 ((HT.out.below HB4.out).f0 0) BX4 (Nat.le_refl _) (.cells #[.int .i64 l.who, .int .i64 l.org, .int .i64 l.len, .bool l.sh] 29))
      rw [HHV.out] at OW GK
      clear BX4
      have q0 : (wq.alloc (.cells #[.int .i64 l.who, .int .i64 l.org, .int .i64 l.len, .bool l.sh] 29)).cell? ⟨t.p, 0, none⟩ = some (.slice ha t.H.length hc) := ((below_al wq _).cell (World.block_lt_of_cell? wq _ p0)).trans p0
      go_wp2
      go_region_law ((refine step_app rfl _ _ rfl (.slice ha t.H.length hc) t.H [l] (some ⟨wq.heap.size, 0, none⟩) 1 1 rfl rfl rfl OW.out LS.out FW.out (t.H.length + 1) rfl ?_; intro a' c' w' ho hu hv; obtain ⟨g0, g1, g2, g3, g4, g5⟩ := GK.out w' hu; have HO := aside ho; have HU := aside hu; have HV := aside hv; clear ho hu hv))
      all_goals (go_wp2; go_ret2)
      all_goals (obtain ⟨d, hd⟩ := dec_dead t l; refine ⟨d, _, by rw [HE.out]; rfl, hd, pushed_held HT.out BV.out HO.out (by rw [HHV.out]; exact HU.out) (by rw [HHV.out]; exact HV.out) HM.out HLT.out, ?_, ?_⟩)
      all_goals (simp [waitH, waitW, HE.out])
  · have hE : ∀ d, ((erOf (waitE t.H t.W l d) : Nat) : Int) = refE L (t.H.length + t.W.length) ∧ waitE t.H t.W l d ≠ 0 ∧ waitE t.H t.W l d ≠ 1 := fun d => by
      unfold waitE
      unfold refE at hr ⊢
      rw [← hL]
      by_cases h1 : may L = false
      · rw [if_pos h1, if_pos h1]; simp [erOf]
      · rw [if_neg h1] at hr
        rw [if_neg h1, if_neg h1]
        by_cases h2 : 256 ≤ t.H.length + t.W.length
        · rw [if_pos h2, if_pos h2]; simp [erOf]
        · rw [if_neg h2] at hr; simp at hr
    have HE := aside hE
    clear hE KH KW
    generalize refE L (t.H.length + t.W.length) = r at *
    go_enter Try.func14, Try.ntmps14
    go_wp2_with ((go_at_call 28; refine (R.out _ (below_al w _)).mono ?_; rintro e w2 ⟨rfl, hb2⟩; have HB2 : Aside (Below w.heap.size w w2) := aside (below_tr (below_al w _) hb2); have HB3 := aside hb2; clear hb2))
    go_ret2
    obtain ⟨d, hd⟩ := dec_dead t l
    obtain ⟨e1, e2, e3⟩ := HE.out d
    refine ⟨d, t, ?_, hd, Nx.of_below HT.out HB2.out, ?_, ?_⟩
    · rw [e1]; simp [okOf, e2]
    · simp [waitH, e2]
    · simp [waitW, e3]
end Go.Proofs.Ytfpegmmciphjiaa
