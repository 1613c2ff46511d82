/- goOn: the table goes on. -/
import Derived.Test.YtfpegmmciphjiaaCut
namespace Go.Proofs.Ytfpegmmciphjiaa
open Go.RowKit

/-- The state within goOn: the table, what is told, what is looked at. -/
structure OnAt (w wr : World) (t tt : Tb) (tv : Value) (A R U : List Lk) : Prop where
  nx : Nx 55 w wr t tt
  ww : tt.W = A ++ R
  tl : Own wr tv U
  tn : ∀ k, tv.ownBlock = some k → w.heap.size ≤ k ∧ ¬ tt.F k
  eq : onF tt.H A U R = onF t.H [] [] t.W
  ul : U.length ≤ t.W.length

theorem onF_stay {x : Lk} {H A U R : List Lk} (h : (hit x H || hit x A) = true) : onF H A U (x :: R) = onF H (A ++ [x]) U R := by
  conv => lhs; unfold onF
  rw [if_pos h]
theorem onF_go {x : Lk} {H A U R : List Lk} (h : (hit x H || hit x A) = false) : onF H A U (x :: R) = onF (H ++ [x]) A (U ++ [x]) R := by
  conv => lhs; unfold onF
  rw [if_neg (by rw [h]; simp)]

theorem Upd.own {F : Nat → Prop} {w w' : World} {v : Value} {L : List Lk} (h : Upd F w w') (hr : Own w v L) (hn : ∀ k, v.ownBlock = some k → ¬ F k) : Own w' v L := h.row hr hn
theorem OnAt.below {w wr wq : World} {t tt : Tb} {tv : Value} {A R U : List Lk} (h : OnAt w wr t tt tv A R U) (hb : Below wr.heap.size wr wq) : OnAt w wq t tt tv A R U := ⟨h.nx.then hb, h.ww, h.tl.below hb, h.tn, h.eq, h.ul⟩

/-- One goes on: its lock is told, too. -/
theorem OnAt.go {w wr W3 w4 : World} {t tt t3 : Tb} {tv tv' : Value} {A R U : List Lk} {x : Lk} (h : OnAt w wr t tt tv A (x :: R) U) (hN : Nx 55 wr W3 tt t3) (hH : t3.H = tt.H ++ [x]) (hW : t3.W = A ++ R) (he : onF tt.H A U (x :: R) = onF (tt.H ++ [x]) A (U ++ [x]) R)
    {V : World} (hV : Below W3.heap.size W3 V) (ho : Own w4 tv' (U ++ [x])) (hu : Upd (fun k => tv.ownBlock = some k) V w4) (hv : tv'.ownBlock = tv.ownBlock ∨ tv'.ownBlock = some V.heap.size ∧ Below V.heap.size V w4) (hn : (U ++ [x]).length ≤ t.W.length) : OnAt w w4 t t3 tv' A R (U ++ [x]) := by
  have hnx := h.nx.trans hN
  have hdis : ∀ k, tv.ownBlock = some k → ¬ t3.F k := fun k hk hf => by
    rcases hN.grew k hf with h1 | h1
    · exact (h.tn k hk).2 h1
    · have := h.tl.lt hk; omega
  have htabV : Tab 55 V t3 := hN.tab.below hV
  have htab4 : Tab 55 w4 t3 := htabV.kept hu (fun k hk hf => hdis k hf hk)
  refine ⟨⟨htab4, hnx.pp, ?_, hnx.grew⟩, hW, ho, fun k hk => ?_, by rw [hH, ← he]; exact h.eq, hn⟩
  · refine (hnx.upd.trans (Upd.of_below hV) (fun j _ hj => hj)).trans (Upd.mono hu (G := fun k => tv.ownBlock = some k) (fun _ _ h => h)) (fun j hj hf => ?_)
    have := (h.tn j hf).1
    omega
  · rcases hv with h1 | ⟨h1, -⟩
    · rw [h1] at hk; exact ⟨(h.tn k hk).1, hdis k hk⟩
    · rw [h1] at hk
      simp only [Option.some.injEq] at hk
      have := htabV.flt (k := k)
      refine ⟨?_, fun hf => by have := this hf; omega⟩
      have h2 := hnx.upd.size
      have h3 := hV.size
      omega

set_option maxHeartbeats 4000000 in
theorem goOn_any (t : Tb) (w : World) (h : Tab 55 w t) :
    Calls Try.prog 34 #[.pointer (some ⟨t.p, 0, none⟩)] w fun e w' => ∃ t' a n c, e = .returned (.slice a n c) ∧ Nx 55 w w' t t' ∧ t'.H = (onF t.H [] [] t.W).1 ∧ t'.W = (onF t.H [] [] t.W).2.1 ∧ Own w' (.slice a n c) (onF t.H [] [] t.W).2.2 ∧ ∀ k, (Value.slice a n c).ownBlock = some k → w.heap.size ≤ k ∧ ¬ t'.F k := by
  have HT := aside h
  clear h
  go_enter Try.func34, Try.ntmps34
  go_wp2
  go_loopg [3, 4] t.W.length (fun G s3 s4 wr => ∃ (a : Option Addr) (n c k : Nat) (tt : Tb) (A R U : List Lk), s3 = .slice a n c ∧ s4 = .int .i64 (k : Int) ∧ R.length ≤ G ∧ Aside (k = A.length) ∧ Aside (OnAt w wr t tt (.slice a n c) A R U))
  case atStart =>
    exact ⟨none, 0, 0, 0, t, [], t.W, [], rfl, rfl, Nat.le_refl _, aside rfl, aside ⟨Nx.refl HT.out, rfl, own_none _, by simp [Value.ownBlock], rfl, by simp⟩⟩
  case round =>
    obtain ⟨a, n, c, k, tt, A, R, U, rfl, rfl, hG, hk, hS⟩ := hrel
    have htab := hS.out.nx.tab
    have hpp := hS.out.nx.pp
    obtain ⟨wa, wc, hwv, hwn, hwc, wls⟩ := htab.ow.tel
    have hW := hS.out.ww
    have c1 := htab.c1
    rw [hwv, hpp] at c1
    obtain ⟨nW, hnW⟩ : ∃ nW, nW = tt.W.length := ⟨_, rfl⟩
    have hsum : nW = A.length + R.length := by rw [hnW, hW]; simp
    rw [← hnW] at c1
    cases R with
    | nil =>
      have t1 : ¬ ((k : Int) < (nW : Int)) := by have := hk.out; simp at hsum; omega
      clear hnW hwv hW hsum hwn hwc wls htab hpp
      go_wp2_with fail
      go_ret
      have he := hS.out.eq
      rw [show onF tt.H A U [] = (tt.H, A, U) from rfl] at he
      refine ⟨tt, a, n, c, rfl, hS.out.nx, by rw [← he], by rw [← he, hS.out.ww]; simp, by rw [← he]; exact hS.out.tl, hS.out.tn⟩
    | cons x R =>
      have t1 : (k : Int) < (nW : Int) := by have := hk.out; simp at hsum; omega
      have t2 : k < nW := by omega
      obtain ⟨g, o, rfl, hrd⟩ := wls (fun h0 => by rw [h0] at hnW; simp at hnW; omega)
      have hx : tt.W[k]? = some x := by rw [hW, hk.out]; simp
      obtain ⟨q0, q1, q2, q3⟩ := hrd.lock hx
      have hmx : may x = true := htab.mw x (List.mem_of_getElem? hx)
      obtain ⟨ha, hc, hhv, -, -, hls⟩ := htab.oh.tel
      have hfew := htab.few
      have hn256 : nW ≤ 256 := by omega
      have hs1 := slice_h (some ⟨g, o, none⟩) nW wc k (by omega) (by omega)
      obtain ⟨V, hV⟩ : ∃ V, V = wr.alloc (.cells #[.int .i64 x.who, .int .i64 x.org, .int .i64 x.len, .bool x.sh] 29) := ⟨_, rfl⟩
      have BV : Aside (Below wr.heap.size wr V) := by rw [hV]; exact below_al _ _
      have BX : Aside (Bx V wr.heap.size x.who x.org x.len x.sh) := by rw [hV]; exact bx_new wr _ _ _ _
      have hkl : (tt.W.take k).length = k := by rw [List.length_take]; omega
      have hAk : tt.W.take k = A := by rw [hW, hk.out]; simp
      have c0 := htab.c0
      rw [hhv] at c0
      have K := aside (fun (Y : World) (hY : Below wr.heap.size wr Y) => keeps_any tt.p x tt.H (tt.W.take k) ha (some ⟨g, o, none⟩) hc wc hmx htab.mh (fun y hy => htab.mw y (List.mem_of_mem_take hy)) (by omega) (by omega) Y ((hY.cell htab.lt).trans c0) (hls.below hY) ((ls_take k (fun _ => ⟨g, o, rfl, hrd⟩ : LsAt wr (some ⟨g, o, none⟩) tt.W)).below hY))
      rw [hkl, hAk, hpp, show x.val = .agg #[.int .i64 x.who, .int .i64 x.org, .int .i64 x.len, .bool x.sh] from rfl] at K
      have HV := aside hV
      have e1 := fun d os => ext_cell (((BV.out.cell (World.block_lt_of_cell? wr _ c1)).trans c1)) d os
      have a0 := fun d os => (BX.out.ext d os).c0
      have a1 := fun d os => (BX.out.ext d os).c1
      have a2 := fun d os => (BX.out.ext d os).c2
      have a3 := fun d os => (BX.out.ext d os).c3
      have HX := aside hx
      have HMX := aside hmx
      have HHV := aside hhv
      have HWV := aside hwv
      have HNW := aside hnW
      have HSUM := aside hsum
      have HFEW := aside hfew
      have HPP := aside hpp
      clear hx hmx hhv hwv hnW hsum hfew hrd hls wls htab hW hkl hAk c0 hV hwn hwc hpp
      by_cases hkp : (hit x tt.H || hit x A) = true
      · rw [hkp] at K
        have HE := aside (onF_stay (U := U) (R := R) hkp)
        clear hkp
        go_wp2_with fail
        rw [← HV.out]
        refine region_ext (by kernel_rfl) (by kernel_rfl) ?_
        repeat (any_goals (first | go_big_quiet_step (((with_reducible exact calls_ext (K.out _ (below_tr BV.out (below_ext _ _ _)))))) | quiet_step (((with_reducible exact calls_ext (K.out _ (below_tr BV.out (below_ext _ _ _))))))))
        refine wpQuiet_nil ?_
        intro wq hwq
        have HQ := aside (below_tr BV.out hwq)
        clear hwq e1 a0 a1 a2 a3
        go_wp2_with fail
        go_roundg (gk - 1)
        case measure => simp at hG; omega
        case rel =>
          refine ⟨a, n, c, k + 1, tt, A ++ [x], R, U, rfl, by go_num, by simp at hG; omega, aside (by rw [hk.out]; simp), aside ?_⟩
          have h2 := hS.out.below HQ.out
          exact ⟨h2.nx, by rw [h2.ww]; simp, h2.tl, h2.tn, by rw [← HE.out]; exact h2.eq, h2.ul⟩
      · have hkp0 : (hit x tt.H || hit x A) = false := by simpa using hkp
        rw [hkp0] at K
        have HE := aside (onF_go (U := U) (R := R) hkp0)
        clear hkp hkp0
        go_wp2_with fail
        rw [← HV.out]
        refine region_ext (by kernel_rfl) (by kernel_rfl) ?_
        repeat (any_goals (first | go_big_quiet_step (((with_reducible exact calls_ext (K.out _ (below_tr BV.out (below_ext _ _ _)))))) | quiet_step (((with_reducible exact calls_ext (K.out _ (below_tr BV.out (below_ext _ _ _))))))))
        refine wpQuiet_nil ?_
        intro wq hwq
        have HQ := aside (below_tr BV.out hwq)
        have BQ := aside (BX.out.below hwq)
        clear hwq e1 a0 a1 a2 a3
        have S2 := aside (hS.out.below HQ.out)
        have d1 := S2.out.nx.tab.c1
        have WO := aside (without_any tt.wv tt.W k wq S2.out.nx.tab.ow (by have := HNW.out; omega) (by have := HNW.out; omega))
        have hER : tt.W.eraseIdx k = A ++ R := by rw [S2.out.ww, hk.out]; exact erase_mid A R x
        rw [hER, HWV.out, ← HNW.out] at WO
        rw [HWV.out, HPP.out, ← HNW.out] at d1
        have NW : Aside (¬ tt.wv.ownBlock = some t.p) := by have := S2.out.nx.tab.nw; rw [HPP.out] at this; exact this
        rw [HWV.out, ← HNW.out] at NW
        have F1 : Aside (wq.frozen? ⟨t.p, 1, none⟩ = false) := by have := S2.out.nx.tab.f0 1; rw [HPP.out] at this; exact this
        have PL : Aside (t.p < wq.heap.size) := by have := S2.out.nx.tab.lt; rw [HPP.out] at this; exact this
        clear hER
        go_wp2_with ((go_at_call 33; refine WO.out.mono ?_; rintro e w2 ⟨a', c', rfl, ho, hu, hb⟩; have HO2 := aside ho; have HU2 := aside hu; have HB2 := aside hb; have y1 := hu.cell d1 NW.out; have y2 : w2.frozen? ⟨t.p, 1, none⟩ = false := (World.frozen?_of_block (hu.block t.p PL.out NW.out)).trans F1.out; clear ho hu hb))
        obtain ⟨W2, hW2⟩ : ∃ W2, W2 = w2.setCell ⟨t.p, 1, none⟩ (.slice a' (nW - 1) c') := ⟨_, rfl⟩
        rw [← hW2]
        have N2 : Nx 55 wq W2 tt ⟨t.p, tt.hv, .slice a' (nW - 1) c', tt.H, A ++ R⟩ := by
          have := nx_waits S2.out.nx.tab HO2.out (by rw [HWV.out, ← HNW.out]; exact HU2.out) (by rw [HWV.out, ← HNW.out]; exact HB2.out) (fun y hy => S2.out.nx.tab.mw y (by rw [S2.out.ww]; simp at hy ⊢; rcases hy with h | h; exact .inl h; exact .inr (.inr h))) (by have h1 := S2.out.nx.tab.few; rw [S2.out.ww] at h1; simp at h1 ⊢; omega)
          rw [HPP.out] at this
          rw [hW2]; exact this
        have HN2 := aside N2
        have hbF : ¬ tt.F wr.heap.size := fun hf => by have := hS.out.nx.tab.flt hf; omega
        have BX2 := BQ.out.upd N2.upd hbF
        have z0 := N2.tab.c0
        have zf := N2.tab.f0 0
        have zl := N2.tab.lt
        simp only at z0 zf zl
        rw [HHV.out] at z0
        have OW : Aside (Own (W2.drew.alloc (.cells #[.int .i64 x.who, .int .i64 x.org, .int .i64 x.len, .bool x.sh] 29)) tt.hv tt.H) := N2.tab.oh.below (below_tr (below_dr _) (below_al _ _))
        have LS := aside (ls_lit W2.drew x)
        have FW : Aside (tt.H.length + [x].length ≤ 33554432) := by have := HFEW.out; show tt.H.length + 1 ≤ _; omega
        have GK := aside (push_keep (w := wr) (v := tt.hv) (c := ⟨t.p, 0, none⟩) (fun j hj => ⟨hS.out.nx.tab.oh.lt hj, fun e => hS.out.nx.tab.nh (by rw [hj, e, HPP.out])⟩) z0 zf BX2 (Nat.le_refl _) (.cells #[.int .i64 x.who, .int .i64 x.org, .int .i64 x.len, .bool x.sh] 29))
        have z1 : (W2.alloc (.cells #[.int .i64 x.who, .int .i64 x.org, .int .i64 x.len, .bool x.sh] 29)).cell? ⟨t.p, 0, none⟩ = some (.slice ha tt.H.length hc) := ((below_al W2 _).cell (World.block_lt_of_cell? W2 _ z0)).trans z0
        have BV2 : Aside (Below W2.heap.size W2 (W2.drew.alloc (.cells #[.int .i64 x.who, .int .i64 x.org, .int .i64 x.len, .bool x.sh] 29))) := below_tr (below_dr _) (below_al _ _)
        rw [HHV.out] at OW GK
        have b0 := BX2.c0
        have b1 := BX2.c1
        have b2 := BX2.c2
        have b3 := BX2.c3
        have HBX2 := aside BX2
        clear BX2 N2 hW2 y1 y2 zl d1 q0 q1 q2 q3 c1 hbF
        go_region_law (refine step_app rfl _ _ rfl (.slice ha tt.H.length hc) tt.H [x] (some ⟨W2.heap.size, 0, none⟩) 1 1 rfl rfl rfl OW.out LS.out FW.out (tt.H.length + 1) rfl ?_; intro a3 c3 w3 ho hu hv; obtain ⟨g0, g1, g2, g3, g4, g5⟩ := GK.out w3 hu; have HO3 := aside ho; have HU3 := aside hu; have HV3 := aside hv; clear ho hu hv)
        all_goals (
          obtain ⟨W3, hW3⟩ : ∃ W3, W3 = w3.setCell ⟨t.p, 0, none⟩ (.slice a3 (tt.H.length + 1) c3) := ⟨_, rfl⟩
          have N3 : Nx 55 W2 W3 ⟨t.p, tt.hv, .slice a' (nW - 1) c', tt.H, A ++ R⟩ ⟨t.p, .slice a3 (tt.H.length + 1) c3, .slice a' (nW - 1) c', tt.H ++ [x], A ++ R⟩ := by
            rw [hW3]
            exact pushed_held HN2.out.tab BV2.out HO3.out (by simp only [HHV.out]; exact HU3.out) (by simp only [HHV.out]; exact HV3.out) HMX.out (by have h1 := HFEW.out; have h2 := HSUM.out; rw [← HNW.out] at h1; simp at h2 ⊢; omega)
          have N4 : Aside (Nx 55 wr W3 tt ⟨t.p, .slice a3 (tt.H.length + 1) c3, .slice a' (nW - 1) c', tt.H ++ [x], A ++ R⟩) := Nx.after HQ.out (HN2.out.trans N3)
          have BX3 : Bx W3 wr.heap.size x.who x.org x.len x.sh := HBX2.out.upd N3.upd (fun hf => by
            rcases HN2.out.grew _ hf with h1 | h1
            · have := hS.out.nx.tab.flt h1; omega
            · have := World.block_lt_of_cell? _ _ BQ.out.c0; simp only at this; omega)
          have r0 := BX3.c0
          have r1 := BX3.c1
          have r2 := BX3.c2
          have r3 := BX3.c3
          have LS3 := aside (ls_lit W3 x)
          have TO : Aside (Own (W3.alloc (.cells #[.int .i64 x.who, .int .i64 x.org, .int .i64 x.len, .bool x.sh] 29)) (.slice a n c) U) := (N4.out.upd.own hS.out.tl (fun k hk => (hS.out.tn k hk).2)).below (below_al _ _)
          have UL : Aside (U.length + [x].length ≤ 33554432) := by have := hS.out.ul; have h2 := HT.out.few; show U.length + 1 ≤ _; omega
          rw [← hW3]
          clear hW3 N3 g0 g1 g2 g3 g4 g5 b0 b1 b2 b3 BX3
          go_wp2_with (at_builtin; refine wpList_app rfl _ _ rfl (.slice a n c) U [x] (some ⟨W3.heap.size, 0, none⟩) 1 1 rfl rfl rfl TO.out LS3.out UL.out (U.length + 1) rfl ?_; intro a4 c4 w4 ho hu hv; have HO4 := aside ho; have HU4 := aside hu; have HV4 := aside hv; clear ho hu hv)
          go_roundg (gk - 1)
          case measure => simp at hG; omega
          case rel =>
            refine ⟨a4, U.length + 1, c4, k, _, A, R, U ++ [x], rfl, rfl, by simp at hG; omega, hk, aside (hS.out.go N4.out rfl rfl HE.out (below_al _ _) HO4.out HU4.out HV4.out ?_)⟩
            have hq := (onF_p (x :: R) tt.H A U).len
            rw [hS.out.eq] at hq
            have hq2 := (onF_p t.W t.H [] []).len
            simp only [List.length_cons, List.length_nil, List.length_append] at hq hq2 ⊢
            omega)
end Go.Proofs.Ytfpegmmciphjiaa
