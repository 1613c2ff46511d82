/- The document's own Leave and Free. -/
import Derived.Test.YtfpegmmciphjiaaRefOnW
namespace Go.Proofs.Ytfpegmmciphjiaa
open Go.RowKit

structure TurnR (c : Nat) (w w1 W : World) (t t1 : Tb) (a1 : Option Addr) (n1 c1 : Nat) (x0 x1 : Value) : Prop where
  eq : W = w1.setCell ⟨t.p, c, none⟩ (.slice a1 n1 c1)
  nx : Nx 43 w W t t1
  y0 : w1.cell? ⟨t.p, 0, none⟩ = some x0
  y1 : w1.cell? ⟨t.p, 1, none⟩ = some x1
  f : w1.frozen? ⟨t.p, c, none⟩ = false
theorem turnR_held {w w1 : World} {t : Tb} {a1 : Option Addr} {n1 c1 : Nat} {H' : List Lk} (h : Tab 43 w t) (ho : Own w1 (.slice a1 n1 c1) H') (hb : Below w.heap.size w w1) (hv : ∀ k, (Value.slice a1 n1 c1).ownBlock = some k → w.heap.size ≤ k) (hs : H'.Sublist t.H) :
    TurnR 0 w w1 (w1.setCell ⟨t.p, 0, none⟩ (.slice a1 n1 c1)) t ⟨t.p, .slice a1 n1 c1, t.wv, H', t.W⟩ a1 n1 c1 t.hv t.wv := by
  have h1 := h.below hb
  exact ⟨rfl, nx_setH (Nx.of_below h hb) ho (fun k hk => ⟨hv k hk, fun hf => by have := h.flt hf; have := hv k hk; omega⟩) (fun x hx => h.mh x (hs.subset hx)) (by have := hs.length_le; have := h.few; omega), h1.c0, h1.c1, h1.f0 0⟩
theorem turnR_waits {w w1 : World} {t : Tb} {a1 : Option Addr} {n1 c1 : Nat} {W' : List Lk} (h : Tab 43 w t) (ho : Own w1 (.slice a1 n1 c1) W') (hb : Below w.heap.size w w1) (hv : ∀ k, (Value.slice a1 n1 c1).ownBlock = some k → w.heap.size ≤ k) (hs : W'.Sublist t.W) :
    TurnR 1 w w1 (w1.setCell ⟨t.p, 1, none⟩ (.slice a1 n1 c1)) t ⟨t.p, t.hv, .slice a1 n1 c1, t.H, W'⟩ a1 n1 c1 t.hv t.wv := by
  have h1 := h.below hb
  have hq : NxQ 43 w w1 t t := ⟨h1.q, rfl, Upd.of_below hb, fun _ h => .inl h⟩
  exact ⟨rfl, nx_setW hq ho (fun k hk => ⟨hv k hk, fun hf => by have := h.flt hf; have := hv k hk; omega⟩) (fun x hx => h.mw x (hs.subset hx)) (by have := hs.length_le; have := h.few; omega), h1.c0, h1.c1, h1.f0 1⟩
theorem rLeave_held (t : Tb) (who : Int) (w : World) (h : Tab 43 w t) : Calls Try.prog 39 #[t.hv, .int .i64 who] w fun e w1 => ∃ a1 n1 c1 W, e = .returned (.slice a1 n1 c1) ∧ TurnR 0 w w1 W t ⟨t.p, .slice a1 n1 c1, t.wv, gone t.H who, t.W⟩ a1 n1 c1 t.hv t.wv :=
  (rWithout_any t.hv t.H who w h.oh (by have := h.few; omega)).mono fun _ _ ⟨a1, n1, c1, he, ho, hb, hn⟩ => ⟨a1, n1, c1, _, he, turnR_held h ho hb hn (gone_sub _ _)⟩
theorem rLeave_waits (t : Tb) (who : Int) (w : World) (h : Tab 43 w t) : Calls Try.prog 39 #[t.wv, .int .i64 who] w fun e w1 => ∃ a1 n1 c1 W, e = .returned (.slice a1 n1 c1) ∧ TurnR 1 w w1 W t ⟨t.p, t.hv, .slice a1 n1 c1, t.H, gone t.W who⟩ a1 n1 c1 t.hv t.wv :=
  (rWithout_any t.wv t.W who w h.ow (by have := h.few; omega)).mono fun _ _ ⟨a1, n1, c1, he, ho, hb, hn⟩ => ⟨a1, n1, c1, _, he, turnR_waits h ho hb hn (gone_sub _ _)⟩

set_option maxHeartbeats 2000000 in
theorem rLeave_any (t : Tb) (who : Int) (w : World) (h : Tab 43 w t) :
    Calls Try.prog 19 #[.pointer (some ⟨t.p, 0, none⟩), .int .i64 who] w fun e w' => ∃ a n c, e = .returned (.slice a n c) ∧ ToldP 43 w w' t (leaveT t.H t.W who) (.slice a n c) := by
  have C1 := aside (rLeave_held t who w h)
  obtain ⟨ha, hc, hhv, -, -, -⟩ := h.oh.tel
  obtain ⟨wa, wc, hwv, -, -, -⟩ := h.ow.tel
  have c0 := h.c0
  rw [hhv] at c0
  rw [hhv, hwv] at C1
  generalize t.H.length = nH at *
  generalize t.W.length = nW at *
  clear hhv hwv h
  go_enter Try.func19, Try.ntmps19
  go_wp2_with (first
    | (go_at_call 39; with_reducible refine C1.out.mono ?_; rintro e w1 ⟨a1, n1, c1, W1, rfl, ht⟩; have y0 := ht.y0; have y1 := ht.y1; have yf := ht.f; have HE1 := aside ht.eq; have HN1 := aside ht.nx; have C2 := aside (rLeave_waits _ who W1 ht.nx.tab); simp only at C2; rw [HE1.out] at C2; clear ht)
    | (go_at_call 39; with_reducible refine C2.out.mono ?_; rintro e w2 ⟨a2, n2, c2, W2, rfl, ht⟩; have z0 := ht.y0; have z1 := ht.y1; have zf := ht.f; simp only at z0 z1 zf; have HE2 := aside ht.eq; have HN2 := aside ht.nx; have C3 := aside (rOn_told _ W2 ht.nx.tab); simp only at C3; rw [HE2.out] at C3; clear ht)
    | (go_at_call 36; with_reducible refine C3.out.mono ?_; rintro e w3 ⟨a3, n3, c3, rfl, ht⟩; have HT3 := aside ht; clear ht))
  go_ret
  refine ⟨a3, n3, c3, rfl, ?_⟩
  have h3 := HT3.out
  rw [← HE1.out] at HN2
  rw [← HE2.out] at h3
  exact h3.after (HN1.out.trans HN2.out)

set_option maxHeartbeats 4000000 in
theorem rFree_any (t : Tb) (l : Lk) (hl : InR l) (w : World) (h : Tab 43 w t) :
    Calls Try.prog 16 #[.pointer (some ⟨t.p, 0, none⟩), l.val] w fun e w' => ∃ a n c, e = .returned (.tuple #[.slice a n c, .int .i64 (freeE t.H l : Nat)]) ∧ ToldP 43 w w' t (freeT t.H t.W l) (.slice a n c) := by
  obtain ⟨ha, hc, hhv, hlc, hcm, hls⟩ := h.oh.tel
  have c0 := h.c0
  rw [hhv] at c0
  have hfew := h.few
  have M := aside (rMay_any l hl)
  obtain ⟨W, hW⟩ : ∃ W, W = w.alloc (.cells #[.int .i64 l.who, .int .i64 l.org, .int .i64 l.len, .bool l.sh] 29) := ⟨_, rfl⟩
  have BW : Aside (Below w.heap.size w W) := by rw [hW]; exact below_al w _
  have BX : Aside (Bx W w.heap.size l.who l.org l.len l.sh) := by rw [hW]; exact bx_new w _ _ _ _
  rw [show l.val = .agg #[.int .i64 l.who, .int .i64 l.org, .int .i64 l.len, .bool l.sh] from rfl] at M ⊢
  have HW := aside hW
  have HT := aside h
  have HLS := aside hls
  have HHV := aside hhv
  obtain ⟨nH, hnH⟩ : ∃ nH, nH = t.H.length := ⟨_, rfl⟩
  have HNH := aside hnH
  rw [← hnH] at c0 hfew hlc
  have hpl := h.lt
  have hn256 : nH ≤ 256 := by omega
  have x0 := BX.out.c0
  have x1 := BX.out.c1
  have x2 := BX.out.c2
  have x3 := BX.out.c3
  rw [hW] at x0 x1 x2 x3
  clear h hls hhv hW hfew hl hnH
  by_cases hm : may l = true
  · rw [hm] at M
    have HM := aside hm
    clear hm
    go_enter Try.func16, Try.ntmps16
    go_wp2_with ((go_at_call 35; refine (M.out _).mono ?_; rintro e w2 ⟨rfl, hb2⟩; have HB2 : Aside (Below w.heap.size w w2) := aside (below_tr (below_al w _) hb2); have HB3 := aside hb2; clear hb2))
    rw [← HW.out] at HB3
    have BX2 := aside (BX.out.below HB3.out)
    go_loopg [6] nH (fun G s6 wr => ∃ k : Nat, k + G = nH ∧ s6 = .int .i64 (k : Int) ∧ Aside (noneOf l (t.H.take k)) ∧ Aside (Below w2.heap.size w2 wr))
    case atStart => exact ⟨0, by omega, rfl, aside (fun x hx => by simp at hx), aside (Below.refl _ _)⟩
    case round =>
      obtain ⟨k, hkG, rfl, hN, hB⟩ := hrel
      have HBr := aside (below_tr HB2.out hB.out)
      have y0 : wr.cell? ⟨t.p, 0, none⟩ = some (.slice ha nH hc) := (HBr.out.cell hpl).trans c0
      by_cases hk : k < nH
      · have t1 : (k : Int) < (nH : Int) := by omega
        obtain ⟨y, hy⟩ : ∃ y, t.H[k]? = some y := ⟨_, List.getElem?_eq_getElem (by have := HNH.out; omega)⟩
        obtain ⟨g, o, rfl, hrd⟩ := HLS.out (fun h0 => by have := HNH.out; rw [h0] at this; simp at this; omega)
        obtain ⟨q0, q1, q2, q3⟩ := (hrd.below HBr.out).lock hy
        have BX3 := BX2.out.below hB.out
        have e1 := fun V => eql_lk y l V
        have r0 := fun d os => (BX3.ext d os).c0
        have r1 := fun d os => (BX3.ext d os).c1
        have r2 := fun d os => (BX3.ext d os).c2
        have r3 := fun d os => (BX3.ext d os).c3
        have k0 := fun d os => ext_cell q0 d os
        have k1 := fun d os => ext_cell q1 d os
        have k2 := fun d os => ext_cell q2 d os
        have k3 := fun d os => ext_cell q3 d os
        have yy0 := fun d os => ext_cell y0 d os
        have HY := aside hy
        clear hy hrd BX3 q0 q1 q2 q3
        by_cases hs : same y l = true
        · rw [hs] at e1
          have HE := aside (eraseP_first t.H k l y hN.out HY.out hs)
          clear hs
          go_wp2_with fail
          refine region_ext (by kernel_rfl) (by kernel_rfl) ?_
          repeat (any_goals (first | go_big_quiet_step ((fail)) | quiet_step ((fail))))
          refine wpQuiet_nil ?_
          intro wq hwq
          have HQ := aside (below_tr HBr.out hwq)
          clear hwq r0 r1 r2 r3 k0 k1 k2 k3 yy0 e1
          have TQ := HT.out.below HQ.out
          have z0 : wq.cell? ⟨t.p, 0, none⟩ = some (.slice (some ⟨g, o, none⟩) nH hc) := (HQ.out.cell hpl).trans c0
          have z1 : (wq.alloc (.cells #[] 29)).cell? ⟨t.p, 0, none⟩ = some (.slice (some ⟨g, o, none⟩) nH hc) := ((below_al wq _).cell (World.block_lt_of_cell? wq _ z0)).trans z0
          have hs1 := slice_h (some ⟨g, o, none⟩) nH hc k (by omega) hlc
          obtain ⟨a2, hs2, hl2⟩ := slice_l (some ⟨g, o, none⟩) nH hc (k + 1) (by omega) hlc
          have hls : ∀ Y, Below wq.heap.size wq Y → LsAt Y (some ⟨g, o, none⟩) t.H := fun Y hY => (HLS.out.below HQ.out).below hY
          have L1 := aside (ls_take k (hls _ (below_al wq (.cells #[] 29))))
          have L2 := aside (fun Y hY => hl2 Y t.H HNH.out.symm (hls Y hY))
          have O1 : Aside (Own (wq.alloc (.cells #[] 29)) (.slice (some ⟨wq.heap.size, 0, none⟩) 0 0) []) := World.ownsRow_made wq #[] 0 (Nat.zero_le _) (by decide) (by simp)
          have l1 : (t.H.take k).length = k := by rw [List.length_take]; have := HNH.out; omega
          have l2 : (t.H.drop (k + 1)).length = nH - (k + 1) := by rw [List.length_drop, HNH.out]
          have hER : freeH t.H l = t.H.take k ++ t.H.drop (k + 1) := by unfold freeH; rw [HE.out.1, List.eraseIdx_eq_take_drop_succ]
          have HL1 := aside l1
          have HL2 := aside l2
          have HER := aside hER
          have HTQ := aside TQ
          have F1 : Aside (([] : List Lk).length + (t.H.take k).length ≤ 33554432) := aside (by rw [l1]; simp; omega)
          have F2 : Aside ((t.H.take k).length + (t.H.drop (k + 1)).length ≤ 33554432) := aside (by rw [l1, l2]; omega)
          clear l1 l2 hER TQ hls hl2
          generalize t.H.take k = A at *
          generalize t.H.drop (k + 1) = R at *
          have hk1 : (((k + 1 : Nat)) : Int) = (k : Int) + 1 := by omega
          rw [hk1] at hs2
          obtain ⟨nr, hnr⟩ : ∃ nr, nr = nH - (k + 1) := ⟨_, rfl⟩
          rw [← hnr] at hs2 HL2
          clear hnr hk1
          go_wp2_with (first
            | (at_builtin; refine wpList_app rfl _ _ rfl (.slice (some ⟨wq.heap.size, 0, none⟩) 0 0) [] A (some ⟨g, o, none⟩) k hc rfl rfl HL1.out O1.out L1.out F1.out k (by rw [HL1.out]; simp) ?_; intro a3 c3 w3 ho hu hv; rw [List.nil_append] at ho
               obtain ⟨b1, b2⟩ := app_new (Below.refl wq.heap.size wq) (below_al wq (.cells #[] 29)) (fun j hj => by simp only [Value.ownBlock, Option.some.injEq] at hj; omega) ho hu hv
               have HO3 := aside ho; have HB4 := aside b1; have HN4 := aside b2
               have z2 : w3.cell? ⟨t.p, 0, none⟩ = some (.slice (some ⟨g, o, none⟩) nH hc) := (b1.cell (World.block_lt_of_cell? _ _ z0)).trans z0
               have L3 := aside (L2.out w3 b1)
               clear ho hu hv b1 b2)
            | (at_builtin; refine wpList_app rfl _ _ rfl (.slice a3 k c3) A R a2 nr (hc - (k + 1)) rfl rfl HL2.out HO3.out L3.out F2.out (k + nr) (by rw [HL1.out, HL2.out]) ?_; intro a4 c4 w4 ho hu hv
               obtain ⟨b1, b2⟩ := app_new HB4.out (Below.refl w3.heap.size w3) HN4.out ho hu hv
               have TR := turnR_held HTQ.out (by rw [← HER.out] at ho; exact ho) b1 b2 (by unfold freeH; exact List.eraseP_sublist)
               have HTR := aside TR
               have u0 := TR.y0; have uf := TR.f
               have C2 := aside (rOn_told _ _ TR.nx.tab); simp only at C2
               clear ho hu hv b1 b2 TR)
            | (go_at_call 36; with_reducible refine C2.out.mono ?_; rintro e w5 ⟨a5, n5, c5, rfl, ht⟩; have HT5 := aside ht; clear ht))
          go_ret2
          have hE : freeE t.H l = 0 := by unfold freeE; rw [if_neg (by rw [HM.out]; simp), if_pos HE.out.2]
          refine ⟨a5, n5, c5, by rw [hE]; rfl, ?_⟩
          unfold freeT
          rw [if_pos hE]
          exact HT5.out.after ((Nx.of_below HT.out HQ.out).trans HTR.out.nx)
        · have hs0 : same y l = false := by simpa using hs
          rw [hs0] at e1
          have HN2 := aside (noneOf_succ hN.out HY.out hs0)
          clear hs hs0
          go_wp2_with fail
          refine region_ext (by kernel_rfl) (by kernel_rfl) ?_
          repeat (any_goals (first | go_big_quiet_step ((fail)) | quiet_step ((fail))))
          refine wpQuiet_nil ?_
          intro wq hwq
          have HQ := aside (below_tr hB.out hwq)
          clear hwq r0 r1 r2 r3 k0 k1 k2 k3 yy0 e1
          go_wp2_with fail
          go_roundg (nH - (k + 1))
          case measure => omega
          case rel => exact ⟨k + 1, by omega, by go_num, HN2, HQ⟩
      · obtain rfl : k = nH := by omega
        have t1 : ¬ ((k : Int) < (k : Int)) := by omega
        go_wp2_with fail
        go_ret2
        have hnn := hN.out
        rw [HNH.out, List.take_length] at hnn
        have hE : freeE t.H l = 192 := by unfold freeE; rw [if_neg (by rw [HM.out]; simp), if_neg (by rw [any_none hnn]; simp)]
        refine ⟨none, 0, 0, by rw [hE]; rfl, t, Nx.of_below HT.out HBr.out, ?_, ?_, ?_, by simp [Value.ownBlock]⟩
        all_goals (unfold freeT; rw [hE, if_neg (by decide)])
        exact own_none _
  · have hm0 : may l = false := by simpa using hm
    rw [hm0] at M
    have hE : freeE t.H l = 2 := by unfold freeE; rw [if_pos hm0]
    have HE := aside hE
    rw [hE]
    clear hm hm0 hE
    go_enter Try.func16, Try.ntmps16
    go_wp2_with ((go_at_call 35; refine (M.out _).mono ?_; rintro e w2 ⟨rfl, hb2⟩; have HB2 : Aside (Below w.heap.size w w2) := aside (below_tr (below_al w _) hb2); clear hb2))
    go_ret2
    refine ⟨none, 0, 0, rfl, t, Nx.of_below HT.out HB2.out, ?_, ?_, ?_, by simp [Value.ownBlock]⟩
    all_goals (unfold freeT; rw [HE.out, if_neg (by decide)])
    exact own_none _
end Go.Proofs.Ytfpegmmciphjiaa
