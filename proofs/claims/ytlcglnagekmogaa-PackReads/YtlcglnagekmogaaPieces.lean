/- pack.putPieces: all pieces of some bytes, laid into a row. -/
import Derived.Test.YtlcglnagekmogaaPutMatch
import Derived.Deep.RegionHeld3
namespace Go.Proofs.Ytlcglnagekmogaa
open Go.RowKit
attribute [local simp] lcells_nil readB_length bcells_length
set_option maxRecDepth 20000

theorem splice_app {l d1 d2 : List UInt8} {o : Nat} (h : o + (d1 ++ d2).length ≤ l.length) : splice (splice l o d1) (o + d1.length) d2 = splice l o (d1 ++ d2) := by
  rw [List.length_append] at h
  simp only [splice]
  have e1 : (l.take o).length = o := by rw [List.length_take]; omega
  have e2 : (l.take o ++ (d1 ++ l.drop (o + d1.length))).take (o + d1.length) = l.take o ++ d1 := by
    rw [← List.append_assoc, List.take_append_of_le_length (by rw [List.length_append, e1]; omega), List.take_of_length_le (by rw [List.length_append, e1]; omega)]
  have e3 : (l.take o ++ (d1 ++ l.drop (o + d1.length))).drop (o + d1.length + d2.length) = l.drop (o + (d1.length + d2.length)) := by
    rw [← List.append_assoc, List.drop_append, List.drop_of_length_le (by rw [List.length_append, e1]; omega), List.nil_append, List.length_append, e1, List.drop_drop]
    congr 1
    omega
  rw [e2, e3, List.length_append, List.append_assoc, List.append_assoc]
theorem mtc_zero {b : List UInt8} {p : Nat} (h : (mtc b p).1 = 0) : (mtc b p).2 = 0 := by
  unfold mtc at h ⊢
  rw [best_zero _ _ _ _ h]
/-- out[n:] -/
theorem slice_out (g o m n : Nat) (hn : n ≤ m) : ∃ ao, (∀ W, (Instr.slice 22 (.slice (some ⟨g, o, none⟩) m m) (some (.int .i64 (n : Int))) none none).run Try.prog W = .ok (.slice ao (m - n) (m - n)) W) ∧ (n < m → ao = some ⟨g, o + n, none⟩) := by
  refine ⟨if m = n then some ⟨g, o, none⟩ else some ⟨g, o + n, none⟩, fun W => ?_, fun h => if_neg (by omega)⟩
  rw [run_slice_l W 22 _ m m elem22 .i64 _ (by omega) (by omega), size22]
  simp only [Result.andThen, sliced, Int.toNat_natCast, Option.map_some, Addr.add_lit, Nat.mul_one]
/-- What comes next at a place: what is read so far as a run, and a match. -/
structure Nx (l : List UInt8) (f q x y : Nat) : Prop where
  fq : f ≤ q
  ql : q ≤ l.length
  pks : pks l f f = runs ((l.take q).drop f) ++ (mbs x y ++ pks l (q + x) (q + x))
  run : ((l.take q).drop f).length ≤ 128
  mat : x = 0 ∨ 3 ≤ x ∧ x ≤ 130
  bak : y ≤ 255
  on : f < q + x
  fit : q + x ≤ l.length
theorem nx_match {l : List UInt8} {f q : Nat} (hfq : f ≤ q) (hq : q < l.length) (h0 : pks l f f = pks l f q) (hr : q - f ≤ 128) (hm : (mtc l q).1 ≠ 0) : Nx l f q (mtc l q).1 (mtc l q).2 := by
  rcases mtc_ok l q with h | ⟨h1, h2, h3, h4, h5, h6, h7⟩
  · exact absurd h hm
  · refine ⟨hfq, by omega, ?_, by rw [List.length_drop, List.length_take]; omega, .inr ⟨h1, h2⟩, h5, by omega, h3⟩
    rw [h0, pks_match hq hm, List.drop_take]
    unfold mbs
    rw [if_neg hm]
    rfl
theorem nx_full {l : List UInt8} {f q : Nat} (hfq : f + 128 = q) (hq : q ≤ l.length) (h0 : pks l f f = pks l f q) : Nx l f q 0 0 := by
  have hl : ((l.take q).drop f).length = 128 := by rw [List.length_drop, List.length_take]; omega
  refine ⟨by omega, hq, ?_, by omega, .inl rfl, by omega, by omega, by omega⟩
  rw [h0, pks_full l _ f q rfl (by omega) hq, runs_short (fun e => by rw [e] at hl; simp at hl) (by omega), hl, hfq, List.drop_take, show q - f = 128 by omega]
  rfl
theorem nx_end {l : List UInt8} {f : Nat} (hf : f < l.length) (hr : l.length - f ≤ 128) (h0 : pks l f f = pks l f l.length) : Nx l f l.length 0 0 := by
  refine ⟨by omega, Nat.le_refl _, ?_, by rw [List.length_drop, List.length_take]; omega, .inl rfl, by omega, by omega, by omega⟩
  rw [h0, pks_end (by omega), List.take_length, Nat.add_zero, pks_end (Nat.lt_irrefl _), List.drop_of_length_le (Nat.le_refl _), runs_nil]
  unfold mbs
  rw [if_pos rfl]
  simp

/-- The facts for the calls that lay a piece. -/
theorem lay_facts {w wr wy : World} {a : Option Addr} {l cur done : List UInt8} {c g o m f q x y : Nat} (hs : ∀ W, Upd (fun j => j = g) w W → BsAt W a l) (hlc : l.length ≤ c) (hm : (pks l 0 0).length ≤ m) (hcur : o + m ≤ cur.length) (_hgw : g < w.heap.size)
    (hD : done ++ pks l f f = pks l 0 0) (hR : RowB wr g (splice cur o done)) (hU : Upd (fun j => j = g) w wr) (hN : Nx l f q x y) (hB : Below wr.heap.size wr wy) (hM : wy.heap[wr.heap.size]? = some (mcells x y)) :
    ∃ (ao1 ao2 ar : Option Addr) (n1 n2 : Nat), n1 = done.length + (runs ((l.take q).drop f)).length ∧ n2 = n1 + (mbs x y).length ∧ n1 ≤ m ∧ n2 ≤ m ∧
      (∀ W, (Instr.slice 22 (.slice (some ⟨g, o, none⟩) m m) (some (.int .i64 (done.length : Nat))) none none).run Try.prog W = .ok (.slice ao1 (m - done.length) (m - done.length)) W) ∧
      (∀ W, (Instr.slice 22 (.slice (some ⟨g, o, none⟩) m m) (some (.int .i64 (n1 : Int))) none none).run Try.prog W = .ok (.slice ao2 (m - n1) (m - n1)) W) ∧
      (∀ W, (Instr.slice 22 (.slice a l.length c) (some (.int .i64 (f : Int))) (some (.int .i64 (q : Int))) none).run Try.prog W = .ok (.slice ar ((l.take q).drop f).length (c - f)) W) ∧
      Calls Try.prog 46 #[.slice ao1 (m - done.length) (m - done.length), .slice ar ((l.take q).drop f).length (c - f)] wy.drew (fun e w2 => e = .returned (.int .i64 ((runs ((l.take q).drop f)).length : Nat)) ∧ w2.heap[wr.heap.size]? = some (mcells x y) ∧
        Calls Try.prog 47 #[.slice ao2 (m - n1) (m - n1), .agg #[.int .i64 (x : Int), .int .i64 (y : Int)]] w2.drew (fun e w3 => e = .returned (.int .i64 ((mbs x y).length : Nat)) ∧ w3.heap[wr.heap.size]? = some (mcells x y) ∧ RowB w3 g (splice cur o (done ++ runs ((l.take q).drop f) ++ mbs x y)) ∧ Upd (fun j => j = g) w w3)) := by
  have hlen : done.length + (runs ((l.take q).drop f)).length + (mbs x y).length ≤ m := by
    have := congrArg List.length hD
    rw [hN.pks] at this
    simp only [List.length_append] at this
    omega
  obtain ⟨ao1, s1, h1⟩ := slice_out g o m done.length (by omega)
  obtain ⟨ao2, s2, h2⟩ := slice_out g o m (done.length + (runs ((l.take q).drop f)).length) (by omega)
  obtain ⟨ar, s3, h3⟩ := slice_lh a l c f q hN.fq hN.ql hlc
  refine ⟨ao1, ao2, ar, _, _, rfl, rfl, by omega, by omega, s1, s2, s3, ?_⟩
  have hsl : ∀ d : List UInt8, o + d.length ≤ o + m → (splice cur o d).length = cur.length := fun d hd => splice_len (by omega)
  have hgr := hR.lt
  have hUd : Upd (fun j => j = g) w wy.drew := hU.trans (Upd.of_below (below_tr hB (below_dr wy))) (fun _ _ h => h)
  have hRd : RowB wy.drew g (splice cur o done) := hR.below (below_tr hB (below_dr wy))
  have hrl := runs_length ((l.take q).drop f)
  refine (putRun_any ao1 ar (m - done.length) (m - done.length) (c - f) g (o + done.length) ((l.take q).drop f) (splice cur o done) wy.drew hRd (fun W hW => h3 W (hs W (hUd.trans hW (fun _ _ h => h)))) hN.run (fun hne => ?_)).mono ?_
  · have := List.length_pos_iff.2 hne
    exact ⟨h1 (by omega), Nat.le_refl _, by rw [hsl _ (by omega)]; omega, by omega⟩
  · rintro e w2 ⟨rfl, hr2, hu2⟩
    rw [splice_app (by rw [List.length_append]; omega)] at hr2
    have hM2 : w2.heap[wr.heap.size]? = some (mcells x y) := (hu2.block _ (Array.getElem?_eq_some_iff.1 hM).1 (by omega)).trans hM
    refine ⟨rfl, hM2, ?_⟩
    have hU2 : Upd (fun j => j = g) w w2.drew := (hUd.trans hu2 (fun _ _ h => h)).trans (Upd.of_below (below_dr w2)) (fun _ _ h => h)
    refine (putMatch_any ao2 _ _ g (o + (done ++ runs ((l.take q).drop f)).length) x y (splice cur o (done ++ runs ((l.take q).drop f))) w2.drew (hr2.below (below_dr w2)) hN.mat hN.bak (fun hne => ?_)).mono ?_
    · have : (mbs x y).length = 2 := by unfold mbs; rw [if_neg hne]; rfl
      exact ⟨by rw [h2 (by omega), List.length_append], Nat.le_refl _, by rw [hsl _ (by rw [List.length_append]; omega), List.length_append]; omega, by omega⟩
    · rintro e w3 ⟨rfl, hr3, hu3⟩
      rw [splice_app (by simp only [List.length_append]; omega)] at hr3
      exact ⟨rfl, (hu3.block _ (Array.getElem?_eq_some_iff.1 hM2).1 (by omega)).trans hM2, hr3, hU2.trans hu3 (fun _ _ h => h)⟩

set_option maxHeartbeats 4000000 in
theorem putPieces_any (a : Option Addr) (l cur : List UInt8) (c g o m : Nat) (w : World) (hrow : RowB w g cur) (hs : ∀ W, Upd (fun j => j = g) w W → BsAt W a l) (hlc : l.length ≤ c) (hc : c ≤ 9223372036854775807) (hl : l.length ≤ 65536) (hm : (pks l 0 0).length ≤ m) (hm2 : m ≤ 131072) (hcur : o + m ≤ cur.length) :
    Calls Try.prog 26 #[.slice (some ⟨g, o, none⟩) m m, .slice a l.length c] w fun e w' => e = .returned (.int .i64 ((pks l 0 0).length : Nat)) ∧ RowB w' g (splice cur o (pks l 0 0)) ∧ Upd (fun j => j = g) w w' := by
  have hgw := hrow.lt
  have HS := aside hs
  have HM := aside hm
  have HCUR := aside hcur
  have HR0 : Aside (RowB w g (splice cur o [])) := by rw [splice_zero]; exact hrow
  clear hrow hs hm hcur
  go_enter Try.func26, Try.ntmps26
  go_wp2_with fail
  go_loopg [5, 6] l.length (fun G s5 s6 wr => ∃ (done : List UInt8) (f n : Nat), f ≤ l.length ∧ l.length - f ≤ G ∧ s5 = .int .i64 (n : Int) ∧ s6 = .int .i64 (f : Int) ∧ n ≤ m ∧ Aside (n = done.length) ∧ Aside (done ++ pks l f f = pks l 0 0) ∧ Aside (RowB wr g (splice cur o done)) ∧ Aside (Upd (fun j => j = g) w wr))
  case atStart => exact ⟨[], 0, 0, by omega, by omega, rfl, rfl, by omega, aside rfl, aside rfl, HR0, aside (Upd.refl _ _)⟩
  case round =>
    obtain ⟨done, f, n, hf, hG, rfl, rfl, hnm, hN, hD, hR, hU⟩ := hrel
    by_cases hlt : f < l.length
    · have t1 : (f : Int) < (l.length : Int) := by omega
      obtain ⟨G, hGg⟩ : ∃ G, gk = G + 1 := ⟨gk - 1, by omega⟩
      have HI0 : Aside ((wr.alloc (.cells #[.int .i64 0, .int .i64 0] 103)).heap[wr.heap.size]? = some (mcells 0 0)) := heap_alloc_new wr _
      have HIB := aside (below_al wr (.cells #[.int .i64 0, .int .i64 0] 103))
      go_wp2
      go_step3
      go_wp2
      go_step3
      go_wp2
      rename World => V
      have hgV := hR.out.lt
      go_loopg [6] l.length (fun G2 s6 wx => ∃ q : Nat, f ≤ q ∧ q ≤ l.length ∧ l.length - q ≤ G2 ∧ s6 = .int .i64 (q : Int) ∧ q - f ≤ 128 ∧ Aside (pks l f f = pks l f q) ∧ Aside (Below V.heap.size V wx) ∧ Aside (wx.heap[V.heap.size]? = some (mcells 0 0)))
      case atStart => exact ⟨f, by omega, by omega, by omega, rfl, by omega, aside rfl, HIB, HI0⟩
      case round =>
        obtain ⟨q, hfq, hql, hG2, rfl, hr128, hP, hBx, hMx⟩ := hrel
        clear HI0 HIB
        by_cases hq : q < l.length
        · have t2 : (q : Int) < (l.length : Int) := by omega
          have LG := aside (longest_any a l c q wr (HS.out wr (hU.out.trans (Upd.of_below hBx.out) (fun _ _ h => h))) hlc hc hl hq)
          obtain ⟨x, hx⟩ : ∃ x, x = (mtc l q).1 := ⟨_, rfl⟩
          obtain ⟨y, hy⟩ : ∃ y, y = (mtc l q).2 := ⟨_, rfl⟩
          rw [← hx, ← hy] at LG
          have hVx := (Array.getElem?_eq_some_iff.1 hMx.out).1
          by_cases hx0 : x = 0
          · have hy0 : y = 0 := by rw [hy]; exact mtc_zero (by rw [← hx]; exact hx0)
            by_cases h128 : q - f = 128
            · have NX : Nx l f q x y := by rw [hx0, hy0]; exact nx_full (by omega) hql hP.out
              have t3 : ¬ ((0 : Int) < (x : Int)) := by omega
              have t4 : (q : Int) - (f : Int) = 128 := by omega
              clear hx hy hx0 hy0 hP
              go_wp2_with fail
              refine LG.out.mono ?_
              rintro e w2 ⟨rfl, hb2⟩
              have HMX2 : Aside (w2.heap[V.heap.size]? = some (.cells #[.int .i64 0, .int .i64 0] 103 (0, 0))) := (hb2.block _ hVx).trans hMx.out
              have HMY : Aside ((w2.setRow V.heap.size #[.int .i64 (x : Int), .int .i64 (y : Int)]).heap[V.heap.size]? = some (mcells x y)) := setRow_heap w2 _ _ _ _ _ HMX2.out
              have HBY : Aside (Below V.heap.size V (w2.setRow V.heap.size #[.int .i64 (x : Int), .int .i64 (y : Int)])) := upd_new (below_tr hBx.out hb2) (upd_setRow w2 V.heap.size _ rfl)
              have k0' := mcell0 HMY.out
              clear hb2 hBx hMx LG
              go_wp2_with ((with_reducible refine wpList_store_row rfl 103 _ _ rfl V.heap.size #[.int .i64 (x : Int), .int .i64 (y : Int)] ?_ ?_ 103 _ HMX2.out ?_ ?_ ?_ ?_); kernel_rfl; kernel_rfl; kernel_rfl; kernel_rfl; kernel_rfl)
              obtain ⟨ao1, ao2, ar, n1, n2, hn1, hn2, hn1m, hn2m, s1, s2, s3, PR⟩ := lay_facts HS.out hlc HM.out HCUR.out hgw hD.out hR.out hU.out NX HBY.out HMY.out
              rw [← hN.out] at hn1 s1 PR
              have hon := NX.on
              have hfit := NX.fit
              have HPK : Aside (done ++ runs ((l.take q).drop f) ++ mbs x y ++ pks l (q + x) (q + x) = pks l 0 0) := by
                have := hD.out
                rw [NX.pks, ← List.append_assoc, ← List.append_assoc] at this
                exact this
              have HLN : Aside (n2 = (done ++ runs ((l.take q).drop f) ++ mbs x y).length) := by rw [List.length_append, List.length_append, ← hN.out, ← hn1, ← hn2]; exact aside rfl
              have hr1 : (n : Int) + ((runs ((l.take q).drop f)).length : Nat) = (n1 : Int) := by omega
              have hr2 : (n1 : Int) + ((mbs x y).length : Nat) = (n2 : Int) := by omega
              have hax : (q : Int) + (x : Int) = ((q + x : Nat) : Int) := by omega
              obtain ⟨q2, hq2⟩ : ∃ q2, q2 = q + x := ⟨_, rfl⟩
              rw [← hq2] at hax HPK hon hfit
              have HQ2 := aside hq2
              have HPR := aside PR
              generalize (runs ((l.take q).drop f)).length = r1 at *
              generalize (mbs x y).length = r2 at *
              generalize done ++ runs ((l.take q).drop f) ++ mbs x y = done2 at *
              generalize (l.take q).drop f = lr at *
              have hw1 : IntKind.i64.wrap (n1 : Int) = (n1 : Int) := by rw [IntKind.wrap_i64]; omega
              have hw2 : IntKind.i64.wrap (n2 : Int) = (n2 : Int) := by rw [IntKind.wrap_i64]; omega
              have hw3 : IntKind.i64.wrap (q2 : Int) = (q2 : Int) := by rw [IntKind.wrap_i64]; omega
              clear PR hn1 hn2 NX hq2 hD hR hU
              go_region_held3 (fun _ => True) (go_keep) ((go_at_call 46; refine HPR.out.mono ?_; rintro e w4 ⟨rfl, hm4, PM⟩; have HPM := aside PM; have HM4 := aside hm4; clear PM hm4))
              have k0 := mcell0 HM4.out
              have k1 := mcell1 HM4.out
              go_wp2_with fail
              go_region_held3 (fun w' => w'.cell? ⟨V.heap.size, 0, none⟩ = some (.int .i64 (x : Int)) ∧ w'.cell? ⟨V.heap.size, 1, none⟩ = some (.int .i64 (y : Int))) (go_keep) ((go_at_call 47; refine HPM.out.mono ?_; rintro e w5 ⟨rfl, hm5, hr5, hu5⟩; have HR5 := aside hr5; have HU5 := aside hu5; have m0 := mcell0 hm5; have m1 := mcell1 hm5; clear hr5 hu5 hm5))
              go_wp2_with fail
              rw [Exit.noGoto_normal]
              go_wp2_with fail
              go_roundg G
              case measure => omega
              case rel => exact ⟨done2, q2, n2, by omega, by omega, rfl, rfl, by omega, HLN, HPK, HR5, HU5⟩
            · have HP1 : Aside (pks l f f = pks l f (q + 1)) := by rw [hP.out]; exact aside (pks_on hq (by rw [← hx]; exact hx0))
              have t3 : ¬ ((0 : Int) < (x : Int)) := by omega
              have t4 : ¬ ((q : Int) - (f : Int) = 128) := by omega
              have t4' : ((q : Int) - (f : Int) == 128) = false := by simp; omega
              subst hx0
              subst hy0
              clear hx hy hP
              go_wp2_with fail
              refine LG.out.mono ?_
              rintro e w2 ⟨rfl, hb2⟩
              have HMX2 : Aside (w2.heap[V.heap.size]? = some (.cells #[.int .i64 0, .int .i64 0] 103 (0, 0))) := (hb2.block _ hVx).trans hMx.out
              have HMY : Aside ((w2.setRow V.heap.size #[.int .i64 0, .int .i64 0]).heap[V.heap.size]? = some (mcells 0 0)) := setRow_heap w2 _ _ _ _ _ HMX2.out
              have HBY : Aside (Below V.heap.size V (w2.setRow V.heap.size #[.int .i64 0, .int .i64 0])) := upd_new (below_tr hBx.out hb2) (upd_setRow w2 V.heap.size _ rfl)
              have k0' := mcell0 HMY.out
              clear hb2 hBx hMx LG
              go_wp2_with ((with_reducible refine wpList_store_row rfl 103 _ _ rfl V.heap.size #[.int .i64 0, .int .i64 0] ?_ ?_ 103 _ HMX2.out ?_ ?_ ?_ ?_); kernel_rfl; kernel_rfl; kernel_rfl; kernel_rfl; kernel_rfl)
              go_roundg (l.length - (q + 1))
              case measure => omega
              case rel => exact ⟨q + 1, by omega, by omega, by omega, by go_num, by omega, HP1, HBY, HMY⟩
          · have NX : Nx l f q x y := by rw [hx, hy]; exact nx_match hfq hq hP.out hr128 (by rw [← hx]; exact hx0)
            have t3 : (0 : Int) < (x : Int) := by omega
            clear hx hy hx0 hP
            go_wp2_with fail
            refine LG.out.mono ?_
            rintro e w2 ⟨rfl, hb2⟩
            have HMX2 : Aside (w2.heap[V.heap.size]? = some (.cells #[.int .i64 0, .int .i64 0] 103 (0, 0))) := (hb2.block _ hVx).trans hMx.out
            have HMY : Aside ((w2.setRow V.heap.size #[.int .i64 (x : Int), .int .i64 (y : Int)]).heap[V.heap.size]? = some (mcells x y)) := setRow_heap w2 _ _ _ _ _ HMX2.out
            have HBY : Aside (Below V.heap.size V (w2.setRow V.heap.size #[.int .i64 (x : Int), .int .i64 (y : Int)])) := upd_new (below_tr hBx.out hb2) (upd_setRow w2 V.heap.size _ rfl)
            have k0' := mcell0 HMY.out
            clear hb2 hBx hMx LG
            go_wp2_with ((with_reducible refine wpList_store_row rfl 103 _ _ rfl V.heap.size #[.int .i64 (x : Int), .int .i64 (y : Int)] ?_ ?_ 103 _ HMX2.out ?_ ?_ ?_ ?_); kernel_rfl; kernel_rfl; kernel_rfl; kernel_rfl; kernel_rfl)
            obtain ⟨ao1, ao2, ar, n1, n2, hn1, hn2, hn1m, hn2m, s1, s2, s3, PR⟩ := lay_facts HS.out hlc HM.out HCUR.out hgw hD.out hR.out hU.out NX HBY.out HMY.out
            rw [← hN.out] at hn1 s1 PR
            have hon := NX.on
            have hfit := NX.fit
            have HPK : Aside (done ++ runs ((l.take q).drop f) ++ mbs x y ++ pks l (q + x) (q + x) = pks l 0 0) := by
              have := hD.out
              rw [NX.pks, ← List.append_assoc, ← List.append_assoc] at this
              exact this
            have HLN : Aside (n2 = (done ++ runs ((l.take q).drop f) ++ mbs x y).length) := by rw [List.length_append, List.length_append, ← hN.out, ← hn1, ← hn2]; exact aside rfl
            have hr1 : (n : Int) + ((runs ((l.take q).drop f)).length : Nat) = (n1 : Int) := by omega
            have hr2 : (n1 : Int) + ((mbs x y).length : Nat) = (n2 : Int) := by omega
            have hax : (q : Int) + (x : Int) = ((q + x : Nat) : Int) := by omega
            obtain ⟨q2, hq2⟩ : ∃ q2, q2 = q + x := ⟨_, rfl⟩
            rw [← hq2] at hax HPK hon hfit
            have HQ2 := aside hq2
            have HPR := aside PR
            generalize (runs ((l.take q).drop f)).length = r1 at *
            generalize (mbs x y).length = r2 at *
            generalize done ++ runs ((l.take q).drop f) ++ mbs x y = done2 at *
            generalize (l.take q).drop f = lr at *
            have hw1 : IntKind.i64.wrap (n1 : Int) = (n1 : Int) := by rw [IntKind.wrap_i64]; omega
            have hw2 : IntKind.i64.wrap (n2 : Int) = (n2 : Int) := by rw [IntKind.wrap_i64]; omega
            have hw3 : IntKind.i64.wrap (q2 : Int) = (q2 : Int) := by rw [IntKind.wrap_i64]; omega
            clear PR hn1 hn2 NX hq2 hD hR hU
            go_region_held3 (fun _ => True) (go_keep) ((go_at_call 46; refine HPR.out.mono ?_; rintro e w4 ⟨rfl, hm4, PM⟩; have HPM := aside PM; have HM4 := aside hm4; clear PM hm4))
            have k0 := mcell0 HM4.out
            have k1 := mcell1 HM4.out
            go_wp2_with fail
            go_region_held3 (fun w' => w'.cell? ⟨V.heap.size, 0, none⟩ = some (.int .i64 (x : Int)) ∧ w'.cell? ⟨V.heap.size, 1, none⟩ = some (.int .i64 (y : Int))) (go_keep) ((go_at_call 47; refine HPM.out.mono ?_; rintro e w5 ⟨rfl, hm5, hr5, hu5⟩; have HR5 := aside hr5; have HU5 := aside hu5; have m0 := mcell0 hm5; have m1 := mcell1 hm5; clear hr5 hu5 hm5))
            go_wp2_with fail
            rw [Exit.noGoto_normal]
            go_wp2_with fail
            go_roundg G
            case measure => omega
            case rel => exact ⟨done2, q2, n2, by omega, by omega, rfl, rfl, by omega, HLN, HPK, HR5, HU5⟩
        · have t2 : ¬ ((q : Int) < (l.length : Int)) := by omega
          obtain ⟨x, hx0⟩ : ∃ x : Nat, x = 0 := ⟨_, rfl⟩
          obtain ⟨y, hy0⟩ : ∃ y : Nat, y = 0 := ⟨_, rfl⟩
          have NX : Nx l f q x y := by
            obtain rfl : q = l.length := by omega
            rw [hx0, hy0]
            exact nx_end (by omega) (by omega) hP.out
          have HBY := hBx
          have HMY : Aside (wr.heap[V.heap.size]? = some (mcells x y)) := by rw [hx0, hy0]; exact hMx
          clear hx0 hy0 hP hBx hMx
          go_wp2
          obtain ⟨ao1, ao2, ar, n1, n2, hn1, hn2, hn1m, hn2m, s1, s2, s3, PR⟩ := lay_facts HS.out hlc HM.out HCUR.out hgw hD.out hR.out hU.out NX HBY.out HMY.out
          rw [← hN.out] at hn1 s1 PR
          have hon := NX.on
          have hfit := NX.fit
          have HPK : Aside (done ++ runs ((l.take q).drop f) ++ mbs x y ++ pks l (q + x) (q + x) = pks l 0 0) := by
            have := hD.out
            rw [NX.pks, ← List.append_assoc, ← List.append_assoc] at this
            exact this
          have HLN : Aside (n2 = (done ++ runs ((l.take q).drop f) ++ mbs x y).length) := by rw [List.length_append, List.length_append, ← hN.out, ← hn1, ← hn2]; exact aside rfl
          have hr1 : (n : Int) + ((runs ((l.take q).drop f)).length : Nat) = (n1 : Int) := by omega
          have hr2 : (n1 : Int) + ((mbs x y).length : Nat) = (n2 : Int) := by omega
          have hax : (q : Int) + (x : Int) = ((q + x : Nat) : Int) := by omega
          obtain ⟨q2, hq2⟩ : ∃ q2, q2 = q + x := ⟨_, rfl⟩
          rw [← hq2] at hax HPK hon hfit
          have HQ2 := aside hq2
          have HPR := aside PR
          generalize (runs ((l.take q).drop f)).length = r1 at *
          generalize (mbs x y).length = r2 at *
          generalize done ++ runs ((l.take q).drop f) ++ mbs x y = done2 at *
          generalize (l.take q).drop f = lr at *
          have hw1 : IntKind.i64.wrap (n1 : Int) = (n1 : Int) := by rw [IntKind.wrap_i64]; omega
          have hw2 : IntKind.i64.wrap (n2 : Int) = (n2 : Int) := by rw [IntKind.wrap_i64]; omega
          have hw3 : IntKind.i64.wrap (q2 : Int) = (q2 : Int) := by rw [IntKind.wrap_i64]; omega
          clear PR hn1 hn2 NX hq2 hD hR hU
          go_region_held3 (fun _ => True) (go_keep) ((go_at_call 46; refine HPR.out.mono ?_; rintro e w4 ⟨rfl, hm4, PM⟩; have HPM := aside PM; have HM4 := aside hm4; clear PM hm4))
          have k0 := mcell0 HM4.out
          have k1 := mcell1 HM4.out
          go_wp2_with fail
          go_region_held3 (fun w' => w'.cell? ⟨V.heap.size, 0, none⟩ = some (.int .i64 (x : Int)) ∧ w'.cell? ⟨V.heap.size, 1, none⟩ = some (.int .i64 (y : Int))) (go_keep) ((go_at_call 47; refine HPM.out.mono ?_; rintro e w5 ⟨rfl, hm5, hr5, hu5⟩; have HR5 := aside hr5; have HU5 := aside hu5; have m0 := mcell0 hm5; have m1 := mcell1 hm5; clear hr5 hu5 hm5))
          go_wp2_with fail
          rw [Exit.noGoto_normal]
          go_wp2_with fail
          go_roundg G
          case measure => omega
          case rel => exact ⟨done2, q2, n2, by omega, by omega, rfl, rfl, by omega, HLN, HPK, HR5, HU5⟩
    · have t1 : ¬ ((f : Int) < (l.length : Int)) := by omega
      have HE : Aside (done = pks l 0 0) := by
        have := hD.out
        rw [pks_end hlt, List.drop_of_length_le (by omega), runs_nil, List.append_nil] at this
        exact this
      go_wp2_with fail
      go_ret
      rw [← HE.out, ← hN.out]
      exact ⟨rfl, hR.out, hU.out⟩
end Go.Proofs.Ytlcglnagekmogaa
