/- Made: bytes and the document's, out of ops. -/
import Derived.Test.YtoagjgcpgpjjeaaGB
import Derived.Test.YtoagjgcpgpjjeaaGE
import Derived.Test.YtoagjgcpgpjjeaaGI
import Derived.Laws.BitsAllLaws
namespace Go.Proofs.Ytoagjgcpgpjjeaa
open Go.RowKit
set_option linter.unusedVariables false
set_option linter.unusedSimpArgs false
attribute [local simp] lcells_nil readB_length bcells_length

/-- The document's file: its bytes, and what it can. -/
def RF (w : World) (F r nn : Nat) : Prop := w.heap[F]? = some (.cells #[.pointer (some ⟨r, 0, none⟩), .int .u8 nn] 63 (0, 0))
theorem RF.below {w w' : World} {F r nn : Nat} (h : RF w F r nn) (hb : Below w.heap.size w w') : RF w' F r nn := (hb.block F (Array.getElem?_eq_some_iff.1 h).1).trans h
theorem Tw.kept {x : Tw} {w w' : World} {G : Nat → Prop} (h : x.At w) (hu : Upd G w w') (hG : ∀ k, x.F k → ¬ G k) : x.At w' :=
  ⟨h.rep.kept hu (fun k hk => hG k (.inl hk)), h.ref.upd hu (fun k hk => hG k (.inr hk)), h.same, h.apart⟩
theorem own_some {w : World} {e : TypeId} {s : Nat} {v : Value} {n : Nat} {xs : List Value} (h : w.ownsRow 0 e s v n xs) (hb : v.ownBlock ≠ none) : ∃ g c, v = .slice (some ⟨g, 0, none⟩) n c ∧ n ≤ c := by
  rcases h.2 with ⟨rfl, -⟩ | ⟨g, c, cur, rfl, -, -, hnc, -⟩
  · exact absurd rfl hb
  · exact ⟨g, c, rfl, hnc⟩

set_option maxRecDepth 20000 in
set_option maxHeartbeats 4000000 in
theorem made10_any (f : Fm) (w : World) (hf : f.At w) (ht : f.tot ≤ 131072) (hcan : f.can < 256) :
    Calls Try.prog 10 #[.agg f.cells] w fun e w' => ∃ hb t fb mm F nn y, e = .returned (.agg #[.pointer (some ⟨hb, 0, none⟩), .pointer (some ⟨y.s, 0, none⟩), .pointer (some ⟨F, 0, none⟩)]) ∧ Way2 w' hb t fb mm ∧ Fil w' mm y.s ∧ Tw.At y w' ∧ RF w' F y.r nn ∧ Below w.heap.size w w' := by
  obtain ⟨W, hW⟩ : ∃ W, W = (w.alloc (.cells f.cells 25)).alloc (.cells #[.pointer none, .pointer none, .pointer none] 33) := ⟨_, rfl⟩
  have hB : Below w.heap.size w W := by rw [hW]; exact below_tr (below_al w _) (below_al _ _)
  have m0 : W.cell? ⟨w.heap.size, 0, none⟩ = some (.slice f.a f.l.length f.c) := by rw [hW]; go_simp
  have m1 : W.cell? ⟨w.heap.size, 1, none⟩ = some (.slice f.am f.ms.length f.cm) := by rw [hW]; go_simp
  have m2 : W.cell? ⟨w.heap.size, 2, none⟩ = some (.int .u8 f.can) := by rw [hW]; go_simp
  have hRes : W.heap[w.heap.size + 1]? = some (.cells #[.pointer none, .pointer none, .pointer none] 33 (0, 0)) := by rw [hW]; exact heap_alloc2_new w _ _
  have hlt : w.heap.size + 1 < W.heap.size := (Array.getElem?_eq_some_iff.1 hRes).1
  have HK : Aside (∀ V, Below W.heap.size W V → V.cell? ⟨w.heap.size, 0, none⟩ = some (.slice f.a f.l.length f.c) ∧ V.cell? ⟨w.heap.size, 1, none⟩ = some (.slice f.am f.ms.length f.cm) ∧ V.cell? ⟨w.heap.size, 2, none⟩ = some (.int .u8 f.can) ∧ V.heap[w.heap.size + 1]? = some (.cells #[.pointer none, .pointer none, .pointer none] 33 (0, 0))) := fun V hV =>
    ⟨(hV.cell (p := ⟨w.heap.size, 0, none⟩) (by simp; omega)).trans m0, (hV.cell (p := ⟨w.heap.size, 1, none⟩) (by simp; omega)).trans m1, (hV.cell (p := ⟨w.heap.size, 2, none⟩) (by simp; omega)).trans m2, (hV.block _ hlt).trans hRes⟩
  have HF := aside (hf.below hB)
  have HB := aside hB
  have hl := hf.le
  have htot : f.l.length + f.ms.length + lens f.ms ≤ 131072 := ht
  have F1 := aside (new_all f.a f.l f.c W HF.out.bs hl.1 (by omega))
  clear hf hB m1 m2 hRes ht
  go_enter Try.func10, Try.ntmps10
  go_wp2_with fail
  rw [← hW]
  clear hW
  refine F1.out.mono ?_
  rintro e w1 ⟨rfl, lv, L, hR, hct, -, hb1, hft⟩
  rw [Nat.min_eq_left (by omega)] at hR
  obtain ⟨s, hs⟩ : ∃ s, s = W.heap.size := ⟨_, rfl⟩
  have hsW : W.heap.size ≤ s := by omega
  rw [← hs]
  rw [← hs] at hR hft
  clear hs
  have HR1 := aside hR
  have HCT1 := aside hct
  have HFT1 := aside hft
  have HB1 := aside hb1
  have hA1 := below_al w1 (.cells #[] 5)
  obtain ⟨n0, -, -, -⟩ := HK.out (w1.alloc (.cells #[] 5)) (below_tr hb1 hA1)
  have SR : Aside (SrcAt (w1.alloc (.cells #[] 5)) (.slice f.a f.l.length f.c) f.l.length (bcells f.l)) := ⟨_, _, rfl, fun hp => (HF.out.bs.below (below_tr hb1 hA1)) (List.length_pos_iff.1 hp)⟩
  have RM := aside (room_bytes (n := 0) (m := f.l.length) (by omega))
  have hll := aside (show (bcells f.l).length = f.l.length * 1 by simp)
  have HA1 := aside hA1
  clear hR hct hft hb1 F1 m0 hA1
  go_wp2_with (at_builtin; refine wpList_append_any _ rfl _ _ 22 rfl 5 (.int .u8 0) 1 1 Try.underlying22 info5 rfl (by decide) (.slice (some ⟨w1.heap.size, 0, none⟩) 0 0) 0 [] rfl (own_built (heap_alloc_new w1 _)) _ f.l.length (bcells f.l) rfl hll.out SR.out (bcells_one _) RM.out.1 RM.out.2 ?_)
  intro v2 w2 ho hu hv
  have hvn : v2.ownBlock ≠ none := by rcases hv with h | h <;> (rw [h]; simp [Value.ownBlock])
  obtain ⟨g2, c2, rfl, -⟩ := own_some ho hvn
  have hb2 : Below w1.heap.size w1 w2 := HA1.out.trans (hu.below (by simp) (fun q hq => by simp [Value.ownBlock] at hq; omega))
  have NR := aside (newRef_all (some ⟨g2, 0, none⟩) f.l c2 w2 (bs_own ho) (by omega))
  have HR2 := aside (HR1.out.below hb2)
  have HB2 := aside (below_tr HB1.out hb2)
  clear ho hu hv hvn SR RM hll HA1 hb2 HR1 HB1 n0
  go_wp2_with fail
  refine NR.out.mono ?_
  rintro e w3 ⟨rfl, a3, c3, R3, hR3, hct3, hf3, hb3⟩
  obtain ⟨r, hr⟩ : ∃ r, r = w2.heap.size := ⟨_, rfl⟩
  rw [← hr]
  obtain ⟨x, hxd⟩ : ∃ x : Tw, x = ⟨s, f.l.length, lv, L, r, a3, c3, R3⟩ := ⟨_, rfl⟩
  have hP : Pr W w3 x := by
    rw [hxd]
    rw [← hr] at hR3 hf3
    refine ⟨⟨HR2.out.below hb3, hR3, by rw [HCT1.out, hct3], fun q hq hr2 => ?_⟩, below_tr HB2.out hb3, fun q hq => ?_⟩
    · have h1 := HR2.out.str.lv_lt hq; have h2 := hf3 q hr2; omega
    · have := HB2.out.size
      rcases hq with hq | hq
      · have := HFT1.out q hq; omega
      · have := hf3 q hq; omega
  have HP := aside hP
  have es : s = x.s := by rw [hxd]
  have er : r = x.r := by rw [hxd]
  subst es
  subst er
  clear hR3 hct3 hf3 hb3 hP hxd HR2 HB2 HFT1 HCT1 NR hr
  go_wp2_with fail
  go_loopw [5] (fun s5 wr => ∃ (k : Nat) (y : Tw), k ≤ f.ms.length ∧ s5 = .int .i64 k ∧ Aside (y.s = x.s ∧ y.r = x.r) ∧ Aside (Pr W wr y)) (fun s5 _ => f.ms.length - (intOf s5).toNat)
  case atStart => exact ⟨0, x, Nat.zero_le _, rfl, aside ⟨rfl, rfl⟩, HP⟩
  case round =>
    clear HP
    obtain ⟨k, y, hk, rfl, hy, hP⟩ := hrel
    obtain ⟨-, n1, n2, n3⟩ := HK.out wr hP.out.below
    by_cases h1 : k < f.ms.length
    · have t1 : (k : Int) < (f.ms.length : Int) := by omega
      have hkm : f.ms[k]? = some f.ms[k] := List.getElem?_eq_getElem h1
      have hle := HF.out.ops.le f.ms[k] (List.getElem_mem h1)
      have hlm := lens_mem (List.getElem_mem h1)
      have hbm := HF.out.ops.bs f.ms[k] (List.getElem_mem h1)
      obtain ⟨blk, off, ham, hrd0⟩ := HF.out.ops.rd (by intro h; simp [h] at h1)
      obtain ⟨r0, r1, r2, r3⟩ := hrd0.below hP.out.below k _ hkm
      rw [ham] at n1
      clear hrd0 hkm n3
      generalize f.ms[k] = m at *
      have hba : m.bs ≠ [] → ∀ ad, m.a = some ad → ¬ y.F ad.block := fun hne ad ha hf => by
        obtain ⟨ad', e, hcell⟩ := hbm hne
        rw [ha] at e
        cases e
        have hl : 0 < (bcells m.bs).length := by rw [bcells_length]; exact List.length_pos_iff.2 hne
        have h2 := World.block_lt_of_cell? W _ (hcell 0 _ (List.getElem?_eq_getElem hl))
        have e0 : (ad.add 0).block = ad.block := by unfold Addr.add; split <;> rfl
        rw [e0] at h2
        have := hP.out.fx _ hf
        omega
      have HBA := aside hba
      have HBM := aside (hbm.below hP.out.below)
      have NF : Aside (∀ k, y.F k → k < wr.heap.size) := fun k hk => Tw.lt hP.out.hx hk
      obtain ⟨U, hU⟩ : ∃ U, U = wr.alloc (.cells #[.int .i8 m.d, .int .i64 m.t, .int .i64 m.n, .slice m.a m.bs.length m.c] 49) := ⟨_, rfl⟩
      have hBU : Below wr.heap.size wr U := by rw [hU]; exact below_al wr _
      have u0 : U.cell? ⟨wr.heap.size, 0, none⟩ = some (.int .i8 m.d) := by rw [hU]; go_simp
      have u1 : U.cell? ⟨wr.heap.size, 1, none⟩ = some (.int .i64 m.t) := by rw [hU]; go_simp
      have u2 : U.cell? ⟨wr.heap.size, 2, none⟩ = some (.int .i64 m.n) := by rw [hU]; go_simp
      have u3 : U.cell? ⟨wr.heap.size, 3, none⟩ = some (.slice m.a m.bs.length m.c) := by rw [hU]; go_simp
      have HPU := aside (hP.out.quiet hBU)
      have HBU := aside hBU
      have hys := hy.out.1
      have hyr := hy.out.2
      have fin : Aside (∀ w', MovedPost U y.s y.N y.lv y.L y.r y.a y.c y.R w' → ∃ y' : Tw, Aside (y'.s = x.s ∧ y'.r = x.r) ∧ Aside (Pr W w' y')) := fun w' hp => by
        obtain ⟨y', e1, e2, hP'⟩ := HPU.out.moved hp
        exact ⟨y', aside ⟨e1.trans hys, e2.trans hyr⟩, aside hP'⟩
      clear hba hbm hBU ham
      by_cases d2 : m.d = 2
      · have PS := putS y m.t m.a m.bs m.c U HPU.out.hx (HBM.out.below HBU.out) hle.1 (by omega)
        rw [hys] at PS
        have HPS := aside PS
        rw [d2] at u0 hU
        have CT := aside HPU.out.hx.same
        have hrw : x.r < wr.heap.size := by rw [← hyr]; exact NF.out _ (.inr (.inl rfl))
        have PR : Aside (∀ V V' g1 c1, Half y (PutR y.N y.L m.t m.bs) U V → Below V.heap.size V V' → V'.ownsRow 0 5 1 (.slice (some ⟨g1, 0, none⟩) m.bs.length c1) m.bs.length (bcells m.bs) → V'.cell? ⟨wr.heap.size, 1, none⟩ = some (.int .i64 m.t) → V'.cell? ⟨wr.heap.size, 3, none⟩ = some (.slice m.a m.bs.length m.c) →
            Calls Try.prog 23 #[.pointer (some ⟨x.r, 0, none⟩), .int .i64 m.t, .slice (some ⟨g1, 0, none⟩) m.bs.length c1] V' fun e w' => ∃ q, e = .returned (.int .i64 q) ∧ (w'.cell? ⟨wr.heap.size, 1, none⟩ = some (.int .i64 m.t) ∧ w'.cell? ⟨wr.heap.size, 3, none⟩ = some (.slice m.a m.bs.length m.c)) ∧ Aside (∃ y' : Tw, Aside (y'.s = x.s ∧ y'.r = x.r) ∧ Aside (Pr W w' y'))) := fun V V' g1 c1 hh hV hrow k1 k3 => by
          have := putD y m.t (some ⟨g1, 0, none⟩) m.bs c1 U V' CT.out (hh.below hV) (bs_own hrow) hle.1 (by omega)
          rw [hyr] at this
          refine this.mono ?_
          rintro e w' ⟨q, rfl, hM, hu⟩
          rw [← hyr] at hM
          exact ⟨q, rfl, ⟨kept_cell hu k1 (fun e => by simp at e; omega), kept_cell hu k3 (fun e => by simp at e; omega)⟩, aside (fin.out w' hM)⟩
        clear PS hys hyr
        go_wp2_with fail
        rw [← hU]
        clear hU
        refine HPS.out.mono ?_
        rintro e w4 ⟨q, rfl, hH⟩
        have hu4 := hH.choose_spec.choose_spec.choose_spec.choose_spec.2.2.2
        have k1 := kept_cell hu4 u1 (fun e => by have := NF.out _ (.inl e); simp at this)
        have k3 := kept_cell hu4 u3 (fun e => by have := NF.out _ (.inl e); simp at this)
        have hub : wr.heap.size < w4.heap.size := World.block_lt_of_cell? w4 _ k1
        have HBS4 : Aside (BsAt w4 m.a m.bs) := fun hne => by
          have hb0 : BsAt U m.a m.bs := HBM.out.below HBU.out
          obtain ⟨ad, ha, -⟩ := hb0 hne
          rw [ha] at hb0 ⊢
          exact (hb0.upd hu4 (fun e => HBA.out hne ad ha (.inl e))) hne
        have HH := aside hH
        have hl1 : m.bs.length ≤ 33554431 := by omega
        have HD := aside (below_tr (below_dr w4) (below_al w4.drew (.cells #[] 5)))
        clear hH hu4 u0 u1 u2 u3 HPS r0 r1 r2 r3 n1 n2
        go_wp2_with fail
        go_region_held3 (fun w' => w'.cell? ⟨wr.heap.size, 1, none⟩ = some (.int .i64 m.t) ∧ w'.cell? ⟨wr.heap.size, 3, none⟩ = some (.slice m.a m.bs.length m.c)) (go_keep) (first
          | (refine step_app1 (w := w4.drew.alloc (.cells #[] 5)) rfl _ _ rfl w4.heap.size rfl (heap_alloc_new w4.drew _) m.bs m.a m.c rfl (HBS4.out.below HD.out) hl1 ?_; intro g1 c1 w5 h1 h2 h3; have hb5 : Below w4.heap.size w4 w5 := HD.out.trans (h2.below HD.out.size (fun k hk => (by omega))); have k1' : w5.cell? ⟨wr.heap.size, 1, none⟩ = some (.int .i64 m.t) := (hb5.cell (p := ⟨wr.heap.size, 1, none⟩) hub).trans k1; have k3' : w5.cell? ⟨wr.heap.size, 3, none⟩ = some (.slice m.a m.bs.length m.c) := (hb5.cell (p := ⟨wr.heap.size, 3, none⟩) hub).trans k3; have P1 := aside (PR.out w4 w5 g1 c1 HH.out hb5 h1 k1' k3'); clear h1 h2 h3 hb5)
          | (go_at_call 23; refine P1.out.mono ?_; rintro e w6 ⟨q6, rfl, ⟨k1'', k3''⟩, hX⟩))
        go_wp2_with fail
        obtain ⟨y', hy', hP'⟩ := hX.out
        go_roundw
        case rel => exact ⟨k + 1, y', by omega, by go_num, hy', hP'⟩
        case measure => simp [intOf]; omega
      · by_cases d3 : m.d = 3
        · have PS := cutS y m.t U HPU.out.hx
          rw [hys] at PS
          have HPS := aside PS
          rw [d3] at u0 hU
          have CT := aside HPU.out.hx.same
          have PR : Aside (∀ V, Half y (CutR y.N y.L m.t) U V → Calls Try.prog 25 #[.pointer (some ⟨x.r, 0, none⟩), .int .i64 m.t] V fun e w' => ∃ q, e = .returned (.int .i64 q) ∧ Aside (∃ y' : Tw, Aside (y'.s = x.s ∧ y'.r = x.r) ∧ Aside (Pr W w' y'))) := fun V hh => by
            have := cutD y m.t U V CT.out hh
            rw [hyr] at this
            refine this.mono ?_
            rintro e w' ⟨q, rfl, hM⟩
            rw [← hyr] at hM
            exact ⟨q, rfl, aside (fin.out w' hM)⟩
          clear PS hys hyr d2
          go_wp2_with fail
          rw [← hU]
          clear hU
          refine HPS.out.mono ?_
          rintro e w4 ⟨q, rfl, hH⟩
          have hu4 := hH.choose_spec.choose_spec.choose_spec.choose_spec.2.2.2
          have k1 := kept_cell hu4 u1 (fun e => by have := NF.out _ (.inl e); simp at this)
          have P1 := aside (PR.out w4 hH)
          clear hH hu4 u0 u1 u2 u3 HPS r0 r1 r2 r3 n1 n2
          go_wp2_with fail
          refine P1.out.mono ?_
          rintro e w6 ⟨q6, rfl, hX⟩
          go_wp2_with fail
          obtain ⟨y', hy', hP'⟩ := hX.out
          go_roundw
          case rel => exact ⟨k + 1, y', by omega, by go_num, hy', hP'⟩
          case measure => simp [intOf]; omega
        · by_cases d4 : m.d = 4
          · have PS := punchS y m.t m.n U HPU.out.hx
            rw [hys] at PS
            have HPS := aside PS
            rw [d4] at u0 hU
            have CT := aside HPU.out.hx.same
            have PR : Aside (∀ V, Half y (PunchR y.N y.L m.t m.n) U V → Calls Try.prog 27 #[.pointer (some ⟨x.r, 0, none⟩), .int .i64 m.t, .int .i64 m.n] V fun e w' => ∃ q, e = .returned (.int .i64 q) ∧ Aside (∃ y' : Tw, Aside (y'.s = x.s ∧ y'.r = x.r) ∧ Aside (Pr W w' y'))) := fun V hh => by
              have := punchD y m.t m.n U V CT.out hh
              rw [hyr] at this
              refine this.mono ?_
              rintro e w' ⟨q, rfl, hM⟩
              rw [← hyr] at hM
              exact ⟨q, rfl, aside (fin.out w' hM)⟩
            clear PS hys hyr d2 d3
            go_wp2_with fail
            rw [← hU]
            clear hU
            refine HPS.out.mono ?_
            rintro e w4 ⟨q, rfl, hH⟩
            have hu4 := hH.choose_spec.choose_spec.choose_spec.choose_spec.2.2.2
            have k1 := kept_cell hu4 u1 (fun e => by have := NF.out _ (.inl e); simp at this)
            have k2 := kept_cell hu4 u2 (fun e => by have := NF.out _ (.inl e); simp at this)
            have P1 := aside (PR.out w4 hH)
            clear hH hu4 u0 u1 u2 u3 HPS r0 r1 r2 r3 n1 n2
            go_wp2_with fail
            refine P1.out.mono ?_
            rintro e w6 ⟨q6, rfl, hX⟩
            go_wp2_with fail
            obtain ⟨y', hy', hP'⟩ := hX.out
            go_roundw
            case rel => exact ⟨k + 1, y', by omega, by go_num, hy', hP'⟩
            case measure => simp [intOf]; omega
          · clear hys hyr
            go_wp2_with fail
            rw [← hU]
            go_roundw
            case rel => exact ⟨k + 1, y, by omega, by go_num, hy, HPU⟩
            case measure => simp [intOf]; omega
    · have t1 : ¬ ((k : Int) < (f.ms.length : Int)) := by omega
      obtain ⟨b1, b2, b3, b4, hnum⟩ := num_all (f.can % 16) (by omega)
      have hbit : bits .and .u8 (f.can : Int) 15 = ((num b1 b2 b3 b4 : Nat) : Int) := by
        rw [← hnum]
        have := u8_and_nat f.can 15 hcan (by decide)
        rw [show f.can &&& 15 = f.can % 16 from Nat.and_two_pow_sub_one_eq_mod f.can 4] at this
        exact this
      have HO := aside (of_sub b1 b2 b3 b4 x.s wr)
      clear hnum
      generalize num b1 b2 b3 b4 = nn at *
      go_wp2_with fail
      refine HO.out.mono ?_
      rintro e w4 ⟨hb, t, fb, mm, rfl, hWy, hFl, hb4⟩
      have hB4 : Below W.heap.size W w4 := hP.out.below.trans (hb4.mono hP.out.below.size)
      obtain ⟨-, -, q2, q3⟩ := HK.out w4 hB4
      have HP4 := aside (hP.out.quiet hb4)
      have HWy := aside hWy
      have HFl := aside hFl
      obtain ⟨V, hV⟩ : ∃ V, V = w4.alloc (.cells #[.pointer (some ⟨x.r, 0, none⟩), .int .u8 nn] 63) := ⟨_, rfl⟩
      have hBV : Below w4.heap.size w4 V := by rw [hV]; exact below_al w4 _
      have hRFV : RF V w4.heap.size x.r nn := by rw [hV]; exact heap_alloc_new w4 _
      have q4 : V.heap[w.heap.size + 1]? = some (.cells #[.pointer none, .pointer none, .pointer none] 33 (0, 0)) := (hBV.block _ (Array.getElem?_eq_some_iff.1 q3).1).trans q3
      have HRS : Aside ((w4.alloc (.cells #[.pointer (some ⟨x.r, 0, none⟩), .int .u8 nn] 63)).heap[w.heap.size + 1]? = some (.cells #[.pointer none, .pointer none, .pointer none] 33 (0, 0))) := by rw [← hV]; exact q4
      have HEND : Aside (∀ Z, Upd (fun j => j = w.heap.size + 1) V Z → Way2 Z hb t fb mm ∧ Fil Z mm y.s ∧ Tw.At y Z ∧ RF Z w4.heap.size y.r nn ∧ Below w.heap.size w Z) := fun Z hZ => by
        have hWV := hWy.below hBV
        have e5 : hb ≠ w.heap.size + 1 := fun e => by
          have := hWV.c5
          rw [e, cell_of_row V _ 5 _ _ _ q4] at this
          cases this
        have e0 : fb ≠ w.heap.size + 1 := fun e => by
          have := hWV.c0
          rw [e, cell_of_row V _ 0 _ _ _ q4] at this
          cases this
        have em : mm ≠ w.heap.size + 1 := fun e => by
          have h9 : V.heap[mm]? = _ := (hFl.below hBV)
          rw [e, q4] at h9
          simp at h9
        have hPV := HP4.out.quiet hBV
        have hlF : w4.heap.size ≠ w.heap.size + 1 := by have := (Array.getElem?_eq_some_iff.1 q3).1; omega
        refine ⟨hWV.upd hZ e5 e0, ?_, Tw.kept hPV.hx hZ (fun k hk e => by have := hPV.fx k hk; omega), ?_, ?_⟩
        · rw [hy.out.1]; exact (hFl.below hBV).upd hZ em
        · rw [hy.out.2]; exact (hZ.block _ (Array.getElem?_eq_some_iff.1 hRFV).1 hlF).trans hRFV
        · exact (HB.out.trans (hPV.below.mono HB.out.size)).trans (hZ.below (Nat.le_trans HB.out.size hPV.below.size) (fun k hk => by omega))
      have hyr := hy.out.1
      clear hWy hFl hb4 hB4 n1 n2 n3 HO q3 q4 hBV hRFV
      go_wp2_with ((with_reducible refine wpList_store_row rfl 33 _ _ rfl (w.heap.size + 1) #[.pointer (some ⟨hb, 0, none⟩), .pointer (some ⟨x.s, 0, none⟩), .pointer (some ⟨w4.heap.size, 0, none⟩)] ?_ ?_ 33 _ HRS.out ?_ ?_ ?_ ?_); kernel_rfl; kernel_rfl; kernel_rfl; kernel_rfl; kernel_rfl)
      refine bodyPost_ret (results_cell_row rfl _ _ (w.heap.size + 1) 33 _ (0, 0) _ rfl (setRow_heap _ _ _ _ _ _ HRS.out) Try.underlying33 rfl (by kernel_rfl)) rfl ?_
      rw [← hV]
      obtain ⟨z1, z2, z3, z4, z5⟩ := HEND.out _ (Upd.setRow (F := fun j => j = w.heap.size + 1) V (w.heap.size + 1) _ rfl)
      exact ⟨hb, t, fb, mm, w4.heap.size, nn, y, by rw [hyr], z1, z2, z3, z4, z5⟩
end Go.Proofs.Ytoagjgcpgpjjeaa
