/-
  SpanReads: what was put is read there, and elsewhere what was ahead; two that do not meet go either way round: the walk.
-/
import Derived.Test.YtkekaljcbmkomaaReadsRest
import Derived.Deep.DeepCutAuto
namespace Go.Proofs.Ytkekaljcbmkomaa
set_option linter.unusedVariables false
set_option linter.unusedSimpArgs false
open Go.RowKit
attribute [local simp] lcells_nil readB_length bcells_length

set_option maxHeartbeats 8000000 in
set_option maxRecDepth 100000 in
theorem spanReads_walk (a0 : Option Addr) (l0 : List UInt8) (c0 : Nat) (am : Option Addr) (cm : Nat) (ms : List Mv) (m1 m2 : Mv) (w : World) (h0 : BsAt w a0 l0) (hlc : l0.length ≤ c0) (hc : c0 ≤ 4611686018427387904) (hm : Mvs w am ms)
    (hb1 : BsAt w m1.a m1.bs) (hb2 : BsAt w m2.a m2.bs) (ht1 : m1.t ≤ 9223372036854775807 ∧ -9223372036854775808 ≤ m1.t) (ht2 : m2.t ≤ 9223372036854775807 ∧ -9223372036854775808 ≤ m2.t) (hl1 : m1.bs.length ≤ 140737488351232) (hl2 : m2.bs.length ≤ 140737488351232) :
    Calls Try.prog 7 #[.slice a0 l0.length c0, .slice am ms.length cm, .agg #[.int .i64 m1.d, .int .i64 m1.t, .int .i64 m1.n, .slice m1.a m1.bs.length m1.c], .agg #[.int .i64 m2.d, .int .i64 m2.t, .int .i64 m2.n, .slice m2.a m2.bs.length m2.c]] w fun e w' => e = .returned (.bool true) ∧ Below w.heap.size w w' := by
  obtain ⟨W0, hW0⟩ : ∃ W0, W0 = (w.alloc (.cells #[.int .i64 m1.d, .int .i64 m1.t, .int .i64 m1.n, .slice m1.a m1.bs.length m1.c] 34)).alloc (.cells #[.int .i64 m2.d, .int .i64 m2.t, .int .i64 m2.n, .slice m2.a m2.bs.length m2.c] 34) := ⟨_, rfl⟩
  have bW : Below w.heap.size w W0 := by rw [hW0]; exact below_tr (below_al w _) (below_al _ _)
  have hsz0 : W0.heap.size = w.heap.size + 2 := by rw [hW0]; simp
  have KP : Aside (∀ X, Below W0.heap.size W0 X → (X.cell? ⟨w.heap.size, 1, none⟩ = some (.int .i64 m1.t) ∧ X.cell? ⟨w.heap.size, 3, none⟩ = some (.slice m1.a m1.bs.length m1.c)) ∧ (X.cell? ⟨w.heap.size + 1, 1, none⟩ = some (.int .i64 m2.t) ∧ X.cell? ⟨w.heap.size + 1, 3, none⟩ = some (.slice m2.a m2.bs.length m2.c))) := fun X hX =>
    ⟨⟨(hX.cell (p := ⟨w.heap.size, 1, none⟩) (by simp only; omega)).trans (by rw [hW0]; go_simp), (hX.cell (p := ⟨w.heap.size, 3, none⟩) (by simp only; omega)).trans (by rw [hW0]; go_simp)⟩, ⟨(hX.cell (p := ⟨w.heap.size + 1, 1, none⟩) (by simp only; omega)).trans (by rw [hW0]; go_simp), (hX.cell (p := ⟨w.heap.size + 1, 3, none⟩) (by simp only; omega)).trans (by rw [hW0]; go_simp)⟩⟩
  have HB1 := aside (hb1.below bW)
  have HB2 := aside (hb2.below bW)
  have HG := aside (great_any a0 l0.length c0 am cm ms W0 (hm.below bW) (by omega))
  have HD1 := aside (made_any a0 l0 c0 am cm ms W0 (h0.below bW) hlc hc (hm.below bW))
  have HD2 := aside (fun W (hW : Below W0.heap.size W0 W) => made_any a0 l0 c0 am cm ms W ((h0.below bW).below hW) hlc hc ((hm.below bW).below hW))
  have HWK := aside (wakes_any W0)
  have BW := aside bW
  obtain ⟨⟨k1, k3⟩, ⟨j1, j3⟩⟩ := KP.out W0 (Below.refl _ _)
  clear hm h0 hb1 hb2 bW hsz0
  have hge : ∀ g : Bool, g = true ∨ (g = false ∧ 1000 < m1.bs.length) ∨ (g = false ∧ ¬ 1000 < m1.bs.length ∧ 1000 < m2.bs.length) ∨ (g = false ∧ ¬ 1000 < m1.bs.length ∧ ¬ 1000 < m2.bs.length) := fun g => by
    cases g <;> simp <;> omega
  go_enter Try.func7, Try.ntmps7
  go_wp2_with fail
  rw [← hW0]
  refine HG.out.mono ?_
  rintro e w' ⟨⟨g, rfl, -⟩, rfl⟩
  have EARLY : Aside (∀ x : World, Below w'.heap.size w' x → Below w.heap.size w x) := fun x h2 => BW.out.trans (h2.mono BW.out.size)
  clear hW0
  rcases hge g with rfl | ⟨rfl, hg⟩ | ⟨rfl, hg, hg2⟩ | ⟨rfl, hg, hg2⟩
  · go_wp2_with fail
    refine HWK.out.mono ?_
    rintro e w1 ⟨rfl, hb⟩
    have HB := aside (EARLY.out _ hb)
    clear hb
    go_wp2
    go_ret
    exact ⟨rfl, HB.out⟩
  · have q1 : (1000 : Int) < (m1.bs.length : Int) := by omega
    go_wp2_with fail
    refine HWK.out.mono ?_
    rintro e w1 ⟨rfl, hb⟩
    have HB := aside (EARLY.out _ hb)
    clear hb
    go_wp2
    go_ret
    exact ⟨rfl, HB.out⟩
  · have q1 : ¬ (1000 : Int) < (m1.bs.length : Int) := by omega
    have q2 : (1000 : Int) < (m2.bs.length : Int) := by omega
    go_wp2_with fail
    refine HWK.out.mono ?_
    rintro e w1 ⟨rfl, hb⟩
    have HB := aside (EARLY.out _ hb)
    clear hb
    go_wp2
    go_ret
    exact ⟨rfl, HB.out⟩
  · have q1 : ¬ (1000 : Int) < (m1.bs.length : Int) := by omega
    have q2 : ¬ (1000 : Int) < (m2.bs.length : Int) := by omega
    go_wp2_with fail
    refine HD1.out.mono ?_
    rintro e w1 ⟨rfl, szs, lvs, Ls, L0, hi0, hM1⟩
    have H1 := aside hM1
    have HI0 := aside hi0
    clear hM1 hi0 q1 q2
    go_wp2_with fail
    refine (HD2.out w1 H1.out.below).mono ?_
    rintro e w2 ⟨rfl, szt, lvt, Lt, M0, hj0, hM2⟩
    obtain ⟨hszt, hct⟩ := made_ct (HI0.out.trans hj0.symm) H1.out.made hM2.made
    subst hszt
    have HCT := aside hct
    have T2 : Aside (Two w' w2 ⟨w'.heap.size, szs, lvs, Ls⟩ ⟨w1.heap.size, szs, lvt, Lt⟩) := ⟨H1.out.rep.below hM2.below, hM2.rep, fun k h1 h2 => by
      have h3 := H1.out.rep.str.lv_lt h1
      have h4 := hM2.foot k h2
      omega, H1.out.below.trans (hM2.below.mono H1.out.below.size), H1.out.foot, fun k hk => Nat.le_trans H1.out.below.size (hM2.foot k hk)⟩
    have hIs := aside H1.out.rep.inv
    clear HI0 hj0 hM2 hct HD1 HD2 HG HWK H1
    go_wp2_with fail
    refine (get_all w'.heap.size szs lvs Ls 0 2000 w2 T2.out.rs (by decide)).mono ?_
    rintro e w3 ⟨aw, cw, rfl, hcw, hnw, hb3⟩
    have T3 := aside (T2.out.quiet hb3)
    have NW := aside hnw
    have WB := w2.heap.size
    clear hnw hb3
    go_wp2_with fail
    refine (size_any w'.heap.size szs lvs Ls w3 T3.out.rs).mono ?_
    rintro e w4 ⟨rfl, rfl⟩
    obtain ⟨⟨k1, k3⟩, ⟨j1, j3⟩⟩ := KP.out w4 T3.out.below
    go_wp2_with fail
    refine (put_all w'.heap.size szs lvs Ls m1.t m1.a m1.bs m1.c w4 T3.out.rs (HB1.out.below T3.out.below) ht1.1 (by omega)).mono ?_
    rintro e w5 ⟨r1, sz1, lv1, L1, rfl, hP1, hR1, hG1, hu1⟩
    have T5 := aside (T3.out.left hR1 hG1 hu1)
    have P1 := aside hP1
    have NW5 : Aside (NewB w5 w2.heap.size aw (getL Ls szs 0 2000)) := by
      rcases NW.out with h | ⟨h, hh⟩
      · exact .inl h
      · refine .inr ⟨h, (hu1.block _ (Array.getElem?_eq_some_iff.1 hh).1 (fun hf => ?_)).trans hh⟩
        have := T2.out.rs.str.lv_lt hf
        omega
    clear hR1 hG1 hu1 hP1 NW WB
    go_wp2_with fail
    refine (get_all w'.heap.size sz1 lv1 L1 0 2000 w5 T5.out.rs (by decide)).mono ?_
    rintro e w6 ⟨an, cn, rfl, hcn, hnn, hb6⟩
    have T6 := aside (T5.out.quiet hb6)
    have NW6 := aside (NW5.out.below hb6)
    have NN6 := aside hnn
    obtain ⟨⟨k1, k3⟩, ⟨j1, j3⟩⟩ := KP.out w6 T6.out.below
    clear hnn hb6 NW5
    have HWL := aside (get_len Ls szs)
    have HNL := aside (get_len L1 sz1)
    go_upto_region 9 with fail
    go_cut [63] (fun s63 wc => BoolIs s63 (fun b => (b = true → r1 = 0 ∧ 0 < m1.bs.length) ∧ (b = false → r1 ≠ 0 ∨ m1.bs = [])) ∧ wc = w6)
    case first =>
      have h3 : (r1 = 0 ∧ 0 < m1.bs.length) ∨ (r1 = 0 ∧ m1.bs.length = 0) ∨ (r1 ≠ 0) := by
        by_cases h : r1 = 0
        · rcases Nat.eq_zero_or_pos m1.bs.length with h2 | h2
          · exact .inr (.inl ⟨h, h2⟩)
          · exact .inl ⟨h, h2⟩
        · exact .inr (.inr h)
      rcases h3 with ⟨h1, h2⟩ | ⟨h1, h2⟩ | h1
      · have e1 : (r1 == 0) = true := by simpa using h1
        have e2 : (0 : Int) < (m1.bs.length : Int) := by omega
        have H1 := aside h1
        clear h1
        go_wp2_with fail
        go_meet
        exact ⟨boolIs ⟨fun _ => ⟨H1.out, h2⟩, fun h => by cases h⟩, rfl⟩
      · have e1 : (r1 == 0) = true := by simpa using h1
        have H1 := aside h1
        have H2 := aside h2
        have e2 : ¬ ((0 : Int) < (m1.bs.length : Int)) := by omega
        clear h1 h2
        go_wp2_with fail
        go_meet
        exact ⟨boolIs ⟨fun h => absurd (of_decide_eq_true h) (by have := H2.out; omega), fun _ => .inr (List.length_eq_zero_iff.1 H2.out)⟩, rfl⟩
      · have e1 : (r1 == 0) = false := by simpa using h1
        have H1 := aside h1
        clear h1
        go_wp2_with fail
        go_meet
        exact ⟨boolIs ⟨fun h => (by cases h), fun _ => .inl H1.out⟩, rfl⟩
    case rest =>
      obtain ⟨⟨b, rfl, hbt, hbf⟩, hwc⟩ := hcut
      have hwc2 := hwc.symm
      subst hwc2
      clear hwc
      have HBT := aside hbt
      have HBF := aside hbf
      clear hbt hbf
      go_upto_if 63 with fail
      go_cut [11, 13, 14] (fun _ s13 _ wc => s13 = .int .i64 r1 ∧ Aside (Two w' wc ⟨w'.heap.size, sz1, lv1, L1⟩ ⟨w1.heap.size, szs, lvt, Lt⟩))
      case first =>
        cases b
        · obtain ⟨hsz, hLL⟩ := putR_no P1.out (HBF.out rfl)
          subst hsz hLL
          have SX := str_all w6 an (getL L1 sz1 0 2000) cn NN6.out.bs
          have SY := str_all w6 aw (getL L1 sz1 0 2000) cw NW6.out.bs
          go_wp2_with fail
          refine (size_any w'.heap.size sz1 lv1 L1 w6 T6.out.rs).mono ?_
          rintro e w7 ⟨rfl, rfl⟩
          go_wp2_with fail
          go_meet
          exact ⟨rfl, T6.out⟩
        · obtain ⟨rfl, hpos⟩ := HBT.out rfl
          refine reads_in w.heap.size w'.heap.size szs sz1 w2.heap.size w5.heap.size lv1 Ls L1 m1 aw an cw cn w6 (aside fun W hW => (T6.out.quiet hW).rs) (aside fun W hW => (KP.out W (T6.out.below.trans (hW.mono T6.out.below.size))).1) (aside (HB1.out.below T6.out.below)) P1 (aside (List.length_pos_iff.1 hpos)) (by omega) hIs NN6 NW6 _ _ _ _ _ _ _ _ _ _ _ _ _ _ _ _ _ _ _ _ _ _ _ _ _ _ _ _ _ _ _ _ _ _ _ _ _ _ _ _ _ _ _ _ _ _ _ _ _ _ _ _ _ _ _ _ _ _ _ _ _ _ _ _ _ _ _ _ _ _ _ _ _ _ _ _ _ _ _ _ _ _ _ _ _ _ _ _ _ _ _ _ _ _ _ _ _ _ _ _ _ _ _ _ _ _ _ _ _ _ _ _ _ _ _ _ _ _ _ _ _ _ _ _ _ _ _ _ _ _ _ _ _ _ _ _ _ _ _ _ _ _ _ _ _ _ _ _ _ _ _ _ _ _ _ _ _ _ _ _ _ _ _ _ _ _ _ _ _ _ _ _ _ _ _ _ _ _ _ _ _ _ _ _ _ _ _ _ _ _ _ _ _ _ _ _ _ _ _ _ _ _ _ _ _ _ _ _ _ _ _ _ _ _ _ _ _ _ _ _ _ _ _ _ _ _ _ _ _ _ _ _ _ _ _ _ _ _ _ _ _ _ _ _ _ _ _ _ _ _ _ _ ?_
          intro wd hb
          intros
          have T7 := aside (T6.out.quiet hb)
          clear hb
          go_wp2_with fail
          go_meet
          exact ⟨rfl, T7.out⟩
      case rest =>
        obtain ⟨rfl, hT⟩ := hcut
        rename ∀ (a : Act) (w : World), Code.wp Try.prog _ _ a w → _ => hrest
        refine hrest _ _ ?_
        exact reads_rest w w' wc w1.heap.size szs sz1 lv1 lvt Ls L1 Lt r1 m1 m2 KP HB1 HB2 hT P1 HCT hIs EARLY ht1 ht2 (by omega) (by omega) _ _ _ _ _ _ _ _ _ _ _ _ _ _ _ _ _ _ _ _ _ _ _ _ _ _ _ _ _ _ _ _ _ _ _ _ _ _ _ _ _ _ _ _ _ _ _ _ _ _ _ _ _ _ _ _ _ _ _ _ _ _ _ _ _ _ _ _ _ _ _ _ _ _ _ _ _ _ _ _ _ _ _ _ _ _ _ _ _ _ _ _ _ _ _ _ _ _ _ _ _ _ _ _ _ _ _ _ _ _ _ _ _ _ _ _ _ _ _ _ _ _ _ _ _ _ _ _ _ _ _ _ _ _ _ _ _ _ _ _ _ _ _ _ _ _ _ _ _ _ _ _ _ _ _ _ _ _ _ _ _ _ _ _ _ _ _ _ _ _ _ _ _ _ _ _ _ _ _ _ _ _ _ _ _ _ _ _ _ _ _ _ _ _ _ _ _ _ _ _ _ _ _ _ _ _ _ _ _ _ _ _ _ _ _ _ _ _ _ _ _ _ _ _ _ _ _ _ _ _ _ _ _ _ _ _ _ _ _ _ _ _ _ _ _ _ _ _ _ _ _
end Go.Proofs.Ytkekaljcbmkomaa
