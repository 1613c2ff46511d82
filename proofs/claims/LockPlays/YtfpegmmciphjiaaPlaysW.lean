/- LockPlays, walked. -/
import Derived.Test.YtfpegmmciphjiaaTwo
namespace Go.Proofs.Ytfpegmmciphjiaa
open Go.RowKit

set_option maxHeartbeats 40000000 in
set_option maxRecDepth 20000 in
theorem lockPlays_walk (a : Option Addr) (ss : List Sp) (c : Nat) (w : World) (hR : SpsAt w a ss) (hI : ∀ s ∈ ss, InR s.l) :
    Calls Try.prog 3 #[.slice a ss.length c] w fun e w' => e = .returned (.bool true) ∧ Below w.heap.size w w' := by
  have HR := aside hR
  have HI := aside hI
  obtain ⟨nS, hnS⟩ : ∃ nS, nS = ss.length := ⟨_, rfl⟩
  have HNS := aside hnS
  rw [← hnS]
  clear hR hI hnS
  go_enter Try.func3, Try.ntmps3
  go_wp2_with fail
  refine (new_any w).mono ?_
  rintro e w1 ⟨t0, rfl, hT, hT1, hT2, b1, hTF⟩
  have T1 := aside hT; have T2 := aside hT1; have T3 := aside hT2; have T4 := aside hTF; have B1 := aside b1
  clear hT hT1 hT2 hTF b1
  go_wp2_with fail
  refine (rNew_any w1).mono ?_
  rintro e w2 ⟨r0, rfl, hT, hT1, hT2, b2, hTF⟩
  have A0 : Aside (∃ t r, Ali w w2 t0.p r0.p [] [] t r) := ⟨t0, r0, ⟨⟨below_tr B1.out b2, T1.out.below b2, hT, T4.out, fun k hk => Nat.le_trans B1.out.size (hTF k hk), fun k hk hf => by have := T1.out.flt hk; have := hTF k hf; omega⟩, rfl, rfl, T2.out, T3.out, hT1, hT2, inv_nil⟩⟩
  obtain ⟨p, hp⟩ : ∃ p, p = t0.p := ⟨_, rfl⟩
  obtain ⟨q, hq⟩ : ∃ q, q = r0.p := ⟨_, rfl⟩
  rw [← hp, ← hq] at A0
  rw [← hp, ← hq]
  clear T1 T2 T3 T4 B1 hT hT1 hT2 hTF b2 hp hq
  go_wp2
  go_loopg [5] 600 (fun G s5 wr => ∃ i : Nat, i + G = 600 ∧ s5 = .int .i64 (i : Int) ∧ Aside (∃ H W t r, Ali w wr p q H W t r))
  case atStart => exact ⟨0, by omega, rfl, aside ⟨[], [], A0.out⟩⟩
  case round =>
    obtain ⟨i, hiG, rfl, HA⟩ := hrel
    rename World => wr
    by_cases hi : i < nS ∧ i < 600
    · have t1 : (i : Int) < (nS : Int) := by omega
      have t2 : (i : Int) < 600 := by omega
      obtain ⟨s, hs⟩ : ∃ s, ss[i]? = some s := ⟨_, List.getElem?_eq_getElem (by have := HNS.out; omega)⟩
      have hl := HI.out s (List.mem_of_getElem? hs)
      obtain ⟨H, W, t, r, A⟩ := HA.out
      obtain ⟨g, o, rfl, q0, q1, q2, q3, q4⟩ := HR.out.at A.two.bel hs
      obtain ⟨bx, hbx⟩ : ∃ bx, bx = wr.heap.size := ⟨_, rfl⟩
      obtain ⟨V, hV⟩ : ∃ V, V = wr.alloc (.cells #[.int .i64 s.l.who, .int .i64 s.l.org, .int .i64 s.l.len, .bool s.l.sh] 29) := ⟨_, rfl⟩
      have BV : Below wr.heap.size wr V := by rw [hV]; exact below_al wr _
      have BX : Bx V bx s.l.who s.l.org s.l.len s.l.sh := by rw [hV, hbx]; exact bx_new wr _ _ _ _
      have FB := A.far (k := bx) (by omega)
      have AV := A.quiet BV
      have HL := aside hl; have HBX := aside BX; have HFB := aside FB; have HAV := aside AV; have HV := aside hV; have HBXE := aside hbx; have HBV := aside BV
      clear hl BX FB AV A HA hs BV
      by_cases d0 : s.d = 0
      · have dd := d0
        have C1 := aside (two_try1 (HAV.out.quiet (below_dr V)) HL.out (HBX.out.below (below_dr V)) HFB.out.1)
        have C2 := aside (fun w1 (t' : Tb) h1 h2 h3 h4 B => two_try2 (w1 := w1) (t' := t') (b := bx) HAV.out HL.out h1 h2 h3 h4 B HFB.out.2)
        rw [show s.l.val = .agg #[.int .i64 s.l.who, .int .i64 s.l.org, .int .i64 s.l.len, .bool s.l.sh] from rfl] at C1 C2
        obtain ⟨m, hm⟩ : ∃ m : Int, m = (tryE H W s.l : Nat) := ⟨_, rfl⟩
        rw [← hm] at C1 C2
        clear hm
        have q5 := ((below_al wr (.cells #[.int .i64 s.l.who, .int .i64 s.l.org, .int .i64 s.l.len, .bool s.l.sh] 29)).cell (World.block_lt_of_cell? wr _ q0)).trans q0
        rw [dd] at q5
        have m0 := HBX.out.c0; have m1 := HBX.out.c1; have m2 := HBX.out.c2; have m3 := HBX.out.c3
        go_wp2_with fail
        rw [← HV.out, ← HBXE.out]
        clear q0 q1 q2 q3 q4 q5 hV hbx
        go_region_held3 (fun w' => w'.cell? ⟨bx, 0, none⟩ = some (.int .i64 s.l.who) ∧ w'.cell? ⟨bx, 1, none⟩ = some (.int .i64 s.l.org) ∧ w'.cell? ⟨bx, 2, none⟩ = some (.int .i64 s.l.len) ∧ w'.cell? ⟨bx, 3, none⟩ = some (.bool s.l.sh)) (go_keep) (first
          | (go_at_call 11; with_reducible refine C1.out.mono ?_; rintro e x1 ⟨rfl, hB1, hA1⟩; have n0 := hB1.c0; have n1 := hB1.c1; have n2 := hB1.c2; have n3 := hB1.c3; have HB1 := aside hB1; clear hB1)
          | (go_at_call 12; obtain ⟨-, t', g1, g2, g3, g4⟩ := hA1.out; refine (C2.out _ t' g1 g2 g3 g4 HB1.out).mono ?_; rintro e x2 ⟨rfl, hB2, HA2⟩; have n4 := hB2.c0; have n5 := hB2.c1; have n6 := hB2.c2; have n7 := hB2.c3; clear hB2))
        go_wp2_with fail
        clear C1 C2 hA1 HB1 m0 m1 m2 m3 n0 n1 n2 n3 n4 n5 n6 n7
        -- what is held, what waits, behind each step
        obtain ⟨H2, W2, t2, r2, A2⟩ := HA2.out
        obtain ⟨ha, hc, wa, wc, RV⟩ := A2.rv
        obtain ⟨nH, hnH⟩ : ∃ nH, nH = H2.length := ⟨_, rfl⟩
        obtain ⟨nW, hnW⟩ : ∃ nW, nW = W2.length := ⟨_, rfl⟩
        rw [← hnH, ← hnW] at RV
        have hfew := A2.inv.few
        have lH : Aside (nH ≤ 1000) := aside (by omega)
        have lW : Aside (nW ≤ 1000) := aside (by omega)
        have HNH := aside hnH; have HNW := aside hnW; have HRV := aside RV; have AA := aside A2
        have z0 := A2.c0 RV
        have z1 := A2.c1 RV
        have CH := aside (two_held (A2.quiet (below_dr _)) hnH.symm)
        clear A2 RV hnH hnW hfew HA2
        go_region_held3 (fun w' => w'.cell? ⟨q, 0, none⟩ = some (.slice ha nH hc) ∧ w'.cell? ⟨q, 1, none⟩ = some (.slice wa nW wc)) (go_keep) (first
          | (go_at_call 20; with_reducible refine CH.out.mono ?_; rintro e x1 ⟨a1, c1, rfl, hA⟩; have y0 := hA.out.1.c0 HRV.out; have y1 := hA.out.1.c1 HRV.out; have CI := aside (fun cc => two_is (c' := cc) hA.out.1 hA.out.2 (hA.out.1.lh HRV.out) HNH.out.symm lH.out))
          | (go_at_call 17; with_reducible refine (CI.out _).mono ?_; rintro e x2 ⟨rfl, hB⟩; have y2 := hB.out.2.c0 HRV.out; have y3 := hB.out.2.c1 HRV.out; have CW := aside (two_waits hB.out.2 HNW.out.symm))
          | (go_at_call 21; with_reducible refine CW.out.mono ?_; rintro e x3 ⟨a3, c3, rfl, hC⟩; have y4 := hC.out.1.c0 HRV.out; have y5 := hC.out.1.c1 HRV.out; have CJ := aside (fun cc => two_is (c' := cc) hC.out.1 hC.out.2 (hC.out.1.lw HRV.out) HNW.out.symm lW.out))
          | (go_at_call 17; with_reducible refine (CJ.out _).mono ?_; rintro e x4 ⟨rfl, hD⟩; have y6 := hD.out.2.c0 HRV.out; have y7 := hD.out.2.c1 HRV.out))
        go_wp2_with fail
        go_roundg (600 - (i + 1))
        case measure => omega
        case rel => exact ⟨i + 1, by omega, by go_num, aside ⟨_, _, _, _, hD.out.2⟩⟩
      · by_cases d1 : s.d = 1
        · have dd := d1
          obtain ⟨d, hd⟩ : ∃ d : Bool, d = true ↔ dead H W s.l := by
            by_cases h : dead H W s.l
            · exact ⟨true, by simp [h]⟩
            · exact ⟨false, by simp [h]⟩
          have C1 := aside (two_wait1 HAV.out HL.out hd HBX.out HFB.out.1)
          have C2 := aside (fun w1 (t' : Tb) h1 h2 h3 h4 => two_wait2 (w1 := w1) (t' := t') HAV.out HL.out hd h1 h2 h3 h4)
          rw [show s.l.val = .agg #[.int .i64 s.l.who, .int .i64 s.l.org, .int .i64 s.l.len, .bool s.l.sh] from rfl] at C1 C2
          obtain ⟨ok, hok⟩ : ∃ ok : Bool, ok = okOf (waitE H W s.l d) := ⟨_, rfl⟩
          obtain ⟨er, her⟩ : ∃ er : Int, er = (erOf (waitE H W s.l d) : Nat) := ⟨_, rfl⟩
          rw [← hok, ← her] at C1 C2
          clear hok her hd
          have q5 := ((below_al wr (.cells #[.int .i64 s.l.who, .int .i64 s.l.org, .int .i64 s.l.len, .bool s.l.sh] 29)).cell (World.block_lt_of_cell? wr _ q0)).trans q0
          rw [dd] at q5
          have m0 := HBX.out.c0; have m1 := HBX.out.c1; have m2 := HBX.out.c2; have m3 := HBX.out.c3
          go_wp2_with fail
          rw [← HV.out, ← HBXE.out]
          clear q0 q1 q2 q3 q4 q5 hV hbx
          go_wp2_with (first
            | (go_at_call 13; with_reducible refine C1.out.mono ?_; rintro e x1 ⟨rfl, hB1, hA1⟩; have n0 := hB1.c0; have n1 := hB1.c1; have n2 := hB1.c2; have n3 := hB1.c3; clear hB1)
            | (go_at_call 14; obtain ⟨-, t', g1, g2, g3, g4⟩ := hA1.out; refine (C2.out _ t' g1 g2 g3 g4).mono ?_; rintro e x2 ⟨rfl, HA2⟩; clear g1 g2 g3 g4))
          clear C1 C2 hA1 m0 m1 m2 m3 n0 n1 n2 n3
          -- what is held, what waits, behind each step
          obtain ⟨H2, W2, t2, r2, A2⟩ := HA2.out
          obtain ⟨ha, hc, wa, wc, RV⟩ := A2.rv
          obtain ⟨nH, hnH⟩ : ∃ nH, nH = H2.length := ⟨_, rfl⟩
          obtain ⟨nW, hnW⟩ : ∃ nW, nW = W2.length := ⟨_, rfl⟩
          rw [← hnH, ← hnW] at RV
          have hfew := A2.inv.few
          have lH : Aside (nH ≤ 1000) := aside (by omega)
          have lW : Aside (nW ≤ 1000) := aside (by omega)
          have HNH := aside hnH; have HNW := aside hnW; have HRV := aside RV; have AA := aside A2
          have z0 := A2.c0 RV
          have z1 := A2.c1 RV
          have CH := aside (two_held (A2.quiet (below_dr _)) hnH.symm)
          clear A2 RV hnH hnW hfew HA2
          go_region_held3 (fun w' => w'.cell? ⟨q, 0, none⟩ = some (.slice ha nH hc) ∧ w'.cell? ⟨q, 1, none⟩ = some (.slice wa nW wc)) (go_keep) (first
            | (go_at_call 20; with_reducible refine CH.out.mono ?_; rintro e x1 ⟨a1, c1, rfl, hA⟩; have y0 := hA.out.1.c0 HRV.out; have y1 := hA.out.1.c1 HRV.out; have CI := aside (fun cc => two_is (c' := cc) hA.out.1 hA.out.2 (hA.out.1.lh HRV.out) HNH.out.symm lH.out))
            | (go_at_call 17; with_reducible refine (CI.out _).mono ?_; rintro e x2 ⟨rfl, hB⟩; have y2 := hB.out.2.c0 HRV.out; have y3 := hB.out.2.c1 HRV.out; have CW := aside (two_waits hB.out.2 HNW.out.symm))
            | (go_at_call 21; with_reducible refine CW.out.mono ?_; rintro e x3 ⟨a3, c3, rfl, hC⟩; have y4 := hC.out.1.c0 HRV.out; have y5 := hC.out.1.c1 HRV.out; have CJ := aside (fun cc => two_is (c' := cc) hC.out.1 hC.out.2 (hC.out.1.lw HRV.out) HNW.out.symm lW.out))
            | (go_at_call 17; with_reducible refine (CJ.out _).mono ?_; rintro e x4 ⟨rfl, hD⟩; have y6 := hD.out.2.c0 HRV.out; have y7 := hD.out.2.c1 HRV.out))
          go_wp2_with fail
          go_roundg (600 - (i + 1))
          case measure => omega
          case rel => exact ⟨i + 1, by omega, by go_num, aside ⟨_, _, _, _, hD.out.2⟩⟩
        · by_cases d2 : s.d = 2
          · have dd := d2
            obtain ⟨m, hm⟩ : ∃ m, m = (freeT H W s.l).2.2.length := ⟨_, rfl⟩
            have lm : Aside (m ≤ 1000) := aside (by rw [hm]; exact free_few s.l HAV.out.inv)
            have HMM := aside hm.symm
            have C1 := aside (two_free1 HAV.out HL.out HBX.out HFB.out.1 hm.symm)
            have C2 := aside (fun w1 (t' : Tb) (v : Value) h1 h2 h3 h4 h5 => two_free2 (w1 := w1) (t' := t') (v := v) HAV.out HL.out h1 h2 h3 h4 h5 HMM.out)
            rw [show s.l.val = .agg #[.int .i64 s.l.who, .int .i64 s.l.org, .int .i64 s.l.len, .bool s.l.sh] from rfl] at C1 C2
            obtain ⟨er, her⟩ : ∃ er : Int, er = (freeE H s.l : Nat) := ⟨_, rfl⟩
            rw [← her] at C1 C2
            clear her hm
            have q5 := ((below_al wr (.cells #[.int .i64 s.l.who, .int .i64 s.l.org, .int .i64 s.l.len, .bool s.l.sh] 29)).cell (World.block_lt_of_cell? wr _ q0)).trans q0
            rw [dd] at q5
            have m0 := HBX.out.c0; have m1 := HBX.out.c1; have m2 := HBX.out.c2; have m3 := HBX.out.c3
            go_wp2_with fail
            rw [← HV.out, ← HBXE.out]
            clear q0 q1 q2 q3 q4 q5 hV hbx
            go_wp2_with (first
              | (go_at_call 15; with_reducible refine C1.out.mono ?_; rintro e x1 ⟨a1, c1, rfl, hB1, hA1⟩; have n0 := hB1.c0; have n1 := hB1.c1; have n2 := hB1.c2; have n3 := hB1.c3; clear hB1)
              | (go_at_call 16; obtain ⟨-, t', g1, g2, g3, g4, g5⟩ := hA1.out; refine (C2.out _ t' _ g1 g2 g3 g4 g5).mono ?_; rintro e x2 ⟨a2, c2, rfl, HA1⟩; clear g1 g2 g3 g4 g5)
              | (go_at_call 17; obtain ⟨H1, W1, t1', r1', G1, G2, G3⟩ := HA1.out; with_reducible refine (two_is G1 G2 G3 HMM.out lm.out).mono ?_; rintro e x3 ⟨rfl, hI⟩; have HA2 : Aside (∃ H' W' t' r', Ali w x3 p q H' W' t' r') := aside ⟨_, _, _, _, hI.out.2⟩; clear G1 G2 G3))
            clear C1 C2 hA1 HA1 hI m0 m1 m2 m3 n0 n1 n2 n3 lm HMM
            -- what is held, what waits, behind each step
            obtain ⟨H2, W2, t2, r2, A2⟩ := HA2.out
            obtain ⟨ha, hc, wa, wc, RV⟩ := A2.rv
            obtain ⟨nH, hnH⟩ : ∃ nH, nH = H2.length := ⟨_, rfl⟩
            obtain ⟨nW, hnW⟩ : ∃ nW, nW = W2.length := ⟨_, rfl⟩
            rw [← hnH, ← hnW] at RV
            have hfew := A2.inv.few
            have lH : Aside (nH ≤ 1000) := aside (by omega)
            have lW : Aside (nW ≤ 1000) := aside (by omega)
            have HNH := aside hnH; have HNW := aside hnW; have HRV := aside RV; have AA := aside A2
            have z0 := A2.c0 RV
            have z1 := A2.c1 RV
            have CH := aside (two_held (A2.quiet (below_dr _)) hnH.symm)
            clear A2 RV hnH hnW hfew HA2
            go_region_held3 (fun w' => w'.cell? ⟨q, 0, none⟩ = some (.slice ha nH hc) ∧ w'.cell? ⟨q, 1, none⟩ = some (.slice wa nW wc)) (go_keep) (first
              | (go_at_call 20; with_reducible refine CH.out.mono ?_; rintro e x1 ⟨a1, c1, rfl, hA⟩; have y0 := hA.out.1.c0 HRV.out; have y1 := hA.out.1.c1 HRV.out; have CI := aside (fun cc => two_is (c' := cc) hA.out.1 hA.out.2 (hA.out.1.lh HRV.out) HNH.out.symm lH.out))
              | (go_at_call 17; with_reducible refine (CI.out _).mono ?_; rintro e x2 ⟨rfl, hB⟩; have y2 := hB.out.2.c0 HRV.out; have y3 := hB.out.2.c1 HRV.out; have CW := aside (two_waits hB.out.2 HNW.out.symm))
              | (go_at_call 21; with_reducible refine CW.out.mono ?_; rintro e x3 ⟨a3, c3, rfl, hC⟩; have y4 := hC.out.1.c0 HRV.out; have y5 := hC.out.1.c1 HRV.out; have CJ := aside (fun cc => two_is (c' := cc) hC.out.1 hC.out.2 (hC.out.1.lw HRV.out) HNW.out.symm lW.out))
              | (go_at_call 17; with_reducible refine (CJ.out _).mono ?_; rintro e x4 ⟨rfl, hD⟩; have y6 := hD.out.2.c0 HRV.out; have y7 := hD.out.2.c1 HRV.out))
            go_wp2_with fail
            go_roundg (600 - (i + 1))
            case measure => omega
            case rel => exact ⟨i + 1, by omega, by go_num, aside ⟨_, _, _, _, hD.out.2⟩⟩
          · by_cases d3 : s.d = 3
            · have dd := d3
              obtain ⟨m, hm⟩ : ∃ m, m = (leaveT H W s.l.who).2.2.length := ⟨_, rfl⟩
              have lm : Aside (m ≤ 1000) := aside (by rw [hm]; exact leave_few s.l.who HAV.out.inv)
              have HMM := aside hm.symm
              have NB : Aside (¬ V.drew.heap.size ≤ bx) := aside (by rw [hV, hbx]; simp)
              have C1 := aside (two_leave1 (HAV.out.quiet (below_dr V)) s.l.who (HBX.out.below (below_dr V)) HFB.out.1 hm.symm)
              have C2 := aside (fun w1 (t' : Tb) (v : Value) B h1 h2 h3 h4 h5 => two_leave2 (w1 := w1) (t' := t') (v := v) (b := bx) (l := s.l) HAV.out s.l.who B HFB.out.2 h1 h2 h3 h4 h5 HMM.out)
              clear hm
              have q5 := ((below_al wr (.cells #[.int .i64 s.l.who, .int .i64 s.l.org, .int .i64 s.l.len, .bool s.l.sh] 29)).cell (World.block_lt_of_cell? wr _ q0)).trans q0
              rw [dd] at q5
              have m0 := HBX.out.c0; have m1 := HBX.out.c1; have m2 := HBX.out.c2; have m3 := HBX.out.c3
              go_wp2_with fail
              rw [← HV.out, ← HBXE.out]
              clear q0 q1 q2 q3 q4 q5 hV hbx
              go_region_held3 (fun w' => w'.cell? ⟨bx, 0, none⟩ = some (.int .i64 s.l.who)) (go_keep) (first
                | (go_at_call 18; with_reducible refine C1.out.mono ?_; rintro e x1 ⟨a1, c1, rfl, hB1, hA1⟩; have n0 := hB1.c0; have HB1 := aside hB1; clear hB1)
                | (go_at_call 19; obtain ⟨-, t', g1, g2, g3, g4, g5⟩ := hA1.out; refine (C2.out _ t' _ HB1.out g1 g2 g3 g4 g5).mono ?_; rintro e x2 ⟨a2, c2, rfl, hB2, HA1⟩; have n1 := hB2.c0; have HB2 := aside hB2; clear hB2 g1 g2 g3 g4 g5)
                | (go_at_call 17; obtain ⟨H1, W1, t1', r1', G1, G2, G3⟩ := HA1.out; with_reducible refine (two_is G1 G2 G3 HMM.out lm.out).mono ?_; rintro e x3 ⟨rfl, hI⟩; have HA2 : Aside (∃ H' W' t' r', Ali w x3 p q H' W' t' r') := aside ⟨_, _, _, _, hI.out.2⟩; have n2 : x3.cell? ⟨bx, 0, none⟩ = some (.int .i64 s.l.who) := (HB2.out.upd hI.out.1 (fun hk => absurd (hA1.out.1 bx hk) NB.out)).c0; clear G1 G2 G3))
              go_wp2_with fail
              clear C1 C2 hA1 HA1 hI m0 m1 m2 m3 n0 n1 n2 lm HMM HB1 HB2 NB
              -- what is held, what waits, behind each step
              obtain ⟨H2, W2, t2, r2, A2⟩ := HA2.out
              obtain ⟨ha, hc, wa, wc, RV⟩ := A2.rv
              obtain ⟨nH, hnH⟩ : ∃ nH, nH = H2.length := ⟨_, rfl⟩
              obtain ⟨nW, hnW⟩ : ∃ nW, nW = W2.length := ⟨_, rfl⟩
              rw [← hnH, ← hnW] at RV
              have hfew := A2.inv.few
              have lH : Aside (nH ≤ 1000) := aside (by omega)
              have lW : Aside (nW ≤ 1000) := aside (by omega)
              have HNH := aside hnH; have HNW := aside hnW; have HRV := aside RV; have AA := aside A2
              have z0 := A2.c0 RV
              have z1 := A2.c1 RV
              have CH := aside (two_held (A2.quiet (below_dr _)) hnH.symm)
              clear A2 RV hnH hnW hfew HA2
              go_region_held3 (fun w' => w'.cell? ⟨q, 0, none⟩ = some (.slice ha nH hc) ∧ w'.cell? ⟨q, 1, none⟩ = some (.slice wa nW wc)) (go_keep) (first
                | (go_at_call 20; with_reducible refine CH.out.mono ?_; rintro e x1 ⟨a1, c1, rfl, hA⟩; have y0 := hA.out.1.c0 HRV.out; have y1 := hA.out.1.c1 HRV.out; have CI := aside (fun cc => two_is (c' := cc) hA.out.1 hA.out.2 (hA.out.1.lh HRV.out) HNH.out.symm lH.out))
                | (go_at_call 17; with_reducible refine (CI.out _).mono ?_; rintro e x2 ⟨rfl, hB⟩; have y2 := hB.out.2.c0 HRV.out; have y3 := hB.out.2.c1 HRV.out; have CW := aside (two_waits hB.out.2 HNW.out.symm))
                | (go_at_call 21; with_reducible refine CW.out.mono ?_; rintro e x3 ⟨a3, c3, rfl, hC⟩; have y4 := hC.out.1.c0 HRV.out; have y5 := hC.out.1.c1 HRV.out; have CJ := aside (fun cc => two_is (c' := cc) hC.out.1 hC.out.2 (hC.out.1.lw HRV.out) HNW.out.symm lW.out))
                | (go_at_call 17; with_reducible refine (CJ.out _).mono ?_; rintro e x4 ⟨rfl, hD⟩; have y6 := hD.out.2.c0 HRV.out; have y7 := hD.out.2.c1 HRV.out))
              go_wp2_with fail
              go_roundg (600 - (i + 1))
              case measure => omega
              case rel => exact ⟨i + 1, by omega, by go_num, aside ⟨_, _, _, _, hD.out.2⟩⟩
            · have HA2 : Aside (∃ H' W' t' r', Ali w V p q H' W' t' r') := aside ⟨_, _, _, _, HAV.out⟩
              have dd : s.d = s.d := rfl
              have q5 := ((below_al wr (.cells #[.int .i64 s.l.who, .int .i64 s.l.org, .int .i64 s.l.len, .bool s.l.sh] 29)).cell (World.block_lt_of_cell? wr _ q0)).trans q0
              rw [dd] at q5
              have m0 := HBX.out.c0; have m1 := HBX.out.c1; have m2 := HBX.out.c2; have m3 := HBX.out.c3
              go_wp2_with fail
              rw [← HV.out, ← HBXE.out]
              clear q0 q1 q2 q3 q4 q5 hV hbx
              clear m0 m1 m2 m3
              -- what is held, what waits, behind each step
              obtain ⟨H2, W2, t2, r2, A2⟩ := HA2.out
              obtain ⟨ha, hc, wa, wc, RV⟩ := A2.rv
              obtain ⟨nH, hnH⟩ : ∃ nH, nH = H2.length := ⟨_, rfl⟩
              obtain ⟨nW, hnW⟩ : ∃ nW, nW = W2.length := ⟨_, rfl⟩
              rw [← hnH, ← hnW] at RV
              have hfew := A2.inv.few
              have lH : Aside (nH ≤ 1000) := aside (by omega)
              have lW : Aside (nW ≤ 1000) := aside (by omega)
              have HNH := aside hnH; have HNW := aside hnW; have HRV := aside RV; have AA := aside A2
              have z0 := A2.c0 RV
              have z1 := A2.c1 RV
              have CH := aside (two_held (A2.quiet (below_dr _)) hnH.symm)
              clear A2 RV hnH hnW hfew HA2
              go_region_held3 (fun w' => w'.cell? ⟨q, 0, none⟩ = some (.slice ha nH hc) ∧ w'.cell? ⟨q, 1, none⟩ = some (.slice wa nW wc)) (go_keep) (first
                | (go_at_call 20; with_reducible refine CH.out.mono ?_; rintro e x1 ⟨a1, c1, rfl, hA⟩; have y0 := hA.out.1.c0 HRV.out; have y1 := hA.out.1.c1 HRV.out; have CI := aside (fun cc => two_is (c' := cc) hA.out.1 hA.out.2 (hA.out.1.lh HRV.out) HNH.out.symm lH.out))
                | (go_at_call 17; with_reducible refine (CI.out _).mono ?_; rintro e x2 ⟨rfl, hB⟩; have y2 := hB.out.2.c0 HRV.out; have y3 := hB.out.2.c1 HRV.out; have CW := aside (two_waits hB.out.2 HNW.out.symm))
                | (go_at_call 21; with_reducible refine CW.out.mono ?_; rintro e x3 ⟨a3, c3, rfl, hC⟩; have y4 := hC.out.1.c0 HRV.out; have y5 := hC.out.1.c1 HRV.out; have CJ := aside (fun cc => two_is (c' := cc) hC.out.1 hC.out.2 (hC.out.1.lw HRV.out) HNW.out.symm lW.out))
                | (go_at_call 17; with_reducible refine (CJ.out _).mono ?_; rintro e x4 ⟨rfl, hD⟩; have y6 := hD.out.2.c0 HRV.out; have y7 := hD.out.2.c1 HRV.out))
              go_wp2_with fail
              go_roundg (600 - (i + 1))
              case measure => omega
              case rel => exact ⟨i + 1, by omega, by go_num, aside ⟨_, _, _, _, hD.out.2⟩⟩
    · by_cases hj : i < nS
      · have t1 : (i : Int) < (nS : Int) := by omega
        have t2 : ¬ ((i : Int) < 600) := by omega
        have HA2 := HA
        go_wp2_with fail
        -- what is held, what waits, behind each step
        obtain ⟨H2, W2, t2, r2, A2⟩ := HA2.out
        obtain ⟨ha, hc, wa, wc, RV⟩ := A2.rv
        obtain ⟨nH, hnH⟩ : ∃ nH, nH = H2.length := ⟨_, rfl⟩
        obtain ⟨nW, hnW⟩ : ∃ nW, nW = W2.length := ⟨_, rfl⟩
        rw [← hnH, ← hnW] at RV
        have hfew := A2.inv.few
        have lH : Aside (nH ≤ 1000) := aside (by omega)
        have lW : Aside (nW ≤ 1000) := aside (by omega)
        have HNH := aside hnH; have HNW := aside hnW; have HRV := aside RV; have AA := aside A2
        have z0 := A2.c0 RV
        have z1 := A2.c1 RV
        have CH := aside (two_held (A2.quiet (below_dr _)) hnH.symm)
        clear A2 RV hnH hnW hfew HA2
        go_region_held3 (fun w' => w'.cell? ⟨q, 0, none⟩ = some (.slice ha nH hc) ∧ w'.cell? ⟨q, 1, none⟩ = some (.slice wa nW wc)) (go_keep) (first
          | (go_at_call 20; with_reducible refine CH.out.mono ?_; rintro e x1 ⟨a1, c1, rfl, hA⟩; have y0 := hA.out.1.c0 HRV.out; have y1 := hA.out.1.c1 HRV.out; have CI := aside (fun cc => two_is (c' := cc) hA.out.1 hA.out.2 (hA.out.1.lh HRV.out) HNH.out.symm lH.out))
          | (go_at_call 17; with_reducible refine (CI.out _).mono ?_; rintro e x2 ⟨rfl, hB⟩; have y2 := hB.out.2.c0 HRV.out; have y3 := hB.out.2.c1 HRV.out; have CW := aside (two_waits hB.out.2 HNW.out.symm))
          | (go_at_call 21; with_reducible refine CW.out.mono ?_; rintro e x3 ⟨a3, c3, rfl, hC⟩; have y4 := hC.out.1.c0 HRV.out; have y5 := hC.out.1.c1 HRV.out; have CJ := aside (fun cc => two_is (c' := cc) hC.out.1 hC.out.2 (hC.out.1.lw HRV.out) HNW.out.symm lW.out))
          | (go_at_call 17; with_reducible refine (CJ.out _).mono ?_; rintro e x4 ⟨rfl, hD⟩; have y6 := hD.out.2.c0 HRV.out; have y7 := hD.out.2.c1 HRV.out)
          | (go_at_call 22; with_reducible refine (wakes_any _).mono ?_; rintro e x5 ⟨rfl, hE⟩; have y8 := (hD.out.2.quiet hE).c0 HRV.out; have y9 := (hD.out.2.quiet hE).c1 HRV.out; have HE := aside hE; clear hE))
        go_wp2
        go_ret
        exact ⟨rfl, below_tr hD.out.2.two.bel HE.out⟩
      · have t1 : ¬ ((i : Int) < (nS : Int)) := by omega
        have HA2 := HA
        go_wp2_with fail
        -- what is held, what waits, behind each step
        obtain ⟨H2, W2, t2, r2, A2⟩ := HA2.out
        obtain ⟨ha, hc, wa, wc, RV⟩ := A2.rv
        obtain ⟨nH, hnH⟩ : ∃ nH, nH = H2.length := ⟨_, rfl⟩
        obtain ⟨nW, hnW⟩ : ∃ nW, nW = W2.length := ⟨_, rfl⟩
        rw [← hnH, ← hnW] at RV
        have hfew := A2.inv.few
        have lH : Aside (nH ≤ 1000) := aside (by omega)
        have lW : Aside (nW ≤ 1000) := aside (by omega)
        have HNH := aside hnH; have HNW := aside hnW; have HRV := aside RV; have AA := aside A2
        have z0 := A2.c0 RV
        have z1 := A2.c1 RV
        have CH := aside (two_held (A2.quiet (below_dr _)) hnH.symm)
        clear A2 RV hnH hnW hfew HA2
        go_region_held3 (fun w' => w'.cell? ⟨q, 0, none⟩ = some (.slice ha nH hc) ∧ w'.cell? ⟨q, 1, none⟩ = some (.slice wa nW wc)) (go_keep) (first
          | (go_at_call 20; with_reducible refine CH.out.mono ?_; rintro e x1 ⟨a1, c1, rfl, hA⟩; have y0 := hA.out.1.c0 HRV.out; have y1 := hA.out.1.c1 HRV.out; have CI := aside (fun cc => two_is (c' := cc) hA.out.1 hA.out.2 (hA.out.1.lh HRV.out) HNH.out.symm lH.out))
          | (go_at_call 17; with_reducible refine (CI.out _).mono ?_; rintro e x2 ⟨rfl, hB⟩; have y2 := hB.out.2.c0 HRV.out; have y3 := hB.out.2.c1 HRV.out; have CW := aside (two_waits hB.out.2 HNW.out.symm))
          | (go_at_call 21; with_reducible refine CW.out.mono ?_; rintro e x3 ⟨a3, c3, rfl, hC⟩; have y4 := hC.out.1.c0 HRV.out; have y5 := hC.out.1.c1 HRV.out; have CJ := aside (fun cc => two_is (c' := cc) hC.out.1 hC.out.2 (hC.out.1.lw HRV.out) HNW.out.symm lW.out))
          | (go_at_call 17; with_reducible refine (CJ.out _).mono ?_; rintro e x4 ⟨rfl, hD⟩; have y6 := hD.out.2.c0 HRV.out; have y7 := hD.out.2.c1 HRV.out)
          | (go_at_call 22; with_reducible refine (wakes_any _).mono ?_; rintro e x5 ⟨rfl, hE⟩; have y8 := (hD.out.2.quiet hE).c0 HRV.out; have y9 := (hD.out.2.quiet hE).c1 HRV.out; have HE := aside hE; clear hE))
        go_wp2
        go_ret
        exact ⟨rfl, below_tr hD.out.2.two.bel HE.out⟩
end Go.Proofs.Ytfpegmmciphjiaa
