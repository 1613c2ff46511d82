/- LockKnown: the walk. -/
import Derived.Test.YtfpegmmciphjiaaStU
namespace Go.Proofs.Ytfpegmmciphjiaa
open Go.RowKit

abbrev nA : Lk := ⟨0, 0, 10, false⟩
abbrev nC : Lk := ⟨1, 10, 0, false⟩
abbrev nD : Lk := ⟨0, 3, 3, false⟩
abbrev nE : Lk := ⟨1, 0, 5, false⟩
abbrev nG : Lk := ⟨0, 20, 1, false⟩
abbrev nS : Lk := ⟨2, 2, 1, true⟩
abbrev nX : Lk := ⟨9, 4611686018427387904, 0, false⟩
abbrev nA5 : Lk := ⟨0, 5, 1, false⟩
abbrev nB7 : Lk := ⟨0, 7, 1, false⟩
theorem dead_known : dead [nA, nC, nD] [nE] nG := by
  unfold dead
  refine .tail (.single ⟨[nE], nG, [], nC, rfl, .inl (by simp), rfl, rfl, rfl⟩) ⟨[], nE, [nG], nA, rfl, .inl (by simp), rfl, rfl, rfl⟩

set_option maxHeartbeats 8000000 in
set_option maxRecDepth 20000 in
theorem lockKnown_walk (w : World) : Calls Try.prog 8 #[] w fun e w' => e = .returned (.bool true) ∧ Below w.heap.size w w' := by
  have bd0 : ∀ w, (Instr.build 29 #[(2, .int .i64 10)]).run Try.prog w = .ok (.agg #[.int .i64 0, .int .i64 0, .int .i64 10, .bool false]) w := fun w => run_build w 29 _ _ (by kernel_rfl)
  have bd1 : ∀ w, (Instr.build 29 #[(0, .int .i64 1), (1, .int .i64 5), (2, .int .i64 1)]).run Try.prog w = .ok (.agg #[.int .i64 1, .int .i64 5, .int .i64 1, .bool false]) w := fun w => run_build w 29 _ _ (by kernel_rfl)
  have bd2 : ∀ w, (Instr.build 29 #[(0, .int .i64 1), (1, .int .i64 10)]).run Try.prog w = .ok (.agg #[.int .i64 1, .int .i64 10, .int .i64 0, .bool false]) w := fun w => run_build w 29 _ _ (by kernel_rfl)
  have bd3 : ∀ w, (Instr.build 29 #[(1, .int .i64 3), (2, .int .i64 3)]).run Try.prog w = .ok (.agg #[.int .i64 0, .int .i64 3, .int .i64 3, .bool false]) w := fun w => run_build w 29 _ _ (by kernel_rfl)
  have bd4 : ∀ w, (Instr.build 29 #[(0, .int .i64 1), (2, .int .i64 5)]).run Try.prog w = .ok (.agg #[.int .i64 1, .int .i64 0, .int .i64 5, .bool false]) w := fun w => run_build w 29 _ _ (by kernel_rfl)
  have bd5 : ∀ w, (Instr.build 29 #[(1, .int .i64 20), (2, .int .i64 1)]).run Try.prog w = .ok (.agg #[.int .i64 0, .int .i64 20, .int .i64 1, .bool false]) w := fun w => run_build w 29 _ _ (by kernel_rfl)
  have bd6 : ∀ w, (Instr.build 29 #[(0, .int .i64 2), (1, .int .i64 2), (2, .int .i64 1), (3, .bool true)]).run Try.prog w = .ok (.agg #[.int .i64 2, .int .i64 2, .int .i64 1, .bool true]) w := fun w => run_build w 29 _ _ (by kernel_rfl)
  have bd7 : ∀ w, (Instr.build 29 #[(0, .int .i64 256), (2, .int .i64 1)]).run Try.prog w = .ok (.agg #[.int .i64 256, .int .i64 0, .int .i64 1, .bool false]) w := fun w => run_build w 29 _ _ (by kernel_rfl)
  have bd8 : ∀ w, (Instr.build 29 #[(2, .int .i64 (-1))]).run Try.prog w = .ok (.agg #[.int .i64 0, .int .i64 0, .int .i64 (-1), .bool false]) w := fun w => run_build w 29 _ _ (by kernel_rfl)
  have bd9 : ∀ w, (Instr.build 29 #[(1, .int .i64 1), (2, .int .i64 4611686018427387904)]).run Try.prog w = .ok (.agg #[.int .i64 0, .int .i64 1, .int .i64 4611686018427387904, .bool false]) w := fun w => run_build w 29 _ _ (by kernel_rfl)
  have bd10 : ∀ w, (Instr.build 29 #[(0, .int .i64 9), (1, .int .i64 4611686018427387904)]).run Try.prog w = .ok (.agg #[.int .i64 9, .int .i64 4611686018427387904, .int .i64 0, .bool false]) w := fun w => run_build w 29 _ _ (by kernel_rfl)
  have bd11 : ∀ w, (Instr.build 29 #[(1, .int .i64 1000), (2, .int .i64 1)]).run Try.prog w = .ok (.agg #[.int .i64 0, .int .i64 1000, .int .i64 1, .bool false]) w := fun w => run_build w 29 _ _ (by kernel_rfl)
  have bd12 : ∀ w, (Instr.build 29 #[(2, .int .i64 1)]).run Try.prog w = .ok (.agg #[.int .i64 0, .int .i64 0, .int .i64 1, .bool false]) w := fun w => run_build w 29 _ _ (by kernel_rfl)
  have bd13 : ∀ w, (Instr.build 29 #[(0, .int .i64 1), (2, .int .i64 1)]).run Try.prog w = .ok (.agg #[.int .i64 1, .int .i64 0, .int .i64 1, .bool false]) w := fun w => run_build w 29 _ _ (by kernel_rfl)
  have bd14 : ∀ w, (Instr.build 29 #[(1, .int .i64 5), (2, .int .i64 1)]).run Try.prog w = .ok (.agg #[.int .i64 0, .int .i64 5, .int .i64 1, .bool false]) w := fun w => run_build w 29 _ _ (by kernel_rfl)
  have bd15 : ∀ w, (Instr.build 29 #[(1, .int .i64 7), (2, .int .i64 1)]).run Try.prog w = .ok (.agg #[.int .i64 0, .int .i64 7, .int .i64 1, .bool false]) w := fun w => run_build w 29 _ _ (by kernel_rfl)
  have bd16 : ∀ w, (Instr.build 29 #[(1, .int .i64 9), (2, .int .i64 1)]).run Try.prog w = .ok (.agg #[.int .i64 0, .int .i64 9, .int .i64 1, .bool false]) w := fun w => run_build w 29 _ _ (by kernel_rfl)
  have q1 : ∀ w, (binOp .eql 29 (.agg #[.int .i64 1, .int .i64 0, .int .i64 5, .bool false]) (.agg #[.int .i64 1, .int .i64 0, .int .i64 5, .bool false])).run Try.prog w = .ok (.bool true) w := fun w => eql_lk nE nE w
  have q2 : ∀ w, (binOp .eql 29 (.agg #[.int .i64 2, .int .i64 2, .int .i64 1, .bool true]) (.agg #[.int .i64 2, .int .i64 2, .int .i64 1, .bool true])).run Try.prog w = .ok (.bool true) w := fun w => eql_lk nS nS w
  have q3 : ∀ w, (binOp .neq 29 (.agg #[.int .i64 0, .int .i64 7, .int .i64 1, .bool false]) (.agg #[.int .i64 0, .int .i64 7, .int .i64 1, .bool false])).run Try.prog w = .ok (.bool false) w := fun w => neq_lk nB7 nB7 w
  have q4 : ∀ w, (binOp .neq 29 (.agg #[.int .i64 0, .int .i64 5, .int .i64 1, .bool false]) (.agg #[.int .i64 0, .int .i64 5, .int .i64 1, .bool false])).run Try.prog w = .ok (.bool false) w := fun w => neq_lk nA5 nA5 w
  have N := aside (new_st w)
  go_enter Try.func8, Try.ntmps8
  go_wp2_with (first
    | (go_at_call 9; with_reducible refine N.out.mono ?_; rintro e w0 ⟨p, rfl, hs, -⟩; have C1 := aside (try_c 0 0 10 false (0) [nA] hs (inR_c rfl) rfl rfl); clear hs)
    | (go_at_call 11; with_reducible refine C1.out.mono ?_; rintro e w1 ⟨rfl, hs⟩; have C2 := aside (try_c 1 5 1 false (150) [nA] hs (inR_c rfl) rfl rfl); clear hs)
    | (go_at_call 11; with_reducible refine C2.out.mono ?_; rintro e w2 ⟨rfl, hs⟩; have C3 := aside (try_c 1 10 0 false (0) [nA, nC] hs (inR_c rfl) rfl rfl); clear hs)
    | (go_at_call 11; with_reducible refine C3.out.mono ?_; rintro e w3 ⟨rfl, hs⟩; have C4 := aside (try_c 0 3 3 false (0) [nA, nC, nD] hs (inR_c rfl) rfl rfl); clear hs)
    | (go_at_call 11; with_reducible refine C4.out.mono ?_; rintro e w4 ⟨rfl, hs⟩; have C5 := aside (wait_c 1 0 5 false false 0 [nA, nC, nD] [nE] false hs (inR_c rfl) ⟨fun h => by simp at h, fun h => absurd h (no_dead rfl)⟩ rfl rfl rfl rfl); clear hs)
    | (go_at_call 13; with_reducible refine C5.out.mono ?_; rintro e w5 ⟨rfl, hs⟩; have C6 := aside (wait_c 0 20 1 false false 151 [nA, nC, nD] [nE] true hs (inR_c rfl) ⟨fun _ => dead_known, fun _ => rfl⟩ rfl rfl rfl rfl); clear hs)
    | (go_at_call 13; with_reducible refine C6.out.mono ?_; rintro e w6 ⟨rfl, hs⟩; have C7 := aside (try_c 2 2 1 true (150) [nA, nC, nD] hs (inR_c rfl) rfl rfl); clear hs)
    | (go_at_call 11; with_reducible refine C7.out.mono ?_; rintro e w7 ⟨rfl, hs⟩; have C8 := aside (wait_c 2 2 1 true false 0 [nA, nC, nD] [nE, nS] false hs (inR_c rfl) ⟨fun h => by simp at h, fun h => absurd h (no_dead rfl)⟩ rfl rfl rfl rfl); clear hs)
    | (go_at_call 13; with_reducible refine C8.out.mono ?_; rintro e w8 ⟨rfl, hs⟩; have C9 := aside (free_c 0 0 10 false 0 0 [nC, nD] [nE, nS] [] hs (inR_c rfl) rfl rfl rfl); clear hs)
    | (go_at_call 15; with_reducible refine C9.out.mono ?_; rintro e w9 ⟨at9, ct9, rfl, hs, ho⟩; have C10 := aside (free_tells 0 3 3 false 1 0 [nC, nE] [nS] [nE] hs (inR_c rfl) rfl rfl rfl); clear hs ho)
    | (go_at_call 15; with_reducible refine C10.out.mono ?_; rintro e w10 ⟨at10, ct10, rfl, hs⟩; obtain ⟨gt10, rfl, hx⟩ := own_first hs.own; clear hx; have C11 := aside (free_keeps 0 0 10 false 0 192 [nC, nE] [nS] [] hs (inR_c rfl) rfl rfl rfl); clear hs)
    | (go_at_call 15; with_reducible refine C11.out.mono ?_; rintro e w11 ⟨at11, ct11, rfl, hs, ho⟩; obtain ⟨gq, hq, hx⟩ := own_first ho; simp only [Option.some.injEq, Addr.mk.injEq, and_true] at hq; subst hq; have xa10 := hx.c0; have xb10 := hx.c1; have xc10 := hx.c2; have xd10 := hx.c3; clear hx; have C12 := aside (leave_c 1 1 [nS] [] [nS] hs rfl rfl); clear hs ho)
    | (go_at_call 18; with_reducible refine C12.out.mono ?_; rintro e w12 ⟨at12, ct12, rfl, hs, ho⟩; obtain ⟨gt12, rfl, hx⟩ := own_first ho; have xa12 := hx.c0; have xb12 := hx.c1; have xc12 := hx.c2; have xd12 := hx.c3; clear hx; have C13 := aside (try_c 256 0 1 false (2) [nS] hs (inR_c rfl) rfl rfl); clear hs ho)
    | (go_at_call 11; with_reducible refine C13.out.mono ?_; rintro e w13 ⟨rfl, hs⟩; have C14 := aside (try_c 0 0 (-1) false (2) [nS] hs (inR_c rfl) rfl rfl); clear hs)
    | (go_at_call 11; with_reducible refine C14.out.mono ?_; rintro e w14 ⟨rfl, hs⟩; have C15 := aside (try_c 0 1 4611686018427387904 false (2) [nS] hs (inR_c rfl) rfl rfl); clear hs)
    | (go_at_call 11; with_reducible refine C15.out.mono ?_; rintro e w15 ⟨rfl, hs⟩; have C16 := aside (try_c 9 4611686018427387904 0 false (0) [nS, nX] hs (inR_c rfl) rfl rfl); clear hs)
    | (go_at_call 11; with_reducible refine C16.out.mono ?_; rintro e w16 ⟨rfl, hs⟩; have HS1 := aside hs; have NX := aside (new_st w16); clear hs)
    | (go_at_call 9; with_reducible refine NX.out.mono ?_; rintro e w17 ⟨px, rfl, hs, -⟩; have SX0 := aside hs; clear hs))
  go_loopg [28] 256 (fun G s28 wr => ∃ k : Nat, k + G = 256 ∧ s28 = .int .i64 (k : Int) ∧ Aside (St w16 wr px (rowF k) []))
  case atStart => exact ⟨0, by omega, rfl, SX0⟩
  case round =>
    obtain ⟨k, hkG, rfl, hS⟩ := hrel
    by_cases hk : k < 256
    · have t1 : (k : Int) < 256 := by omega
      obtain ⟨m, hm⟩ : ∃ m : Nat, m = k % 7 := ⟨_, rfl⟩
      have C := aside (try_c ((k % 7 : Nat) : Int) (k : Int) 1 false 0 (rowF (k + 1)) hS.out (inR_of_may (may_iff.2 ⟨by simp only; omega, by simp only; omega, by simp only; omega, by simp only; omega, by simp only; omega⟩)) (by rw [rowF_try hk]; rfl) (rowF_tryH hk))
      rw [← hm] at C
      have hb3 : ∀ (x y : Int) w, (Instr.build 29 #[(0, .int .i64 x), (1, .int .i64 y), (2, .int .i64 1)]).run Try.prog w = .ok (.agg #[.int .i64 x, .int .i64 y, .int .i64 1, .bool false]) w := fun x y w => run_build w 29 _ _ (by kernel_rfl)
      have hmod : (k : Int) % 7 = (m : Int) := by omega
      have hmod2 : (k : Int).tmod 7 = (m : Int) := by rw [Int.tmod_eq_emod_of_nonneg (by omega)]; exact hmod
      clear hm
      go_wp2_with ((go_at_call 11; with_reducible refine C.out.mono ?_; rintro e wn ⟨rfl, hs⟩; have HSn := aside hs; clear hs))
      go_roundg (256 - (k + 1))
      case measure => omega
      case rel => exact ⟨k + 1, by omega, by go_num, HSn⟩
    · obtain rfl : k = 256 := by omega
      have t1 : ¬ ((256 : Int) < 256) := by omega
      have CW := aside (wait_full 0 1000 1 false hS.out rfl (by rw [rowF_len]; simp))
      go_wp2_with (first
        | (go_at_call 13; with_reducible refine CW.out.mono ?_; rintro e w18 ⟨rfl, hs⟩; have SX1 := aside hs; have NZ := aside (new_st w18); clear hs)
        | (go_at_call 9; with_reducible refine NZ.out.mono ?_; rintro e w19 ⟨pz, rfl, hs, -⟩; have CZ := aside (try_c 0 0 1 false 0 [zH] hs (inR_c rfl) rfl rfl); clear hs)
        | (go_at_call 11; with_reducible refine CZ.out.mono ?_; rintro e w20 ⟨rfl, hs⟩; have SZ0 := aside hs; clear hs))
      rename World => wr0
      go_loopg [32] 255 (fun G s32 wr => ∃ i k : Nat, i + G = 256 ∧ s32 = .int .i64 (i : Int) ∧ Aside (i = k + 1) ∧ Aside (St w18 wr pz [zH] (List.replicate k zW)))
      case atStart => exact ⟨1, 0, by omega, rfl, aside rfl, SZ0⟩
      case round =>
        obtain ⟨i, k, hiG, rfl, hik, hS2⟩ := hrel
        by_cases hi : i < 256
        · have t2 : (i : Int) < 256 := by omega
          have C := aside (rep_c hS2.out (by have := hik.out; omega))
          go_wp2_with ((go_at_call 13; with_reducible refine C.out.mono ?_; rintro e wn ⟨rfl, hs⟩; have HSn := aside hs; clear hs))
          go_roundg (255 - i)
          case measure => omega
          case rel => exact ⟨i + 1, k + 1, by omega, by go_num, aside (by rw [hik.out]), HSn⟩
        · obtain rfl : i = 256 := by omega
          obtain rfl : k = 255 := by have := hik.out; omega
          have t2 : ¬ ((256 : Int) < 256) := by omega
          obtain ⟨W5, hW5⟩ : ∃ W5, W5 = (wr.alloc (.cells #[.int .i64 0, .int .i64 5, .int .i64 1, .bool false] 29)).alloc (.cells #[.int .i64 0, .int .i64 7, .int .i64 1, .bool false] 29) := ⟨_, rfl⟩
          have B5 : Aside (Below wr.heap.size wr W5) := by rw [hW5]; exact below_tr (below_al _ _) (below_al _ _)
          have XA : Aside (Bx W5 wr.heap.size 0 5 1 false) := by rw [hW5]; exact (bx_new wr 0 5 1 false).below (below_al _ _)
          have XB : Aside (Bx W5 (wr.heap.size + 1) 0 7 1 false) := by
            rw [hW5]
            have := bx_new (wr.alloc (.cells #[.int .i64 0, .int .i64 5, .int .i64 1, .bool false] 29)) 0 7 1 false
            rw [World.size_alloc] at this
            exact this
          have NT := aside (new_st W5)
          rw [hW5] at NT
          have HW5 := aside hW5
          clear hW5
          go_wp2_with (first
            | (go_at_call 9; with_reducible refine NT.out.mono ?_; rintro e w22 ⟨pt, rfl, hs, -⟩; rw [← HW5.out] at hs; have xa := XA.out.below hs.bl; have xa0 := xa.c0; have xa1 := xa.c1; have xa2 := xa.c2; have xa3 := xa.c3; have D1 := aside (try_c 0 5 1 false 0 [nA5] hs (inR_c rfl) rfl rfl); clear hs xa)
            | (go_at_call 11; with_reducible refine D1.out.mono ?_; rintro e w23 ⟨rfl, hs⟩; have xb := XB.out.below hs.bl; have xb0 := xb.c0; have xb1 := xb.c1; have xb2 := xb.c2; have xb3 := xb.c3; have D2 := aside (try_c 0 7 1 false 0 [nA5, nB7] hs (inR_c rfl) rfl rfl); clear hs xb)
            | (go_at_call 11; with_reducible refine D2.out.mono ?_; rintro e w24 ⟨rfl, hs⟩; have xa := XA.out.below hs.bl; have ya0 := xa.c0; have ya1 := xa.c1; have ya2 := xa.c2; have ya3 := xa.c3; have D3 := aside (try_c 0 5 1 false 0 [nA5, nB7, nA5] hs (inR_c rfl) rfl rfl); clear hs xa)
            | (go_at_call 11; with_reducible refine D3.out.mono ?_; rintro e w25 ⟨rfl, hs⟩; have xa := XA.out.below hs.bl; have za0 := xa.c0; have za1 := xa.c1; have za2 := xa.c2; have za3 := xa.c3; have D4 := aside (free_c 0 5 1 false 0 0 [nB7, nA5] [] [] hs (inR_c rfl) rfl rfl rfl); clear hs xa)
            | (go_at_call 15; with_reducible refine D4.out.mono ?_; rintro e w26 ⟨a26, c26, rfl, hs, -⟩; have D5 := aside (held_c hs rfl); clear hs)
            | (go_at_call 20; with_reducible refine D5.out.mono ?_; rintro e w27 ⟨a27, c27, rfl, hs, ho, -⟩; have S27 := aside hs; have O27 := aside ho; clear hs ho))
          obtain ⟨-, g27, rfl, hrd⟩ := O27.out.form (by simp)
          obtain ⟨m0, m1, m2, m3⟩ := hrd.lock (i := 0) (l := nB7) rfl
          obtain ⟨n0, n1, n2, n3⟩ := hrd.lock (i := 1) (l := nA5) rfl
          simp only [Nat.zero_add, Nat.zero_mul, Nat.one_mul] at m0 m1 m2 m3 n0 n1 n2 n3
          have xa := XA.out.below S27.out.bl
          have xb := XB.out.below S27.out.bl
          have u0 := fun d os => ext_cell xa.c0 d os
          have u1 := fun d os => ext_cell xa.c1 d os
          have u2 := fun d os => ext_cell xa.c2 d os
          have u3 := fun d os => ext_cell xa.c3 d os
          have v0 := fun d os => ext_cell xb.c0 d os
          have v1 := fun d os => ext_cell xb.c1 d os
          have v2 := fun d os => ext_cell xb.c2 d os
          have v3 := fun d os => ext_cell xb.c3 d os
          have mm0 := fun d os => ext_cell m0 d os
          have mm1 := fun d os => ext_cell m1 d os
          have mm2 := fun d os => ext_cell m2 d os
          have mm3 := fun d os => ext_cell m3 d os
          have nn0 := fun d os => ext_cell n0 d os
          have nn1 := fun d os => ext_cell n1 d os
          have nn2 := fun d os => ext_cell n2 d os
          have nn3 := fun d os => ext_cell n3 d os
          have BZ := aside (below_tr B5.out S27.out.bl)
          have TZ := aside (fun (Y : World) (hY : Below w27.heap.size w27 Y) => try_full 0 9 1 false (hS2.out.below (below_tr BZ.out hY)) rfl (by simp))
          clear xa xb m0 m1 m2 m3 n0 n1 n2 n3 hrd
          refine region_ext (by kernel_rfl) (by kernel_rfl) ?_
          repeat (any_goals (first | go_big_quiet_step ((with_reducible exact calls_ext (TZ.out _ (below_ext _ _ _)))) | quiet_step ((with_reducible exact calls_ext (TZ.out _ (below_ext _ _ _))))))
          refine wpQuiet_nil ?_
          intro wq hwq
          have BQ := aside (below_tr BZ.out hwq)
          have TX := aside (try_full 0 1000 1 false (SX1.out.below (below_tr hS2.out.bl BQ.out)) rfl (by rw [rowF_len]; simp))
          clear hwq u0 u1 u2 u3 v0 v1 v2 v3 mm0 mm1 mm2 mm3 nn0 nn1 nn2 nn3 TZ
          go_wp2_with (first
            | (go_at_call 11; with_reducible refine TX.out.mono ?_; rintro e w30 ⟨rfl, hb⟩; have HB30 := aside hb; clear hb)
            | (go_at_call 22; refine (wakes_any _).mono ?_; rintro e w31 ⟨rfl, hb⟩; have HB31 := aside hb; clear hb))
          go_ret
          exact ⟨rfl, below_tr HS1.out.bl (below_tr SX1.out.bl (below_tr hS2.out.bl (below_tr BQ.out (below_tr HB30.out HB31.out))))⟩
end Go.Proofs.Ytfpegmmciphjiaa
