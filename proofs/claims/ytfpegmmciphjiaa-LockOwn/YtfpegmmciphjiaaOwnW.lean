/- LockOwn: the walk. -/
import Derived.Test.YtfpegmmciphjiaaStU
namespace Go.Proofs.Ytfpegmmciphjiaa
open Go.RowKit

theorem stU_next {w0 w w' : World} {t t' : Tb} {v : Value} {U : List Lk} (hb : Below w0.heap.size w0 w) (hF : ∀ k, t.F k → w0.heap.size ≤ k) (hO : Own w v U) (hv : ∀ k, v.ownBlock = some k → ¬ t.F k) (hn : Nx 55 w w' t t') : StU w0 w' t.p t'.H t'.W v U :=
  ⟨hb.trans (hn.upd.below hb.size hF), hn.upd.own hO hv, t', hn.pp, rfl, rfl, hn.tab, fun k hk => (hn.grew k hk).elim (hF k) (fun h => Nat.le_trans hb.size h), fun k hk hf => (hn.grew k hf).elim (hv k hk) (fun h => by have := hO.lt hk; omega)⟩
theorem held_tells {w0 w : World} {p m : Nat} {H W : List Lk} (h : St w0 w p H W) (hm : H.length = m) :
    Calls Try.prog 20 #[.pointer (some ⟨p, 0, none⟩)] w fun e w' => ∃ a c, e = .returned (.slice a m c) ∧ StU w0 w' p H W (.slice a m c) H := by
  subst hm
  obtain ⟨h1, t, rfl, rfl, rfl, h5, h6⟩ := h
  refine (held_any t w h5).mono ?_
  rintro e w' ⟨v, rfl, ho, hb, hn⟩
  obtain ⟨a', c', rfl, -, -⟩ := own_slice ho
  exact ⟨a', c', rfl, below_tr h1 hb, ho, t, rfl, rfl, rfl, h5.below hb, h6, fun k hk hf => by have := h5.flt hf; have := hn k hk; omega⟩
theorem try_u {w0 w : World} {p : Nat} {H W : List Lk} {v : Value} {U : List Lk} (l : Lk) (hl : InR l) (h : StU w0 w p H W v U) :
    Calls Try.prog 11 #[.pointer (some ⟨p, 0, none⟩), .agg #[.int .i64 l.who, .int .i64 l.org, .int .i64 l.len, .bool l.sh]] w fun e w' => e = .returned (.int .i64 (tryE H W l : Nat)) ∧ StU w0 w' p (tryH H W l) W v U := by
  obtain ⟨h1, hO, t, rfl, rfl, rfl, h5, h6, h7⟩ := h
  exact (try_any t l hl w h5).mono fun _ _ ⟨t', e1, e2, e3, e4⟩ => ⟨e1, by have := stU_next h1 h6 hO h7 e2; rw [e3, e4] at this; exact this⟩
theorem free_bad {w0 w : World} {p : Nat} {H W : List Lk} {v : Value} {U : List Lk} (who org len : Int) (sh : Bool) (hl : InR ⟨who, org, len, sh⟩) (hm : may ⟨who, org, len, sh⟩ = false) (h : StU w0 w p H W v U) :
    Calls Try.prog 15 #[.pointer (some ⟨p, 0, none⟩), .agg #[.int .i64 who, .int .i64 org, .int .i64 len, .bool sh]] w fun e w' => ∃ a c, e = .returned (.tuple #[.slice a 0 c, .int .i64 2]) ∧ StU w0 w' p H W v U := by
  obtain ⟨h1, hO, t, rfl, rfl, rfl, h5, h6, h7⟩ := h
  refine (free_any t ⟨who, org, len, sh⟩ hl w h5).mono ?_
  rintro e w' ⟨a, k, c, rfl, t', e2, e3, e4, e5, e6⟩
  have hE : freeE t.H ⟨who, org, len, sh⟩ = 2 := by unfold freeE; rw [if_pos hm]
  have hT : freeT t.H t.W ⟨who, org, len, sh⟩ = (t.H, t.W, []) := by unfold freeT; rw [hE]; rfl
  rw [hT] at e3 e4 e5
  obtain ⟨a', c', he, -, -⟩ := own_slice e5
  simp only [Value.slice.injEq, List.length_nil] at he
  obtain ⟨rfl, rfl, rfl⟩ := he
  refine ⟨a, c, by rw [hE]; rfl, ?_⟩
  have := stU_next h1 h6 hO h7 e2
  simp only at e3 e4
  rw [e3, e4] at this
  exact this

/-- All of one who: none meets another. -/
theorem own_hit {u : Int} {l : Lk} {H : List Lk} (hl : l.who = u) (h : ∀ x ∈ H, x.who = u) : hit l H = false := hit_false.2 fun y hy => by
  unfold meet
  rw [hl, h y hy]
  simp
theorem own_wait {u : Int} {l : Lk} {H : List Lk} (hl : l.who = u) (h : ∀ x ∈ H, x.who = u) (hn : H.length < 256) (d : Bool) : (may l = true ∧ waitE H [] l d = 0 ∧ waitH H [] l d = H ++ [l] ∧ waitW H [] l d = []) ∨ (may l = false ∧ waitE H [] l d = 2 ∧ waitH H [] l d = H ∧ waitW H [] l d = []) := by
  have hh := own_hit hl h
  by_cases hm : may l = true
  · left
    have hE : waitE H [] l d = 0 := by unfold waitE; rw [if_neg (by rw [hm]; simp), if_neg (by simp; omega), if_pos (by rw [hh]; rfl)]
    exact ⟨hm, hE, by simp [waitH, hE], by simp [waitW, hE]⟩
  · right
    have hm0 : may l = false := by simpa using hm
    have hE : waitE H [] l d = 2 := by unfold waitE; rw [if_pos hm0]
    exact ⟨hm0, hE, by simp [waitH, hE], by simp [waitW, hE]⟩
theorem dead_dec (H W : List Lk) (l : Lk) : ∃ d : Bool, d = true ↔ dead H W l := by
  by_cases h : dead H W l
  · exact ⟨true, by simp [h]⟩
  · exact ⟨false, by simp [h]⟩

set_option maxHeartbeats 4000000 in
theorem lockOwn_walk (who : Int) (a : Option Addr) (L : List Lk) (c : Nat) (bad : Lk) (w : World) (hR : LsAt w a L) (hL : ∀ l ∈ L, InR l) (hb : InR bad) :
    Calls Try.prog 7 #[.int .i64 who, .slice a L.length c, bad.val] w fun e w' => e = .returned (.bool true) ∧ Below w.heap.size w w' := by
  have HR := aside hR
  have HLI := aside hL
  have HBI := aside hb
  obtain ⟨u, hu⟩ : ∃ u : Int, u = ((who.tmod 256) + 256).tmod 256 := ⟨_, rfl⟩
  have hr1 : -256 < who.tmod 256 ∧ who.tmod 256 < 256 := by
    constructor
    · have := Int.lt_tmod_of_pos who (by decide : (0 : Int) < 256); omega
    · exact Int.tmod_lt_of_pos who (by decide)
  have hu1 : 0 ≤ u ∧ u < 256 := by
    rw [hu]
    constructor
    · exact Int.tmod_nonneg _ (by omega)
    · exact Int.tmod_lt_of_pos _ (by decide)
  obtain ⟨r, hr⟩ : ∃ r : Int, r = who.tmod 256 := ⟨_, rfl⟩
  rw [← hr] at hu hr1
  have hm1 : who.tmod 256 = r := hr.symm
  have hm2 : (r + 256).tmod 256 = u := hu.symm
  clear hr hu
  obtain ⟨W, hW⟩ : ∃ W, W = w.alloc (.cells #[.int .i64 bad.who, .int .i64 bad.org, .int .i64 bad.len, .bool bad.sh] 29) := ⟨_, rfl⟩
  have BW : Aside (Below w.heap.size w W) := by rw [hW]; exact below_al w _
  have BX : Aside (Bx W w.heap.size bad.who bad.org bad.len bad.sh) := by rw [hW]; exact bx_new w _ _ _ _
  have HW := aside hW
  obtain ⟨nL, hnL⟩ : ∃ nL, nL = L.length := ⟨_, rfl⟩
  have HNL := aside hnL
  rw [← hnL]
  rw [show bad.val = .agg #[.int .i64 bad.who, .int .i64 bad.org, .int .i64 bad.len, .bool bad.sh] from rfl]
  have N := aside (new_st W)
  rw [hW] at N
  clear hW hR hL hb hnL
  go_enter Try.func7, Try.ntmps7
  go_wp2_with ((go_at_call 9; with_reducible refine N.out.mono ?_; rintro e w1 ⟨p, rfl, hs, -⟩; rw [← HW.out] at hs; have S0 := aside hs; clear hs))
  go_loopg [8, 9] 100 (fun G s8 s9 wr => ∃ (i n : Nat) (H : List Lk), i + G = 100 ∧ n ≤ i ∧ s8 = .int .i64 (n : Int) ∧ s9 = .int .i64 (i : Int) ∧ Aside (St W wr p H []) ∧ Aside (n = H.length) ∧ Aside (∀ x ∈ H, x.who = u))
  case atStart => exact ⟨0, 0, [], by omega, by omega, rfl, rfl, S0, aside rfl, aside (by simp)⟩
  case round =>
    obtain ⟨i, n, H, hiG, hni, rfl, rfl, hS, hnH, hHu⟩ := hrel
    by_cases hi : i < nL ∧ i < 100
    · have t1 : (i : Int) < (nL : Int) := by omega
      have t2 : (i : Int) < 100 := by omega
      obtain ⟨y, hy⟩ : ∃ y, L[i]? = some y := ⟨_, List.getElem?_eq_getElem (by have := HNL.out; omega)⟩
      obtain ⟨g, o, rfl, hrd⟩ := HR.out (fun h0 => by rw [h0] at hy; simp at hy)
      obtain ⟨q0, q1, q2, q3⟩ := (hrd.below (below_tr BW.out hS.out.bl)).lock hy
      have hyI := HLI.out y (List.mem_of_getElem? hy)
      have hlI : InR ⟨u, y.org, y.len, y.sh⟩ := ⟨by simp only; omega, by simp only; omega, hyI.o1, hyI.o2, hyI.n1, hyI.n2⟩
      obtain ⟨d, hd⟩ := dead_dec H [] ⟨u, y.org, y.len, y.sh⟩
      have C := fun (Y : World) (hY : Below wr.heap.size wr Y) => wait_st ⟨u, y.org, y.len, y.sh⟩ hlI (hS.out.below hY) d hd
      simp only at C
      have hcase := own_wait (l := ⟨u, y.org, y.len, y.sh⟩) rfl hHu.out (by have := hnH.out; omega) d
      clear hy hrd hyI hlI hd
      rcases hcase with ⟨hm, e1, e2, e3⟩ | ⟨hm, e1, e2, e3⟩
      · rw [e1, e2, e3] at C
        simp only [show okOf 0 = true from rfl, show erOf 0 = 0 from rfl] at C
        have HC := aside C
        clear C hm e1 e2 e3
        go_wp2_with ((go_at_call 13; with_reducible refine (HC.out _ (below_al wr _)).mono ?_; rintro e w2 ⟨rfl, hs⟩; have HS2 := aside hs; clear hs))
        go_roundg (100 - (i + 1))
        case measure => omega
        case rel =>
          refine ⟨i + 1, n + 1, H ++ [⟨u, y.org, y.len, y.sh⟩], by omega, by omega, by go_num, by go_num, HS2, aside (by rw [hnH.out]; simp), aside (fun x hx => ?_)⟩
          rcases List.mem_append.1 hx with hx | hx
          · exact hHu.out x hx
          · simp at hx; rw [hx]
      · rw [e1, e2, e3] at C
        simp only [show okOf 2 = false from rfl, show erOf 2 = 2 from rfl] at C
        have HC := aside C
        clear C hm e1 e2 e3
        go_wp2_with ((go_at_call 13; with_reducible refine (HC.out _ (below_al wr _)).mono ?_; rintro e w2 ⟨rfl, hs⟩; have HS2 := aside hs; clear hs))
        go_roundg (100 - (i + 1))
        case measure => omega
        case rel => exact ⟨i + 1, n, H, by omega, by omega, rfl, by go_num, HS2, hnH, hHu⟩
    · have hn100 : n ≤ 100 := by omega
      have hb3 : ∀ (x y : Int) w, (Instr.build 29 #[(0, .int .i64 x), (1, .int .i64 y), (2, .int .i64 (-1))]).run Try.prog w = .ok (.agg #[.int .i64 x, .int .i64 y, .int .i64 (-1), .bool false]) w := fun x y w => run_build w 29 _ _ (by kernel_rfl)
      have hIb := HBI.out
      have C1 := aside (held_tells hS.out hnH.out.symm)
      have hmb : may ⟨bad.who, bad.org, -1, false⟩ = false := by
        cases hq : may ⟨bad.who, bad.org, -1, false⟩ with
        | false => rfl
        | true => have := (may_iff.1 hq).2.2.2.1; simp only at this; omega
      have HMB := aside hmb
      have IB2 : Aside (InR ⟨bad.who, bad.org, -1, false⟩) := ⟨hIb.w1, hIb.w2, hIb.o1, hIb.o2, by simp only; omega, by simp only; omega⟩
      clear hmb hIb
      obtain ⟨nH2, hnH2⟩ : ∃ nH2, nH2 = (tryH H [] bad).length := ⟨_, rfl⟩
      have HNH2 := aside hnH2
      obtain ⟨rE, hrE⟩ : ∃ rE : Nat, rE = tryE H [] bad := ⟨_, rfl⟩
      have hHH : rE ≠ 0 → tryH H [] bad = H := fun h0 => by unfold tryH; rw [if_neg (by rw [← hrE]; exact h0)]
      have HHH := aside hHH
      have HRE := aside hrE
      clear hHH hrE hnH2
      have nx : ¬ ((i : Int) < (nL : Int) ∧ (i : Int) < 100) := by omega
      have key : ∀ (Q : Prop), ((¬ (i : Int) < (nL : Int)) → Q) → ((i : Int) < (nL : Int) → ¬ (i : Int) < 100 → Q) → Q := fun Q h1 h2 => by
        by_cases hh : (i : Int) < (nL : Int)
        · exact h2 hh (by omega)
        · exact h1 hh
      clear hi nx
      by_cases hz : rE = 0
      · subst hz
        refine key _ (fun t1 => ?_) (fun t1 t2 => ?_)
        all_goals clear key
        all_goals (
          go_wp2_with (first
            | (go_at_call 20; with_reducible refine C1.out.mono ?_; rintro e w2 ⟨a2, c2, rfl, hs⟩; have C2 := aside (try_u bad HBI.out hs); rw [← HRE.out] at C2; have xb := BX.out.below hs.st.bl; have x0 := xb.c0; have x1 := xb.c1; have x2 := xb.c2; have x3 := xb.c3; clear hs xb)
            | (go_at_call 11; with_reducible refine C2.out.mono ?_; rintro e w3 ⟨rfl, hs⟩; have C3 := aside (free_bad bad.who bad.org (-1) false IB2.out HMB.out hs); have xb := BX.out.below hs.st.bl; have y0 := xb.c0; have y1 := xb.c1; clear hs xb)
            | (go_at_call 15; with_reducible refine C3.out.mono ?_; rintro e w4 ⟨a4, c4, rfl, hs⟩; have C4 := aside (held_c hs.st HNH2.out.symm); have O4 := aside hs.own; clear hs)
            | (go_at_call 20; with_reducible refine C4.out.mono ?_; rintro e w5 ⟨a5, c5, rfl, hs, ho, hb⟩; have O5 := aside ho; have O4' := aside (O4.out.below hb); have C5 := aside (waits_c hs rfl); clear hs ho hb)
            | (go_at_call 21; with_reducible refine C5.out.mono ?_; rintro e w6 ⟨a6, c6, rfl, hs, -, hb⟩; have S6 := aside hs; have O6 := aside (O5.out.below hb); have O7 := aside (O4'.out.below hb); clear hs hb)
            | (go_at_call 22; refine (wakes_any _).mono ?_; rintro e w7 ⟨rfl, hb⟩; have HB7 := aside hb; clear hb))
          go_ret
          exact ⟨rfl, below_tr BW.out (below_tr S6.out.bl HB7.out)⟩)
      · have hzI : ¬ ((rE : Int) = 0) := by omega
        have hzI2 : ((rE : Int) == 0) = false := by simpa using hzI
        have hHH := HHH.out hz
        have hnn : nH2 = n := by rw [HNH2.out, hHH, hnH.out]
        subst hnn
        have HHE := aside hHH
        clear hHH hz HHH
        refine key _ (fun t1 => ?_) (fun t1 t2 => ?_)
        all_goals clear key
        all_goals (
          go_wp2_with (first
            | (go_at_call 20; with_reducible refine C1.out.mono ?_; rintro e w2 ⟨a2, c2, rfl, hs⟩; have C2 := aside (try_u bad HBI.out hs); rw [← HRE.out] at C2; have xb := BX.out.below hs.st.bl; have x0 := xb.c0; have x1 := xb.c1; have x2 := xb.c2; have x3 := xb.c3; clear hs xb)
            | (go_at_call 11; with_reducible refine C2.out.mono ?_; rintro e w3 ⟨rfl, hs⟩; have C3 := aside (free_bad bad.who bad.org (-1) false IB2.out HMB.out hs); have xb := BX.out.below hs.st.bl; have y0 := xb.c0; have y1 := xb.c1; clear hs xb)
            | (go_at_call 15; with_reducible refine C3.out.mono ?_; rintro e w4 ⟨a4, c4, rfl, hs⟩; have C4 := aside (held_c hs.st HNH2.out.symm); have O4 := aside hs.own; clear hs)
            | (go_at_call 20; with_reducible refine C4.out.mono ?_; rintro e w5 ⟨a5, c5, rfl, hs, ho, hb⟩; have O5 := aside ho; have O4' := aside (O4.out.below hb); have C5 := aside (waits_c hs rfl); clear hs ho hb)
            | (go_at_call 21; with_reducible refine C5.out.mono ?_; rintro e w6 ⟨a6, c6, rfl, hs, -, hb⟩; have S6 := aside hs; have O6 := aside (O5.out.below hb); have O7 := aside (O4'.out.below hb); clear hs hb))
          rw [HHE.out] at O6 S6
          clear C1 C2 C3 C4 C5 x0 x1 x2 x3 y0 y1
          go_loopg [18] nH2 (fun G s18 wx => ∃ j : Nat, j + G = nH2 ∧ s18 = .int .i64 (j : Int) ∧ Aside (Below w6.heap.size w6 wx))
          case atStart => exact ⟨0, by omega, rfl, aside (Below.refl _ _)⟩
          case round =>
            obtain ⟨j, hjG, rfl, hBx⟩ := hrel
            by_cases hj : j < nH2
            · have t3 : (j : Int) < (nH2 : Int) := by omega
              obtain ⟨z, hz⟩ : ∃ z, H[j]? = some z := ⟨_, List.getElem?_eq_getElem (by have := hnH.out; omega)⟩
              obtain ⟨-, g1, rfl, hr1⟩ := O7.out.form (by have := hnH.out; omega)
              obtain ⟨-, g2, rfl, hr2⟩ := O6.out.form (by have := hnH.out; omega)
              obtain ⟨k0, k1, k2, k3⟩ := (hr1.below hBx.out).lock hz
              obtain ⟨l0, l1, l2, l3⟩ := (hr2.below hBx.out).lock hz
              rw [Nat.zero_add] at k0 k1 k2 k3 l0 l1 l2 l3
              have nq : ∀ V, (binOp .neq 29 (.agg #[.int .i64 z.who, .int .i64 z.org, .int .i64 z.len, .bool z.sh]) (.agg #[.int .i64 z.who, .int .i64 z.org, .int .i64 z.len, .bool z.sh])).run Try.prog V = .ok (.bool false) V := fun V => by rw [neq_lk, same_self]; rfl
              have m0 := fun d os => ext_cell k0 d os
              have m1 := fun d os => ext_cell k1 d os
              have m2 := fun d os => ext_cell k2 d os
              have m3 := fun d os => ext_cell k3 d os
              have n0 := fun d os => ext_cell l0 d os
              have n1 := fun d os => ext_cell l1 d os
              have n2 := fun d os => ext_cell l2 d os
              have n3 := fun d os => ext_cell l3 d os
              clear hz k0 k1 k2 k3 l0 l1 l2 l3
              go_wp2_with fail
              refine region_ext (by kernel_rfl) (by kernel_rfl) ?_
              repeat (any_goals (first | go_big_quiet_step ((fail)) | quiet_step ((fail))))
              refine wpQuiet_nil ?_
              intro wq hq
              have HQ := aside (below_tr hBx.out hq)
              clear hq m0 m1 m2 m3 n0 n1 n2 n3
              go_wp2_with fail
              go_roundg (nH2 - (j + 1))
              case measure => omega
              case rel => exact ⟨j + 1, by omega, by go_num, HQ⟩
            · obtain rfl : j = nH2 := by omega
              have t3 : ¬ ((j : Int) < (j : Int)) := by omega
              go_wp2_with ((go_at_call 22; refine (wakes_any _).mono ?_; rintro e w7 ⟨rfl, hb⟩; have HB7 := aside hb; clear hb))
              go_ret
              exact ⟨rfl, below_tr BW.out (below_tr S6.out.bl (below_tr hBx.out HB7.out))⟩)
end Go.Proofs.Ytfpegmmciphjiaa
