/- LockApart: the walk. -/
import Derived.Test.YtfpegmmciphjiaaLCircle
namespace Go.Proofs.Ytfpegmmciphjiaa
open Go.RowKit

theorem apart_at {H : List Lk} (h : Apart H) {a b : Nat} {x y : Lk} (ha : H[a]? = some x) (hb : H[b]? = some y) (hlt : b < a) : meet x y = false := by
  obtain ⟨ha1, rfl⟩ := List.getElem?_eq_some_iff.1 ha
  obtain ⟨hb1, rfl⟩ := List.getElem?_eq_some_iff.1 hb
  rw [meet_symm]
  exact List.pairwise_iff_getElem.1 h b a hb1 ha1 hlt
theorem kept_at {H W : List Lk} (h : Kept H W) {a : Nat} {x : Lk} (ha : W[a]? = some x) : (hit x H || hit x (W.take a)) = true := by
  obtain ⟨h1, -⟩ := split_at ha
  exact h _ _ _ h1

set_option maxHeartbeats 4000000 in
set_option maxRecDepth 20000 in
theorem lockApart_walk (a : Option Addr) (ss : List Sp) (c : Nat) (w : World) (hR : SpsAt w a ss) (hI : ∀ s ∈ ss, InR s.l) :
    Calls Try.prog 5 #[.slice a ss.length c] w fun e w' => e = .returned (.bool true) ∧ Below w.heap.size w w' := by
  have HR := aside hR
  have HI := aside hI
  obtain ⟨nS, hnS⟩ : ∃ nS, nS = ss.length := ⟨_, rfl⟩
  have HNS := aside hnS
  rw [← hnS]
  have N := aside (new_st w)
  clear hR hI hnS
  go_enter Try.func5, Try.ntmps5
  go_wp2_with ((go_at_call 9; with_reducible refine N.out.mono ?_; rintro e w1 ⟨p, rfl, hs, -⟩; have S0 := aside hs; clear hs))
  go_loopg [4] 100 (fun G s4 wr => ∃ (i : Nat) (H W : List Lk), i + G = 100 ∧ s4 = .int .i64 (i : Int) ∧ Aside (St w wr p H W) ∧ Aside (Good H W))
  case atStart => exact ⟨0, [], [], by omega, rfl, S0, aside good_nil⟩
  case round =>
    obtain ⟨i, H0, W0, hiG, rfl, hS, hGd⟩ := hrel
    by_cases hi : i < nS ∧ i < 100
    · have t1 : (i : Int) < (nS : Int) := by omega
      have t2 : (i : Int) < 100 := by omega
      obtain ⟨s, hs⟩ : ∃ s, ss[i]? = some s := ⟨_, List.getElem?_eq_getElem (by have := HNS.out; omega)⟩
      obtain ⟨g, o, rfl, q0, q1, q2, q3, q4⟩ := HR.out.at hS.out.bl hs
      have C := aside (goes_any s.d s.l (HI.out s (List.mem_of_getElem? hs)) hS.out hGd.out)
      clear hs
      go_wp2_with (first
        | (go_at_call 23; with_reducible refine C.out.mono ?_; rintro e w2 ⟨a2, n2, c2, H, W, rfl, hs2, hg2⟩; obtain ⟨nH, hnH⟩ : ∃ nH, nH = H.length := ⟨_, rfl⟩; obtain ⟨nW, hnW⟩ : ∃ nW, nW = W.length := ⟨_, rfl⟩; have HNH := aside hnH; have HNW := aside hnW; have C1 := aside (held_c hs2 hnH.symm); have HG := aside hg2; clear hs2 hg2 hnH hnW)
        | (go_at_call 20; with_reducible refine C1.out.mono ?_; rintro e w3 ⟨a3, c3, rfl, hs, ho, -⟩; have C2 := aside (waits_c hs HNW.out.symm); have O3 := aside ho; clear hs ho)
        | (go_at_call 21; with_reducible refine C2.out.mono ?_; rintro e w4 ⟨a4, c4, rfl, hs, ho, hb⟩; have S4 := aside hs; have OW := aside ho; have OH := aside (O3.out.below hb); clear hs ho hb O3))
      have hfew : nH + nW ≤ 256 := by have h1 := HG.out.inv.few; have h2 := HNH.out; have h3 := HNW.out; omega
      clear q0 q1 q2 q3 q4 C C1 C2
      rename World => w4
      -- no two held ones meet
      go_loopg [7] nH (fun G s7 wx => ∃ x : Nat, x + G = nH ∧ s7 = .int .i64 (x : Int) ∧ Aside (Below w4.heap.size w4 wx))
      case atStart => exact ⟨0, by omega, rfl, aside (Below.refl _ _)⟩
      case round =>
        obtain ⟨x, hxG, rfl, hBx⟩ := hrel
        by_cases hx : x < nH
        · have t3 : (x : Int) < (nH : Int) := by omega
          obtain ⟨y, hy⟩ : ∃ y, H[x]? = some y := ⟨_, List.getElem?_eq_getElem (by have := HNH.out; omega)⟩
          have HY := aside hy
          clear hy
          go_wp2_with fail
          rename World => w5
          go_loopg [8] x (fun G s8 wx => ∃ z : Nat, z + G = x ∧ s8 = .int .i64 (z : Int) ∧ Aside (Below w4.heap.size w4 wx))
          case atStart => exact ⟨0, by omega, rfl, hBx⟩
          case round =>
            obtain ⟨z, hzG, rfl, hBz⟩ := hrel
            by_cases hz : z < x
            · have t4 : (z : Int) < (x : Int) := by omega
              have t5 : z < nH := by omega
              have t6 : (z : Int) < (nH : Int) := by omega
              obtain ⟨v, hv⟩ : ∃ v, H[z]? = some v := ⟨_, List.getElem?_eq_getElem (by have := HNH.out; omega)⟩
              have MM := aside (lmeet_any y v (HG.out.inv.mh y (List.mem_of_getElem? HY.out)) (HG.out.inv.mh v (List.mem_of_getElem? hv)))
              rw [apart_at HG.out.inv.ap HY.out hv hz, show y.val = .agg #[.int .i64 y.who, .int .i64 y.org, .int .i64 y.len, .bool y.sh] from rfl, show v.val = .agg #[.int .i64 v.who, .int .i64 v.org, .int .i64 v.len, .bool v.sh] from rfl] at MM
              obtain ⟨gh, rfl, k0, k1, k2, k3⟩ := (OH.out.below hBz.out).lock HY.out
              obtain ⟨gh2, hgh, l0, l1, l2, l3⟩ := (OH.out.below hBz.out).lock hv
              simp only [Option.some.injEq, Addr.mk.injEq, and_true] at hgh
              subst hgh
              have kk0 := fun d os => ext_cell k0 d os
              have kk1 := fun d os => ext_cell k1 d os
              have kk2 := fun d os => ext_cell k2 d os
              have kk3 := fun d os => ext_cell k3 d os
              have ll0 := fun d os => ext_cell l0 d os
              have ll1 := fun d os => ext_cell l1 d os
              have ll2 := fun d os => ext_cell l2 d os
              have ll3 := fun d os => ext_cell l3 d os
              clear k0 k1 k2 k3 l0 l1 l2 l3 hv
              go_wp2_with fail
              refine region_ext (by kernel_rfl) (by kernel_rfl) ?_
              repeat (any_goals (first | go_big_quiet_step ((with_reducible exact calls_ext (MM.out _))) | quiet_step ((with_reducible exact calls_ext (MM.out _)))))
              refine wpQuiet_nil ?_
              intro wq hwq
              have HQ := aside (below_tr hBz.out hwq)
              clear hwq kk0 kk1 kk2 kk3 ll0 ll1 ll2 ll3 MM
              go_wp2_with fail
              go_roundg (x - (z + 1))
              case measure => omega
              case rel => exact ⟨z + 1, by omega, by go_num, HQ⟩
            · obtain rfl : z = x := by omega
              have t4 : ¬ ((z : Int) < (z : Int)) := by omega
              go_wp2_with fail
              go_roundg (nH - (z + 1))
              case measure => omega
              case rel => exact ⟨z + 1, by omega, by go_num, hBz⟩
        · obtain rfl : x = nH := by omega
          have t3 : ¬ ((x : Int) < (x : Int)) := by omega
          go_wp2_with fail
          rename World => w6
          go_loopg [9] nW (fun G s9 wx => ∃ q : Nat, q + G = nW ∧ s9 = .int .i64 (q : Int) ∧ Aside (Below w4.heap.size w4 wx))
          case atStart => exact ⟨0, by omega, rfl, hBx⟩
          case round =>
            obtain ⟨q, hqG, rfl, hBq⟩ := hrel
            by_cases hq : q < nW
            · have t4 : (q : Int) < (nW : Int) := by omega
              obtain ⟨y, hy⟩ : ∃ y, W[q]? = some y := ⟨_, List.getElem?_eq_getElem (by have := HNW.out; omega)⟩
              have HY := aside hy
              have HYM := aside (HG.out.inv.mw y (List.mem_of_getElem? hy))
              obtain ⟨gw, hgw, -⟩ := (OW.out.below hBq.out).lock hy
              subst hgw
              clear hy
              go_wp2_with fail
              rename World => w7
              go_loopg [10, 11] x (fun G s10 s11 wx => ∃ (z : Nat) (m : Bool), z + G = x ∧ s10 = .bool m ∧ s11 = .int .i64 (z : Int) ∧ Aside (m = hit y (H.take z)) ∧ Aside (Below w4.heap.size w4 wx))
              case atStart => exact ⟨0, false, by omega, rfl, rfl, aside (by simp [hit]), hBq⟩
              case round =>
                obtain ⟨z, m, hzG, rfl, rfl, hm, hBz⟩ := hrel
                by_cases hz : z < x
                · have t5 : (z : Int) < (x : Int) := by omega
                  obtain ⟨v, hv⟩ : ∃ v, H[z]? = some v := ⟨_, List.getElem?_eq_getElem (by have := HNH.out; omega)⟩
                  have HT := aside (hit_take_succ (l := y) hv)
                  cases m
                  · have MM := aside (lmeet_any y v HYM.out (HG.out.inv.mh v (List.mem_of_getElem? hv)))
                    rw [show y.val = .agg #[.int .i64 y.who, .int .i64 y.org, .int .i64 y.len, .bool y.sh] from rfl, show v.val = .agg #[.int .i64 v.who, .int .i64 v.org, .int .i64 v.len, .bool v.sh] from rfl] at MM
                    obtain ⟨gw2, hgw2, k0, k1, k2, k3⟩ := (OW.out.below hBz.out).lock HY.out
                    simp only [Option.some.injEq, Addr.mk.injEq, and_true] at hgw2
                    subst hgw2
                    obtain ⟨gh, rfl, l0, l1, l2, l3⟩ := (OH.out.below hBz.out).lock hv
                    have kk0 := fun d os => ext_cell k0 d os
                    have kk1 := fun d os => ext_cell k1 d os
                    have kk2 := fun d os => ext_cell k2 d os
                    have kk3 := fun d os => ext_cell k3 d os
                    have ll0 := fun d os => ext_cell l0 d os
                    have ll1 := fun d os => ext_cell l1 d os
                    have ll2 := fun d os => ext_cell l2 d os
                    have ll3 := fun d os => ext_cell l3 d os
                    obtain ⟨mv, hmv⟩ : ∃ mv, mv = meet y v := ⟨_, rfl⟩
                    rw [← hmv] at MM HT
                    clear k0 k1 k2 k3 l0 l1 l2 l3 hv hmv
                    go_wp2_with fail
                    refine region_ext (by kernel_rfl) (by kernel_rfl) ?_
                    repeat (any_goals (first | go_big_quiet_step ((with_reducible exact calls_ext (MM.out _))) | quiet_step ((with_reducible exact calls_ext (MM.out _)))))
                    refine wpQuiet_nil ?_
                    intro wq hwq
                    have HQ := aside (below_tr hBz.out hwq)
                    clear hwq kk0 kk1 kk2 kk3 ll0 ll1 ll2 ll3 MM
                    go_wp2_with fail
                    go_roundg (x - (z + 1))
                    case measure => omega
                    case rel => exact ⟨z + 1, mv, by omega, rfl, by go_num, aside (by rw [HT.out, ← hm.out]; rfl), HQ⟩
                  · clear hv
                    go_wp2_with fail
                    refine region_ext (by kernel_rfl) (by kernel_rfl) ?_
                    repeat (any_goals (first | go_big_quiet_step ((fail)) | quiet_step ((fail))))
                    refine wpQuiet_nil ?_
                    intro wq hwq
                    have HQ := aside (below_tr hBz.out hwq)
                    clear hwq
                    go_wp2_with fail
                    go_roundg (x - (z + 1))
                    case measure => omega
                    case rel => exact ⟨z + 1, true, by omega, rfl, by go_num, aside (by rw [HT.out, ← hm.out]; rfl), HQ⟩
                · obtain rfl : z = x := by omega
                  have t5 : ¬ ((z : Int) < (z : Int)) := by omega
                  have hm2 := hm.out
                  rw [HNH.out, List.take_length] at hm2
                  have HM2 := aside hm2
                  clear hm2
                  go_wp2_with fail
                  rename World => w8
                  go_loopg [10, 12] q (fun G s10 s12 wx => ∃ (r : Nat) (m : Bool), r + G = q ∧ s10 = .bool m ∧ s12 = .int .i64 (r : Int) ∧ Aside (m = (hit y H || hit y (W.take r))) ∧ Aside (Below w4.heap.size w4 wx))
                  case atStart => exact ⟨0, m, by omega, rfl, rfl, aside (by rw [HM2.out]; simp [hit]), hBz⟩
                  case round =>
                    obtain ⟨r, m3, hrG, rfl, rfl, hm3, hBr⟩ := hrel
                    by_cases hr : r < q
                    · have t6 : (r : Int) < (q : Int) := by omega
                      have t7 : (r : Int) < (nW : Int) := by omega
                      have t8 : r < nW := by omega
                      obtain ⟨v, hv⟩ : ∃ v, W[r]? = some v := ⟨_, List.getElem?_eq_getElem (by have := HNW.out; omega)⟩
                      have HT := aside (hit_take_succ (l := y) hv)
                      cases m3
                      · have MM := aside (lmeet_any y v HYM.out (HG.out.inv.mw v (List.mem_of_getElem? hv)))
                        rw [show y.val = .agg #[.int .i64 y.who, .int .i64 y.org, .int .i64 y.len, .bool y.sh] from rfl, show v.val = .agg #[.int .i64 v.who, .int .i64 v.org, .int .i64 v.len, .bool v.sh] from rfl] at MM
                        obtain ⟨gw2, hgw2, k0, k1, k2, k3⟩ := (OW.out.below hBr.out).lock HY.out
                        simp only [Option.some.injEq, Addr.mk.injEq, and_true] at hgw2
                        subst hgw2
                        obtain ⟨gw3, hgw3, l0, l1, l2, l3⟩ := (OW.out.below hBr.out).lock hv
                        simp only [Option.some.injEq, Addr.mk.injEq, and_true] at hgw3
                        subst hgw3
                        have kk0 := fun d os => ext_cell k0 d os
                        have kk1 := fun d os => ext_cell k1 d os
                        have kk2 := fun d os => ext_cell k2 d os
                        have kk3 := fun d os => ext_cell k3 d os
                        have ll0 := fun d os => ext_cell l0 d os
                        have ll1 := fun d os => ext_cell l1 d os
                        have ll2 := fun d os => ext_cell l2 d os
                        have ll3 := fun d os => ext_cell l3 d os
                        obtain ⟨mv, hmv⟩ : ∃ mv, mv = meet y v := ⟨_, rfl⟩
                        rw [← hmv] at MM HT
                        clear k0 k1 k2 k3 l0 l1 l2 l3 hv hmv
                        go_wp2_with fail
                        refine region_ext (by kernel_rfl) (by kernel_rfl) ?_
                        repeat (any_goals (first | go_big_quiet_step ((with_reducible exact calls_ext (MM.out _))) | quiet_step ((with_reducible exact calls_ext (MM.out _)))))
                        refine wpQuiet_nil ?_
                        intro wq hwq
                        have HQ := aside (below_tr hBr.out hwq)
                        clear hwq kk0 kk1 kk2 kk3 ll0 ll1 ll2 ll3 MM
                        go_wp2_with fail
                        go_roundg (q - (r + 1))
                        case measure => omega
                        case rel => exact ⟨r + 1, mv, by omega, rfl, by go_num, aside (by rw [HT.out, ← Bool.or_assoc, ← hm3.out]; rfl), HQ⟩
                      · clear hv
                        go_wp2_with fail
                        refine region_ext (by kernel_rfl) (by kernel_rfl) ?_
                        repeat (any_goals (first | go_big_quiet_step ((fail)) | quiet_step ((fail))))
                        refine wpQuiet_nil ?_
                        intro wq hwq
                        have HQ := aside (below_tr hBr.out hwq)
                        clear hwq
                        go_wp2_with fail
                        go_roundg (q - (r + 1))
                        case measure => omega
                        case rel => exact ⟨r + 1, true, by omega, rfl, by go_num, aside (by rw [HT.out, ← Bool.or_assoc, ← hm3.out]; rfl), HQ⟩
                    · obtain rfl : r = q := by omega
                      have t6 : ¬ ((r : Int) < (r : Int)) := by omega
                      obtain rfl : m3 = true := by rw [hm3.out]; exact kept_at HG.out.inv.kp HY.out
                      go_wp2_with fail
                      go_roundg (nW - (r + 1))
                      case measure => omega
                      case rel => exact ⟨r + 1, by omega, by go_num, hBr⟩
            · obtain rfl : q = nW := by omega
              have t4 : ¬ ((q : Int) < (q : Int)) := by omega
              obtain ⟨ah, ch, he1, -, -, lsH⟩ := (OH.out.below hBq.out).tel
              obtain ⟨aw, cw, he2, -, -, lsW⟩ := (OW.out.below hBq.out).tel
              simp only [Value.slice.injEq] at he1 he2
              obtain ⟨rfl, e1, rfl⟩ := he1
              obtain ⟨rfl, e2, rfl⟩ := he2
              have CC := aside (lcircle_any a3 a4 H W c3 c4 wr lsH lsW HG.out)
              rw [← HNH.out, ← HNW.out] at CC
              clear e1 e2
              go_wp2_with ((go_at_call 25; with_reducible refine CC.out.mono ?_; rintro e w9 ⟨rfl, hb9⟩; have HB9 := aside (below_tr hBq.out hb9); clear hb9))
              go_roundg (100 - (i + 1))
              case measure => omega
              case rel => exact ⟨i + 1, H, W, by omega, by go_num, aside (S4.out.below HB9.out), HG⟩
    · have key : ∀ (Q : Prop), ((¬ (i : Int) < (nS : Int)) → Q) → ((i : Int) < (nS : Int) → ¬ (i : Int) < 100 → Q) → Q := fun Q h1 h2 => by
        by_cases hh : (i : Int) < (nS : Int)
        · exact h2 hh (by omega)
        · exact h1 hh
      clear hi
      refine key _ (fun t1 => ?_) (fun t1 t2 => ?_)
      all_goals clear key
      all_goals (
        go_wp2_with ((go_at_call 22; refine (wakes_any _).mono ?_; rintro e w6 ⟨rfl, hb⟩; have HB6 := aside hb; clear hb))
        go_ret
        exact ⟨rfl, below_tr hS.out.bl HB6.out⟩)
end Go.Proofs.Ytfpegmmciphjiaa
