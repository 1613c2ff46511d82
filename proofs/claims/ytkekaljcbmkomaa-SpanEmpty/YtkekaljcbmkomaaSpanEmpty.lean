/-
  SpanEmpty: behind a hole over all nothing is held, the size stays, all reads as noughts; a cut to nothing and back likewise: the walk.
-/
import Derived.Test.YtkekaljcbmkomaaTwo
namespace Go.Proofs.Ytkekaljcbmkomaa
open Go.RowKit
attribute [local simp] lcells_nil readB_length bcells_length

set_option maxHeartbeats 8000000 in
theorem spanEmpty_walk (a0 : Option Addr) (l0 : List UInt8) (c0 : Nat) (am : Option Addr) (cm : Nat) (ms : List Mv) (t : Int) (w : World) (h0 : BsAt w a0 l0) (hlc : l0.length ≤ c0) (hc : c0 ≤ 4611686018427387904) (hm : Mvs w am ms) :
    Calls Try.prog 8 #[.slice a0 l0.length c0, .slice am ms.length cm, .int .i64 t] w fun e w' => e = .returned (.bool true) ∧ Below w.heap.size w w' := by
  have HG := aside (great_any a0 l0.length c0 am cm ms w hm (by omega))
  have HD := aside (made_any a0 l0 c0 am cm ms w h0 hlc hc hm)
  have HWK := aside (wakes_any w)
  clear hm h0
  go_enter Try.func8, Try.ntmps8
  go_wp2_with fail
  refine HG.out.mono ?_
  rintro e w' ⟨⟨g, rfl, -⟩, rfl⟩
  cases g
  case true =>
    go_wp2_with fail
    refine HWK.out.mono ?_
    rintro e w1 ⟨rfl, hb⟩
    have HB := aside hb
    clear hb
    go_wp2
    go_ret
    exact ⟨rfl, HB.out⟩
  case false =>
    go_wp2_with fail
    refine HD.out.mono ?_
    rintro e w1 ⟨rfl, sz, lv, L, L0, -, hMid⟩
    have H1 := aside hMid
    clear HD HG HWK hMid
    go_wp2_with fail
    refine (twin_any w'.heap.size sz lv L w1 H1.out.rep).mono ?_
    rintro e w2 ⟨b2, lv2, N, rfl, hR2, hc2, hb2, hf2⟩
    have T2 : Aside (Two w' w2 ⟨w'.heap.size, sz, lv, L⟩ ⟨b2, sz, lv2, N⟩) := ⟨H1.out.rep.below hb2, hR2, fun k h1 h2 => by
      have h3 := H1.out.rep.str.lv_lt h1
      have h4 := hf2 k h2
      omega, H1.out.below.trans (hb2.mono H1.out.below.size), H1.out.foot, fun k hk => Nat.le_trans H1.out.below.size (hf2 k hk)⟩
    have HCN := aside hc2
    have hsz := H1.out.rep.inv.size
    have hinv := aside H1.out.rep.inv
    clear H1 hR2 hc2 hb2 hf2
    go_wp2_with fail
    refine (size_any w'.heap.size sz lv L w2 T2.out.rs).mono ?_
    rintro e w3 ⟨rfl, rfl⟩
    go_wp2_with fail
    refine (punch_any w'.heap.size sz lv L 0 sz w3 T2.out.rs).mono ?_
    rintro e w4 ⟨rfl, lv4, L4, hR4, hE4, hG4, hu4⟩
    have hE4' : Erased L L4 0 sz := by simpa using hE4
    obtain rfl := erased_all hinv.out hE4'
    have T4 := aside (T2.out.left hR4 hG4 hu4)
    clear hR4 hG4 hu4 hE4 hE4'
    go_wp2_with fail
    refine (cut_any b2 sz lv2 N 0 w4 T4.out.rt (by omega)).mono ?_
    rintro e w5 ⟨rfl, lv5, L5, hR5, hE5, hG5, hu5⟩
    obtain rfl := erased_all (inv_ct hinv.out HCN.out.symm) hE5
    have T5 := aside (T4.out.right hR5 hG5 hu5)
    clear hR5 hG5 hu5 hE5
    go_wp2_with fail
    refine (cut_any b2 0 lv5 [] sz w5 T5.out.rt hsz).mono ?_
    rintro e w6 ⟨rfl, lv6, L6, hR6, hE6, hG6, hu6⟩
    obtain rfl := erased_nil hE6
    have T6 := aside (T5.out.right hR6 hG6 hu6)
    clear hR6 hG6 hu6 hE6 T2 T4 T5 HCN hinv
    obtain ⟨m, hm, hm50⟩ := get_empty sz t 50
    have hm51 : m ≤ 50 := by simpa using hm50
    clear hm50
    have GX := aside (fun W (hW : Below w6.heap.size w6 W) => get_all w'.heap.size sz lv4 [] t 50 W (T6.out.rs.below hW) (by decide))
    have GY := aside (fun W (hW : Below w6.heap.size w6 W) => get_all b2 sz lv6 [] t 50 W (T6.out.rt.below hW) (by decide))
    rw [hm, List.length_replicate] at GX GY
    clear hm
    go_wp2_with fail
    refine (GX.out w6 (Below.refl _ _)).mono ?_
    rintro e w7 ⟨a7, c7, rfl, hc7, hn7, hb7⟩
    go_wp2_with fail
    refine (GY.out w7 hb7).mono ?_
    rintro e w8 ⟨a8, c8, rfl, hc8, hn8, hb8⟩
    have N7 := aside (hn7.below hb8)
    have N8 := aside hn8
    have T8 := aside ((T6.out.quiet hb7).quiet hb8)
    clear hn7 hn8 hb7 hb8 GX GY T6
    go_wp2
    go_loop [12] (fun s12 => ∃ k : Nat, k ≤ m ∧ s12 = .int .i64 k) (fun s12 => m - (intOf s12).toNat)
    case atStart => exact ⟨0, Nat.zero_le _, rfl⟩
    case round =>
      obtain ⟨k, hk, rfl⟩ := hrel
      by_cases h1 : k < m
      · have t1 : (k : Int) < (m : Int) := by omega
        rcases N7.out with h | ⟨rfl, hh⟩
        · have := congrArg List.length h; simp at this; omega
        · have hce : w8.cell? ⟨w6.heap.size, 0 + k, none⟩ = some (.int .u8 0) := by
            rw [cell_of_row w8 w6.heap.size (0 + k) _ _ _ hh]
            simp [bcells, h1]
          simp only [Nat.zero_add] at hce
          go_wp2
          go_round
          case rel => exact ⟨k + 1, by omega, by go_num⟩
          case measure => simp [intOf]; omega
      · have t1 : ¬ ((k : Int) < (m : Int)) := by omega
        have SX := str_all w8 a7 (List.replicate m 0) c7 N7.out.bs
        have SY := fun W (hW : Below w8.heap.size w8 W) => str_all W a8 (List.replicate m 0) c8 (N8.out.below hW).bs
        have SX := fun W (hW : Below w8.heap.size w8 W) => str_all W a7 (List.replicate m 0) c7 (N7.out.below hW).bs
        rw [List.length_replicate] at SX SY
        have HSX := aside SX
        have HSY := aside SY
        clear SX SY
        go_wp2_with fail
        refine (next_any w'.heap.size sz lv4 [] 0 w8 T8.out.rs (by decide)).mono ?_
        rintro e w9 ⟨rfl, hb9⟩
        have sx := HSX.out w9 hb9
        have sy := HSY.out w9 hb9
        have T9 := aside (T8.out.quiet hb9)
        have en : nextOf [] sz (0 : Int).toNat = (sz, sz) := rfl
        rw [en]
        clear HSX HSY hb9
        go_wp2_with fail
        refine (size_any w'.heap.size sz lv4 [] w9 T9.out.rs).mono ?_
        rintro e w10 ⟨rfl, rfl⟩
        go_wp2_with fail
        refine (size_any b2 sz lv6 [] w10 T9.out.rt).mono ?_
        rintro e w11 ⟨rfl, rfl⟩
        go_wp2_with fail
        refine (held_any w'.heap.size sz lv4 [] w11 T9.out.rs).mono ?_
        rintro e w12 ⟨rfl, rfl⟩
        have eh : heldOf [] = 0 := rfl
        rw [eh]
        go_wp2_with fail
        refine (held_any b2 sz lv6 [] w12 T9.out.rt).mono ?_
        rintro e w13 ⟨rfl, rfl⟩
        rw [eh]
        go_wp2_with fail
        refine (wakes_any w13).mono ?_
        rintro e w14 ⟨rfl, hb14⟩
        have B14 := aside (T9.out.below.trans (hb14.mono T9.out.below.size))
        clear hb14
        go_wp2
        go_ret
        exact ⟨rfl, B14.out⟩
end Go.Proofs.Ytkekaljcbmkomaa
