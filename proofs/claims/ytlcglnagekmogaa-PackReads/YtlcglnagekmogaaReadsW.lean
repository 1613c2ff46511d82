/- PackReads: the walk. -/
import Derived.Test.YtlcglnagekmogaaRdD
namespace Go.Proofs.Ytlcglnagekmogaa
open Go.RowKit
attribute [local simp] lcells_nil readB_length bcells_length
set_option maxRecDepth 20000

/-- Numbers of 16 bits that can be read. -/
def UsAt (w : World) (a : Option Addr) (ns : List Nat) : Prop := ns ≠ [] → ∃ g o, a = some ⟨g, o, none⟩ ∧ ∀ (j n : Nat), ns[j]? = some n → w.cell? ⟨g, o + j, none⟩ = some (.int .u16 (n : Int))
theorem UsAt.below {w w' : World} {a : Option Addr} {ns : List Nat} (h : UsAt w a ns) (k : Below w.heap.size w w') : UsAt w' a ns := fun hn => by
  obtain ⟨g, o, rfl, hc⟩ := h hn
  exact ⟨g, o, rfl, fun j n hj => (k.cell (World.block_lt_of_cell? w _ (hc j n hj))).trans (hc j n hj)⟩

set_option maxHeartbeats 8000000 in
theorem packReads_walk (a ap : Option Addr) (l : List UInt8) (ns : List Nat) (c cp : Nat) (w : World) (h : BsAt w a l) (hlc : l.length ≤ c) (hc : c ≤ 140737488351232) (hp : UsAt w ap ns) (hns : ∀ n, n ∈ ns → n ≤ 65535) :
    Calls Try.prog 7 #[.slice a l.length c, .slice ap ns.length cp] w fun e w' => e = .returned (.bool true) ∧ Below w.heap.size w w' := by
  have HBS := aside h
  have HPS := aside hp
  have HNS := aside hns
  clear h hp hns
  have hfd : ∀ (x : Nat) (W : World), (Instr.field 37 (.agg #[.int .i64 0, .int .i64 (x : Int), .int .i64 0, .slice none 0 0]) 1).run Try.prog W = .ok (.int .i64 (x : Int)) W := fun x W => by kernel_rfl
  go_enter Try.func7, Try.ntmps7
  go_wp2_with fail
  refine (works_any w).mono ?_
  rintro e w1 ⟨rfl, hb1⟩
  have HB1 := aside hb1
  have HBS1 := aside (HBS.out.below hb1)
  clear hb1
  by_cases h20 : 65536 < l.length
  · have t1 : (65536 : Int) < (l.length : Int) := by omega
    go_wp2_with fail
    refine (works_any w1).mono ?_
    rintro e w2 ⟨rfl, hb2⟩
    have HB2 := aside (below_tr HB1.out hb2)
    clear hb2
    go_wp2_with fail
    go_ret
    exact ⟨rfl, HB2.out⟩
  · have t1 : ¬ ((65536 : Int) < (l.length : Int)) := by omega
    have hl : l.length ≤ 65536 := by omega
    have P1 := aside (pack_any a l c w1 HBS1.out hlc (by omega))
    have e1 : pkB l = pck l := by unfold pkB; rw [if_neg h20]
    have e2 : pkE l = 0 := by unfold pkE; rw [if_neg h20]
    have e3 := unp_pck (b := l) hl
    have e4 := pck_length l
    have e5 : 4 ≤ (pck l).length := by unfold pck; simp
    unfold PkR at P1
    rw [e1, e2] at P1
    generalize pck l = P at *
    clear e1 e2
    have hPl : P.length ≤ 131072 := by omega
    go_wp2_with fail
    refine P1.out.mono ?_
    rintro e w2 ⟨⟨a2, rfl, h2⟩, hb2⟩
    obtain ⟨g2, cur2, rfl, -, -, -, -⟩ := h2 (fun h0 => by rw [h0] at e5; simp at e5)
    have M1 := aside (memNewP ⟨g2, 0, none⟩ P w2 (by omega) hPl h2.bs)
    have HB2 := aside (below_tr HB1.out hb2)
    clear h2 hb2 P1
    go_wp2_with fail
    refine M1.out.mono ?_
    rintro e w3 ⟨hb, fb, m, b, lv, g, cap, rfl, h3, h4, h5, hb3⟩
    have N1 := aside (packNew_any hb fb m b lv g cap P l w3 h3 h4 h5 hPl e3)
    have HB3 := aside (below_tr HB2.out hb3)
    clear h3 h4 h5 hb3 M1 e3 e4 e5
    go_wp2_with fail
    refine N1.out.mono ?_
    rintro e w4 ⟨hb', fb', pf, rfl, h6, h7, hb4⟩
    have C1 := aside (canP_any 74 hb' fb' ⟨pf, 0, none⟩ w4 h6)
    have D1 := aside (doSizeP hb' fb' pf l w4 h6 h7)
    have H6 := aside h6
    have H7 := aside h7
    have HB4 := aside (below_tr HB3.out hb4)
    clear h6 h7 hb4 N1
    go_wp2_with fail
    refine C1.out.mono ?_
    rintro e w' ⟨rfl, rfl⟩
    go_wp2_with fail
    refine D1.out.mono ?_
    rintro e w5 ⟨rfl, hb5⟩
    have H6' := aside (H6.out.below hb5)
    have H7' := aside (H7.out.below hb5)
    have HB5 := aside (below_tr HB4.out hb5)
    clear hb5 C1 D1 H6 H7
    go_wp2_with fail
    go_loopw [11, 12] (fun s11 s12 wr => ∃ (i x : Nat), i ≤ ns.length ∧ i ≤ 1000 ∧ x ≤ l.length ∧ s11 = .int .i64 (x : Int) ∧ s12 = .int .i64 (i : Int) ∧ Aside (Below w5.heap.size w5 wr)) (fun _ s12 _ => 1000 - (intOf s12).toNat)
    case atStart => exact ⟨0, 0, by omega, by omega, by omega, rfl, rfl, aside (Below.refl _ _)⟩
    case round =>
      obtain ⟨i, x, hi, hi2, hx, rfl, rfl, hB⟩ := hrel
      by_cases hgo : i < ns.length ∧ i < 1000 ∧ x < l.length
      · obtain ⟨g1, g3, g4⟩ := hgo
        have u1 : (i : Int) < (ns.length : Int) := by omega
        have u2 : (i : Int) < 1000 := by omega
        have u3 : (x : Int) < (l.length : Int) := by omega
        obtain ⟨n, hn⟩ : ∃ n, ns[i]? = some n := ⟨_, List.getElem?_eq_getElem g1⟩
        have hnl : n ≤ 65535 := HNS.out n (List.mem_of_getElem? hn)
        obtain ⟨gp, op, rfl, hcp⟩ := (HPS.out.below (below_tr HB5.out hB.out)) (fun h0 => by rw [h0] at g1; simp at g1)
        have z0 := hcp i n hn
        have D2 := aside (doReadP hb' fb' pf l x n wr (H6'.out.below hB.out) (H7'.out.below hB.out) hl g4 (by omega))
        obtain ⟨y, hy⟩ : ∃ y, y = min (x + n) l.length := ⟨_, rfl⟩
        have hls : (l.take y).drop x = (l.drop x).take n := by
          rw [List.drop_take]
          by_cases hh : x + n ≤ l.length
          · rw [show y - x = n by omega]
          · rw [List.take_of_length_le (by rw [List.length_drop]; omega), List.take_of_length_le (by rw [List.length_drop]; omega)]
        have hKl : ((l.drop x).take n).length = y - x := by rw [List.length_take, List.length_drop]; omega
        obtain ⟨as2, s1, hbs⟩ := slice_lh a l c x y (by omega) (by omega) hlc
        rw [hls] at s1 hbs
        have HKL := aside hKl
        have HBSx := aside (hbs wr (HBS.out.below (below_tr HB5.out hB.out)))
        have hyl : y ≤ l.length := by omega
        have hxy : x ≤ y := by omega
        have HY := aside hy
        generalize (l.drop x).take n = K at *
        clear hn hcp hls hbs hKl hy
        go_wp2_with fail
        refine D2.out.mono ?_
        rintro e w6 ⟨a6, c6, rfl, h6, hb6⟩
        have hA := below_al w6 (.cells #[.int .i64 0, .int .i64 0, .int .i64 0, .slice (some a6) K.length c6] 37)
        obtain ⟨W, hW⟩ : ∃ W, W = w6.alloc (.cells #[.int .i64 0, .int .i64 0, .int .i64 0, .slice (some a6) K.length c6] 37) := ⟨_, rfl⟩
        have hrow := heap_alloc_new w6 (.cells #[.int .i64 0, .int .i64 0, .int .i64 0, .slice (some a6) K.length c6] 37)
        rw [← hW] at hA hrow
        have q0 : ∀ d os, (ext W d os).cell? ⟨w6.heap.size, 0, none⟩ = some (.int .i64 0) := fun d os => ext_cell (by rw [cell_of_row W _ 0 _ _ _ hrow]; rfl) d os
        have q3 : ∀ d os, (ext W d os).cell? ⟨w6.heap.size, 3, none⟩ = some (.slice (some a6) K.length c6) := fun d os => ext_cell (by rw [cell_of_row W _ 3 _ _ _ hrow]; rfl) d os
        have HROW := aside hrow
        have EQ : Aside (∀ V, Below W.heap.size W V → Calls Try.prog 13 #[.slice (some a6) K.length c6, .slice as2 K.length (c - x)] V fun e w' => e = .returned (.bool true) ∧ w' = V) := fun V hV => equal_same (some a6) as2 K c6 (c - x) V ((h6.below hA).below hV) (HBSx.out.below (below_tr (below_tr hb6 hA) hV))
        have HBW := aside (below_tr hB.out (below_tr hb6 hA))
        have HWA := aside hW
        clear h6 hb6 hA hrow D2
        go_wp2_with fail
        rw [← hW]
        clear hW
        have hite : (if (l.length : Int) < (x : Int) + (n : Int) then (l.length : Int) else (x : Int) + (n : Int)) = (y : Int) := by have := HY.out; split <;> omega
        refine region_ext (by kernel_rfl) (by kernel_rfl) ?_
        repeat (any_goals (first
          | go_big_quiet_step ((go_at_call 13; with_reducible exact calls_ext ((EQ.out _ (below_ext _ _ _)).mono fun _ _ hh => ⟨hh.1, hh.2 ▸ Below.refl _ _⟩)))
          | quiet_step ((go_at_call 13; with_reducible exact calls_ext ((EQ.out _ (below_ext _ _ _)).mono fun _ _ hh => ⟨hh.1, hh.2 ▸ Below.refl _ _⟩)))))
        refine wpQuiet_nil ?_
        intro w7 hb7
        have HROW7 := aside ((hb7.block _ (Array.getElem?_eq_some_iff.1 HROW.out).1).trans HROW.out)
        have r3 : w7.cell? ⟨w6.heap.size, 3, none⟩ = some (.slice (some a6) K.length c6) := by rw [cell_of_row w7 _ 3 _ _ _ HROW7.out]; rfl
        have HB7 := aside (below_tr HBW.out hb7)
        have hk1 : (x : Int) + (K.length : Int) = (y : Int) := by have := HKL.out; omega
        clear hb7 q0 q3 hite
        go_wp2_with fail
        go_roundw
        case rel => exact ⟨i + 1, y, by omega, by omega, hyl, by go_num, by go_num, HB7⟩
        case measure => simp [intOf]; omega
      · have AL := aside (allP_any hb' fb' pf l wr (H6'.out.below hB.out) (H7'.out.below hB.out) hl)
        have HBSx := aside (HBS.out.below (below_tr HB5.out hB.out))
        have HBW := aside (below_tr HB5.out hB.out)
        clear hB
        by_cases k1 : i < ns.length
        · have u1 : (i : Int) < (ns.length : Int) := by omega
          by_cases k2 : i < 1000
          · have u2 : (i : Int) < 1000 := by omega
            have u3 : ¬ ((x : Int) < (l.length : Int)) := by omega
            go_wp2_with fail
            refine AL.out.mono ?_
            rintro e w7 ⟨a7, c7, rfl, -, -, h7, hb7⟩
            have EQ := aside (equal_same a7 a l c7 c w7 h7 (HBSx.out.below hb7))
            have HB7 := aside (below_tr HBW.out hb7)
            clear h7 hb7
            go_wp2_with fail
            refine EQ.out.mono ?_
            rintro e w' ⟨rfl, rfl⟩
            go_wp2_with fail
            go_ret
            exact ⟨rfl, HB7.out⟩
          · have u2 : ¬ ((i : Int) < 1000) := by omega
            go_wp2_with fail
            refine AL.out.mono ?_
            rintro e w7 ⟨a7, c7, rfl, -, -, h7, hb7⟩
            have EQ := aside (equal_same a7 a l c7 c w7 h7 (HBSx.out.below hb7))
            have HB7 := aside (below_tr HBW.out hb7)
            clear h7 hb7
            go_wp2_with fail
            refine EQ.out.mono ?_
            rintro e w' ⟨rfl, rfl⟩
            go_wp2_with fail
            go_ret
            exact ⟨rfl, HB7.out⟩
        · have u1 : ¬ ((i : Int) < (ns.length : Int)) := by omega
          go_wp2_with fail
          refine AL.out.mono ?_
          rintro e w7 ⟨a7, c7, rfl, -, -, h7, hb7⟩
          have EQ := aside (equal_same a7 a l c7 c w7 h7 (HBSx.out.below hb7))
          have HB7 := aside (below_tr HBW.out hb7)
          clear h7 hb7
          go_wp2_with fail
          refine EQ.out.mono ?_
          rintro e w' ⟨rfl, rfl⟩
          go_wp2_with fail
          go_ret
          exact ⟨rfl, HB7.out⟩
end Go.Proofs.Ytlcglnagekmogaa
