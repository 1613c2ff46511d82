/- made, kind 5. -/
import Derived.Test.YtknjclekfmmfeaaGreatDoorQLwc
namespace Go.Proofs.YtknjclekfmmfeaaGreatDoor
open Go.RowKit Go.ChangeMaps

set_option maxRecDepth 20000 in
set_option maxHeartbeats 8000000 in
theorem made5 {w : World} {lo wb : Nat} {S : List Ne} (h : LW w lo wb S) (hG : GX lo w S) (hR : RX lo w S) (hlo : lo ≤ w.heap.size) (hS : S.length ≤ 1000000) {e0 : Ne} (h0 : S[0]? = some e0) (h0k : e0.k = 1) (s : Spx) (hto : s.to.length ≤ 1048576) (hk : s.k = 5) :
    Calls Tryz.prog 28 #[Pt wb, s.val] w fun r w' => MadeP lo S s.k w r w' := by
  have _u := And.intro hS (And.intro h0 h0k)
  clear _u
  obtain ⟨si, so, nm, k, to⟩ := s
  show Calls Tryz.prog 28 #[Pt wb, .agg #[.int .i64 si, .int .i64 so, .string (ba nm), .int .i8 k, .string (ba to)]] w fun r w' => MadeP lo S k w r w'
  obtain ⟨W, hW⟩ : ∃ W, W = w.alloc (.cells #[.int .i64 si, .int .i64 so, .string (ba nm), .int .i8 k, .string (ba to)] 55) := ⟨_, rfl⟩
  have hB : Below w.heap.size w W := by rw [hW]; exact below_al w _
  have hs : W.heap[w.heap.size]? = some (.cells #[.int .i64 si, .int .i64 so, .string (ba nm), .int .i8 k, .string (ba to)] 55 (0, 0)) := by rw [hW]; exact heap_alloc_new w _
  have c1 : W.cell? ⟨w.heap.size, 1, none⟩ = some (.int .i64 so) := by rw [cell_of_row W _ 1 _ _ _ hs]; rfl
  have c3 : W.cell? ⟨w.heap.size, 3, none⟩ = some (.int .i8 k) := by rw [cell_of_row W _ 3 _ _ _ hs]; rfl
  have c4 : W.cell? ⟨w.heap.size, 4, none⟩ = some (.string (ba to)) := by rw [cell_of_row W _ 4 _ _ _ hs]; rfl
  have AB := aside hB
  have AL := aside (h.below hB)
  have AG := aside (hG.below hB)
  have AR := aside (hR.below hB)
  have hlo2 : lo ≤ W.heap.size := by have := hB.size; omega
  have hwl : w.heap.size < W.heap.size := (Array.getElem?_eq_some_iff.1 hs).1
  obtain ⟨T, hT⟩ : ∃ T, T = ba to := ⟨_, rfl⟩
  have hTs : T.size = to.length := by rw [hT, ba_size]
  have AT := aside hT
  have hto2 : to.length ≤ 1048576 := hto
  rw [← hT] at c4 hW ⊢
  clear h hG hR hs hB hT hto
  obtain ⟨N, hN⟩ : ∃ N, N = ba nm := ⟨_, rfl⟩
  rw [← hN] at hW ⊢
  clear hN
  go_enter Tryz.func28, Tryz.ntmps28
  obtain rfl : k = 5 := hk
  have q0 : ((5 : Int) == 0) = false := rfl
  have q1 : ((5 : Int) == 1) = false := rfl
  have q2 : ((5 : Int) == 2) = false := rfl
  have q3 : ((5 : Int) == 3) = false := rfl
  have q4 : ((5 : Int) == 4) = false := rfl
  obtain ⟨lg, lc, xg, xc, hl0, hx1, hlat, hwb2, -⟩ := AL.out.at
  have hn0 : 0 < S.length := by have := mem_len h0; omega
  obtain ⟨sl, hsl⟩ : ∃ sl, sl = S.length := ⟨_, rfl⟩
  rw [← hsl] at hl0 hx1 hn0
  have hpk := pk_lt so hn0
  obtain ⟨q, hq⟩ : ∃ q, q = pk so sl := ⟨_, rfl⟩
  have APk : Aside (∀ d os, Calls Tryz.prog 10 #[.int .i64 so, .int .i64 (sl : Int)] (ext W d os) fun e w' => e = .returned (.int .i64 (q : Int)) ∧ Below (ext W d os).heap.size (ext W d os) w') := fun d os => (pick_val so sl _ hn0 (by omega)).mono fun e w' ⟨h1, h2⟩ => ⟨by rw [hq]; exact h1, h2 ▸ Below.refl _ _⟩
  rw [← hq] at hpk
  obtain ⟨d, hd⟩ : ∃ d, S[q]? = some d := ⟨_, List.getElem?_eq_getElem (by omega)⟩
  obtain ⟨hla, hxa⟩ := hlat q d hd
  have hq0 : (0 : Int) ≤ (q : Int) := by omega
  have hq1 : (q : Int) < (sl : Int) := by omega
  have E1 := fun dd os => ext_cell c1 dd os
  have E2 := fun dd os => ext_cell hl0 dd os
  have Ad := aside hd
  have Ahl := aside hl0
  have Ahx := aside hx1
  have Ahla := aside hla
  have Ahxa := aside hxa
  clear hq hd hlat hsl hl0 hx1 hla hxa
  go_wp2_with fail
  rw [← hW]
  clear hW
  refine region_ext (by kernel_rfl) (by kernel_rfl) ?_
  repeat (any_goals (first | go_big_quiet_step ((go_at_call 10; exact calls_ext (APk.out _ _))) | quiet_step ((go_at_call 10; exact calls_ext (APk.out _ _)))))
  refine wpQuiet_nil ?_
  intro w2 hw2
  have A2 := aside hw2
  have F1 := fun dd os => ext_cell ((hw2.cell (p := ⟨wb, 0, none⟩) hwb2).trans Ahl.out) dd os
  have F2 := fun dd os => ext_cell ((hw2.cell (p := ⟨wb, 1, none⟩) hwb2).trans Ahx.out) dd os
  have F3 := fun dd os => ext_cell ((hw2.cell (World.block_lt_of_cell? _ _ Ahla.out)).trans Ahla.out) dd os
  have F4 := fun dd os => ext_cell ((hw2.cell (World.block_lt_of_cell? _ _ Ahxa.out)).trans Ahxa.out) dd os
  clear hw2 E1 E2 APk
  go_wp2_with fail
  refine region_ext (by kernel_rfl) (by kernel_rfl) ?_
  repeat (any_goals (first | go_big_quiet_step (fail) | quiet_step (fail)))
  refine wpQuiet_nil ?_
  intro w3 hw3
  have A3 := aside (below_tr A2.out hw3)
  clear hw3 F1 F2 F3 F4
  go_wp2_with fail
  go_ret3
  exact ⟨below_tr AB.out A3.out, _, _, true, rfl, fun _ => .inr ⟨rfl, q, d, Ad.out, rfl, rfl⟩⟩
end Go.Proofs.YtknjclekfmmfeaaGreatDoor
