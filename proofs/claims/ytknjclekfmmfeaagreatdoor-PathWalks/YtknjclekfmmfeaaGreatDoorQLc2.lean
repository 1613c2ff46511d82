/- made, kind 2. -/
import Derived.Test.YtknjclekfmmfeaaGreatDoorQLwc
namespace Go.Proofs.YtknjclekfmmfeaaGreatDoor
open Go.RowKit Go.ChangeMaps

set_option maxRecDepth 20000 in
set_option maxHeartbeats 8000000 in
theorem made2 {w : World} {lo wb : Nat} {S : List Ne} (h : LW w lo wb S) (hG : GX lo w S) (hR : RX lo w S) (hlo : lo ≤ w.heap.size) (hS : S.length ≤ 1000000) {e0 : Ne} (h0 : S[0]? = some e0) (h0k : e0.k = 1) (s : Spx) (hto : s.to.length ≤ 1048576) (hk : s.k = 2) :
    Calls Tryz.prog 28 #[Pt wb, s.val] w fun r w' => MadeP lo S s.k w r w' := by
  have _u := And.intro hS (And.intro h0 h0k)
  clear _u
  obtain ⟨si, so, nm, k, to⟩ := s
  show Calls Tryz.prog 28 #[Pt wb, .agg #[.int .i64 si, .int .i64 so, .string (ba nm), .int .i8 k, .string (ba to)]] w fun r w' => MadeP lo S k w r w'
  obtain ⟨W, hW⟩ : ∃ W, W = w.alloc (.cells #[.int .i64 si, .int .i64 so, .string (ba nm), .int .i8 k, .string (ba to)] 55) := ⟨_, rfl⟩
  have hB : Below w.heap.size w W := by rw [hW]; exact below_al w _
  have hs : W.heap[w.heap.size]? = some (.cells #[.int .i64 si, .int .i64 so, .string (ba nm), .int .i8 k, .string (ba to)] 55 (0, 0)) := by rw [hW]; exact heap_alloc_new w _
  have c1 : W.cell? ⟨w.heap.size, 1, none⟩ = some (.int .i64 so) := by rw [cell_of_row W _ 1 _ _ _ hs]; rfl
  have c3 : W.cell? ⟨w.heap.size, 3, none⟩ = some (.int .i8 k) := by rw [cell_of_row W _ 3 _ _ _ hs]; rfl
  have c4 : W.cell? ⟨w.heap.size, 4, none⟩ = some (.string (ba to)) := by rw [cell_of_row W _ 4 _ _ _ hs]; rfl
  have AB := aside hB
  have AL := aside (h.below hB)
  have AG := aside (hG.below hB)
  have AR := aside (hR.below hB)
  have hlo2 : lo ≤ W.heap.size := by have := hB.size; omega
  have hwl : w.heap.size < W.heap.size := (Array.getElem?_eq_some_iff.1 hs).1
  obtain ⟨T, hT⟩ : ∃ T, T = ba to := ⟨_, rfl⟩
  have hTs : T.size = to.length := by rw [hT, ba_size]
  have AT := aside hT
  have hto2 : to.length ≤ 1048576 := hto
  rw [← hT] at c4 hW ⊢
  clear h hG hR hs hB hT hto
  obtain ⟨N, hN⟩ : ∃ N, N = ba nm := ⟨_, rfl⟩
  rw [← hN] at hW ⊢
  clear hN
  go_enter Tryz.func28, Tryz.ntmps28
  obtain rfl : k = 2 := hk
  have q0 : ((2 : Int) == 0) = false := rfl
  have q1 : ((2 : Int) == 1) = false := rfl
  by_cases ht0 : to = []
  · obtain rfl : T = ⟨#[]⟩ := by rw [AT.out, ht0]; rfl
    go_wp2_with fail
    rw [← hW]
    clear hW
    refine (link_none W).mono ?_
    rintro e w1 ⟨rfl, rfl⟩
    go_wp2_with fail
    refine (rLink_none _).mono ?_
    rintro e w2 ⟨rfl, rfl⟩
    go_wp2_with fail
    go_ret3
    exact ⟨AB.out, _, _, false, rfl, fun e => by cases e⟩
  · by_cases ht1 : to.length ≤ 4096
    · have hp : 0 < T.size := by rw [hTs]; exact List.length_pos_iff.2 ht0
      have hT0 : T.toList ≠ [] := by rw [AT.out, Lib.toList_data, ba_list]; exact ht0
      go_wp2_with fail
      rw [← hW]
      clear hW
      refine (link_new T W (by omega) hp).mono ?_
      rintro e w1 ⟨nb, lb, rfl, h1, h2, hK, b1⟩
      have A1 := aside b1
      have AK := aside hK
      have c4' : w1.cell? ⟨w.heap.size, 4, none⟩ = some (.string T) := (b1.cell (p := ⟨w.heap.size, 4, none⟩) hwl).trans c4
      clear b1 hK
      go_wp2_with fail
      refine (rLink_any w1 T hT0 (by omega)).mono ?_
      rintro e w2 ⟨rfl, hr, b2⟩
      have AF := aside (fresh_link AG.out AR.out hlo2 ht0 ht1 h1 h2 (by rw [← AT.out]; exact AK.out) A1.out (by rw [← AT.out]; exact hr) b2)
      have A2 := aside (below_tr AB.out (below_tr A1.out b2))
      clear hr b2 hp hT0
      go_wp2_with fail
      go_ret3
      exact ⟨A2.out, _, _, true, rfl, fun _ => .inl ⟨by decide, _, AF.out, rfl, rfl⟩⟩
    · go_wp2_with fail
      rw [← hW]
      clear hW
      refine (link_long T W (by omega)).mono ?_
      rintro e w1 ⟨rfl, rfl⟩
      go_wp2_with fail
      refine (rLink_long T _ (by omega)).mono ?_
      rintro e w2 ⟨rfl, rfl⟩
      go_wp2_with fail
      go_ret3
      exact ⟨AB.out, _, _, false, rfl, fun e => by cases e⟩
end Go.Proofs.YtknjclekfmmfeaaGreatDoor
