/- made, kind E. -/
import Derived.Test.YtknjclekfmmfeaaGreatDoorQLwc
namespace Go.Proofs.YtknjclekfmmfeaaGreatDoor
open Go.RowKit Go.ChangeMaps

set_option maxRecDepth 20000 in
set_option maxHeartbeats 8000000 in
theorem madeE {w : World} {lo wb : Nat} {S : List Ne} (h : LW w lo wb S) (hG : GX lo w S) (hR : RX lo w S) (hlo : lo ≤ w.heap.size) (hS : S.length ≤ 1000000) {e0 : Ne} (h0 : S[0]? = some e0) (h0k : e0.k = 1) (s : Spx) (hto : s.to.length ≤ 1048576) (hk : s.k ≠ 0 ∧ s.k ≠ 1 ∧ s.k ≠ 2 ∧ s.k ≠ 3 ∧ s.k ≠ 4 ∧ s.k ≠ 5) :
    Calls Tryz.prog 28 #[Pt wb, s.val] w fun r w' => MadeP lo S s.k w r w' := by
  have _u := And.intro hS (And.intro h0 h0k)
  clear _u
  obtain ⟨si, so, nm, k, to⟩ := s
  show Calls Tryz.prog 28 #[Pt wb, .agg #[.int .i64 si, .int .i64 so, .string (ba nm), .int .i8 k, .string (ba to)]] w fun r w' => MadeP lo S k w r w'
  obtain ⟨W, hW⟩ : ∃ W, W = w.alloc (.cells #[.int .i64 si, .int .i64 so, .string (ba nm), .int .i8 k, .string (ba to)] 55) := ⟨_, rfl⟩
  have hB : Below w.heap.size w W := by rw [hW]; exact below_al w _
  have hs : W.heap[w.heap.size]? = some (.cells #[.int .i64 si, .int .i64 so, .string (ba nm), .int .i8 k, .string (ba to)] 55 (0, 0)) := by rw [hW]; exact heap_alloc_new w _
  have c1 : W.cell? ⟨w.heap.size, 1, none⟩ = some (.int .i64 so) := by rw [cell_of_row W _ 1 _ _ _ hs]; rfl
  have c3 : W.cell? ⟨w.heap.size, 3, none⟩ = some (.int .i8 k) := by rw [cell_of_row W _ 3 _ _ _ hs]; rfl
  have c4 : W.cell? ⟨w.heap.size, 4, none⟩ = some (.string (ba to)) := by rw [cell_of_row W _ 4 _ _ _ hs]; rfl
  have AB := aside hB
  have AL := aside (h.below hB)
  have AG := aside (hG.below hB)
  have AR := aside (hR.below hB)
  have hlo2 : lo ≤ W.heap.size := by have := hB.size; omega
  have hwl : w.heap.size < W.heap.size := (Array.getElem?_eq_some_iff.1 hs).1
  obtain ⟨T, hT⟩ : ∃ T, T = ba to := ⟨_, rfl⟩
  have hTs : T.size = to.length := by rw [hT, ba_size]
  have AT := aside hT
  have hto2 : to.length ≤ 1048576 := hto
  rw [← hT] at c4 hW ⊢
  clear h hG hR hs hB hT hto
  obtain ⟨N, hN⟩ : ∃ N, N = ba nm := ⟨_, rfl⟩
  rw [← hN] at hW ⊢
  clear hN
  go_enter Tryz.func28, Tryz.ntmps28
  obtain ⟨k0, k1, k2, k3, k4, k5⟩ := hk
  have q0 : (k == 0) = false := beq_eq_false_iff_ne.2 k0
  have q1 : (k == 1) = false := beq_eq_false_iff_ne.2 k1
  have q2 : (k == 2) = false := beq_eq_false_iff_ne.2 k2
  have q3 : (k == 3) = false := beq_eq_false_iff_ne.2 k3
  have q4 : (k == 4) = false := beq_eq_false_iff_ne.2 k4
  have q5 : (k == 5) = false := beq_eq_false_iff_ne.2 k5
  go_wp2_with fail
  rw [← hW]
  clear hW
  go_ret3
  exact ⟨AB.out, _, _, false, rfl, fun e => by cases e⟩
end Go.Proofs.YtknjclekfmmfeaaGreatDoor
