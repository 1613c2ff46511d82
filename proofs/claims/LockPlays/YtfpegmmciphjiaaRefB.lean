/- The document's own meets, May, refused, New. -/
import Derived.Test.YtfpegmmciphjiaaRef
namespace Go.Proofs.Ytfpegmmciphjiaa
open Go.RowKit

set_option maxHeartbeats 1000000 in
theorem rMeets_any (l : Lk) (L : List Lk) (a : Option Addr) (c : Nat) (hl : may l = true) (hL : ∀ x ∈ L, may x = true) (hn : L.length ≤ 1048576) (w : World) (hR : LsAt w a L) :
    Calls Try.prog 29 #[l.val, .slice a L.length c] w fun e w' => e = .returned (.bool (hit l L)) ∧ Below w.heap.size w w' := by
  have ML := aside (fun x hx => rMeet_any l x hl (hL x hx))
  have HR := aside hR
  rw [show l.val = .agg #[.int .i64 l.who, .int .i64 l.org, .int .i64 l.len, .bool l.sh] from rfl] at ML ⊢
  obtain ⟨nL, hnL⟩ : ∃ nL, nL = L.length := ⟨_, rfl⟩
  have HNL := aside hnL
  rw [← hnL] at hn ⊢
  clear hL hR hl hnL
  obtain ⟨W, hW⟩ : ∃ W, W = w.alloc (.cells #[.int .i64 l.who, .int .i64 l.org, .int .i64 l.len, .bool l.sh] 29) := ⟨_, rfl⟩
  have HW := aside hW
  have BW : Aside (Below w.heap.size w W) := by rw [hW]; exact below_al w _
  have BX : Aside (Bx W w.heap.size l.who l.org l.len l.sh) := by rw [hW]; exact bx_new w _ _ _ _
  clear hW
  go_enter Try.func29, Try.ntmps29
  go_wp2
  rw [← HW.out]
  go_loopg [5] nL (fun G s5 wr => ∃ k : Nat, k + G = nL ∧ s5 = .int .i64 (k : Int) ∧ Aside (hit l (L.take k) = false) ∧ Aside (Below W.heap.size W wr))
  case atStart => exact ⟨0, by omega, rfl, aside (by simp [hit]), aside (Below.refl _ _)⟩
  case round =>
    obtain ⟨k, hkG, rfl, hN, hB⟩ := hrel
    by_cases hk : k < nL
    · have t1 : (k : Int) < (nL : Int) := by omega
      obtain ⟨y, hy⟩ : ∃ y, L[k]? = some y := ⟨_, List.getElem?_eq_getElem (by have := HNL.out; omega)⟩
      obtain ⟨g, o, rfl, hrd⟩ := HR.out (fun h => by rw [h] at hy; simp at hy)
      obtain ⟨q0, q1, q2, q3⟩ := (hrd.below (below_tr BW.out hB.out)).lock hy
      have HT := aside (hit_take_succ (l := l) hy)
      have M := aside (ML.out y (List.mem_of_getElem? hy))
      rw [show y.val = .agg #[.int .i64 y.who, .int .i64 y.org, .int .i64 y.len, .bool y.sh] from rfl] at M
      have BX2 := BX.out.below hB.out
      have a0 := fun d os => (BX2.ext d os).c0
      have a1 := fun d os => (BX2.ext d os).c1
      have a2 := fun d os => (BX2.ext d os).c2
      have a3 := fun d os => (BX2.ext d os).c3
      have b0 := fun d os => ext_cell q0 d os
      have b1 := fun d os => ext_cell q1 d os
      have b2 := fun d os => ext_cell q2 d os
      have b3 := fun d os => ext_cell q3 d os
      clear hy hrd BX2 q0 q1 q2 q3
      generalize hmm : meet l y = m at *
      clear hmm
      go_wp2_with fail
      refine region_ext (by kernel_rfl) (by kernel_rfl) ?_
      repeat (any_goals (first | go_big_quiet_step ((with_reducible exact calls_ext (M.out _))) | quiet_step ((with_reducible exact calls_ext (M.out _)))))
      refine wpQuiet_nil ?_
      intro wq hwq
      have HQ := aside (below_tr hB.out hwq)
      clear hwq a0 a1 a2 a3 b0 b1 b2 b3
      cases m
      · go_wp2_with fail
        go_roundg (nL - (k + 1))
        case measure => omega
        case rel => exact ⟨k + 1, by omega, by go_num, aside (by rw [HT.out, hN.out]; rfl), HQ⟩
      · go_wp2_with fail
        go_ret
        rw [hit_of_take HT.out]
        exact ⟨rfl, below_tr BW.out HQ.out⟩
    · obtain rfl : k = nL := by omega
      have t1 : ¬ ((k : Int) < (k : Int)) := by omega
      go_wp2_with fail
      go_ret
      have hN2 := hN.out
      rw [HNL.out, List.take_length] at hN2
      rw [hN2]
      exact ⟨rfl, below_tr BW.out hB.out⟩

set_option maxHeartbeats 1000000 in
theorem rMay_any (l : Lk) (h : InR l) (w : World) : Calls Try.prog 35 #[l.val] w fun e w' => e = .returned (.bool (may l)) ∧ Below w.heap.size w w' := by
  obtain ⟨r1, r2, r3, r4, r5, r6⟩ := h
  unfold may
  obtain ⟨who, x, n, sh⟩ := l
  simp only [Lk.val] at *
  have B := aside (below_al w (.cells #[.int .i64 who, .int .i64 x, .int .i64 n, .bool sh] 29))
  by_cases h1 : 0 ≤ who
  · by_cases h2 : who < 256
    · by_cases h3 : 0 ≤ x
      · by_cases h4 : 0 ≤ n
        · by_cases h5 : x ≤ 4611686018427387904
          · have e : decide (0 ≤ who ∧ who < 256 ∧ 0 ≤ x ∧ 0 ≤ n ∧ x + n ≤ 4611686018427387904) = decide (n ≤ 4611686018427387904 - x) := decide_eq_decide.2 ⟨fun h => by omega, fun h => ⟨h1, h2, h3, h4, by omega⟩⟩
            rw [e]
            go_enter Try.func35, Try.ntmps35
            go_wp2
            go_ret
            exact ⟨rfl, B.out⟩
          · have e : decide (0 ≤ who ∧ who < 256 ∧ 0 ≤ x ∧ 0 ≤ n ∧ x + n ≤ 4611686018427387904) = false := by rw [decide_eq_false_iff_not]; omega
            rw [e]
            go_enter Try.func35, Try.ntmps35
            go_wp2
            go_ret
            exact ⟨rfl, B.out⟩
        · have e : decide (0 ≤ who ∧ who < 256 ∧ 0 ≤ x ∧ 0 ≤ n ∧ x + n ≤ 4611686018427387904) = false := by rw [decide_eq_false_iff_not]; omega
          rw [e]
          go_enter Try.func35, Try.ntmps35
          go_wp2
          go_ret
          exact ⟨rfl, B.out⟩
      · have e : decide (0 ≤ who ∧ who < 256 ∧ 0 ≤ x ∧ 0 ≤ n ∧ x + n ≤ 4611686018427387904) = false := by rw [decide_eq_false_iff_not]; omega
        rw [e]
        go_enter Try.func35, Try.ntmps35
        go_wp2
        go_ret
        exact ⟨rfl, B.out⟩
    · have e : decide (0 ≤ who ∧ who < 256 ∧ 0 ≤ x ∧ 0 ≤ n ∧ x + n ≤ 4611686018427387904) = false := by rw [decide_eq_false_iff_not]; omega
      rw [e]
      go_enter Try.func35, Try.ntmps35
      go_wp2
      go_ret
      exact ⟨rfl, B.out⟩
  · have e : decide (0 ≤ who ∧ who < 256 ∧ 0 ≤ x ∧ 0 ≤ n ∧ x + n ≤ 4611686018427387904) = false := by rw [decide_eq_false_iff_not]; omega
    rw [e]
    go_enter Try.func35, Try.ntmps35
    go_wp2
    go_ret
    exact ⟨rfl, B.out⟩

set_option maxHeartbeats 1000000 in
theorem refused_any (p : Nat) (l : Lk) (ha wa : Option Addr) (nH nW hc wc : Nat) (hl : InR l) (hn : nH + nW ≤ 1048576) (w : World)
    (hp : w.cell? ⟨p, 0, none⟩ = some (.slice ha nH hc)) (hq : w.cell? ⟨p, 1, none⟩ = some (.slice wa nW wc)) :
    Calls Try.prog 28 #[.pointer (some ⟨p, 0, none⟩), l.val] w fun e w' => e = .returned (.int .i64 (refE l (nH + nW))) ∧ Below w.heap.size w w' := by
  have M := aside (rMay_any l hl)
  unfold refE
  generalize may l = m at *
  clear hl
  obtain ⟨who, x, n, sh⟩ := l
  simp only [Lk.val] at *
  have hpl := World.block_lt_of_cell? w _ hp
  obtain ⟨W, hW⟩ : ∃ W, W = w.alloc (.cells #[.int .i64 who, .int .i64 x, .int .i64 n, .bool sh] 29) := ⟨_, rfl⟩
  have HW := aside hW
  have BW : Aside (Below w.heap.size w W) := by rw [hW]; exact below_al w _
  have BX : Aside (Bx W w.heap.size who x n sh) := by rw [hW]; exact bx_new w who x n sh
  clear hW
  have c0 := BX.out.c0
  have c1 := BX.out.c1
  have c2 := BX.out.c2
  have c3 := BX.out.c3
  rw [HW.out] at c0 c1 c2 c3
  cases m
  · go_enter Try.func28, Try.ntmps28
    go_wp2_with ((go_at_call 35; refine (M.out _).mono ?_; rintro e w2 ⟨rfl, hb2⟩; have HB2 := aside hb2; clear hb2))
    go_ret
    rw [← HW.out] at HB2
    exact ⟨by simp, below_tr BW.out HB2.out⟩
  · by_cases h6 : 256 ≤ nH + nW
    · have t1 : (256 : Int) ≤ (nH : Int) + (nW : Int) := by omega
      go_enter Try.func28, Try.ntmps28
      go_wp2_with ((go_at_call 35; refine (M.out _).mono ?_; rintro e w2 ⟨rfl, hb2⟩; have HB2 := aside hb2; clear hb2; have k0 := fun d os => ext_cell (((below_tr (below_al w _) HB2.out).cell hpl).trans hp) d os; have k1 := fun d os => ext_cell (((below_tr (below_al w _) HB2.out).cell (p := ⟨p, 1, none⟩) hpl).trans hq) d os))
      refine region_ext (by kernel_rfl) (by kernel_rfl) ?_
      repeat (any_goals (first | go_big_quiet_step ((fail)) | quiet_step ((fail))))
      refine wpQuiet_nil ?_
      intro wq hwq
      have HQ := aside hwq
      clear hwq
      go_wp2
      go_ret
      rw [← HW.out] at HB2
      exact ⟨rfl, below_tr BW.out (below_tr HB2.out HQ.out)⟩
    · obtain ⟨z, hz⟩ : ∃ z : Nat, z = nH + nW := ⟨_, rfl⟩
      have t0 : (nH : Int) + (nW : Int) = (z : Int) := by omega
      have t1 : decide ((256 : Int) ≤ (z : Int)) = false := by rw [decide_eq_false_iff_not]; omega
      have HT1 := aside t1
      have hzl : z < 1048577 := by omega
      rw [if_neg h6]
      clear hz h6 hn t1
      go_enter Try.func28, Try.ntmps28
      go_wp2_with ((go_at_call 35; refine (M.out _).mono ?_; rintro e w2 ⟨rfl, hb2⟩; have HB2 := aside hb2; clear hb2; have k0 := fun d os => ext_cell (((below_tr (below_al w _) HB2.out).cell hpl).trans hp) d os; have k1 := fun d os => ext_cell (((below_tr (below_al w _) HB2.out).cell (p := ⟨p, 1, none⟩) hpl).trans hq) d os))
      refine region_ext (by kernel_rfl) (by kernel_rfl) ?_
      repeat (any_goals (first | go_big_quiet_step ((fail)) | quiet_step ((fail))))
      refine wpQuiet_nil ?_
      intro wq hwq
      have HQ := aside hwq
      clear hwq
      rw [HT1.out]
      clear t0 hzl
      go_wp2
      go_ret
      rw [← HW.out] at HB2
      exact ⟨rfl, below_tr BW.out (below_tr HB2.out HQ.out)⟩
theorem rNew_any (w : World) : Calls Try.prog 10 #[] w fun e w' => ∃ t : Tb, e = .returned (.pointer (some ⟨t.p, 0, none⟩)) ∧ Tab 43 w' t ∧ t.H = [] ∧ t.W = [] ∧ Below w.heap.size w w' ∧ ∀ k, t.F k → w.heap.size ≤ k := by
  go_enter Try.func10, Try.ntmps10
  go_wp2
  go_ret
  refine ⟨⟨w.heap.size, .slice none 0 0, .slice none 0 0, [], []⟩, rfl, ⟨?_, own_none _, own_none _, ?_, ?_, ?_, ?_, ?_, ?_⟩, rfl, rfl, below_al w _, fun k hk => ?_⟩
  · exact heap_alloc_new w _
  · simp [Value.ownBlock]
  · simp [Value.ownBlock]
  · simp [Value.ownBlock]
  · simp
  · simp
  · simp
  · rcases hk with rfl | hk | hk
    · exact Nat.le_refl _
    · simp [Value.ownBlock] at hk
    · simp [Value.ownBlock] at hk

end Go.Proofs.Ytfpegmmciphjiaa
