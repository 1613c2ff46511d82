/- PackKnown: the walk. -/
import Derived.Test.YtlcglnagekmogaaWholeW
import Derived.Test.YtlcglnagekmogaaAsk
namespace Go.Proofs.Ytlcglnagekmogaa
open Go.RowKit
attribute [local simp] lcells_nil readB_length bcells_length
set_option maxRecDepth 20000

theorem known1 : pkB [] = [0, 0, 0, 0] ∧ pkE [] = 0 := by
  refine ⟨?_, rfl⟩
  unfold pkB pck
  rw [if_neg (by decide), pks_end (by decide)]
  show [0, 0, 0, 0] ++ runs [] = _
  rw [runs_nil]
  rfl
theorem known2 : pkB [97, 98, 99, 97, 98, 99, 97, 98, 99] = [0, 0, 0, 9, 2, 97, 98, 99, 131, 3] ∧ pkE [97, 98, 99, 97, 98, 99, 97, 98, 99] = 0 := by
  refine ⟨?_, rfl⟩
  have e1 : pks [97, 98, 99, 97, 98, 99, 97, 98, 99] 0 0 = [2, 97, 98, 99, 131, 3] := by
    rw [pks_on (by decide) (by decide), pks_on (by decide) (by decide), pks_on (by decide) (by decide), pks_match (by decide) (by decide)]
    have m1 : mtc [97, 98, 99, 97, 98, 99, 97, 98, 99] (0 + 1 + 1 + 1) = (6, 3) := by decide
    rw [m1, pks_end (by decide)]
    show runs [97, 98, 99] ++ (131 :: 3 :: runs []) = _
    rw [runs_nil, runs_short (by decide) (by decide)]
    rfl
  unfold pkB pck
  rw [if_neg (by decide), e1]
  rfl
theorem known3 : unp [0, 1, 0, 1] = .long := by
  unfold unp
  rw [if_neg (by decide), if_pos (by decide)]
theorem unp_pack {l : List UInt8} (h1 : ¬ l.length < 4) (h2 : ¬ 65536 < hd l) (h3 : unpk (hd l) [] (l.drop 4) = none) : unp l = .pack := by
  unfold unp
  rw [if_neg h1, if_neg h2, h3]
theorem bad0 : unp [0, 0, 0, 1, 0] = .pack := unp_pack (by decide) (by decide) (by
  show unpk 1 [] [0] = _
  rw [unpk_run _ _ _ _ (by decide), if_pos (by decide)])
theorem bad1 : unp [0, 0, 0, 4, 0, 97, 128, 0] = .pack := unp_pack (by decide) (by decide) (by
  show unpk 4 [] [0, 97, 128, 0] = _
  rw [unpk_run _ _ _ _ (by decide), if_neg (by decide)]
  show unpk 4 [97] [128, 0] = _
  rw [unpk_mat _ _ _ _ _ (by decide), if_pos (by decide)])
theorem bad2 : unp [0, 0, 0, 4, 0, 97, 128, 2] = .pack := unp_pack (by decide) (by decide) (by
  show unpk 4 [] [0, 97, 128, 2] = _
  rw [unpk_run _ _ _ _ (by decide), if_neg (by decide)]
  show unpk 4 [97] [128, 2] = _
  rw [unpk_mat _ _ _ _ _ (by decide), if_pos (by decide)])
theorem bad3 : unp [0, 0, 0, 3, 0, 97, 128, 1] = .pack := unp_pack (by decide) (by decide) (by
  show unpk 3 [] [0, 97, 128, 1] = _
  rw [unpk_run _ _ _ _ (by decide), if_neg (by decide)]
  show unpk 3 [97] [128, 1] = _
  rw [unpk_mat _ _ _ _ _ (by decide), if_pos (by decide)])
theorem bad4 : unp [0, 0, 0, 0, 0, 97] = .pack := unp_pack (by decide) (by decide) (by
  show unpk 0 [] [0, 97] = _
  rw [unpk_run _ _ _ _ (by decide), if_pos (by decide)])

/-- make([]byte, n), the bytes under a letter. -/
theorem make_some (n : Nat) (hn : n ≤ 4194305) : ∃ Z : List UInt8, Z.length = n ∧ ∀ w : World, (Instr.makeSlice 22 (.int .i64 (n : Int)) (.int .i64 (n : Int))).run Try.prog w = .ok (.slice (some ⟨w.heap.size, 0, none⟩) n n) (w.alloc (.cells (bcells Z).toArray 5)) :=
  ⟨List.replicate n 0, List.length_replicate, fun w => make_bytes w n hn⟩

set_option maxHeartbeats 1000000 in
theorem packNil_any (w : World) : Calls Try.prog 17 #[.pointer none] w fun e w' => e = .returned (.tuple #[.pointer none, .int .i64 1]) ∧ w' = w := by
  go_enter Try.func17, Try.ntmps17
  go_wp2_with fail
  refine (file_nil w).mono ?_
  rintro e w' ⟨rfl, rfl⟩
  go_wp2_with fail
  go_ret2
  exact ⟨rfl, rfl⟩

set_option maxHeartbeats 8000000 in
theorem packKnown_walk (w : World) : Calls Try.prog 8 #[] w fun e w' => e = .returned (.bool true) ∧ Below w.heap.size w w' := by
  have hcv := fun (w : World) (C : Array Value) (n c : Nat) => Lib.run_convert_bytes_const (P := Try.prog) w 22 5 C n c Try.underlying22 Try.underlying5
  obtain ⟨Z1, hZ1, mk1⟩ := make_some 65537 (by decide)
  obtain ⟨Z2, hZ2, mk2⟩ := make_some 65536 (by decide)
  have mk4 : ∀ w : World, (Instr.makeSlice 22 (.int .i64 4) (.int .i64 4)).run Try.prog w = .ok (.slice (some ⟨w.heap.size, 0, none⟩) 4 4) (w.alloc (.cells (bcells [0, 0, 0, 0]).toArray 5)) := fun w => make_bytes w 4 (by decide)
  rw [show ((65537 : Nat) : Int) = 65537 from rfl] at mk1
  rw [show ((65536 : Nat) : Int) = 65536 from rfl] at mk2
  have P1 := aside (pack_any none [] 0 w (fun h => absurd rfl h) (by decide) (by decide))
  go_enter Try.func8, Try.ntmps8
  go_wp2_with fail
  refine P1.out.mono ?_
  rintro e w1 ⟨⟨a1, rfl, h1⟩, hb1⟩
  simp only [known1.1, known1.2] at h1 ⊢
  have hA := below_al w1 (.cells (bcells [97, 98, 99, 97, 98, 99, 97, 98, 99]).toArray 5 (9, 10))
  have P2 := aside (pack_any (some ⟨w1.heap.size, 0, none⟩) [97, 98, 99, 97, 98, 99, 97, 98, 99] 9 (w1.alloc (.cells (bcells [97, 98, 99, 97, 98, 99, 97, 98, 99]).toArray 5 (9, 10))) (bs_row (heap_new w1 _)) (by decide) (by decide))
  have HB1 := aside (below_tr hb1 hA)
  have HX1 := aside (h1.below hA)
  clear h1 hb1 hA P1
  go_wp2_with fail
  refine P2.out.mono ?_
  rintro e w2 ⟨⟨a2, rfl, h2⟩, hb2⟩
  simp only [known2.1, known2.2] at h2 ⊢
  have hA := below_al w2 (.cells (bcells Z1).toArray 5)
  have P3 := aside (pack_any (some ⟨w2.heap.size, 0, none⟩) Z1 65537 (w2.alloc (.cells (bcells Z1).toArray 5)) (bs_row (heap_new w2 _)) (by rw [hZ1]; exact Nat.le_refl _) (by decide))
  have e3 : pkB Z1 = [] ∧ pkE Z1 = 3 := by unfold pkB pkE; rw [hZ1]; exact ⟨rfl, rfl⟩
  unfold PkR at P3
  rw [e3.1, e3.2, hZ1] at P3
  have HB2 := aside (below_tr (below_tr HB1.out hb2) hA)
  have HX2 := aside ((HX1.out.below hb2).below hA)
  have HY2 := aside (h2.below hA)
  clear h2 hb2 hA P2 e3 HX1
  go_wp2_with fail
  refine P3.out.mono ?_
  rintro e w3 ⟨⟨a3, rfl, h3⟩, hb3⟩
  have hA := below_al w3 (.cells (bcells Z2).toArray 5)
  have P4 := aside (pack_any (some ⟨w3.heap.size, 0, none⟩) Z2 65536 (w3.alloc (.cells (bcells Z2).toArray 5)) (bs_row (heap_new w3 _)) (by rw [hZ2]; exact Nat.le_refl _) (by decide))
  have e4 : pkB Z2 = pck Z2 ∧ pkE Z2 = 0 := by unfold pkB pkE; rw [hZ2]; exact ⟨rfl, rfl⟩
  have e5 := unp_pck (b := Z2) (by rw [hZ2]; exact Nat.le_refl _)
  have e6 := pck_length Z2
  rw [hZ2] at e6
  unfold PkR at P4
  rw [e4.1, e4.2, hZ2] at P4
  generalize pck Z2 = PZ at *
  have HB3 := aside (below_tr (below_tr HB2.out hb3) hA)
  have HX3 := aside ((HX2.out.below hb3).below hA)
  have HY3 := aside ((HY2.out.below hb3).below hA)
  clear h3 hb3 hA P3 e4 HX2 HY2
  go_wp2_with fail
  refine P4.out.mono ?_
  rintro e w4 ⟨⟨a4, rfl, h4⟩, hb4⟩
  have P5 := aside (unpack_any a4 PZ PZ.length w4 h4.bs (Nat.le_refl _) (by omega))
  unfold UnR at P5
  rw [e5] at P5
  simp only [Un.ok, hZ2] at P5
  have HB4 := aside (below_tr HB3.out hb4)
  have HX4 := aside (HX3.out.below hb4)
  have HY4 := aside (HY3.out.below hb4)
  clear h4 hb4 P4 e5 e6 HX3 HY3
  go_wp2_with fail
  refine P5.out.mono ?_
  rintro e w5 ⟨⟨a5, rfl, h5⟩, hb5⟩
  have hA := below_al w5 (.cells (bcells [0, 1, 0, 1]).toArray 5)
  have P6 := aside (unpack_any (some ⟨w5.heap.size, 0, none⟩) [0, 1, 0, 1] 4 (w5.alloc (.cells (bcells [0, 1, 0, 1]).toArray 5)) (bs_row (heap_new w5 _)) (by decide) (by decide))
  have HB5 := aside (below_tr (below_tr HB4.out hb5) hA)
  have HX5 := aside ((HX4.out.below hb5).below hA)
  have HY5 := aside ((HY4.out.below hb5).below hA)
  clear h5 hb5 hA P5 HX4 HY4
  go_wp2_with fail
  refine P6.out.mono ?_
  rintro e W6 ⟨⟨a6, rfl, h6⟩, hb6⟩
  simp only [known3, Un.long] at h6 ⊢
  have HB6 := aside (below_tr HB5.out hb6)
  have HX6 := aside (HX5.out.below hb6)
  have HY6 := aside (HY5.out.below hb6)
  clear h6 hb6 P6 HX5 HY5
  have hA0 := below_al (W6) (.cells (bcells [0, 0, 0, 1, 0]).toArray 5)
  have hA1 := below_al ((W6).alloc (.cells (bcells [0, 0, 0, 1, 0]).toArray 5)) (.cells (bcells [0, 0, 0, 4, 0, 97, 128, 0]).toArray 5)
  have hA2 := below_al (((W6).alloc (.cells (bcells [0, 0, 0, 1, 0]).toArray 5)).alloc (.cells (bcells [0, 0, 0, 4, 0, 97, 128, 0]).toArray 5)) (.cells (bcells [0, 0, 0, 4, 0, 97, 128, 2]).toArray 5)
  have hA3 := below_al ((((W6).alloc (.cells (bcells [0, 0, 0, 1, 0]).toArray 5)).alloc (.cells (bcells [0, 0, 0, 4, 0, 97, 128, 0]).toArray 5)).alloc (.cells (bcells [0, 0, 0, 4, 0, 97, 128, 2]).toArray 5)) (.cells (bcells [0, 0, 0, 3, 0, 97, 128, 1]).toArray 5)
  have hA4 := below_al (((((W6).alloc (.cells (bcells [0, 0, 0, 1, 0]).toArray 5)).alloc (.cells (bcells [0, 0, 0, 4, 0, 97, 128, 0]).toArray 5)).alloc (.cells (bcells [0, 0, 0, 4, 0, 97, 128, 2]).toArray 5)).alloc (.cells (bcells [0, 0, 0, 3, 0, 97, 128, 1]).toArray 5)) (.cells (bcells [0, 0, 0, 0, 0, 97]).toArray 5)
  have HQ0 : Aside (BsAt ((((((W6).alloc (.cells (bcells [0, 0, 0, 1, 0]).toArray 5)).alloc (.cells (bcells [0, 0, 0, 4, 0, 97, 128, 0]).toArray 5)).alloc (.cells (bcells [0, 0, 0, 4, 0, 97, 128, 2]).toArray 5)).alloc (.cells (bcells [0, 0, 0, 3, 0, 97, 128, 1]).toArray 5)).alloc (.cells (bcells [0, 0, 0, 0, 0, 97]).toArray 5)) (some ⟨W6.heap.size, 0, none⟩) [0, 0, 0, 1, 0]) := by
    have := BsAt.below (BsAt.below (BsAt.below (BsAt.below (bs_row (l := [0, 0, 0, 1, 0]) (fr := (0, 0)) (heap_new (W6) _)) hA1) hA2) hA3) hA4
    exact aside (by simpa only [World.size_alloc] using this)
  have HQ1 : Aside (BsAt ((((((W6).alloc (.cells (bcells [0, 0, 0, 1, 0]).toArray 5)).alloc (.cells (bcells [0, 0, 0, 4, 0, 97, 128, 0]).toArray 5)).alloc (.cells (bcells [0, 0, 0, 4, 0, 97, 128, 2]).toArray 5)).alloc (.cells (bcells [0, 0, 0, 3, 0, 97, 128, 1]).toArray 5)).alloc (.cells (bcells [0, 0, 0, 0, 0, 97]).toArray 5)) (some ⟨W6.heap.size + 1, 0, none⟩) [0, 0, 0, 4, 0, 97, 128, 0]) := by
    have := BsAt.below (BsAt.below (BsAt.below (bs_row (l := [0, 0, 0, 4, 0, 97, 128, 0]) (fr := (0, 0)) (heap_new ((W6).alloc (.cells (bcells [0, 0, 0, 1, 0]).toArray 5)) _)) hA2) hA3) hA4
    exact aside (by simpa only [World.size_alloc] using this)
  have HQ2 : Aside (BsAt ((((((W6).alloc (.cells (bcells [0, 0, 0, 1, 0]).toArray 5)).alloc (.cells (bcells [0, 0, 0, 4, 0, 97, 128, 0]).toArray 5)).alloc (.cells (bcells [0, 0, 0, 4, 0, 97, 128, 2]).toArray 5)).alloc (.cells (bcells [0, 0, 0, 3, 0, 97, 128, 1]).toArray 5)).alloc (.cells (bcells [0, 0, 0, 0, 0, 97]).toArray 5)) (some ⟨W6.heap.size + 2, 0, none⟩) [0, 0, 0, 4, 0, 97, 128, 2]) := by
    have := BsAt.below (BsAt.below (bs_row (l := [0, 0, 0, 4, 0, 97, 128, 2]) (fr := (0, 0)) (heap_new (((W6).alloc (.cells (bcells [0, 0, 0, 1, 0]).toArray 5)).alloc (.cells (bcells [0, 0, 0, 4, 0, 97, 128, 0]).toArray 5)) _)) hA3) hA4
    exact aside (by simpa only [World.size_alloc] using this)
  have HQ3 : Aside (BsAt ((((((W6).alloc (.cells (bcells [0, 0, 0, 1, 0]).toArray 5)).alloc (.cells (bcells [0, 0, 0, 4, 0, 97, 128, 0]).toArray 5)).alloc (.cells (bcells [0, 0, 0, 4, 0, 97, 128, 2]).toArray 5)).alloc (.cells (bcells [0, 0, 0, 3, 0, 97, 128, 1]).toArray 5)).alloc (.cells (bcells [0, 0, 0, 0, 0, 97]).toArray 5)) (some ⟨W6.heap.size + 3, 0, none⟩) [0, 0, 0, 3, 0, 97, 128, 1]) := by
    have := BsAt.below (bs_row (l := [0, 0, 0, 3, 0, 97, 128, 1]) (fr := (0, 0)) (heap_new ((((W6).alloc (.cells (bcells [0, 0, 0, 1, 0]).toArray 5)).alloc (.cells (bcells [0, 0, 0, 4, 0, 97, 128, 0]).toArray 5)).alloc (.cells (bcells [0, 0, 0, 4, 0, 97, 128, 2]).toArray 5)) _)) hA4
    exact aside (by simpa only [World.size_alloc] using this)
  have HQ4 : Aside (BsAt ((((((W6).alloc (.cells (bcells [0, 0, 0, 1, 0]).toArray 5)).alloc (.cells (bcells [0, 0, 0, 4, 0, 97, 128, 0]).toArray 5)).alloc (.cells (bcells [0, 0, 0, 4, 0, 97, 128, 2]).toArray 5)).alloc (.cells (bcells [0, 0, 0, 3, 0, 97, 128, 1]).toArray 5)).alloc (.cells (bcells [0, 0, 0, 0, 0, 97]).toArray 5)) (some ⟨W6.heap.size + 4, 0, none⟩) [0, 0, 0, 0, 0, 97]) := by
    have := bs_row (l := [0, 0, 0, 0, 0, 97]) (fr := (0, 0)) (heap_new (((((W6).alloc (.cells (bcells [0, 0, 0, 1, 0]).toArray 5)).alloc (.cells (bcells [0, 0, 0, 4, 0, 97, 128, 0]).toArray 5)).alloc (.cells (bcells [0, 0, 0, 4, 0, 97, 128, 2]).toArray 5)).alloc (.cells (bcells [0, 0, 0, 3, 0, 97, 128, 1]).toArray 5)) _)
    exact aside (by simpa only [World.size_alloc] using this)
  have HC6 := aside (below_tr (below_tr (below_tr (below_tr (hA0) hA1) hA2) hA3) hA4)
  clear hA0 hA1 hA2 hA3 hA4
  have hix0 : ∀ W, (Instr.index 53 (.agg #[.slice (some ⟨W6.heap.size, 0, none⟩) 5 5, .slice (some ⟨W6.heap.size + 1, 0, none⟩) 8 8, .slice (some ⟨W6.heap.size + 2, 0, none⟩) 8 8, .slice (some ⟨W6.heap.size + 3, 0, none⟩) 8 8, .slice (some ⟨W6.heap.size + 4, 0, none⟩) 6 6]) (.int .i64 0)).run Try.prog W = .ok (.slice (some ⟨W6.heap.size, 0, none⟩) 5 5) W := fun W => by kernel_rfl
  have hix1 : ∀ W, (Instr.index 53 (.agg #[.slice (some ⟨W6.heap.size, 0, none⟩) 5 5, .slice (some ⟨W6.heap.size + 1, 0, none⟩) 8 8, .slice (some ⟨W6.heap.size + 2, 0, none⟩) 8 8, .slice (some ⟨W6.heap.size + 3, 0, none⟩) 8 8, .slice (some ⟨W6.heap.size + 4, 0, none⟩) 6 6]) (.int .i64 1)).run Try.prog W = .ok (.slice (some ⟨W6.heap.size + 1, 0, none⟩) 8 8) W := fun W => by kernel_rfl
  have hix2 : ∀ W, (Instr.index 53 (.agg #[.slice (some ⟨W6.heap.size, 0, none⟩) 5 5, .slice (some ⟨W6.heap.size + 1, 0, none⟩) 8 8, .slice (some ⟨W6.heap.size + 2, 0, none⟩) 8 8, .slice (some ⟨W6.heap.size + 3, 0, none⟩) 8 8, .slice (some ⟨W6.heap.size + 4, 0, none⟩) 6 6]) (.int .i64 2)).run Try.prog W = .ok (.slice (some ⟨W6.heap.size + 2, 0, none⟩) 8 8) W := fun W => by kernel_rfl
  have hix3 : ∀ W, (Instr.index 53 (.agg #[.slice (some ⟨W6.heap.size, 0, none⟩) 5 5, .slice (some ⟨W6.heap.size + 1, 0, none⟩) 8 8, .slice (some ⟨W6.heap.size + 2, 0, none⟩) 8 8, .slice (some ⟨W6.heap.size + 3, 0, none⟩) 8 8, .slice (some ⟨W6.heap.size + 4, 0, none⟩) 6 6]) (.int .i64 3)).run Try.prog W = .ok (.slice (some ⟨W6.heap.size + 3, 0, none⟩) 8 8) W := fun W => by kernel_rfl
  have hix4 : ∀ W, (Instr.index 53 (.agg #[.slice (some ⟨W6.heap.size, 0, none⟩) 5 5, .slice (some ⟨W6.heap.size + 1, 0, none⟩) 8 8, .slice (some ⟨W6.heap.size + 2, 0, none⟩) 8 8, .slice (some ⟨W6.heap.size + 3, 0, none⟩) 8 8, .slice (some ⟨W6.heap.size + 4, 0, none⟩) 6 6]) (.int .i64 4)).run Try.prog W = .ok (.slice (some ⟨W6.heap.size + 4, 0, none⟩) 6 6) W := fun W => by kernel_rfl
  obtain ⟨V, hV⟩ : ∃ V, V = (((((W6).alloc (.cells (bcells [0, 0, 0, 1, 0]).toArray 5)).alloc (.cells (bcells [0, 0, 0, 4, 0, 97, 128, 0]).toArray 5)).alloc (.cells (bcells [0, 0, 0, 4, 0, 97, 128, 2]).toArray 5)).alloc (.cells (bcells [0, 0, 0, 3, 0, 97, 128, 1]).toArray 5)).alloc (.cells (bcells [0, 0, 0, 0, 0, 97]).toArray 5) := ⟨_, rfl⟩
  rw [← hV] at HQ0 HQ1 HQ2 HQ3 HQ4 HC6
  have HV := aside hV
  clear hV
  go_wp2_with fail
  go_loopw [13, 56] (fun s13 s56 wr => ∃ k : Nat, k ≤ 5 ∧ s13 = .int .i64 (k : Int) ∧ s56 = .int .i64 (k : Int) ∧ Aside (Below V.heap.size V wr)) (fun _ s56 _ => 5 - (intOf s56).toNat)
  case atStart => exact ⟨0, by decide, rfl, rfl, aside (by rw [HV.out]; exact Below.refl _ _)⟩
  case round =>
    obtain ⟨k, hk, rfl, rfl, hB⟩ := hrel
    rcases (by omega : k = 0 ∨ k = 1 ∨ k = 2 ∨ k = 3 ∨ k = 4 ∨ k = 5) with rfl | rfl | rfl | rfl | rfl | rfl
    · have P7 := aside (unpack_any (some ⟨W6.heap.size, 0, none⟩) [0, 0, 0, 1, 0] 5 wr (HQ0.out.below hB.out) (by decide) (by decide))
      go_wp2_with fail
      refine P7.out.mono ?_
      rintro e w7 ⟨⟨a7, rfl, h7⟩, hb7⟩
      simp only [bad0, Un.pack] at h7 ⊢
      have HB7 := aside (below_tr hB.out hb7)
      clear h7 hb7 P7
      go_wp2_with fail
      go_roundw
      case rel => exact ⟨1, by decide, by go_num, by go_num, HB7⟩
      case measure => simp [intOf]
    · have P7 := aside (unpack_any (some ⟨W6.heap.size + 1, 0, none⟩) [0, 0, 0, 4, 0, 97, 128, 0] 8 wr (HQ1.out.below hB.out) (by decide) (by decide))
      go_wp2_with fail
      refine P7.out.mono ?_
      rintro e w7 ⟨⟨a7, rfl, h7⟩, hb7⟩
      simp only [bad1, Un.pack] at h7 ⊢
      have HB7 := aside (below_tr hB.out hb7)
      clear h7 hb7 P7
      go_wp2_with fail
      go_roundw
      case rel => exact ⟨2, by decide, by go_num, by go_num, HB7⟩
      case measure => simp [intOf]
    · have P7 := aside (unpack_any (some ⟨W6.heap.size + 2, 0, none⟩) [0, 0, 0, 4, 0, 97, 128, 2] 8 wr (HQ2.out.below hB.out) (by decide) (by decide))
      go_wp2_with fail
      refine P7.out.mono ?_
      rintro e w7 ⟨⟨a7, rfl, h7⟩, hb7⟩
      simp only [bad2, Un.pack] at h7 ⊢
      have HB7 := aside (below_tr hB.out hb7)
      clear h7 hb7 P7
      go_wp2_with fail
      go_roundw
      case rel => exact ⟨3, by decide, by go_num, by go_num, HB7⟩
      case measure => simp [intOf]
    · have P7 := aside (unpack_any (some ⟨W6.heap.size + 3, 0, none⟩) [0, 0, 0, 3, 0, 97, 128, 1] 8 wr (HQ3.out.below hB.out) (by decide) (by decide))
      go_wp2_with fail
      refine P7.out.mono ?_
      rintro e w7 ⟨⟨a7, rfl, h7⟩, hb7⟩
      simp only [bad3, Un.pack] at h7 ⊢
      have HB7 := aside (below_tr hB.out hb7)
      clear h7 hb7 P7
      go_wp2_with fail
      go_roundw
      case rel => exact ⟨4, by decide, by go_num, by go_num, HB7⟩
      case measure => simp [intOf]
    · have P7 := aside (unpack_any (some ⟨W6.heap.size + 4, 0, none⟩) [0, 0, 0, 0, 0, 97] 6 wr (HQ4.out.below hB.out) (by decide) (by decide))
      go_wp2_with fail
      refine P7.out.mono ?_
      rintro e w7 ⟨⟨a7, rfl, h7⟩, hb7⟩
      simp only [bad4, Un.pack] at h7 ⊢
      have HB7 := aside (below_tr hB.out hb7)
      clear h7 hb7 P7
      go_wp2_with fail
      go_roundw
      case rel => exact ⟨5, by decide, by go_num, by go_num, HB7⟩
      case measure => simp [intOf]
    · have HX7 := aside ((HX6.out.below HC6.out).below hB.out)
      have HY7 := aside ((HY6.out.below HC6.out).below hB.out)
      have HB7 := aside (below_tr (below_tr HB6.out HC6.out) hB.out)
      have PN := aside (packNil_any wr)
      have hA7 := below_al wr (.cells (bcells [0, 0, 0, 0]).toArray 5)
      have E1 := aside (equal_same a1 (some ⟨wr.heap.size, 0, none⟩) [0, 0, 0, 0] 4 4 (wr.alloc (.cells (bcells [0, 0, 0, 0]).toArray 5)) (HX7.out.below hA7).bs (bs_row (heap_new wr _)))
      have hA8 := below_al (wr.alloc (.cells (bcells [0, 0, 0, 0]).toArray 5)) (.cells (bcells [0, 0, 0, 9, 2, 97, 98, 99, 131, 3]).toArray 5)
      have E2 := aside (equal_same a2 (some ⟨wr.heap.size + 1, 0, none⟩) [0, 0, 0, 9, 2, 97, 98, 99, 131, 3] 10 10 ((wr.alloc (.cells (bcells [0, 0, 0, 0]).toArray 5)).alloc (.cells (bcells [0, 0, 0, 9, 2, 97, 98, 99, 131, 3]).toArray 5)) ((HY7.out.below hA7).below hA8).bs (by
        have := bs_row (l := [0, 0, 0, 9, 2, 97, 98, 99, 131, 3]) (heap_new (wr.alloc (.cells (bcells [0, 0, 0, 0]).toArray 5)) (.cells (bcells [0, 0, 0, 9, 2, 97, 98, 99, 131, 3]).toArray 5))
        simpa only [World.size_alloc] using this))
      have WK := aside (works_any ((wr.alloc (.cells (bcells [0, 0, 0, 0]).toArray 5)).alloc (.cells (bcells [0, 0, 0, 9, 2, 97, 98, 99, 131, 3]).toArray 5)))
      have HB8 := aside (below_tr (below_tr HB7.out hA7) hA8)
      clear hA7 hA8 mk1 mk2
      go_wp2_with fail
      refine PN.out.mono ?_
      rintro e w8 ⟨rfl, rfl⟩
      go_wp2_with fail
      refine E1.out.mono ?_
      rintro e w9 ⟨rfl, rfl⟩
      go_wp2_with fail
      refine E2.out.mono ?_
      rintro e w10 ⟨rfl, rfl⟩
      go_wp2_with fail
      refine WK.out.mono ?_
      rintro e w11 ⟨rfl, hb11⟩
      have HB11 := aside (below_tr HB8.out hb11)
      clear hb11
      go_wp2_with fail
      go_ret
      exact ⟨rfl, HB11.out⟩
end Go.Proofs.Ytlcglnagekmogaa
