/- (*Bytes).lay where no stretch is met or touched. -/
import Derived.Test.YtkekaljcbmkomaaLayS
namespace Go.Proofs.Ytkekaljcbmkomaa
open Go.RowKit
attribute [local simp] lcells_nil readB_length bcells_length
theorem own_one {w : World} {vb x : Nat} {g cap n : Nat} (h : w.heap[vb]? = some (.cells #[.int .i64 x, .slice (some ⟨g, 0, none⟩) n cap] 56 (0, 0))) : w.ownsRow 0 56 2 (.slice (some ⟨vb, 0, none⟩) 1 1) 1 [.int .i64 x, .slice (some ⟨g, 0, none⟩) n cap] :=
  ⟨rfl, .inr ⟨vb, 1, _, rfl, Nat.zero_le _, h, Nat.le_refl _, by decide, rfl, rfl⟩⟩

set_option maxHeartbeats 1000000 in
theorem lay0_any (b : Nat) (x0 x1 lv : Value) (sz : Nat) (L : List Piece) (x k : Nat) (src : Addr) (l : List UInt8) (c : Nat) (w : World) (hS : Str w b x0 x1 lv L) (hI : Inv sz L) (h0 : 0 < l.length) (hl : l.length ≤ 4194304) (hxl : x + l.length ≤ 1073741824)
    (hk1 : L.findIdx (fun d => decide ((x : Int) ≤ d.fin)) = k) (hk2 : L.findIdx (fun d => decide ((x : Int) + (l.length : Int) < d.org)) = k)
    (hsrc : ∀ j v, (bcells l)[j]? = some v → w.cell? (src.add j) = some v) :
    Calls Try.prog 36 #[.pointer (some ⟨b, 0, none⟩), .int .i64 x, .slice (some src) l.length c] w fun e w' => e = .returned (.tuple #[]) ∧ ∃ lv' g cap, Str w' b x0 x1 lv' (L.take k ++ [⟨x, g, cap, l⟩] ++ L.drop k) ∧ w.heap.size ≤ g ∧ (lv'.ownBlock = lv.ownBlock ∨ ∃ k, lv'.ownBlock = some k ∧ w.heap.size ≤ k) ∧ Upd (fun k => k = b ∨ lv.ownBlock = some k) w w' := by
  have hlen := hI.len
  have hkn : k ≤ L.length := by rw [← hk1]; exact List.findIdx_le_length
  obtain ⟨W0, hW0⟩ : ∃ W0, W0 = (w.alloc (.cells #[.int .i64 x] 2)).alloc (.cells #[.int .i64 ((x : Int) + (l.length : Int))] 2) := ⟨_, rfl⟩
  have hl2 : w.cell? ⟨b, 2, none⟩ = some lv := by rw [cell_of_row w b 2 _ _ _ hS.obj]; rfl
  obtain ⟨S1, S2, hB0, cx, -⟩ := lay_S b lv sz L x ((x : Int) + (l.length : Int)) w hI hl2 hS.row W0 hW0
  rw [hk1] at S1
  rw [hk2] at S2
  have bx : w.heap.size < W0.heap.size := World.block_lt_of_cell? W0 _ cx
  have HS1 := aside S1
  have HS2 := aside S2
  have HB0 := aside hB0
  have HS := aside hS
  have HSR := aside hsrc
  have CX := aside cx
  clear S1 S2 hB0 hS hsrc cx hI hk1 hk2
  go_enter Try.func36, Try.ntmps36
  go_wp2_with fail
  rw [← hW0]
  refine (HS1.out _ (Below.refl _ _)).mono ?_
  rintro e w1 ⟨rfl, hb1⟩
  go_wp2_with fail
  refine (HS2.out _ hb1).mono ?_
  rintro e w2 ⟨rfl, hb2⟩
  have cx2 : w2.cell? ⟨w.heap.size, 0, none⟩ = some (.int .i64 x) := ((below_tr hb1 hb2).cell bx).trans CX.out
  have HB2 := aside (below_tr HB0.out (below_tr hb1 hb2))
  clear hb1 hb2 hW0
  have bx2 : w.heap.size < w2.heap.size := World.block_lt_of_cell? w2 _ cx2
  have hft : ∀ g, w2.heap.size ≤ g → ¬ Foot b lv L g := fun g hg hf => by have := HS.out.lv_lt hf; omega
  have HFT := aside hft
  clear hft
  have tail : ∀ (w3 : World) (g cap : Nat), Below w.heap.size w w3 → w3.ownsRow 0 5 1 (.slice (some ⟨g, 0, none⟩) l.length cap) l.length (bcells l) → w2.heap.size ≤ g → w2.heap.size ≤ w3.heap.size →
      Calls Try.prog 47 #[.pointer (some ⟨b, 0, none⟩), .int .i64 k, .int .i64 k, .slice (some ⟨w3.heap.size, 0, none⟩) 1 1] (w3.alloc (.cells #[.int .i64 x, .slice (some ⟨g, 0, none⟩) l.length cap] 56)) fun e w' => e = .returned (.tuple #[]) ∧ ∃ lv', Str w' b x0 x1 lv' (L.take k ++ [⟨x, g, cap, l⟩] ++ L.drop k) ∧ (lv'.ownBlock = lv.ownBlock ∨ ∃ j, lv'.ownBlock = some j ∧ w3.heap.size + 1 ≤ j) ∧ Upd (fun k => k = b ∨ lv.ownBlock = some k) (w3.alloc (.cells #[.int .i64 x, .slice (some ⟨g, 0, none⟩) l.length cap] 56)) w' := fun w3 g cap hb3 ho3 hg3 hs3 => by
    have hfg : ¬ Foot b lv L g := HFT.out g hg3
    have h := replacePieces b x0 x1 lv (.slice (some ⟨w3.heap.size, 0, none⟩) 1 1) L [⟨x, g, cap, l⟩] k k (w3.alloc (.cells #[.int .i64 x, .slice (some ⟨g, 0, none⟩) l.length cap] 56)) (HS.out.below (below_tr hb3 (below_al w3 _))) (Nat.le_refl _) hkn hlen (by simp)
      (own_one (heap_alloc_new w3 _)) (by simp) (fun j hj => by simp only [Value.ownBlock, Option.some.injEq] at hj; exact HFT.out j (by omega))
      (fun d hd => by rw [List.mem_singleton.1 hd]; exact row_below ho3 (below_al w3 _)) (fun d hd => by rw [List.mem_singleton.1 hd]; exact ⟨fun e => hfg (.inl e), fun e => hfg (.inr (.inl e))⟩) (by simp)
      (fun d hd e he => by
        rw [List.mem_singleton.1 hd]
        intro e1
        rw [List.take_append_drop] at he
        exact hfg (.inr (.inr ⟨e, he, e1⟩)))
    simpa using h
  have HTL := aside tail
  clear tail
  go_wp2
  go_region_with (first
    | (go_at_call 26; refine (clone_any src l c _ h0 (by omega) ?_).mono ?_; (exact fun j v h => (HB2.out.cell (World.block_lt_of_cell? w _ (HSR.out j v h))).trans (HSR.out j v h)); rintro e w3 ⟨g, cap, rfl, hg3, ho3, hb3⟩; have cx3 : w3.cell? ⟨w.heap.size, 0, none⟩ = some (.int .i64 x) := (hb3.cell bx2).trans cx2; have HO3 := aside ho3; have HB3 := aside (below_tr HB2.out (below_tr (below_dr w2) hb3)); have HG3 : Aside (w2.heap.size ≤ g) := hg3; have HS3 : Aside (w2.heap.size ≤ w3.heap.size) := hb3.size; clear ho3 hb3 hg3)
    | (go_at_call 47; refine (HTL.out w3 g cap HB3.out HO3.out HG3.out HS3.out).mono ?_; rintro e w4 ⟨rfl, lv', hS4, hw4, hu4⟩))
  all_goals
    go_wp2
    refine bodyPost_ret (results_none rfl _ _ _) rfl ?_
    refine ⟨rfl, lv', g, cap, hS4, Nat.le_of_lt (Nat.lt_of_lt_of_le bx2 HG3.out), ?_, ?_⟩
    · rcases hw4 with e1 | ⟨j, e1, hj⟩
      · exact .inl e1
      · exact .inr ⟨j, e1, by have := HB3.out.size; omega⟩
    · exact (Upd.of_below (below_tr HB3.out (below_al w3 _))).trans hu4 (fun _ _ h => h)
end Go.Proofs.Ytkekaljcbmkomaa
