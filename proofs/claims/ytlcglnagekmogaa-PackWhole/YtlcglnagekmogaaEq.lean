/- bytes.Equal of the same bytes; works: a few bytes there and back. -/
import Derived.Test.YtlcglnagekmogaaPack
import Derived.Test.YtlcglnagekmogaaWakes
namespace Go.Proofs.Ytlcglnagekmogaa
open Go.RowKit
attribute [local simp] lcells_nil readB_length bcells_length
set_option maxRecDepth 20000

theorem str_all (w : World) (a : Option Addr) (l : List UInt8) (c : Nat) (h : BsAt w a l) : (convert 22 9 (.slice a l.length c)).run Try.prog w = .ok (.string ⟨l.toArray⟩) w := by
  by_cases hl : l = []
  · subst hl
    cases a with
    | none =>
      show (convert 22 9 (.slice none 0 c)).run Try.prog w = _
      rw [run_convert_bytes_string w 22 9 5 none 0 c Try.underlying22 Try.underlying5 Try.underlying9]
      rfl
    | some a => exact str_of_bytes w a [] 0 c rfl (fun j v hj => by simp [bcells] at hj)
  · obtain ⟨ad, rfl, hc⟩ := h hl
    exact str_of_bytes w ad l l.length c rfl hc

set_option maxHeartbeats 1000000 in
theorem equal_same (a b : Option Addr) (l : List UInt8) (c d : Nat) (w : World) (h1 : BsAt w a l) (h2 : BsAt w b l) : Calls Try.prog 13 #[.slice a l.length c, .slice b l.length d] w fun e w' => e = .returned (.bool true) ∧ w' = w := by
  have z1 := str_all w a l c h1
  have z2 := str_all w b l d h2
  clear h1 h2
  go_enter Try.func13, Try.ntmps13
  go_wp2_with fail
  go_ret
  exact ⟨rfl, rfl⟩

theorem works1 : pkB [97, 97, 97, 97] = [0, 0, 0, 4, 0, 97, 128, 1] ∧ pkE [97, 97, 97, 97] = 0 := by
  refine ⟨?_, rfl⟩
  have e1 : pks [97, 97, 97, 97] 0 0 = [0, 97, 128, 1] := by
    rw [pks_on (by decide) (by decide), pks_match (by decide) (by decide)]
    have m1 : mtc [97, 97, 97, 97] (0 + 1) = (3, 1) := by decide
    rw [m1, pks_end (by decide)]
    show runs [97] ++ (128 :: 1 :: runs []) = _
    rw [runs_nil, runs_short (by decide) (by decide)]
    rfl
  unfold pkB pck
  rw [if_neg (by decide), e1]
  rfl
theorem works2 : unp [0, 0, 0, 5, 1, 97, 98, 128, 2] = .ok [97, 98, 97, 98, 97] := by
  have h : unpk 5 [] [1, 97, 98, 128, 2] = some [97, 98, 97, 98, 97] := by
    rw [unpk_run _ _ _ _ (by decide), if_neg (by decide)]
    show unpk 5 [97, 98] [128, 2] = _
    rw [unpk_mat _ _ _ _ _ (by decide), if_neg (by decide), unpk_nil, if_pos (by decide)]
    rfl
  unfold unp
  rw [if_neg (by decide), if_neg (by decide)]
  show (match unpk 5 [] [1, 97, 98, 128, 2] with | some l => Un.ok l | none => .pack) = _
  rw [h]
theorem works3 : unp [0, 0, 0] = .pack := by
  unfold unp
  rw [if_pos (by decide)]

theorem bs_row {w : World} {g : Nat} {l : List UInt8} {fr : Nat × Nat} (h : w.heap[g]? = some (.cells (bcells l).toArray 5 fr)) : BsAt w (some ⟨g, 0, none⟩) l := bs_of fun j x hj => by
  rw [Nat.zero_add, cell_of_row w g j _ _ _ h]
  simp [bcells, hj]

theorem heap_new (w : World) (o : Obj) : (w.alloc o).heap[w.heap.size]? = some o := by
  show (w.heap.push o)[w.heap.size]? = _
  simp

set_option maxHeartbeats 2000000 in
theorem works_any (w : World) : Calls Try.prog 9 #[] w fun e w' => e = .returned (.bool true) ∧ Below w.heap.size w w' := by
  have hcv := fun (w : World) (C : Array Value) (n c : Nat) => Lib.run_convert_bytes_const (P := Try.prog) w 22 5 C n c Try.underlying22 Try.underlying5
  have hB1 := below_al w (.cells (bcells [97, 97, 97, 97]).toArray 5 (4, 5))
  have P1 := aside (pack_any (some ⟨w.heap.size, 0, none⟩) [97, 97, 97, 97] 4 (w.alloc (.cells (bcells [97, 97, 97, 97]).toArray 5 (4, 5))) (bs_row (heap_new w _)) (by decide) (by decide))
  have HB1 := aside hB1
  clear hB1
  go_enter Try.func9, Try.ntmps9
  go_wp2_with fail
  refine P1.out.mono ?_
  rintro e w1 ⟨⟨a1, rfl, h1⟩, hb1⟩
  simp only [works1.1, works1.2] at h1 ⊢
  have hA := below_al w1 (.cells (bcells [0, 0, 0, 5, 1, 97, 98, 128, 2]).toArray 5)
  have P2 := aside (unpack_any (some ⟨w1.heap.size, 0, none⟩) [0, 0, 0, 5, 1, 97, 98, 128, 2] 9 (w1.alloc (.cells (bcells [0, 0, 0, 5, 1, 97, 98, 128, 2]).toArray 5)) (bs_row (heap_new w1 _)) (by decide) (by decide))
  have HB2 := aside (below_tr (below_tr HB1.out hb1) hA)
  have HX1 := aside (h1.below hA)
  clear hb1 h1 hA
  go_wp2_with fail
  refine P2.out.mono ?_
  rintro e w2 ⟨⟨a2, rfl, h2⟩, hb2⟩
  simp only [works2, Un.ok] at h2 ⊢
  have hA := below_al w2 (.cells (bcells [0, 0, 0]).toArray 5)
  have P3 := aside (unpack_any (some ⟨w2.heap.size, 0, none⟩) [0, 0, 0] 3 (w2.alloc (.cells (bcells [0, 0, 0]).toArray 5)) (bs_row (heap_new w2 _)) (by decide) (by decide))
  have HB3 := aside (below_tr (below_tr HB2.out hb2) hA)
  have HX2 := aside ((HX1.out.below hb2).below hA)
  have HY2 := aside (h2.below hA)
  clear hb2 h2 hA
  go_wp2_with fail
  refine P3.out.mono ?_
  rintro e w3 ⟨⟨a3, rfl, h3⟩, hb3⟩
  simp only [works3, Un.pack] at h3 ⊢
  have hA := below_al w3 (.cells (bcells [0, 0, 0, 4, 0, 97, 128, 1]).toArray 5)
  have E1 := aside (equal_same a1 (some ⟨w3.heap.size, 0, none⟩) [0, 0, 0, 4, 0, 97, 128, 1] 8 8 (w3.alloc (.cells (bcells [0, 0, 0, 4, 0, 97, 128, 1]).toArray 5)) ((HX2.out.below hb3).below hA).bs (bs_row (heap_new w3 _)))
  have HB4 := aside (below_tr (below_tr HB3.out hb3) hA)
  obtain ⟨W4, hW4⟩ : ∃ W, W = w3.alloc (.cells (bcells [0, 0, 0, 4, 0, 97, 128, 1]).toArray 5) := ⟨_, rfl⟩
  have z1 : (convert 22 9 (.slice a2 5 5)).run Try.prog W4 = .ok (.string ⟨#[97, 98, 97, 98, 97]⟩) W4 := by rw [hW4]; exact str_all _ a2 [97, 98, 97, 98, 97] 5 ((HY2.out.below hb3).below hA).bs
  rw [← hW4] at E1 HB4
  clear hb3 h3 hA
  go_wp2_with fail
  rw [show w3.alloc (.cells #[.int .u8 0, .int .u8 0, .int .u8 0, .int .u8 4, .int .u8 0, .int .u8 97, .int .u8 128, .int .u8 1] 5) = W4 from hW4.symm]
  clear hW4
  refine E1.out.mono ?_
  rintro e w4 ⟨rfl, rfl⟩
  go_wp2_with fail
  go_ret
  exact ⟨rfl, HB4.out⟩
end Go.Proofs.Ytlcglnagekmogaa
