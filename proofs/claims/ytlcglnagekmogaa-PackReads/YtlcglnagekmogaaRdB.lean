/- Can, and Do of a size and of a read, through a handle over a file of packed bytes. -/
import Derived.Test.YtlcglnagekmogaaRdA
namespace Go.Proofs.Ytlcglnagekmogaa
open Go.RowKit
attribute [local simp] lcells_nil readB_length bcells_length

set_option maxRecDepth 20000 in
set_option maxHeartbeats 1000000 in
theorem canP_any (t : TypeId) (hb fb : Nat) (m : Addr) (w : World) (h : All0T t w hb fb m) : Calls Try.prog 22 #[.pointer (some ⟨hb, 0, none⟩)] w fun e w' => e = .returned (.int .u8 0) ∧ w' = w := by
  have c5 := h.c5
  have n1 := noW
  have n2 := noC
  have n3 := noH
  have n4 := noS
  clear h
  go_enter Try.func22, Try.ntmps22
  go_wp2_with fail
  refine (file_any hb _ w c5).mono ?_
  rintro e w' ⟨rfl, rfl⟩
  go_wp2
  go_ret
  exact ⟨rfl, rfl⟩

set_option maxRecDepth 20000 in
set_option maxHeartbeats 1000000 in
theorem doSizeP (hb fb pf : Nat) (l : List UInt8) (w : World) (h : All0T 74 w hb fb ⟨pf, 0, none⟩) (hF : PF w pf l) :
    Calls Try.prog 18 #[.pointer (some ⟨hb, 0, none⟩), .agg #[.int .i8 0, .int .i64 0, .int .i64 0, .slice none 0 0]] w fun e w' => e = .returned (.agg #[.int .i64 0, .int .i64 (l.length : Nat), .int .i64 0, .slice none 0 0]) ∧ Below w.heap.size w w' := by
  obtain ⟨W, hW⟩ : ∃ W, W = (w.alloc (.cells #[.int .i8 0, .int .i64 0, .int .i64 0, .slice none 0 0] 41)).alloc (.cells #[.int .i64 0, .int .i64 0, .int .i64 0, .slice none 0 0] 37) := ⟨_, rfl⟩
  have hB : Below w.heap.size w W := by rw [hW]; exact below_tr (below_al w _) (below_al _ _)
  have hT : W.heap[w.heap.size + 1]? = some (.cells #[.int .i64 0, .int .i64 0, .int .i64 0, .slice none 0 0] 37 (0, 0)) := by rw [hW]; exact heap_alloc2_new w _ _
  have o0 : W.cell? ⟨w.heap.size, 0, none⟩ = some (.int .i8 0) := by rw [hW]; go_simp
  have h' := h.below hB
  have hm := methP_Size W fb ⟨pf, 0, none⟩ h'.c0
  have F1 := aside (file_any hb _ W h'.c5)
  have F2 := aside (pSize_any pf l W (hF.below hB))
  have HB := aside hB
  have HT := aside hT
  clear h h' hF hB hT
  go_enter Try.func18, Try.ntmps18
  go_wp2_with fail
  rw [← hW]
  refine F1.out.mono ?_
  rintro e w' ⟨rfl, rfl⟩
  clear hW
  go_wp2_with fail
  refine F2.out.mono ?_
  rintro e w' ⟨rfl, rfl⟩
  go_wp2_with ((with_reducible refine wpList_store_row rfl 37 _ _ rfl (w.heap.size + 1) #[.int .i64 0, .int .i64 (l.length : Nat), .int .i64 0, .slice none 0 0] ?_ ?_ 37 _ HT.out ?_ ?_ ?_ ?_); kernel_rfl; kernel_rfl; kernel_rfl; kernel_rfl; kernel_rfl)
  refine bodyPost_ret (results_cell_row rfl _ _ (w.heap.size + 1) 37 _ (0, 0) _ rfl (setRow_heap w' _ _ _ _ _ HT.out) Try.underlying37 rfl (by kernel_rfl)) rfl ?_
  exact ⟨rfl, below_setRow HB.out (by omega) _⟩

set_option maxRecDepth 20000 in
set_option maxHeartbeats 2000000 in
theorem doReadP (hb fb pf : Nat) (l : List UInt8) (x n : Nat) (w : World) (h : All0T 74 w hb fb ⟨pf, 0, none⟩) (hF : PF w pf l) (hl : l.length ≤ 65536) (hx : x < l.length) (hn : n ≤ 65536) :
    Calls Try.prog 18 #[.pointer (some ⟨hb, 0, none⟩), .agg #[.int .i8 1, .int .i64 (x : Int), .int .i64 (n : Int), .slice none 0 0]] w fun e w' => ∃ a c, e = .returned (.agg #[.int .i64 0, .int .i64 0, .int .i64 0, .slice (some a) ((l.drop x).take n).length c]) ∧ BsAt w' (some a) ((l.drop x).take n) ∧ Below w.heap.size w w' := by
  obtain ⟨W, hW⟩ : ∃ W, W = (w.alloc (.cells #[.int .i8 1, .int .i64 (x : Int), .int .i64 (n : Int), .slice none 0 0] 41)).alloc (.cells #[.int .i64 0, .int .i64 0, .int .i64 0, .slice none 0 0] 37) := ⟨_, rfl⟩
  have hB : Below w.heap.size w W := by rw [hW]; exact below_tr (below_al w _) (below_al _ _)
  have hT : W.heap[w.heap.size + 1]? = some (.cells #[.int .i64 0, .int .i64 0, .int .i64 0, .slice none 0 0] 37 (0, 0)) := by rw [hW]; exact heap_alloc2_new w _ _
  have HSZ := aside (show W.heap.size = w.heap.size + 2 by rw [hW]; simp)
  have o0 : W.cell? ⟨w.heap.size, 0, none⟩ = some (.int .i8 1) := by rw [hW]; go_simp
  have o1 : W.cell? ⟨w.heap.size, 1, none⟩ = some (.int .i64 (x : Int)) := by rw [hW]; go_simp
  have o2 : W.cell? ⟨w.heap.size, 2, none⟩ = some (.int .i64 (n : Int)) := by rw [hW]; go_simp
  have h' := h.below hB
  have hm := methP_ReadAt W fb ⟨pf, 0, none⟩ h'.c0
  have F1 := aside (file_any hb _ W h'.c5)
  have F2 := aside (pRead_any pf l x n W (hF.below hB) hl hx hn)
  have hKl : ((l.drop x).take n).length ≤ 65536 := by rw [List.length_take]; omega
  have HB := aside hB
  have HT := aside hT
  generalize (l.drop x).take n = K at *
  clear h h' hF hB hT
  go_enter Try.func18, Try.ntmps18
  go_wp2_with fail
  rw [← hW]
  refine F1.out.mono ?_
  rintro e w' ⟨rfl, rfl⟩
  clear hW
  go_wp2_with fail
  refine F2.out.mono ?_
  rintro e w1 ⟨a1, c1, rfl, -, h1, hb1⟩
  have F3 := aside (bclone_gen a1 K c1 w1 h1 (by omega))
  have HT1 : Aside (w1.heap[w.heap.size + 1]? = some (.cells #[.int .i64 0, .int .i64 0, .int .i64 0, .slice none 0 0] 37 (0, 0))) := (hb1.block _ (by have := HSZ.out; omega)).trans HT.out
  have HB1 := aside (below_tr HB.out hb1)
  have hs1 := hb1.size
  clear h1 hb1
  go_wp2_with fail
  refine F3.out.mono ?_
  rintro e w2 ⟨a2, c2, rfl, -, h2, hb2⟩
  have HT2 : Aside (w2.heap[w.heap.size + 1]? = some (.cells #[.int .i64 0, .int .i64 0, .int .i64 0, .slice none 0 0] 37 (0, 0))) := (hb2.block _ (by have := HSZ.out; omega)).trans HT1.out
  have HO := aside h2
  have HB2 := aside (below_tr HB1.out hb2)
  clear h2 hb2
  go_wp2_with ((with_reducible refine wpList_store_row rfl 37 _ _ rfl (w.heap.size + 1) #[.int .i64 0, .int .i64 0, .int .i64 0, .slice (some a2) K.length c2] ?_ ?_ 37 _ HT2.out ?_ ?_ ?_ ?_); kernel_rfl; kernel_rfl; kernel_rfl; kernel_rfl; kernel_rfl)
  refine bodyPost_ret (results_cell_row rfl _ _ (w.heap.size + 1) 37 _ (0, 0) _ rfl (setRow_heap w2 _ _ _ _ _ HT2.out) Try.underlying37 rfl (by kernel_rfl)) rfl ?_
  refine ⟨a2, c2, rfl, ?_, below_setRow HB2.out (by omega) _⟩
  intro hK
  obtain ⟨g, o, he, hc⟩ := bs_plain HO.out hK
  obtain rfl : a2 = ⟨g, o, none⟩ := by simpa using he
  refine bs_of (fun j z hz => ?_) hK
  have hcz := hc j z hz
  have hne : g ≠ w.heap.size + 1 := fun e => by
    subst e
    rw [cell_of_row w2 _ _ _ _ _ HT2.out] at hcz
    have : o + j < 4 := by
      have := (Array.getElem?_eq_some_iff.1 hcz).1
      simpa using this
    rcases (by omega : o + j = 0 ∨ o + j = 1 ∨ o + j = 2 ∨ o + j = 3) with e | e | e | e <;> (rw [e] at hcz; simp at hcz)
  exact (cell_setRow_far (a := ⟨g, o + j, none⟩) hne).trans hcz
end Go.Proofs.Ytlcglnagekmogaa
