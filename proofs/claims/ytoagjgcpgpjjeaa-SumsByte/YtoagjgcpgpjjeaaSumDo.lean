/- Reads through a file with sums whose table has none. -/
import Derived.Test.YtoagjgcpgpjjeaaSumNew
namespace Go.Proofs.Ytoagjgcpgpjjeaa
open Go.RowKit
attribute [local simp] lcells_nil readB_length bcells_length

theorem conv_nil (w : World) : (convert 22 9 (.slice none 0 0)).run Try.prog w = .ok (.string ⟨#[]⟩) w := by
  rw [run_convert_bytes_string w 22 9 5 none 0 0 Try.underlying22 Try.underlying5 Try.underlying9]
  rfl

set_option maxRecDepth 20000 in
set_option maxHeartbeats 1000000 in
theorem equal_nil (ad : Addr) (l : List UInt8) (c : Nat) (w : World) (h0 : l ≠ []) (h : ∀ j v, (bcells l)[j]? = some v → w.cell? (ad.add j) = some v) :
    Calls Try.prog 112 #[.slice none 0 0, .slice (some ad) l.length c] w fun e w' => e = .returned (.bool false) ∧ w' = w := by
  have q1 := conv_nil w
  have q2 := str_of_bytes w ad l l.length c rfl h
  have q3 : ¬ ((⟨#[]⟩ : ByteArray) = ⟨l.toArray⟩) := by
    intro e
    injection e with e
    apply h0
    have := congrArg Array.toList e
    simpa using this.symm
  clear h
  go_enter Try.func112, Try.ntmps112
  go_wp2_with fail
  go_ret
  cases l with
  | nil => exact absurd rfl h0
  | cons x l => exact ⟨rfl, rfl⟩

theorem way15 {w : World} {hb fb m : Nat} (h : All15 w hb fb ⟨m, 0, none⟩) : Way w hb 175 fb m :=
  ⟨(han_cells h.han).2.2.2.2.2, fun W hW => meth15_Size W fb ⟨m, 0, none⟩ (h.below hW).c0, fun W hW => meth15_ReadAt W fb ⟨m, 0, none⟩ (h.below hW).c0⟩

theorem SF.cells {w : World} {f fa ft : Nat} (h : SF w f fa ft) : w.cell? ⟨f, 0, none⟩ = some (FSy fa) ∧ w.cell? ⟨f, 3, none⟩ = some (.func (.method "ReadAt") #[FSy fa] #[]) ∧ w.cell? ⟨f, 4, none⟩ = some (.int .i64 64) ∧ w.cell? ⟨f, 8, none⟩ = some (.func (.method "ReadAt") #[FSy ft] #[]) ∧ w.cell? ⟨f, 9, none⟩ = some (.int .i64 8) := by
  unfold SF at h
  refine ⟨?_, ?_, ?_, ?_, ?_⟩ <;> (rw [cell_of_row w f _ _ _ _ h]; rfl)
theorem SF.below {w w' : World} {f fa ft : Nat} (h : SF w f fa ft) (hb : Below w.heap.size w w') : SF w' f fa ft := (hb.block f (Array.getElem?_eq_some_iff.1 h).1).trans h

/-- What a file with sums stands over: bytes, and a table of none. -/
structure Over (w : World) (f fa ft : Nat) (sz : Nat) (L : List Piece) : Prop where
  sf : SF w f fa ft
  a : ∃ ha ma ba lv, All15 w ha fa ⟨ma, 0, none⟩ ∧ Fil w ma ba ∧ Rep w ba sz lv L
  t : ∃ ht mt bt lv, All15 w ht ft ⟨mt, 0, none⟩ ∧ Fil w mt bt ∧ Rep w bt 0 lv []
theorem Over.below {w w' : World} {f fa ft sz : Nat} {L : List Piece} (h : Over w f fa ft sz L) (hb : Below w.heap.size w w') : Over w' f fa ft sz L := by
  obtain ⟨h0, ⟨ha, ma, ba, lv, h1, h2, h3⟩, ⟨ht, mt, bt, lv', h4, h5, h6⟩⟩ := h
  exact ⟨h0.below hb, ⟨ha, ma, ba, lv, h1.below hb, h2.below hb, h3.below hb⟩, ⟨ht, mt, bt, lv', h4.below hb, h5.below hb, h6.below hb⟩⟩

set_option maxRecDepth 20000 in
set_option maxHeartbeats 2000000 in
theorem right_none (f fa ft sz : Nat) (L : List Piece) (w : World) (h : Over w f fa ft sz L) : Calls Try.prog 108 #[.pointer (some ⟨f, 0, none⟩), .int .i64 0] w fun e w' => e = .returned (.tuple #[.slice none 0 0, .int .i64 100]) ∧ Below w.heap.size w w' := by
  obtain ⟨c0, c3, c4, c8, c9⟩ := h.sf.cells
  obtain ⟨ha, ma, ba, lv, h1, h2, h3⟩ := h.a
  have F1 := aside (read_any 175 fa ma ba sz 64 lv L 0 w (way15 h1).read h2 h3 (by decide) (by decide) (by decide))
  have H := aside h
  clear h h1 h2 h3 c0 c8 c9
  go_enter Try.func108, Try.ntmps108
  go_wp2_with fail
  refine F1.out.mono ?_
  rintro e w1 ⟨a, c, rfl, hT, hb1⟩
  have H1 := H.out.below hb1
  obtain ⟨ht, mt, bt, lv', h4, h5, h6⟩ := H1.t
  obtain ⟨-, -, -, c8, c9⟩ := H1.sf.cells
  have F2 := read_any 175 ft mt bt 0 8 lv' [] 0 w1 (way15 h4).read h5 h6 (by decide) (by decide) (by decide)
  rw [getL_out (Nat.zero_le _)] at F2
  have HF2 := aside F2
  have hgl := getL_le L sz (0 * 64) 64
  generalize getL L sz ((0 * 64 : Nat) : Int) ((64 : Nat) : Int) = g at *
  have HT := aside hT
  have HB1 := aside hb1
  clear F1 F2 hT hb1 H1 h4 h5 h6 c3 c4
  go_wp2_with fail
  refine HF2.out.mono ?_
  rintro e w2 ⟨a2, c2, rfl, hT2, hb2⟩
  obtain ⟨rfl, rfl⟩ : a2 = none ∧ c2 = 0 := by
    rcases hT2 with ⟨-, h1, h2⟩ | ⟨h1, -⟩
    · exact ⟨h1, h2⟩
    · exact absurd rfl h1
  have F3 := aside (sum_any a g c w2 (HT.out.below hb2).bs (by omega))
  have F4 := aside (entry_any (fnv0 g) w2)
  have HB2 := aside (below_tr HB1.out hb2)
  clear hT2 hb2 HF2 c8 c9
  go_wp2_with fail
  refine F3.out.mono ?_
  rintro e w' ⟨rfl, rfl⟩
  go_wp2_with fail
  refine F4.out.mono ?_
  rintro e w3 ⟨rfl, hrow, hb3⟩
  have F5 := equal_nil ⟨w'.heap.size, 0, none⟩ (le8 (fnv0 g)) 8 w3 (by intro e; have := congrArg List.length e; rw [le8_length] at this; cases this) (cells_lit hrow)
  rw [le8_length] at F5
  have HF5 := aside F5
  have HB3 := aside (below_tr HB2.out hb3)
  clear F5 hrow hb3
  go_wp2_with fail
  refine HF5.out.mono ?_
  rintro e w4 ⟨rfl, rfl⟩
  go_wp2_with fail
  go_ret2
  exact ⟨rfl, HB3.out⟩

set_option maxRecDepth 20000 in
set_option maxHeartbeats 2000000 in
theorem sSize_any (f fa ft sz : Nat) (L : List Piece) (w : World) (h : Over w f fa ft sz L) : Calls Try.prog 105 #[.pointer (some ⟨f, 0, none⟩)] w fun e w' => e = .returned (.int .i64 sz) ∧ w' = w := by
  obtain ⟨c0, -, -, -, -⟩ := h.sf.cells
  obtain ⟨ha, ma, ba, lv, h1, h2, h3⟩ := h.a
  have hm := (way15 h1).size w (Below.refl _ _)
  have F1 := aside (fSize_any ma ba sz lv L w h2 h3)
  clear h h1 h2 h3
  go_enter Try.func105, Try.ntmps105
  go_wp2_with fail
  refine F1.out.mono ?_
  rintro e w' ⟨rfl, rfl⟩
  go_wp2_with fail
  go_ret
  exact ⟨rfl, rfl⟩

set_option maxRecDepth 20000 in
set_option maxHeartbeats 2000000 in
theorem sRead_wrong (f fa ft sz : Nat) (L : List Piece) (w : World) (h : Over w f fa ft sz L) (h0 : 0 < sz) : Calls Try.prog 104 #[.pointer (some ⟨f, 0, none⟩), .int .i64 0, .int .i64 1] w fun e w' => e = .returned (.tuple #[.slice none 0 0, .int .i64 100]) ∧ Below w.heap.size w w' := by
  have F1 := aside (sSize_any f fa ft sz L w h)
  have F2 := aside (right_none f fa ft sz L w h)
  obtain ⟨ha, ma, ba, lv, -, -, h3⟩ := h.a
  have hs := h3.inv.size
  have HM1 := aside (show max (sz : Int) 0 = (sz : Int) by omega)
  have HM2 := aside (show min ((sz : Int) - 0) 1 = (1 : Int) by omega)
  have HM3 := aside (show min (sz : Int) 1 = (1 : Int) by omega)
  clear h h3
  go_enter Try.func104, Try.ntmps104
  go_wp2_with fail
  refine F1.out.mono ?_
  rintro e w' ⟨rfl, rfl⟩
  go_wp2_with (first | ((with_reducible refine wpList_max2 _ rfl _ _ _ rfl (sz : Int) 0 (sz : Int) ?_ ?_ HM1.out ?_); rfl; rfl) | ((with_reducible refine wpList_min2 _ rfl _ _ _ rfl (sz : Int) 1 1 ?_ ?_ HM3.out ?_); rfl; rfl) | ((with_reducible refine wpList_min2 _ rfl _ _ _ rfl ((sz : Int) - 0) 1 1 ?_ ?_ HM2.out ?_); rfl; rfl))
  refine wp_loop_rounds 1 ?_
  rw [rounds_succ]
  go_wp2_with fail
  refine F2.out.mono ?_
  rintro e w1 ⟨rfl, hb1⟩
  have HB1 := aside hb1
  clear hb1
  go_wp2_with fail
  go_ret2
  exact ⟨rfl, HB1.out⟩

set_option maxRecDepth 20000 in
set_option maxHeartbeats 2000000 in
theorem sRead_out (f fa ft sz : Nat) (L : List Piece) (w : World) (h : Over w f fa ft sz L) : Calls Try.prog 104 #[.pointer (some ⟨f, 0, none⟩), .int .i64 sz, .int .i64 1] w fun e w' => e = .returned (.tuple #[.slice none 0 0, .int .i64 0]) ∧ w' = w := by
  have F1 := aside (sSize_any f fa ft sz L w h)
  obtain ⟨ha, ma, ba, lv, -, -, h3⟩ := h.a
  have hs := h3.inv.size
  have h0 : ¬ ((sz : Int) < 0) := by omega
  have HM1 := aside (show max (sz : Int) 0 = (sz : Int) by omega)
  have HM2 := aside (show min ((sz : Int) - (sz : Int)) 1 = (0 : Int) by omega)
  have HM3 := aside (show min (0 : Int) 1 = (0 : Int) by omega)
  clear h h3
  go_enter Try.func104, Try.ntmps104
  go_wp2_with fail
  refine F1.out.mono ?_
  rintro e w' ⟨rfl, rfl⟩
  go_wp2_with (first | ((with_reducible refine wpList_max2 _ rfl _ _ _ rfl (sz : Int) 0 (sz : Int) ?_ ?_ HM1.out ?_); rfl; rfl) | ((with_reducible refine wpList_min2 _ rfl _ _ _ rfl (0 : Int) 1 0 ?_ ?_ HM3.out ?_); rfl; rfl) | ((with_reducible refine wpList_min2 _ rfl _ _ _ rfl ((sz : Int) - (sz : Int)) 1 0 ?_ ?_ HM2.out ?_); rfl; rfl))
  refine wp_loop_rounds 1 ?_
  rw [rounds_succ]
  go_wp2_with fail
  go_ret2
  exact ⟨rfl, rfl⟩

theorem methW_ReadAt (w : World) (fb f : Nat) (h : w.cell? ⟨fb, 0, none⟩ = some (J 74 ⟨f, 0, none⟩)) : (method 312 157 (.pointer (some ⟨fb, 0, none⟩)) "ReadAt").run Try.prog w = .ok (104, .pointer (some ⟨f, 0, none⟩)) w :=
  (method_up (n := 311) (st := 159) (ix := 0) (ft := 65) (off := 0) (by kernel_rfl) (by kernel_rfl) (up_size 65 (by kernel_rfl) w) (up_agg 65 Try.underlying65 w) (by simpa [Addr.add] using h)).trans (by kernel_rfl)

set_option maxRecDepth 20000 in
set_option maxHeartbeats 2000000 in
theorem sDo_any (hb fb f x e0 : Nat) (w : World) (h : AllW 74 w hb fb ⟨f, 0, none⟩)
    (hread : ∀ W, Below w.heap.size w W → Calls Try.prog 104 #[.pointer (some ⟨f, 0, none⟩), .int .i64 x, .int .i64 1] W fun e w' => e = .returned (.tuple #[.slice none 0 0, .int .i64 e0]) ∧ Below W.heap.size W w') :
    Calls Try.prog 18 #[.pointer (some ⟨hb, 0, none⟩), .agg #[.int .i8 1, .int .i64 x, .int .i64 1, .slice none 0 0]] w fun e w' => e = .returned (.agg #[.int .i64 e0, .int .i64 0, .int .i64 0, .slice none 0 0]) ∧ Below w.heap.size w w' := by
  obtain ⟨W, hW⟩ : ∃ W, W = (w.alloc (.cells #[.int .i8 1, .int .i64 x, .int .i64 1, .slice none 0 0] 49)).alloc (.cells #[.int .i64 0, .int .i64 0, .int .i64 0, .slice none 0 0] 51) := ⟨_, rfl⟩
  have hB : Below w.heap.size w W := by rw [hW]; exact below_tr (below_al w _) (below_al _ _)
  have hT : W.heap[w.heap.size + 1]? = some (.cells #[.int .i64 0, .int .i64 0, .int .i64 0, .slice none 0 0] 51 (0, 0)) := by rw [hW]; exact heap_alloc2_new w _ _
  have HSZ := aside (show W.heap.size = w.heap.size + 2 by rw [hW]; simp)
  have o0 : W.cell? ⟨w.heap.size, 0, none⟩ = some (.int .i8 1) := by rw [hW]; go_simp
  have o1 : W.cell? ⟨w.heap.size, 1, none⟩ = some (.int .i64 x) := by rw [hW]; go_simp
  have o2 : W.cell? ⟨w.heap.size, 2, none⟩ = some (.int .i64 1) := by rw [hW]; go_simp
  have h' := h.below hB
  have c5 := (han_cells h'.han).2.2.2.2.2
  have hm := methW_ReadAt W fb f (by rw [cell_of_row W fb _ _ _ _ h'.fil]; rfl)
  have F1 := aside (file_any hb _ W c5)
  have F2 := aside (hread W hB)
  have HB := aside hB
  have HT := aside hT
  clear h h' hB hT c5 hread
  go_enter Try.func18, Try.ntmps18
  go_wp2_with fail
  rw [← hW]
  refine F1.out.mono ?_
  rintro e w' ⟨rfl, rfl⟩
  clear hW
  go_wp2_with fail
  refine F2.out.mono ?_
  rintro e w1 ⟨rfl, hb1⟩
  have HT1 : Aside (w1.heap[w.heap.size + 1]? = some (.cells #[.int .i64 0, .int .i64 0, .int .i64 0, .slice none 0 0] 51 (0, 0))) := (hb1.block _ (by have := HSZ.out; omega)).trans HT.out
  have HB1 := aside (below_tr HB.out hb1)
  clear hb1
  go_wp2_with fail
  refine (bclone_nil w1).mono ?_
  rintro e w2 ⟨rfl, rfl⟩
  go_wp2_with ((with_reducible refine wpList_store_row rfl 51 _ _ rfl (w.heap.size + 1) #[.int .i64 e0, .int .i64 0, .int .i64 0, .slice none 0 0] ?_ ?_ 51 _ HT1.out ?_ ?_ ?_ ?_); kernel_rfl; kernel_rfl; kernel_rfl; kernel_rfl; kernel_rfl)
  refine bodyPost_ret (results_cell_row rfl _ _ (w.heap.size + 1) 51 _ (0, 0) _ rfl (setRow_heap w2 _ _ _ _ _ HT1.out) Try.underlying51 rfl (by kernel_rfl)) rfl ?_
  exact ⟨rfl, below_setRow HB1.out (by omega) _⟩
end Go.Proofs.Ytoagjgcpgpjjeaa
