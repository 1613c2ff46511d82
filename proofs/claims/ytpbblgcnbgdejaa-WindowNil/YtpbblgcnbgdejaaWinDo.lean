/- What a window from 3 on, 4 long, over a file of memory of ten bytes tells: Size, a read, Can, a cut that it cannot. -/
import Derived.Test.YtpbblgcnbgdejaaWin
import Derived.Deep.RegionHeld3
namespace Go.Proofs.Ytpbblgcnbgdejaa
open Go.RowKit
attribute [local simp] lcells_nil readB_length bcells_length

theorem Win.cells {w : World} {hb fb f b c d : Nat} (h : Win w hb fb f b c d) : w.cell? ⟨f, 0, none⟩ = some (.int .i64 3) ∧ w.cell? ⟨f, 1, none⟩ = some (.int .i64 4) ∧ w.cell? ⟨f, 2, none⟩ = some (FSy d) := by
  refine ⟨?_, ?_, ?_⟩ <;> (rw [cell_of_row w f _ _ _ _ h.win]; rfl)
theorem Win.c0 {w : World} {hb fb f b c d : Nat} (h : Win w hb fb f b c d) : w.cell? ⟨fb, 0, none⟩ = some (WF f) := by
  rw [cell_of_row w fb _ _ _ _ h.fil]; rfl

theorem meth13_Size (w : World) (fb f : Nat) (h : w.cell? ⟨fb, 0, none⟩ = some (WF f)) : (method 320 174 (.pointer (some ⟨fb, 0, none⟩)) "Size").run Try.prog w = .ok (116, .pointer (some ⟨f, 0, none⟩)) w :=
  (method_up (n := 319) (st := 176) (ix := 0) (ft := 70) (off := 0) (by kernel_rfl) (by kernel_rfl) (up_size 70 (by kernel_rfl) w) (up_agg 70 Try.underlying70 w) (by simpa [Addr.add] using h)).trans (by kernel_rfl)
theorem meth13_ReadAt (w : World) (fb f : Nat) (h : w.cell? ⟨fb, 0, none⟩ = some (WF f)) : (method 320 174 (.pointer (some ⟨fb, 0, none⟩)) "ReadAt").run Try.prog w = .ok (115, .pointer (some ⟨f, 0, none⟩)) w :=
  (method_up (n := 319) (st := 176) (ix := 0) (ft := 70) (off := 0) (by kernel_rfl) (by kernel_rfl) (up_size 70 (by kernel_rfl) w) (up_agg 70 Try.underlying70 w) (by simpa [Addr.add] using h)).trans (by kernel_rfl)
theorem yesW13 (v : Value) (w : World) : (Instr.typeAssert (.iface 174 v) 70 86 true).run Try.prog w = .ok (.tuple #[.iface 174 v, .bool true]) w := run_typeAssert_hasB Try.underlying86 (by kernel_rfl) v 70 w
theorem noC13 (v : Value) (w : World) : (Instr.typeAssert (.iface 174 v) 70 89 true).run Try.prog w = .ok (.tuple #[.nilIface, .bool false]) w := run_typeAssert_lacksB Try.underlying89 (by kernel_rfl) (by kernel_rfl) v 70 w
theorem yesH13 (v : Value) (w : World) : (Instr.typeAssert (.iface 174 v) 70 78 true).run Try.prog w = .ok (.tuple #[.iface 174 v, .bool true]) w := run_typeAssert_hasB Try.underlying78 (by kernel_rfl) v 70 w
theorem yesS13 (v : Value) (w : World) : (Instr.typeAssert (.iface 174 v) 70 92 true).run Try.prog w = .ok (.tuple #[.iface 174 v, .bool true]) w := run_typeAssert_hasB Try.underlying92 (by kernel_rfl) v 70 w

set_option maxRecDepth 20000 in
set_option maxHeartbeats 1000000 in
theorem winSize_any (hb fb f b c d hb0 m s : Nat) (lv : Value) (L : List Piece) (w : World) (h : Win w hb fb f b c d) (hA : All15 w hb0 d ⟨m, 0, none⟩) (hF : Fil w m s) (hR : Rep w s 10 lv L) :
    Calls Try.prog 116 #[.pointer (some ⟨f, 0, none⟩)] w fun e w' => e = .returned (.int .i64 4) ∧ Below w.heap.size w w' := by
  obtain ⟨c0, c1, c2⟩ := h.cells
  have hm := meth15_Size w d ⟨m, 0, none⟩ hA.c0
  have F2 := aside (fSize_any m s 10 lv L w hF hR)
  clear h hA hF hR
  go_enter Try.func116, Try.ntmps116
  go_wp2_with fail
  refine F2.out.mono ?_
  rintro e w' ⟨rfl, rfl⟩
  go_wp2_with fail
  go_region
  go_wp2
  go_ret
  exact ⟨rfl, below_dr _⟩

set_option maxRecDepth 20000 in
set_option maxHeartbeats 1000000 in
theorem winReadAt_any (hb fb f b c d hb0 m s : Nat) (lv : Value) (L : List Piece) (w : World) (h : Win w hb fb f b c d) (hA : All15 w hb0 d ⟨m, 0, none⟩) (hF : Fil w m s) (hR : Rep w s 10 lv L) :
    Calls Try.prog 115 #[.pointer (some ⟨f, 0, none⟩), .int .i64 1, .int .i64 9] w fun e w' => ∃ g, e = .returned (.tuple #[.slice (some ⟨g, 0, none⟩) 3 3, .int .i64 0]) ∧ w.heap.size ≤ g ∧ w'.heap[g]? = some (.cells (bcells (readB L 4 3)).toArray 5 (0, 0)) ∧ Below w.heap.size w w' := by
  have F1 := aside (winSize_any hb fb f b c d hb0 m s lv L w h hA hF hR)
  have cw := h.cells.1
  have H := aside h
  have HA := aside hA
  have HF := aside hF
  have HR := aside hR
  clear h hA hF hR
  go_enter Try.func115, Try.ntmps115
  go_wp2_with fail
  refine F1.out.mono ?_
  rintro e w1 ⟨rfl, hb1⟩
  obtain ⟨c0, c1, c2⟩ := (H.out.below hb1).cells
  have hbd := below_tr hb1 (below_dr w1)
  have hm := meth15_ReadAt w1.drew d ⟨m, 0, none⟩ (HA.out.below hbd).c0
  have F2 : Aside (Calls Try.prog 108 #[.pointer (some ⟨m, 0, none⟩), .int .i64 (IntKind.i64.wrap 4), .int .i64 3] w1.drew fun e w' => e = .returned (.tuple #[.slice (some ⟨w1.heap.size, 0, none⟩) 3 3, .int .i64 0]) ∧ w'.heap[w1.heap.size]? = some (.cells (bcells (readB L 4 3)).toArray 5 (0, 0)) ∧ Below w1.drew.heap.size w1.drew w' ∧ w'.cell? ⟨f, 0, none⟩ = some (.int .i64 3) ∧ w'.cell? ⟨f, 1, none⟩ = some (.int .i64 4) ∧ w'.cell? ⟨f, 2, none⟩ = some (FSy d)) := by
    rw [show IntKind.i64.wrap 4 = 4 from by decide]
    refine (fRead_any m s 10 lv L 4 3 w1.drew (HF.out.below hbd) (HR.out.below hbd) (by decide) (by decide) (by decide)).mono ?_
    rintro e w' ⟨k, hk, rfl, hrow, hb1⟩
    obtain rfl : k = 3 := hk
    exact ⟨rfl, hrow, hb1, ((H.out.below hbd).below hb1).cells⟩
  have HB := aside hbd
  have hs : w.heap.size ≤ w1.drew.heap.size := hbd.size
  clear hb1 hbd cw
  go_wp2_with fail
  go_region_held3 (fun w' => w'.cell? ⟨f, 0, none⟩ = some (.int .i64 3) ∧ w'.cell? ⟨f, 1, none⟩ = some (.int .i64 4) ∧ w'.cell? ⟨f, 2, none⟩ = some (FSy d)) (go_keep) ((go_at_call 108; refine F2.out.mono ?_; rintro e w2 ⟨rfl, hrow, hb1, k0, k1, k2⟩; have HB1 := aside hb1; have HR1 := aside hrow; clear hb1 hrow))
  go_wp2
  go_ret2
  exact ⟨_, rfl, hs, HR1.out, below_tr HB.out HB1.out⟩

set_option maxRecDepth 20000 in
set_option maxHeartbeats 1000000 in
theorem winCan_any (hb fb f b c d : Nat) (w : World) (h : Win w hb fb f b c d) : Calls Try.prog 15 #[.pointer (some ⟨hb, 0, none⟩)] w fun e w' => e = .returned (.int .u8 13) ∧ w' = w := by
  obtain ⟨c0, c1, c2, c3, c4, c5⟩ := han_cells h.han
  have n1 := yesW13
  have n2 := noC13
  have n3 := yesH13
  have n4 := yesS13
  clear h c0 c1 c2 c3 c4
  go_enter Try.func15, Try.ntmps15
  go_wp2_with fail
  refine (file_any hb _ w c5).mono ?_
  rintro e w' ⟨rfl, rfl⟩
  go_wp2
  go_ret
  exact ⟨rfl, rfl⟩

set_option maxRecDepth 20000 in
set_option maxHeartbeats 1000000 in
theorem winCut_none (hb fb f b c d : Nat) (w : World) (h : Win w hb fb f b c d) : Calls Try.prog 22 #[.pointer (some ⟨hb, 0, none⟩), .agg #[.int .i8 3, .int .i64 0, .int .i64 0, .slice none 0 0]] w fun e w' => e = .returned (.agg #[.int .i64 5, .int .i64 0, .int .i64 0, .slice none 0 0]) ∧ Below w.heap.size w w' := by
  obtain ⟨c0, c1, c2, c3, c4, c5⟩ := han_cells h.han
  have n1 := noC13
  have hA := fun o1 o2 => below_tr (below_al w o1) (below_al (w.alloc o1) o2)
  have hbl : hb < w.heap.size := World.block_lt_of_cell? w _ c5
  have F := fun o1 o2 => aside (file_any hb _ ((w.alloc o1).alloc o2) (((hA o1 o2).cell hbl).trans c5))
  clear h c0 c1 c2 c3 c4 hA
  go_enter Try.func22, Try.ntmps22
  go_wp2_with fail
  refine (F _ _).out.mono ?_
  rintro e w' ⟨rfl, rfl⟩
  go_wp2
  refine bodyPost_ret (results_cell_row rfl _ _ (w.heap.size + 1) 48 _ (0, 0) _ rfl (heap_alloc2_new w _ _) Try.underlying48 rfl (by kernel_rfl)) rfl ?_
  exact ⟨rfl, below_tr (below_al w _) (below_al _ _)⟩

set_option maxRecDepth 20000 in
set_option maxHeartbeats 1000000 in
theorem winDoSize (hb fb f b c d hb0 m s : Nat) (lv : Value) (L : List Piece) (w : World) (h : Win w hb fb f b c d) (hA : All15 w hb0 d ⟨m, 0, none⟩) (hF : Fil w m s) (hR : Rep w s 10 lv L) :
    Calls Try.prog 22 #[.pointer (some ⟨hb, 0, none⟩), .agg #[.int .i8 0, .int .i64 0, .int .i64 0, .slice none 0 0]] w fun e w' => e = .returned (.agg #[.int .i64 0, .int .i64 4, .int .i64 0, .slice none 0 0]) ∧ Below w.heap.size w w' := by
  obtain ⟨W, hW⟩ : ∃ W, W = (w.alloc (.cells #[.int .i8 0, .int .i64 0, .int .i64 0, .slice none 0 0] 43)).alloc (.cells #[.int .i64 0, .int .i64 0, .int .i64 0, .slice none 0 0] 48) := ⟨_, rfl⟩
  have hB : Below w.heap.size w W := by rw [hW]; exact below_tr (below_al w _) (below_al _ _)
  have hT : W.heap[w.heap.size + 1]? = some (.cells #[.int .i64 0, .int .i64 0, .int .i64 0, .slice none 0 0] 48 (0, 0)) := by rw [hW]; exact heap_alloc2_new w _ _
  have HSZ := aside (show W.heap.size = w.heap.size + 2 by rw [hW]; simp)
  have o0 : W.cell? ⟨w.heap.size, 0, none⟩ = some (.int .i8 0) := by rw [hW]; go_simp
  have h' := h.below hB
  have c5 := (han_cells h'.han).2.2.2.2.2
  have hm := meth13_Size W fb f h'.c0
  have F1 := aside (file_any hb _ W c5)
  have F2 := aside (winSize_any hb fb f b c d hb0 m s lv L W h' (hA.below hB) (hF.below hB) (hR.below hB))
  have HB := aside hB
  have HT := aside hT
  clear h h' hA hF hR hB hT c5
  go_enter Try.func22, Try.ntmps22
  go_wp2_with fail
  rw [← hW]
  refine F1.out.mono ?_
  rintro e w' ⟨rfl, rfl⟩
  clear hW
  go_wp2_with fail
  refine F2.out.mono ?_
  rintro e w1 ⟨rfl, hb1⟩
  have HT1 : Aside (w1.heap[w.heap.size + 1]? = some (.cells #[.int .i64 0, .int .i64 0, .int .i64 0, .slice none 0 0] 48 (0, 0))) := (hb1.block _ (by have := HSZ.out; omega)).trans HT.out
  have HB1 := aside (below_tr HB.out hb1)
  clear hb1
  go_wp2_with ((with_reducible refine wpList_store_row rfl 48 _ _ rfl (w.heap.size + 1) #[.int .i64 0, .int .i64 4, .int .i64 0, .slice none 0 0] ?_ ?_ 48 _ HT1.out ?_ ?_ ?_ ?_); kernel_rfl; kernel_rfl; kernel_rfl; kernel_rfl; kernel_rfl)
  refine bodyPost_ret (results_cell_row rfl _ _ (w.heap.size + 1) 48 _ (0, 0) _ rfl (setRow_heap w1 _ _ _ _ _ HT1.out) Try.underlying48 rfl (by kernel_rfl)) rfl ?_
  exact ⟨rfl, below_setRow HB1.out (by omega) _⟩

set_option maxRecDepth 20000 in
set_option maxHeartbeats 1000000 in
theorem winDoRead (hb fb f b c d hb0 m s : Nat) (lv : Value) (L : List Piece) (w : World) (h : Win w hb fb f b c d) (hA : All15 w hb0 d ⟨m, 0, none⟩) (hF : Fil w m s) (hR : Rep w s 10 lv L) :
    Calls Try.prog 22 #[.pointer (some ⟨hb, 0, none⟩), .agg #[.int .i8 1, .int .i64 1, .int .i64 9, .slice none 0 0]] w fun e w' => ∃ g cap, e = .returned (.agg #[.int .i64 0, .int .i64 0, .int .i64 0, .slice (some ⟨g, 0, none⟩) 3 cap]) ∧ w.heap.size ≤ g ∧
      w'.ownsRow 0 5 1 (.slice (some ⟨g, 0, none⟩) 3 cap) 3 (bcells (readB L 4 3)) ∧ Below w.heap.size w w' := by
  obtain ⟨W, hW⟩ : ∃ W, W = (w.alloc (.cells #[.int .i8 1, .int .i64 1, .int .i64 9, .slice none 0 0] 43)).alloc (.cells #[.int .i64 0, .int .i64 0, .int .i64 0, .slice none 0 0] 48) := ⟨_, rfl⟩
  have hB : Below w.heap.size w W := by rw [hW]; exact below_tr (below_al w _) (below_al _ _)
  have hT : W.heap[w.heap.size + 1]? = some (.cells #[.int .i64 0, .int .i64 0, .int .i64 0, .slice none 0 0] 48 (0, 0)) := by rw [hW]; exact heap_alloc2_new w _ _
  have HSZ := aside (show W.heap.size = w.heap.size + 2 by rw [hW]; simp)
  have o0 : W.cell? ⟨w.heap.size, 0, none⟩ = some (.int .i8 1) := by rw [hW]; go_simp
  have o1 : W.cell? ⟨w.heap.size, 1, none⟩ = some (.int .i64 1) := by rw [hW]; go_simp
  have o2 : W.cell? ⟨w.heap.size, 2, none⟩ = some (.int .i64 9) := by rw [hW]; go_simp
  have h' := h.below hB
  have c5 := (han_cells h'.han).2.2.2.2.2
  have hm := meth13_ReadAt W fb f h'.c0
  have F1 := aside (file_any hb _ W c5)
  have F2 := aside (winReadAt_any hb fb f b c d hb0 m s lv L W h' (hA.below hB) (hF.below hB) (hR.below hB))
  have HB := aside hB
  have HT := aside hT
  clear h h' hA hF hR hB hT c5
  go_enter Try.func22, Try.ntmps22
  go_wp2_with fail
  rw [← hW]
  refine F1.out.mono ?_
  rintro e w' ⟨rfl, rfl⟩
  clear hW
  go_wp2_with fail
  refine F2.out.mono ?_
  rintro e w1 ⟨g0, rfl, hg0, hrow, hb1⟩
  have F3 := aside (bclone_any ⟨g0, 0, none⟩ (readB L 4 3) 3 w1 (by simp) (by simp) (fun j v hj => by rw [Addr.add_lit, Nat.zero_add, cell_of_row w1 g0 j _ _ _ hrow]; simpa using hj))
  rw [readB_length] at F3
  have HT1 : Aside (w1.heap[w.heap.size + 1]? = some (.cells #[.int .i64 0, .int .i64 0, .int .i64 0, .slice none 0 0] 48 (0, 0))) := (hb1.block _ (by have := HSZ.out; omega)).trans HT.out
  have HB1 := aside (below_tr HB.out hb1)
  have hs1 := hb1.size
  clear hrow hb1
  go_wp2_with fail
  refine F3.out.mono ?_
  rintro e w2 ⟨g, cap, rfl, hg, hown, hb2⟩
  have HT2 : Aside (w2.heap[w.heap.size + 1]? = some (.cells #[.int .i64 0, .int .i64 0, .int .i64 0, .slice none 0 0] 48 (0, 0))) := (hb2.block _ (by have := HSZ.out; omega)).trans HT1.out
  have HO := aside hown
  have HB2 := aside (below_tr HB1.out hb2)
  clear hown hb2
  go_wp2_with ((with_reducible refine wpList_store_row rfl 48 _ _ rfl (w.heap.size + 1) #[.int .i64 0, .int .i64 0, .int .i64 0, .slice (some ⟨g, 0, none⟩) 3 cap] ?_ ?_ 48 _ HT2.out ?_ ?_ ?_ ?_); kernel_rfl; kernel_rfl; kernel_rfl; kernel_rfl; kernel_rfl)
  refine bodyPost_ret (results_cell_row rfl _ _ (w.heap.size + 1) 48 _ (0, 0) _ rfl (setRow_heap w2 _ _ _ _ _ HT2.out) Try.underlying48 rfl (by kernel_rfl)) rfl ?_
  have hsz := HSZ.out
  refine ⟨g, cap, rfl, by omega, ?_, below_setRow HB2.out (by omega) _⟩
  exact (Upd.setRow (F := fun k => k = w.heap.size + 1) w2 (w.heap.size + 1) _ rfl).row HO.out (fun k hk => by simp only [Value.ownBlock, Option.some.injEq] at hk; omega)
end Go.Proofs.Ytpbblgcnbgdejaa
