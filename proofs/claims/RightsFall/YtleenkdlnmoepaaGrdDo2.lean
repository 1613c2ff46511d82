/- Do through a guard's handle. -/
import Derived.Test.YtleenkdlnmoepaaGrdDo
namespace Go.Proofs.Ytleenkdlnmoepaa
open Go.RowKit Go.MapLit Go.ChangeMaps
attribute [local simp] lcells_nil readB_length bcells_length

theorem meth71_ReadAt (w : World) (fb f : Nat) (h : w.cell? ⟨fb, 0, none⟩ = some (J 71 ⟨f, 0, none⟩)) : (method 313 175 (.pointer (some ⟨fb, 0, none⟩)) "ReadAt").run Try.prog w = .ok (92, pt f) w :=
  (method_up (n := 312) (st := 176) (ix := 0) (ft := 69) (off := 0) (by kernel_rfl) (by kernel_rfl) (up_size 69 (by kernel_rfl) w) (up_agg 69 Try.underlying69 w) (by simpa [Addr.add] using h)).trans (by kernel_rfl)
theorem meth71_Sync (w : World) (fb f : Nat) (h : w.cell? ⟨fb, 2, none⟩ = some (J 71 ⟨f, 0, none⟩)) : (method 313 166 (.pointer (some ⟨fb, 0, none⟩)) "Sync").run Try.prog w = .ok (94, pt f) w :=
  (method_up (n := 312) (st := 168) (ix := 2) (ft := 88) (off := 2) (by kernel_rfl) (by kernel_rfl) (up_size 88 (by kernel_rfl) w) (up_agg 88 Try.underlying88 w) (by simpa [Addr.add] using h)).trans (by kernel_rfl)
theorem hsW (v : Value) (w : World) : (Instr.typeAssert (.iface 166 v) 69 82 true).run Try.prog w = .ok (.tuple #[.nilIface, .bool false]) w := run_typeAssert_lacksB Try.underlying82 (by kernel_rfl) (by kernel_rfl) v 69 w
theorem hsC (v : Value) (w : World) : (Instr.typeAssert (.iface 166 v) 69 84 true).run Try.prog w = .ok (.tuple #[.nilIface, .bool false]) w := run_typeAssert_lacksB Try.underlying84 (by kernel_rfl) (by kernel_rfl) v 69 w
theorem hsH (v : Value) (w : World) : (Instr.typeAssert (.iface 166 v) 69 86 true).run Try.prog w = .ok (.tuple #[.iface 166 v, .bool true]) w := run_typeAssert_hasB Try.underlying86 (by kernel_rfl) v 69 w
theorem hsS (v : Value) (w : World) : (Instr.typeAssert (.iface 166 v) 69 88 true).run Try.prog w = .ok (.tuple #[.iface 166 v, .bool true]) w := run_typeAssert_hasB Try.underlying88 (by kernel_rfl) v 69 w

theorem bclone_nil (w : World) : Calls Try.prog 32 #[.slice none 0 0] w fun e w' => e = .returned (.slice none 0 0) ∧ w' = w := by
  have hnil : ∀ w, (binOp .eql 41 (.slice none 0 0) (.slice none 0 0)).run Try.prog w = .ok (.bool true) w := fun w => Lib.run_eql_slice_nil w 41 5 none 0 0 0 0 Try.underlying41
  go_enter Try.func32, Try.ntmps32
  go_wp2
  go_ret
  exact ⟨rfl, rfl⟩

set_option maxRecDepth 20000 in
set_option maxHeartbeats 1000000 in
theorem doG_ok (hb fb f d x y m s sz : Nat) (lv : Value) (L : List Piece) (p n : Nat) (a : Int) (b : Bok) (w : World) (h : AllT 71 w hb fb ⟨f, 0, none⟩) (hG : Gd w f d x y) (hA : Ask2 w x y b.p a) (hB0 : Bk w b) (hw : (Lit.int .i64 a).wf = true) {g : Gr} (hl : lk b.L a = some g) (hr : ¬ g.r &&& 1 = 0)
    (hD : w.cell? ⟨d, 0, none⟩ = some (I ⟨m, 0, none⟩)) (hF : Fil w m s) (hR : Rep w s sz lv L) (hx : p < sz) (hn : n ≤ 65536) (hn0 : 0 < n) :
    Calls Try.prog 19 #[pt hb, .agg #[.int .i8 1, .int .i64 p, .int .i64 n, .slice none 0 0]] w fun e w' => ∃ k g' cap, k = min n (min 65536 (sz - p)) ∧ e = .returned (.agg #[.int .i64 0, .int .i64 0, .int .i64 0, .slice (some ⟨g', 0, none⟩) k cap]) ∧
      w'.ownsRow 0 5 1 (.slice (some ⟨g', 0, none⟩) k cap) k (bcells (readB L p k)) ∧ Below w.heap.size w w' ∧ w.heap.size ≤ g' := by
  obtain ⟨W, hW⟩ : ∃ W, W = (w.alloc (.cells #[.int .i8 1, .int .i64 p, .int .i64 n, .slice none 0 0] 43)).alloc (.cells #[.int .i64 0, .int .i64 0, .int .i64 0, .slice none 0 0] 54) := ⟨_, rfl⟩
  have hB : Below w.heap.size w W := by rw [hW]; exact below_tr (below_al w _) (below_al _ _)
  have hT : W.heap[w.heap.size + 1]? = some (.cells #[.int .i64 0, .int .i64 0, .int .i64 0, .slice none 0 0] 54 (0, 0)) := by rw [hW]; exact heap_alloc2_new w _ _
  have HSZ := aside (show W.heap.size = w.heap.size + 2 by rw [hW]; simp)
  have o0 : W.cell? ⟨w.heap.size, 0, none⟩ = some (.int .i8 1) := by rw [hW]; go_simp
  have o1 : W.cell? ⟨w.heap.size, 1, none⟩ = some (.int .i64 p) := by rw [hW]; go_simp
  have o2 : W.cell? ⟨w.heap.size, 2, none⟩ = some (.int .i64 n) := by rw [hW]; go_simp
  have h' := h.below hB
  have c5 := (han_cells h'.han).2.2.2.2.2
  have hm := meth71_ReadAt W fb f h'.c0
  have F1 := aside (file_any hb _ W c5)
  have F2 := aside (gRead_ok f d x y m s sz lv L p n a b W (hG.below hB) (hA.below hB) (hB0.below hB) hw hl hr ((hB.cell (World.block_lt_of_cell? w _ hD)).trans hD) (hF.below hB) (hR.below hB) hx hn hn0)
  have HB := aside hB
  have HT := aside hT
  clear h h' hF hR hB hT c5 hG hA hB0 hl hD
  go_enter Try.func19, Try.ntmps19
  go_wp2_with fail
  rw [← hW]
  refine F1.out.mono ?_
  rintro e w' ⟨rfl, rfl⟩
  clear hW
  go_wp2_with fail
  refine F2.out.mono ?_
  rintro e w1 ⟨k, gg, cg, hk, rfl, hrow, hb1, hlg⟩
  have HK := aside hk
  have hk0 : 0 < k := by omega
  have hk1 : k ≤ 65536 := by omega
  clear hk
  have F3 := aside (bclone_any ⟨gg, 0, none⟩ (readB L p k) cg w1 (by simp; omega) (by simp; omega) (fun j v hj => hrow.cells (g := gg) rfl j v hj))
  rw [readB_length] at F3
  have HT1 : Aside (w1.heap[w.heap.size + 1]? = some (.cells #[.int .i64 0, .int .i64 0, .int .i64 0, .slice none 0 0] 54 (0, 0))) := (hb1.block _ (by have := HSZ.out; omega)).trans HT.out
  have HB1 := aside (below_tr HB.out hb1)
  have hs1 := hb1.size
  clear hrow hb1 hlg
  go_wp2_with fail
  refine F3.out.mono ?_
  rintro e w2 ⟨g', cap, rfl, hg, hown, hb2⟩
  have HT2 : Aside (w2.heap[w.heap.size + 1]? = some (.cells #[.int .i64 0, .int .i64 0, .int .i64 0, .slice none 0 0] 54 (0, 0))) := (hb2.block _ (by have := HSZ.out; omega)).trans HT1.out
  have HO := aside hown
  have HB2 := aside (below_tr HB1.out hb2)
  clear hown hb2
  go_wp2_with ((with_reducible refine wpList_store_row rfl 54 _ _ rfl (w.heap.size + 1) #[.int .i64 0, .int .i64 0, .int .i64 0, .slice (some ⟨g', 0, none⟩) k cap] ?_ ?_ 54 _ HT2.out ?_ ?_ ?_ ?_); kernel_rfl; kernel_rfl; kernel_rfl; kernel_rfl; kernel_rfl)
  refine bodyPost_ret (results_cell_row rfl _ _ (w.heap.size + 1) 54 _ (0, 0) _ rfl (setRow_heap w2 _ _ _ _ _ HT2.out) Try.underlying54 rfl (by kernel_rfl)) rfl ?_
  have hsz := HSZ.out
  refine ⟨k, g', cap, HK.out, rfl, ?_, below_setRow HB2.out (by omega) _, by omega⟩
  exact (Upd.setRow (F := fun k => k = w.heap.size + 1) w2 (w.heap.size + 1) _ rfl).row HO.out (fun k hk => by simp only [Value.ownBlock, Option.some.injEq] at hk; omega)

set_option maxRecDepth 20000 in
set_option maxHeartbeats 1000000 in
theorem doG_gone (hb fb f d x y : Nat) (p n : Nat) (a : Int) (b : Bok) (w : World) (h : AllT 71 w hb fb ⟨f, 0, none⟩) (hG : Gd w f d x y) (hA : Ask2 w x y b.p a) (hB0 : Bk w b) (hw : (Lit.int .i64 a).wf = true) (hl : lk b.L a = none) :
    Calls Try.prog 19 #[pt hb, .agg #[.int .i8 1, .int .i64 p, .int .i64 n, .slice none 0 0]] w fun e w' => e = .returned (.agg #[.int .i64 6, .int .i64 0, .int .i64 0, .slice none 0 0]) ∧ Below w.heap.size w w' := by
  obtain ⟨W, hW⟩ : ∃ W, W = (w.alloc (.cells #[.int .i8 1, .int .i64 p, .int .i64 n, .slice none 0 0] 43)).alloc (.cells #[.int .i64 0, .int .i64 0, .int .i64 0, .slice none 0 0] 54) := ⟨_, rfl⟩
  have hB : Below w.heap.size w W := by rw [hW]; exact below_tr (below_al w _) (below_al _ _)
  have hT : W.heap[w.heap.size + 1]? = some (.cells #[.int .i64 0, .int .i64 0, .int .i64 0, .slice none 0 0] 54 (0, 0)) := by rw [hW]; exact heap_alloc2_new w _ _
  have HSZ := aside (show W.heap.size = w.heap.size + 2 by rw [hW]; simp)
  have o0 : W.cell? ⟨w.heap.size, 0, none⟩ = some (.int .i8 1) := by rw [hW]; go_simp
  have o1 : W.cell? ⟨w.heap.size, 1, none⟩ = some (.int .i64 p) := by rw [hW]; go_simp
  have o2 : W.cell? ⟨w.heap.size, 2, none⟩ = some (.int .i64 n) := by rw [hW]; go_simp
  have h' := h.below hB
  have c5 := (han_cells h'.han).2.2.2.2.2
  have hm := meth71_ReadAt W fb f h'.c0
  have F1 := aside (file_any hb _ W c5)
  have F2 := aside (gRead_gone f d x y (p : Int) (n : Int) a b W (hG.below hB) (hA.below hB) (hB0.below hB) hw hl)
  have HB := aside hB
  have HT := aside hT
  clear h h' hB hT c5 hG hA hB0 hl
  go_enter Try.func19, Try.ntmps19
  go_wp2_with fail
  rw [← hW]
  refine F1.out.mono ?_
  rintro e w' ⟨rfl, rfl⟩
  clear hW
  go_wp2_with fail
  refine F2.out.mono ?_
  rintro e w1 ⟨rfl, hb1⟩
  have HT1 : Aside (w1.heap[w.heap.size + 1]? = some (.cells #[.int .i64 0, .int .i64 0, .int .i64 0, .slice none 0 0] 54 (0, 0))) := (hb1.block _ (by have := HSZ.out; omega)).trans HT.out
  have HB1 := aside (below_tr HB.out hb1)
  clear hb1
  go_wp2_with fail
  refine (bclone_nil w1).mono ?_
  rintro e w2 ⟨rfl, rfl⟩
  go_wp2_with ((with_reducible refine wpList_store_row rfl 54 _ _ rfl (w.heap.size + 1) #[.int .i64 6, .int .i64 0, .int .i64 0, .slice none 0 0] ?_ ?_ 54 _ HT1.out ?_ ?_ ?_ ?_); kernel_rfl; kernel_rfl; kernel_rfl; kernel_rfl; kernel_rfl)
  refine bodyPost_ret (results_cell_row rfl _ _ (w.heap.size + 1) 54 _ (0, 0) _ rfl (setRow_heap w2 _ _ _ _ _ HT1.out) Try.underlying54 rfl (by kernel_rfl)) rfl ?_
  have hsz := HSZ.out
  exact ⟨rfl, below_setRow HB1.out (by omega) _⟩
end Go.Proofs.Ytleenkdlnmoepaa
