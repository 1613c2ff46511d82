/- Reads through a cache's handle by Do; a file of memory of any bytes. -/
import Derived.Test.YtppeiljpechenaaCacN
namespace Go.Proofs.Ytppeiljpechenaa
open Go.RowKit Go.MapLit Go.ChangeMaps
attribute [local simp] lcells_nil readB_length bcells_length

theorem meth77_ReadAt (w : World) (fb f : Nat) (h : w.cell? ⟨fb, 0, none⟩ = some (J 77 ⟨f, 0, none⟩)) : (method 322 183 (.pointer (some ⟨fb, 0, none⟩)) "ReadAt").run Try.prog w = .ok (109, pt f) w :=
  (method_up (n := 321) (st := 184) (ix := 0) (ft := 71) (off := 0) (by kernel_rfl) (by kernel_rfl) (up_size 71 (by kernel_rfl) w) (up_agg 71 Try.underlying71 w) (by simpa [Addr.add] using h)).trans (by kernel_rfl)

set_option maxRecDepth 20000 in
set_option maxHeartbeats 1000000 in
theorem cacDo (hb fb f x n N : Nat) (w : World) (h : AllT 77 w hb fb ⟨f, 0, none⟩) (hN : 0 < N ∧ N ≤ 100) (R : World → Prop) (F : Nat → Prop) (hF : ∀ j, F j → j < w.heap.size)
    (hread : ∀ W, Below w.heap.size w W → Calls Try.prog 109 #[pt f, .int .i64 x, .int .i64 n] W fun e w' => ∃ o ocap l, e = .returned (.tuple #[.slice (some ⟨o, 0, none⟩) N ocap, .int .i64 0]) ∧ w'.ownsRow 0 5 1 (.slice (some ⟨o, 0, none⟩) N ocap) N (bcells l) ∧ R w' ∧ Upd F W w')
    (hRb : ∀ w1 w2, R w1 → Below w1.heap.size w1 w2 → R w2) (hRs : ∀ w1 (cs cs0 : Array Value), w1.heap[w.heap.size + 1]? = some (.cells cs0 41 (0, 0)) → R w1 → R (w1.setRow (w.heap.size + 1) cs)) :
    Calls Try.prog 23 #[pt hb, .agg #[.int .i8 1, .int .i64 x, .int .i64 n, .slice none 0 0]] w fun e w' => ∃ v, e = .returned v ∧ R w' ∧ Upd F w w' := by
  obtain ⟨W, hW⟩ : ∃ W, W = (w.alloc (.cells #[.int .i8 1, .int .i64 x, .int .i64 n, .slice none 0 0] 45)).alloc (.cells #[.int .i64 0, .int .i64 0, .int .i64 0, .slice none 0 0] 41) := ⟨_, rfl⟩
  have hB : Below w.heap.size w W := by rw [hW]; exact below_tr (below_al w _) (below_al _ _)
  have hT : W.heap[w.heap.size + 1]? = some (.cells #[.int .i64 0, .int .i64 0, .int .i64 0, .slice none 0 0] 41 (0, 0)) := by rw [hW]; exact heap_alloc2_new w _ _
  have HSZ := aside (show W.heap.size = w.heap.size + 2 by rw [hW]; simp)
  have o0 : W.cell? ⟨w.heap.size, 0, none⟩ = some (.int .i8 1) := by rw [hW]; go_simp
  have o1 : W.cell? ⟨w.heap.size, 1, none⟩ = some (.int .i64 x) := by rw [hW]; go_simp
  have o2 : W.cell? ⟨w.heap.size, 2, none⟩ = some (.int .i64 n) := by rw [hW]; go_simp
  have h' := h.below hB
  have c5 := (han_cells h'.han).2.2.2.2.2
  have hm := meth77_ReadAt W fb f h'.c0
  have F1 := aside (file_any hb _ W c5)
  have F2 := aside (hread W hB)
  have HB := aside hB
  have HT := aside hT
  have HRb := aside hRb
  have HRs := aside hRs
  have HF := aside hF
  clear h h' hB hT c5 hRb hRs hread hF
  go_enter Try.func23, Try.ntmps23
  go_wp2_with fail
  rw [← hW]
  refine F1.out.mono ?_
  rintro e w' ⟨rfl, rfl⟩
  clear hW
  go_wp2_with fail
  refine F2.out.mono ?_
  rintro e w1 ⟨o, ocap, l, rfl, hown, hR, hU⟩
  have hl : l.length = N := by have := hown.1; rw [bcells_length] at this; omega
  have F3 := aside (bclone_any ⟨o, 0, none⟩ l ocap w1 (by omega) (by omega) (fun j v hj => by
    have hjl : j < (bcells l).length := (List.getElem?_eq_some_iff.1 hj).1
    rw [bcells_length] at hjl
    rw [Addr.add_lit, Nat.zero_add, hown.cellAt j (by omega)]; exact hj))
  rw [hl] at F3
  have HT1 : Aside (w1.heap[w.heap.size + 1]? = some (.cells #[.int .i64 0, .int .i64 0, .int .i64 0, .slice none 0 0] 41 (0, 0))) := (hU.block _ (by have := HSZ.out; omega) (fun e => by have := HF.out _ e; omega)).trans HT.out
  have HR1 := aside hR
  have HU1 := aside hU
  clear hown hR hU hl
  go_wp2_with fail
  refine F3.out.mono ?_
  rintro e w2 ⟨g, cap, rfl, hg, hown, hb2⟩
  have HT2 : Aside (w2.heap[w.heap.size + 1]? = some (.cells #[.int .i64 0, .int .i64 0, .int .i64 0, .slice none 0 0] 41 (0, 0))) := (hb2.block _ (Array.getElem?_eq_some_iff.1 HT1.out).1).trans HT1.out
  have HB2 := aside hb2
  clear hown hb2 hg
  go_wp2_with ((with_reducible refine wpList_store_row rfl 41 _ _ rfl (w.heap.size + 1) #[.int .i64 0, .int .i64 0, .int .i64 0, .slice (some ⟨g, 0, none⟩) N cap] ?_ ?_ 41 _ HT2.out ?_ ?_ ?_ ?_); kernel_rfl; kernel_rfl; kernel_rfl; kernel_rfl; kernel_rfl)
  refine bodyPost_ret (results_cell_row rfl _ _ (w.heap.size + 1) 41 _ (0, 0) _ rfl (setRow_heap w2 _ _ _ _ _ HT2.out) Try.underlying41 rfl (by kernel_rfl)) rfl ?_
  refine ⟨_, rfl, HRs.out _ _ _ HT2.out (HRb.out _ _ HR1.out HB2.out), ?_⟩
  have u1 : Upd F w w2 := ((Upd.of_below HB.out).trans HU1.out (fun _ _ h => h)).trans (Upd.of_below (F := F) HB2.out) (fun _ _ h => h)
  exact u1.trans (Upd.setRow (F := fun j => j = w.heap.size + 1) w2 (w.heap.size + 1) _ rfl) (fun j hj e => by omega)

set_option maxRecDepth 20000 in
set_option maxHeartbeats 1000000 in
theorem new_allL (src : Nat) (l : List UInt8) (w : World) (fr : Nat × Nat) (h0 : 0 < l.length) (h1 : l.length ≤ 65536) (hsrc : w.heap[src]? = some (.cells (bcells l).toArray 5 fr)) :
    Calls Try.prog 10 #[.slice (some ⟨src, 0, none⟩) l.length l.length, .int .u8 15] w fun e w' => ∃ hb fb m b lv g cap, e = .returned (.tuple #[.pointer (some ⟨hb, 0, none⟩), .int .i64 0]) ∧ All15 w' hb fb ⟨m, 0, none⟩ ∧ Fil w' m b ∧ Rep w' b l.length lv [⟨0, g, cap, l⟩] ∧ Below w.heap.size w w' := by
  have N1 := new_any ⟨src, 0, none⟩ l l.length w h0 (by omega) (by omega) (cells_lit (cs := bcells l) hsrc)
  rw [List.take_of_length_le (by omega)] at N1
  have HN := aside N1
  have h2 : ¬ ((4194304 : Int) < l.length) := by omega
  have h3 : ¬ (4194304 < l.length) := by omega
  clear N1
  go_enter Try.func10, Try.ntmps10
  go_wp2_with fail
  refine HN.out.mono ?_
  rintro e w1 ⟨rfl, lv, g, cap, hR, hb1, -⟩
  have HR := aside hR
  have HB := aside hb1
  clear hR hb1
  go_wp2_with fail
  refine (of_all w.heap.size w1).mono ?_
  rintro e w2 ⟨hb, fb, m, rfl, h1, h2, h3, h4, h5, hb2⟩
  go_wp2_with fail
  go_ret2
  exact ⟨hb, fb, m, w.heap.size, lv, g, cap, rfl, h4, h5, HR.out.below hb2, below_tr HB.out hb2⟩
end Go.Proofs.Ytppeiljpechenaa
