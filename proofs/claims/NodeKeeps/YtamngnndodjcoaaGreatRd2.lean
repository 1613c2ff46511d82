/- Do of a read of the whole. -/
import Derived.Test.YtamngnndodjcoaaGreatRd
namespace Go.Proofs.YtamngnndodjcoaaGreat
open Go.RowKit

theorem bclone_tel (w0 : World) (l : List UInt8) (v : Value) (w : World) (h : Tel w0 w l v) (hl : l.length ≤ 1000) : Calls Tryz.prog 51 #[v] w fun e w' => ∃ v', e = .returned v' ∧ Tel w w' l v' ∧ Below w.heap.size w w' := by
  rcases h with ⟨rfl, rfl⟩ | ⟨h0, g, c, rfl, -, hc⟩
  · refine (bclone_nil w).mono ?_
    rintro e w' ⟨rfl, rfl⟩
    exact ⟨_, rfl, .inl ⟨rfl, rfl⟩, Below.refl _ _⟩
  · refine (bclone_any ⟨g, 0, none⟩ l c w h0 (by omega) hc).mono ?_
    rintro e w' ⟨g', cap, rfl, hg, ho, hb⟩
    exact ⟨_, rfl, .inr ⟨h0, g', cap, rfl, hg, fun j u hj => ho.cells rfl j u hj⟩, hb⟩

abbrev opRead : Value := .agg #[.int .i8 1, .int .i64 0, .int .i64 2000, .slice none 0 0]
set_option maxRecDepth 20000 in
set_option maxHeartbeats 2000000 in
theorem do_read (hb mo : Nat) (l : List UInt8) (w : World) (h : Hn w hb mo l) (hl : l.length ≤ 1000) : Calls Tryz.prog 23 #[Pt hb, opRead] w fun e w' => ∃ v, e = .returned (.agg #[.int .i64 0, .int .i64 0, .int .i64 0, v]) ∧ Tel w w' l v ∧ Hn w' hb mo l ∧ Upd (fun k => k = mo) w w' := by
  obtain ⟨W, hW⟩ : ∃ W, W = (w.alloc (.cells #[.int .i8 1, .int .i64 0, .int .i64 2000, .slice none 0 0] 61)).alloc (.cells #[.int .i64 0, .int .i64 0, .int .i64 0, .slice none 0 0] 58) := ⟨_, rfl⟩
  have hB : Below w.heap.size w W := by rw [hW]; exact below_tr (below_al w _) (below_al _ _)
  have hT : W.heap[w.heap.size + 1]? = some (.cells #[.int .i64 0, .int .i64 0, .int .i64 0, .slice none 0 0] 58 (0, 0)) := by rw [hW]; exact heap_alloc2_new w _ _
  have HSZ := aside (show W.heap.size = w.heap.size + 2 by rw [hW]; simp)
  have o0 : W.cell? ⟨w.heap.size, 0, none⟩ = some (.int .i8 1) := by rw [hW]; go_simp
  have o1 : W.cell? ⟨w.heap.size, 1, none⟩ = some (.int .i64 0) := by rw [hW]; go_simp
  have o2 : W.cell? ⟨w.heap.size, 2, none⟩ = some (.int .i64 2000) := by rw [hW]; go_simp
  have h' := h.below hB
  obtain ⟨fb, hmf, hA0⟩ := h.han
  have hfl := (Array.getElem?_eq_some_iff.1 hA0.fil).1
  have hhl := (Array.getElem?_eq_some_iff.1 hA0.han).1
  have hA := hA0.below hB
  have hlm := h.my.lt
  have hm := meth_ReadAt W fb ⟨mo, 0, none⟩ hA.c0
  have F1 := aside (hfile_any hb fb _ _ W hA)
  have F2 := aside (mread_any mo l W h'.my hl)
  have AA := aside hA
  have HB := aside hB
  have HT := aside hT
  have hlt := h.lt
  clear h h' hB hT hA hA0
  go_enter Tryz.func23, Tryz.ntmps23
  go_wp2_with fail
  rw [← hW]
  refine F1.out.mono ?_
  rintro e w' ⟨rfl, rfl⟩
  clear hW
  go_wp2_with fail
  refine F2.out.mono ?_
  rintro e w1 ⟨v1, rfl, hT1, hmy1, hu1⟩
  have hsz := HSZ.out
  have HT1 : Aside (w1.heap[w.heap.size + 1]? = some (.cells #[.int .i64 0, .int .i64 0, .int .i64 0, .slice none 0 0] 58 (0, 0))) := (hu1.block _ (by omega) (fun e => by have e : w.heap.size + 1 = mo := e; omega)).trans HT.out
  obtain ⟨a1, c1, rfl⟩ := hT1.form
  have ACl := aside (bclone_tel w' l _ w1 hT1 hl)
  have AMY := aside hmy1
  have AU := aside hu1
  have hs1 := hu1.size
  clear hmy1 hu1 hT1
  go_wp2_with fail
  refine ACl.out.mono ?_
  rintro e w2 ⟨v2, rfl, hT2, hb2⟩
  obtain ⟨a2, c2, rfl⟩ := hT2.form
  have HT2 : Aside (w2.heap[w.heap.size + 1]? = some (.cells #[.int .i64 0, .int .i64 0, .int .i64 0, .slice none 0 0] 58 (0, 0))) := (hb2.block _ (by omega)).trans HT1.out
  have AT2 := aside hT2
  have AB2 := aside hb2
  clear hT2 hb2
  go_wp2_with ((with_reducible refine wpList_store_row rfl 58 _ _ rfl (w.heap.size + 1) #[.int .i64 0, .int .i64 0, .int .i64 0, .slice a2 l.length c2] ?_ ?_ 58 _ HT2.out ?_ ?_ ?_ ?_); kernel_rfl; kernel_rfl; kernel_rfl; kernel_rfl; kernel_rfl)
  refine bodyPost_ret (results_cell_row rfl _ _ (w.heap.size + 1) 58 _ (0, 0) _ rfl (setRow_heap w2 _ _ _ _ _ HT2.out) Tryz.underlying58 rfl (by kernel_rfl)) rfl ?_
  have uR : Upd (fun k => k = w.heap.size + 1) w2 (w2.setRow (w.heap.size + 1) #[.int .i64 0, .int .i64 0, .int .i64 0, .slice a2 l.length c2]) := Upd.setRow _ _ _ rfl
  have hA1 := (AA.out.upd AU.out (fun e => by have e : hb = mo := e; omega) (fun e => by have e : fb = mo := e; omega)).below AB2.out
  refine ⟨_, rfl, ?_, ⟨⟨fb, hmf, hA1.upd uR (fun e => by have e : hb = w.heap.size + 1 := e; omega) (fun e => by have e : fb = w.heap.size + 1 := e; omega)⟩, hlt, (AMY.out.below AB2.out).upd uR (fun k hk e => by have e : k = w.heap.size + 1 := e; omega)⟩, ?_⟩
  · rcases AT2.out with h | ⟨h0, g, c', e, hg, r⟩
    · exact .inl h
    · refine .inr ⟨h0, g, c', e, by omega, fun j u hj => ?_⟩
      have h1 := r j u hj
      exact (World.cell?_of_block (uR.block _ (World.block_lt_of_cell? w2 _ h1) (by rw [add_block]; simp only; omega))).trans h1
  · exact (Upd.of_below HB.out).trans (((AU.out.trans (Upd.of_below (F := fun k => k = mo) AB2.out) (fun _ _ h => h)).mono (G := fun k => k = mo ∨ k = w.heap.size + 1) (fun _ _ h => .inl h)).trans (G := fun k => k = w.heap.size + 1) uR (fun _ _ h => .inr h)) (fun j hj h => h.elim id (fun e => by omega))
end Go.Proofs.YtamngnndodjcoaaGreat
