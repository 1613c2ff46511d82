/- (*Bytes).erase where it meets no stretch. -/
import Derived.Test.YtkekaljcbmkomaaErase
namespace Go.Proofs.Ytkekaljcbmkomaa
open Go.RowKit
attribute [local simp] lcells_nil readB_length bcells_length
set_option maxHeartbeats 2000000 in
set_option maxRecDepth 100000 in
theorem eraseZ_any (b : Nat) (sz : Nat) (lv : Value) (L : List Piece) (x y i j : Nat) (w : World) (hR : Rep w b sz lv L) (hxy : x < y) (hy : y ≤ 1073741824)
    (hi : L.findIdx (fun d => decide ((x : Int) < d.fin)) = i) (hj : L.findIdx (fun d => decide ((y : Int) ≤ d.org)) = j) (hij : i = j) :
    Calls Try.prog 37 #[.pointer (some ⟨b, 0, none⟩), .int .i64 x, .int .i64 y] w fun e w' => e = .returned (.tuple #[]) ∧ ∃ lv', Str w' b (.int .i64 sz) (.int .i64 ((heldOf L - ovls x y L : Nat) : Int)) lv' (L.take i ++ [] ++ L.drop j) ∧ (lv'.ownBlock = lv.ownBlock ∨ ∃ k, lv'.ownBlock = some k ∧ w.heap.size ≤ k) ∧ Upd (Foot b lv L) w w' := by
  obtain ⟨c0, c1, c2⟩ := hR.cells
  have hbl : b < w.heap.size := World.block_lt_of_cell? w _ c0
  have hhe := hR.inv.held
  have hov := ovls_le x y L
  obtain ⟨W0, hW0⟩ : ∃ W0, W0 = (w.alloc (.cells #[.int .i64 x] 2)).alloc (.cells #[.int .i64 y] 2) := ⟨_, rfl⟩
  have hB0 : Below w.heap.size w W0 := by rw [hW0]; exact (below_al w _).alloc (by simp) _
  have cx : W0.cell? ⟨w.heap.size, 0, none⟩ = some (.int .i64 x) := by rw [hW0]; go_simp
  have cy : W0.cell? ⟨w.heap.size + 1, 0, none⟩ = some (.int .i64 y) := by rw [hW0]; go_simp
  have hR0 := hR.below hB0
  have d1 : W0.cell? ⟨b, 1, none⟩ = some (.int .i64 (heldOf L)) := hR0.cells.2.1
  have f1 : W0.frozen? ⟨b, 1, none⟩ = false := frozen_of_row W0 b 1 _ _ hR0.str.obj
  have bx : w.heap.size < W0.heap.size := World.block_lt_of_cell? W0 _ cx
  have by' : w.heap.size + 1 < W0.heap.size := World.block_lt_of_cell? W0 _ cy
  have hb0 : b < W0.heap.size := by omega
  have W1 := fun (W : World) (hW : Below W0.heap.size W0 W) => written_any b lv sz L x y W hR.inv (by omega) hy (hR0.below hW).cells.2.2 (hR0.below hW).str.row
  have HW := aside W1
  have HR0 := aside hR0
  have HB0 := aside hB0
  have HI := aside hi
  have HIJ := aside hij
  clear hij
  have HIN := aside hR.inv
  have HJ := aside hj
  have hlt : (x : Int) < (y : Int) := by omega
  have hwr : IntKind.i64.wrap ((heldOf L : Int) - (ovls x y L : Int)) = ((heldOf L - ovls x y L : Nat) : Int) := by rw [IntKind.wrap_i64]; omega
  generalize hov_ : ovls x y L = ov at *
  generalize hhe_ : heldOf L = he at *
  have HOV := aside hov_
  have HHE := aside hhe_
  have HWR := aside hwr
  clear hwr
  clear W1 hR hR0 hB0 hi hj hov_ hhe_ c0 c1 c2
  go_enter Try.func37, Try.ntmps37
  go_upto_region 2 with fail
  rw [← hW0]
  clear hW0
  go_cut [4] from 11 to 108 (fun p4 wx => p4 = .pointer (some ⟨w.heap.size, 0, none⟩) ∧ ∃ wy, Below W0.heap.size W0 wy ∧ wx = wy.setCell ⟨b, 1, none⟩ (.int .i64 ((he - ov : Nat) : Int)))
  case first =>
    go_region_with (go_at_call 35; refine (HW.out _ ?_).mono ?_; (exact (Below.refl _ _).drew); rintro e w' ⟨rfl, hb⟩; have c1w : w'.cell? ⟨b, 1, none⟩ = some (.int .i64 he) := (hb.cell (p := ⟨b, 1, none⟩) hb0).trans d1; have f1w : w'.frozen? ⟨b, 1, none⟩ = false := (hb.frozen (p := ⟨b, 1, none⟩) hb0).trans f1)
    all_goals
      go_wp2_with fail
      go_meet
      case rel => exact ⟨rfl, w', below_tr (below_dr W0) hb, by rw [HWR.out]⟩
  case rest =>
    obtain ⟨rfl, wy, hwy, rfl⟩ := hcut
    have hRy := HR0.out.below hwy
    have hSt := hRy.str.set 1 (.int .i64 ((he - ov : Nat) : Int)) (.int .i64 sz) (.int .i64 ((he - ov : Nat) : Int)) rfl
    have hub : Upd (fun k => k = b) W0 (wy.setCell ⟨b, 1, none⟩ (.int .i64 ((he - ov : Nat) : Int))) := (Upd.of_below hwy).trans (Upd.setCell (F := fun k => k = b) (p := ⟨b, 1, none⟩) rfl _) (fun _ _ h => h)
    generalize wy.setCell ⟨b, 1, none⟩ (.int .i64 ((he - ov : Nat) : Int)) = wp at *
    have hps := hub.size
    have px : wp.cell? ⟨w.heap.size, 0, none⟩ = some (.int .i64 x) := (World.cell?_of_block (a := ⟨w.heap.size, 0, none⟩) (hub.block w.heap.size bx (by omega))).trans cx
    have py : wp.cell? ⟨w.heap.size + 1, 0, none⟩ = some (.int .i64 y) := (World.cell?_of_block (a := ⟨w.heap.size + 1, 0, none⟩) (hub.block (w.heap.size + 1) by' (by omega))).trans cy
    have hl2 : wp.cell? ⟨b, 2, none⟩ = some lv := by rw [cell_of_row wp b 2 _ _ _ hSt.obj]; rfl
    obtain ⟨S1, S2⟩ := erase_S b lv sz L x y wp HIN.out w.heap.size (w.heap.size + 1) px py hl2 hSt.row
    rw [HI.out] at S1
    rw [HJ.out] at S2
    have hlen := HIN.out.len
    have hjn : j ≤ L.length := by rw [← HJ.out]; exact List.findIdx_le_length
    have HS1 := aside S1
    have HS2 := aside S2
    have HST := aside hSt
    have HUB := aside hub
    clear S1 S2 hRy hwy cx cy d1 f1
    go_wp2_with fail
    refine (HS1.out _ (Below.refl _ _)).mono ?_
    rintro e w1 ⟨rfl, hb1⟩
    go_wp2_with fail
    refine (HS2.out _ hb1).mono ?_
    rintro e w2 ⟨rfl, hb2⟩
    have hw2 := below_tr hb1 hb2
    have hS2 := HST.out.below hw2
    have qx : w2.cell? ⟨w.heap.size, 0, none⟩ = some (.int .i64 x) := (hw2.cell (World.block_lt_of_cell? wp _ px)).trans px
    have qy : w2.cell? ⟨w.heap.size + 1, 0, none⟩ = some (.int .i64 y) := (hw2.cell (World.block_lt_of_cell? wp _ py)).trans py
    have HW2 := aside hw2
    have HS2' := aside hS2
    have g1 : decide ((i : Int) < (j : Int)) = false := by have := HIJ.out; simp; omega
    have g1b : decide (i < j) = false := by have := HIJ.out; simp; omega
    clear hw2 hb1 hb2 hS2 px py hl2 hSt hub
    go_wp2
    refine region_ext (by kernel_rfl) (by kernel_rfl) ?_
    repeat (any_goals (first | go_big_quiet_step ((fail)) | quiet_step ((fail))))
    refine wpQuiet_nil ?_
    intro w3 hb3
    have HB8 := aside hb3
    clear hb3
    go_wp2
    refine region_ext (by kernel_rfl) (by kernel_rfl) ?_
    repeat (any_goals (first | go_big_quiet_step ((fail)) | quiet_step ((fail))))
    refine wpQuiet_nil ?_
    intro w7 hb7
    have hb9 := below_tr HB8.out hb7
    have hC := replacePieces b (.int .i64 sz) (.int .i64 ((he - ov : Nat) : Int)) lv (.slice none 0 0) L [] i j w7 (HS2'.out.below hb9) (Nat.le_of_eq HIJ.out) hjn hlen (by simp)
      (World.ownsRow_nil _ _ _ _) (fun _ => rfl) (fun k hk h => by simp [Value.ownBlock] at hk) (by simp) (by simp) (by simp) (by simp)
    have HC := aside hC
    have HB9 := aside hb9
    clear hC hb9 hb7
    go_wp2_with fail
    refine HC.out.mono ?_
    rintro e w' ⟨rfl, lv', hS', hk', hu'⟩
    go_wp2
    go_end0
    have hsw : w.heap.size ≤ w2.heap.size := by have := World.block_lt_of_cell? w2 _ qx; simp at this; omega
    have hsc := HB9.out.size
    refine ⟨rfl, lv', hS', ?_, ?_⟩
    · rcases hk' with e | ⟨k, e, hk⟩
      · exact .inl e
      · exact .inr ⟨k, e, by omega⟩
    · have hu1 : Upd (fun k => k = b) w w2 := ((Upd.of_below (F := fun k => k = b) HB0.out).trans HUB.out (fun _ _ h => h)).trans (Upd.of_below (F := fun k => k = b) (HW2.out)) (fun _ _ h => h)
      refine ((hu1.trans (Upd.of_below (F := fun k => k = b) HB9.out) (fun _ _ h => h)).mono (G := Foot b lv L) (fun k _ h => .inl h)).trans hu' (fun k _ h => ?_)
      rcases h with e | e
      · exact .inl e
      · exact .inr (.inl e)
end Go.Proofs.Ytkekaljcbmkomaa
