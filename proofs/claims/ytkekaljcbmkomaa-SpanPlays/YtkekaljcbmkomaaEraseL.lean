/- (*Bytes).erase where only the first stretch keeps its beginning. -/
import Derived.Test.YtkekaljcbmkomaaErase
namespace Go.Proofs.Ytkekaljcbmkomaa
open Go.RowKit
attribute [local simp] lcells_nil readB_length bcells_length
set_option maxHeartbeats 2000000 in
set_option maxRecDepth 100000 in
theorem eraseL_any (b : Nat) (sz : Nat) (lv : Value) (L : List Piece) (x y i j : Nat) (w : World) (hR : Rep w b sz lv L) (hxy : x < y) (hy : y ≤ 1073741824)
    (hi : L.findIdx (fun d => decide ((x : Int) < d.fin)) = i) (hj : L.findIdx (fun d => decide ((y : Int) ≤ d.org)) = j) (hij : i < j) (f t : Piece) (hf : L[i]? = some f) (ht : L[j - 1]? = some t) (hfx : f.org < x) (hty : t.fin ≤ y) :
    Calls Try.prog 37 #[.pointer (some ⟨b, 0, none⟩), .int .i64 x, .int .i64 y] w fun e w' => e = .returned (.tuple #[]) ∧ ∃ lv' gl cl, Str w' b (.int .i64 sz) (.int .i64 ((heldOf L - ovls x y L : Nat) : Int)) lv' (L.take i ++ [⟨f.org, gl, cl, f.bs.take (x - f.org)⟩] ++ L.drop j) ∧ (gl = f.blk ∨ w.heap.size ≤ gl) ∧ (lv'.ownBlock = lv.ownBlock ∨ ∃ k, lv'.ownBlock = some k ∧ w.heap.size ≤ k) ∧ Upd (Foot b lv L) w w' := by
  obtain ⟨c0, c1, c2⟩ := hR.cells
  have hbl : b < w.heap.size := World.block_lt_of_cell? w _ c0
  have hhe := hR.inv.held
  have hov := ovls_le x y L
  obtain ⟨W0, hW0⟩ : ∃ W0, W0 = (w.alloc (.cells #[.int .i64 x] 2)).alloc (.cells #[.int .i64 y] 2) := ⟨_, rfl⟩
  have hB0 : Below w.heap.size w W0 := by rw [hW0]; exact (below_al w _).alloc (by simp) _
  have cx : W0.cell? ⟨w.heap.size, 0, none⟩ = some (.int .i64 x) := by rw [hW0]; go_simp
  have cy : W0.cell? ⟨w.heap.size + 1, 0, none⟩ = some (.int .i64 y) := by rw [hW0]; go_simp
  have hR0 := hR.below hB0
  have d1 : W0.cell? ⟨b, 1, none⟩ = some (.int .i64 (heldOf L)) := hR0.cells.2.1
  have f1 : W0.frozen? ⟨b, 1, none⟩ = false := frozen_of_row W0 b 1 _ _ hR0.str.obj
  have bx : w.heap.size < W0.heap.size := World.block_lt_of_cell? W0 _ cx
  have by' : w.heap.size + 1 < W0.heap.size := World.block_lt_of_cell? W0 _ cy
  have hb0 : b < W0.heap.size := by omega
  have W1 := fun (W : World) (hW : Below W0.heap.size W0 W) => written_any b lv sz L x y W hR.inv (by omega) hy (hR0.below hW).cells.2.2 (hR0.below hW).str.row
  have HW := aside W1
  have HR0 := aside hR0
  have HB0 := aside hB0
  have HI := aside hi
  have HF := aside hf
  have HTT := aside ht
  have HIN := aside hR.inv
  have HJ := aside hj
  have hlt : (x : Int) < (y : Int) := by omega
  have hwr : IntKind.i64.wrap ((heldOf L : Int) - (ovls x y L : Int)) = ((heldOf L - ovls x y L : Nat) : Int) := by rw [IntKind.wrap_i64]; omega
  generalize hov_ : ovls x y L = ov at *
  generalize hhe_ : heldOf L = he at *
  have HOV := aside hov_
  have HHE := aside hhe_
  have HWR := aside hwr
  clear hwr
  clear W1 hR hR0 hB0 hi hj hf ht hov_ hhe_ c0 c1 c2
  go_enter Try.func37, Try.ntmps37
  go_upto_region 2 with fail
  rw [← hW0]
  clear hW0
  go_cut [4] from 11 to 108 (fun p4 wx => p4 = .pointer (some ⟨w.heap.size, 0, none⟩) ∧ ∃ wy, Below W0.heap.size W0 wy ∧ wx = wy.setCell ⟨b, 1, none⟩ (.int .i64 ((he - ov : Nat) : Int)))
  case first =>
    go_region_with (go_at_call 35; refine (HW.out _ ?_).mono ?_; (exact (Below.refl _ _).drew); rintro e w' ⟨rfl, hb⟩; have c1w : w'.cell? ⟨b, 1, none⟩ = some (.int .i64 he) := (hb.cell (p := ⟨b, 1, none⟩) hb0).trans d1; have f1w : w'.frozen? ⟨b, 1, none⟩ = false := (hb.frozen (p := ⟨b, 1, none⟩) hb0).trans f1)
    all_goals
      go_wp2_with fail
      go_meet
      case rel => exact ⟨rfl, w', below_tr (below_dr W0) hb, by rw [HWR.out]⟩
  case rest =>
    obtain ⟨rfl, wy, hwy, rfl⟩ := hcut
    have hRy := HR0.out.below hwy
    have hSt := hRy.str.set 1 (.int .i64 ((he - ov : Nat) : Int)) (.int .i64 sz) (.int .i64 ((he - ov : Nat) : Int)) rfl
    have hub : Upd (fun k => k = b) W0 (wy.setCell ⟨b, 1, none⟩ (.int .i64 ((he - ov : Nat) : Int))) := (Upd.of_below hwy).trans (Upd.setCell (F := fun k => k = b) (p := ⟨b, 1, none⟩) rfl _) (fun _ _ h => h)
    generalize wy.setCell ⟨b, 1, none⟩ (.int .i64 ((he - ov : Nat) : Int)) = wp at *
    have hps := hub.size
    have px : wp.cell? ⟨w.heap.size, 0, none⟩ = some (.int .i64 x) := (World.cell?_of_block (a := ⟨w.heap.size, 0, none⟩) (hub.block w.heap.size bx (by omega))).trans cx
    have py : wp.cell? ⟨w.heap.size + 1, 0, none⟩ = some (.int .i64 y) := (World.cell?_of_block (a := ⟨w.heap.size + 1, 0, none⟩) (hub.block (w.heap.size + 1) by' (by omega))).trans cy
    have hl2 : wp.cell? ⟨b, 2, none⟩ = some lv := by rw [cell_of_row wp b 2 _ _ _ hSt.obj]; rfl
    obtain ⟨S1, S2⟩ := erase_S b lv sz L x y wp HIN.out w.heap.size (w.heap.size + 1) px py hl2 hSt.row
    rw [HI.out] at S1
    rw [HJ.out] at S2
    have hlen := HIN.out.len
    have hjn : j ≤ L.length := by rw [← HJ.out]; exact List.findIdx_le_length
    have HS1 := aside S1
    have HS2 := aside S2
    have HST := aside hSt
    have HUB := aside hub
    clear S1 S2 hRy hwy cx cy d1 f1
    go_wp2_with fail
    refine (HS1.out _ (Below.refl _ _)).mono ?_
    rintro e w1 ⟨rfl, hb1⟩
    go_wp2_with fail
    refine (HS2.out _ hb1).mono ?_
    rintro e w2 ⟨rfl, hb2⟩
    have hw2 := below_tr hb1 hb2
    have hS2 := HST.out.below hw2
    have qx : w2.cell? ⟨w.heap.size, 0, none⟩ = some (.int .i64 x) := (hw2.cell (World.block_lt_of_cell? wp _ px)).trans px
    have qy : w2.cell? ⟨w.heap.size + 1, 0, none⟩ = some (.int .i64 y) := (hw2.cell (World.block_lt_of_cell? wp _ py)).trans py
    obtain ⟨lg, lc, hlv, hf0, hf1⟩ := row_at hS2.row (i := i) (by omega)
    obtain ⟨lg2, lc2, hlv2, ht0, ht1⟩ := row_at hS2.row (i := j - 1) (by omega)
    have ql : w2.cell? ⟨b, 2, none⟩ = some lv := by rw [cell_of_row w2 b 2 _ _ _ hS2.obj]; rfl
    rw [hlv] at hlv2 ql
    simp only [Value.slice.injEq, Option.some.injEq, Addr.mk.injEq, true_and, and_true] at hlv2
    obtain ⟨rfl, rfl⟩ := hlv2
    have ef : L[i] = f := Option.some.inj ((List.getElem?_eq_getElem (by omega)).symm.trans HF.out)
    have et : L[j - 1] = t := Option.some.inj ((List.getElem?_eq_getElem (by omega)).symm.trans HTT.out)
    rw [ef] at hf0 hf1
    rw [et] at ht0 ht1
    unfold Piece.dv at hf1 ht1
    obtain ⟨jm, hjm⟩ : ∃ jm, jm = j - 1 := ⟨_, rfl⟩
    rw [← hjm] at ht0 ht1
    have hjn1 : (j : Int) - 1 = (jm : Int) := by omega
    have hjz : (jm : Int) < (L.length : Int) := by omega
    have hjw : IntKind.i64.wrap (jm : Int) = (jm : Int) := by rw [IntKind.wrap_i64]; omega
    have hiz : (i : Int) < (L.length : Int) := by omega
    have hfL : f ∈ L := List.mem_of_getElem? HF.out
    have htL : t ∈ L := List.mem_of_getElem? HTT.out
    have hfl := HIN.out.fin f hfL
    have htl := HIN.out.fin t htL
    have hszz := HIN.out.size
    unfold Piece.fin at hfl htl hty
    have HW2 := aside hw2
    have HS2' := aside hS2
    have g1 : decide ((i : Int) < (j : Int)) = true := by simp; omega
    have g1b : decide (i < j) = true := by simp; omega
    have g2 : decide ((f.org : Int) < (x : Int)) = true := by simp; omega
    have g2b : decide (f.org < x) = true := by simp; omega
    have xx := fun d os => ext_cell qx d os
    have xl := fun d os => ext_cell ql d os
    have xf0 := fun d os => ext_cell hf0 d os
    clear hw2 hb1 hb2 hlv ef et hjm hS2 px py hl2 hSt hub
    go_wp2
    refine region_ext (by kernel_rfl) (by kernel_rfl) ?_
    repeat (any_goals (first | go_big_quiet_step ((fail)) | quiet_step ((fail))))
    refine wpQuiet_nil ?_
    intro w3 hb3
    have r_l : w3.cell? ⟨b, 2, none⟩ = some (.slice (some ⟨lg, 0, none⟩) L.length lc) := (hb3.cell (World.block_lt_of_cell? w2 _ ql)).trans ql
    have r_f0 : w3.cell? ⟨lg, i * 2, none⟩ = some (.int .i64 f.org) := (hb3.cell (World.block_lt_of_cell? w2 _ hf0)).trans hf0
    have r_f1 : w3.cell? ⟨lg, i * 2 + 1, none⟩ = some (.slice (some ⟨f.blk, 0, none⟩) f.bs.length f.cap) := (hb3.cell (World.block_lt_of_cell? w2 _ hf1)).trans hf1
    have r_x : w3.cell? ⟨w.heap.size, 0, none⟩ = some (.int .i64 x) := (hb3.cell (World.block_lt_of_cell? w2 _ qx)).trans qx
    have wx3 : w.heap.size < w3.heap.size := World.block_lt_of_cell? w3 _ r_x
    obtain ⟨p, hp⟩ : ∃ p, p = x - f.org := ⟨_, rfl⟩
    have hpz : (x : Int) - (f.org : Int) = (p : Int) := by omega
    have hxf : x < f.org + f.bs.length := by
      have := findIdx_at (q := fun d : Piece => decide ((x : Int) < d.fin)) (L := L) (by rw [HI.out]; omega)
      simp only [HI.out] at this
      have h2 := of_decide_eq_true this
      have ef : L[i] = f := Option.some.inj ((List.getElem?_eq_getElem (by omega)).symm.trans HF.out)
      rw [ef] at h2
      unfold Piece.fin at h2
      omega
    have hpl : p ≤ f.bs.length := by omega
    have hpw : IntKind.i64.wrap (p : Int) = (p : Int) := by rw [IntKind.wrap_i64]; omega
    have hrf : ∀ W, Below w2.heap.size w2 W → W.ownsRow 0 5 1 (.slice (some ⟨f.blk, 0, none⟩) p f.cap) p (bcells (f.bs.take p)) := fun W hW => row_take ((HS2'.out.below hW).data f hfL) p hpl rfl
    have hfc : p ≤ f.cap := by
      obtain ⟨_, _, e, h1, -⟩ := row_form (hrf w2 (Below.refl _ _))
      simp only [Value.slice.injEq, true_and] at e
      omega
    have HRF := aside hrf
    have HP := aside hp
    clear xx xl xf0 hrf hp hxf
    go_upto_region 8 with fail
    go_cut [8] from 11 to 108 (fun p8 wx => ∃ a8 c8 gl cl, p8 = .slice a8 1 c8 ∧ wx.ownsRow 0 56 2 (.slice a8 1 c8) 1 [.int .i64 f.org, .slice (some ⟨gl, 0, none⟩) p cl] ∧ wx.ownsRow 0 5 1 (.slice (some ⟨gl, 0, none⟩) p cl) p (bcells (f.bs.take p)) ∧ (gl = f.blk ∨ w2.heap.size ≤ gl) ∧ (∃ k, Value.ownBlock (.slice a8 1 c8) = some k ∧ w2.heap.size ≤ k ∧ k ≠ gl) ∧ Below w2.heap.size w2 wx)
    case first =>
      have s90 : (w3.alloc (.cells #[.int .i64 f.org, .slice (some ⟨f.blk, 0, none⟩) f.bs.length f.cap] 56)).cell? ⟨w3.heap.size, 0, none⟩ = some (.int .i64 f.org) := by go_simp
      have s91 : (w3.alloc (.cells #[.int .i64 f.org, .slice (some ⟨f.blk, 0, none⟩) f.bs.length f.cap] 56)).cell? ⟨w3.heap.size, 1, none⟩ = some (.slice (some ⟨f.blk, 0, none⟩) f.bs.length f.cap) := by go_simp
      have sx : (w3.alloc (.cells #[.int .i64 f.org, .slice (some ⟨f.blk, 0, none⟩) f.bs.length f.cap] 56)).cell? ⟨w.heap.size, 0, none⟩ = some (.int .i64 x) := ((below_al w3 _).cell wx3).trans r_x
      have hw4 := below_tr hb3 (below_al w3 (.cells #[.int .i64 f.org, .slice (some ⟨f.blk, 0, none⟩) f.bs.length f.cap] 56))
      have l90 : w3.heap.size < (w3.alloc (.cells #[.int .i64 f.org, .slice (some ⟨f.blk, 0, none⟩) f.bs.length f.cap] 56)).heap.size := by simp
      have lx : w.heap.size < (w3.alloc (.cells #[.int .i64 f.org, .slice (some ⟨f.blk, 0, none⟩) f.bs.length f.cap] 56)).heap.size := by simp; omega
      generalize hW4 : w3.alloc (.cells #[.int .i64 f.org, .slice (some ⟨f.blk, 0, none⟩) f.bs.length f.cap] 56) = w4 at *
      clear hW4
      have HW4 := aside hw4
      clear hw4
      go_region_held2 (fun w' => w'.cell? ⟨w3.heap.size, 0, none⟩ = some (.int .i64 f.org) ∧ w'.cell? ⟨w3.heap.size, 1, none⟩ = some (.slice (some ⟨f.blk, 0, none⟩) f.bs.length f.cap) ∧ w'.cell? ⟨w.heap.size, 0, none⟩ = some (.int .i64 x)) (go_keep) (first
        | (go_at_call 50; refine (fit50s_any f.blk p f.cap (f.bs.take p) _ (HRF.out _ (HW4.out.drew)) (by omega)).mono ?_; rintro e w5 ⟨gl, cl, rfl, ho5, hb5, hw5⟩; have t90 : w5.cell? ⟨w3.heap.size, 0, none⟩ = some (.int .i64 f.org) := (hb5.cell (p := ⟨w3.heap.size, 0, none⟩) l90).trans s90; have t91 : w5.cell? ⟨w3.heap.size, 1, none⟩ = some (.slice (some ⟨f.blk, 0, none⟩) f.bs.length f.cap) := (hb5.cell (p := ⟨w3.heap.size, 1, none⟩) l90).trans s91; have tx : w5.cell? ⟨w.heap.size, 0, none⟩ = some (.int .i64 x) := (hb5.cell (p := ⟨w.heap.size, 0, none⟩) lx).trans sx; have HO5 := aside ho5; have HB5 : Aside (Below w4.heap.size w4 w5) := (below_tr (below_dr w4) hb5); have HG5 : Aside (gl = f.blk ∨ w4.heap.size ≤ gl) := hw5; clear ho5 hb5 hw5)
        | (refine step_append_where rfl _ _ rfl (.slice none 0 0) 0 [] (by simp [Act.eval]) (World.ownsRow_nil _ _ _ _) (by omega) w5.heap.size 1 [.int .i64 f.org, .slice (some ⟨gl, 0, none⟩) p cl] (by simp [Act.eval]) (own_one (heap_alloc_new w5 _)) (by intro u hu; simp only [List.mem_cons, List.not_mem_nil, or_false] at hu; rcases hu with rfl | rfl <;> rfl) ?_; rintro v8 w6 ho6 hg6 hw6 ⟨a8, c8, rfl⟩; have u90 : w6.cell? ⟨w3.heap.size, 0, none⟩ = some (.int .i64 f.org) := hg6.cell (((below_al w5 _).cell (World.block_lt_of_cell? w5 _ t90)).trans t90) (by simp [Value.ownBlock]); have u91 : w6.cell? ⟨w3.heap.size, 1, none⟩ = some (.slice (some ⟨f.blk, 0, none⟩) f.bs.length f.cap) := hg6.cell (((below_al w5 _).cell (World.block_lt_of_cell? w5 _ t91)).trans t91) (by simp [Value.ownBlock]); have ux : w6.cell? ⟨w.heap.size, 0, none⟩ = some (.int .i64 x) := hg6.cell (((below_al w5 _).cell (World.block_lt_of_cell? w5 _ tx)).trans tx) (by simp [Value.ownBlock]); have HO6 := aside ho6; have HG6 := aside hg6; have HW6 := aside hw6; clear ho6 hg6 hw6))
      all_goals
        go_wp2_with fail
        go_meet
        case rel =>
          have hb6 : Below w5.heap.size w5 w6 := below_tr (below_al w5 _) (below_of_grown HG6.out)
          have hb56 := below_tr HB5.out hb6
          have hs4 := HW4.out.size
          have hs5 := HB5.out.size
          refine ⟨a8, c8, gl, cl, rfl, HO6.out, row_below HO5.out hb6, ?_, ?_, below_tr HW4.out hb56⟩
          · rcases HG5.out with e | e
            · exact .inl e
            · exact .inr (by omega)
          · rcases HW6.out with e | ⟨k, e, hk⟩
            · obtain ⟨g, c, cu, e1, -⟩ := own_cells HO6.out (by omega)
              rw [e1] at e
              simp [Value.ownBlock] at e
            · refine ⟨k, e, ?_, ?_⟩
              · simp at hk; omega
              · have hg := (HO5.out.lt gl rfl).2
                simp at hk; omega
    case rest =>
      obtain ⟨a8, c8, gl, cl, rfl, ho8, hol, hgl, ⟨k8, ek8, hk8, hk8g⟩, hb8⟩ := hcut
      have z_l : wc.cell? ⟨b, 2, none⟩ = some (.slice (some ⟨lg, 0, none⟩) L.length lc) := (hb8.cell (World.block_lt_of_cell? w2 _ ql)).trans ql
      have z_t0 : wc.cell? ⟨lg, jm * 2, none⟩ = some (.int .i64 t.org) := (hb8.cell (World.block_lt_of_cell? w2 _ ht0)).trans ht0
      have z_t1 : wc.cell? ⟨lg, jm * 2 + 1, none⟩ = some (.slice (some ⟨t.blk, 0, none⟩) t.bs.length t.cap) := (hb8.cell (World.block_lt_of_cell? w2 _ ht1)).trans ht1
      have z_y : wc.cell? ⟨w.heap.size + 1, 0, none⟩ = some (.int .i64 y) := (hb8.cell (World.block_lt_of_cell? w2 _ qy)).trans qy
      have yl := fun d os => ext_cell z_l d os
      have y0 := fun d os => ext_cell z_t0 d os
      have y1 := fun d os => ext_cell z_t1 d os
      have yy := fun d os => ext_cell z_y d os
      have g3 : decide ((y : Int) < (t.org : Int) + (t.bs.length : Int)) = false := by simp; omega
      have g3b : decide ((t.org : Int) + (t.bs.length : Int) > (y : Int)) = false := by simp; omega
      have HO8 := aside ho8
      have HOL := aside hol
      have HGL := aside hgl
      have HB8 := aside hb8
      clear ho8 hol hgl hb8 r_l r_f0 r_f1 r_x hf0 hf1
      go_wp2
      refine region_ext (by kernel_rfl) (by kernel_rfl) ?_
      repeat (any_goals (first | go_big_quiet_step ((go_at_call 41; exact calls_ext (to_any _ _ _ _ _ (by omega) (by omega) (by omega)))) | quiet_step ((go_at_call 41; exact calls_ext (to_any _ _ _ _ _ (by omega) (by omega) (by omega))))))
      refine wpQuiet_nil ?_
      intro w7 hb7
      have hb9 := below_tr HB8.out hb7
      have ho9 := row_below HO8.out hb7
      have hl9 := row_below HOL.out hb7
      have hSx := HS2'.out.below hb9
      have hp1 : (f.bs.take p).length = p := by rw [List.length_take]; omega
      have hfb := HS2'.out.dne f hfL
      have hb2 := HS2'.out.lv_lt (.inl rfl)
      have hFlt : ∀ k, Foot b lv L k → k < w2.heap.size := fun k hk => HS2'.out.lv_lt hk
      have hC := replacePieces b (.int .i64 sz) (.int .i64 ((he - ov : Nat) : Int)) lv (.slice a8 1 c8) L [⟨f.org, gl, cl, f.bs.take p⟩] i j w7 hSx (by omega) hjn hlen (by simp)
        (by
          have e : lcells [⟨f.org, gl, cl, f.bs.take p⟩] = [.int .i64 f.org, .slice (some ⟨gl, 0, none⟩) p cl] := by
            simp only [lcells, List.flatMap_cons, List.flatMap_nil, List.append_nil, Piece.dv, hp1]
          rw [e]; exact ho9)
        (by simp) (fun k hk h => by rw [ek8] at hk; injection hk with hk; have := hFlt k h; omega)
        (by
          intro d hd
          simp only [List.mem_cons, List.not_mem_nil, or_false] at hd
          rw [hd]
          simp only [Piece.dv, hp1]; exact hl9)
        (by
          intro d hd
          simp only [List.mem_cons, List.not_mem_nil, or_false] at hd
          rw [hd]
          rcases HGL.out with e | e
          · simp only; rw [e]; exact hfb
          · refine ⟨by simp only; omega, fun h => ?_⟩
            have := hFlt gl (.inr (.inl h)); omega)
        (by simp)
        (by
          intro d hd e he'
          obtain ⟨h1, h2⟩ := kept_ne HS2'.out.nd HF.out hij he'
          have h3 := hFlt e.blk (.inr (.inr ⟨e, h1, rfl⟩))
          simp only [List.mem_cons, List.not_mem_nil, or_false] at hd
          rw [hd]
          rcases HGL.out with e1 | e1
          · simp only; rw [e1]; exact h2
          · simp only; omega)
      have HC := aside hC
      have HB9 := aside hb9
      clear hC hSx ho9 hl9 hb9 hb7
      go_wp2_with fail
      refine HC.out.mono ?_
      rintro e w' ⟨rfl, lv', hS', hk', hu'⟩
      go_wp2
      go_end0
      have hsw : w.heap.size ≤ w2.heap.size := by have := World.block_lt_of_cell? w2 _ qx; simp at this; omega
      have hsc := HB9.out.size
      refine ⟨rfl, lv', gl, cl, ?_, ?_, ?_, ?_⟩
      · rw [← HP.out]; exact hS'
      · rcases HGL.out with e | e
        · exact .inl e
        · exact .inr (by omega)
      · rcases hk' with e | ⟨k, e, hk⟩
        · exact .inl e
        · exact .inr ⟨k, e, by omega⟩
      · have hu1 : Upd (fun k => k = b) w w2 := ((Upd.of_below (F := fun k => k = b) HB0.out).trans HUB.out (fun _ _ h => h)).trans (Upd.of_below (F := fun k => k = b) (HW2.out)) (fun _ _ h => h)
        refine ((hu1.trans (Upd.of_below (F := fun k => k = b) HB9.out) (fun _ _ h => h)).mono (G := Foot b lv L) (fun k _ h => .inl h)).trans hu' (fun k _ h => ?_)
        rcases h with e | e
        · exact .inl e
        · exact .inr (.inl e)
end Go.Proofs.Ytkekaljcbmkomaa
