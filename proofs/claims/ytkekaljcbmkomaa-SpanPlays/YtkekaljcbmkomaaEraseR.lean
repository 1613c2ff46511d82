/- (*Bytes).erase where only the last stretch keeps its end. -/
import Derived.Test.YtkekaljcbmkomaaErase
namespace Go.Proofs.Ytkekaljcbmkomaa
open Go.RowKit
attribute [local simp] lcells_nil readB_length bcells_length
set_option maxHeartbeats 2000000 in
set_option maxRecDepth 100000 in
theorem eraseR_any (b : Nat) (sz : Nat) (lv : Value) (L : List Piece) (x y i j : Nat) (w : World) (hR : Rep w b sz lv L) (hxy : x < y) (hy : y ≤ 1073741824)
    (hi : L.findIdx (fun d => decide ((x : Int) < d.fin)) = i) (hj : L.findIdx (fun d => decide ((y : Int) ≤ d.org)) = j) (hij : i < j) (f t : Piece) (hf : L[i]? = some f) (ht : L[j - 1]? = some t) (hfx : x ≤ f.org) (hty : y < t.fin) :
    Calls Try.prog 37 #[.pointer (some ⟨b, 0, none⟩), .int .i64 x, .int .i64 y] w fun e w' => e = .returned (.tuple #[]) ∧ ∃ lv' gr cr, Str w' b (.int .i64 sz) (.int .i64 ((heldOf L - ovls x y L : Nat) : Int)) lv' (L.take i ++ [⟨y, gr, cr, t.bs.drop (y - t.org)⟩] ++ L.drop j) ∧ w.heap.size ≤ gr ∧ (lv'.ownBlock = lv.ownBlock ∨ ∃ k, lv'.ownBlock = some k ∧ w.heap.size ≤ k) ∧ Upd (Foot b lv L) w w' := by
  obtain ⟨c0, c1, c2⟩ := hR.cells
  have hbl : b < w.heap.size := World.block_lt_of_cell? w _ c0
  have hhe := hR.inv.held
  have hov := ovls_le x y L
  obtain ⟨W0, hW0⟩ : ∃ W0, W0 = (w.alloc (.cells #[.int .i64 x] 2)).alloc (.cells #[.int .i64 y] 2) := ⟨_, rfl⟩
  have hB0 : Below w.heap.size w W0 := by rw [hW0]; exact (below_al w _).alloc (by simp) _
  have cx : W0.cell? ⟨w.heap.size, 0, none⟩ = some (.int .i64 x) := by rw [hW0]; go_simp
  have cy : W0.cell? ⟨w.heap.size + 1, 0, none⟩ = some (.int .i64 y) := by rw [hW0]; go_simp
  have hR0 := hR.below hB0
  have d1 : W0.cell? ⟨b, 1, none⟩ = some (.int .i64 (heldOf L)) := hR0.cells.2.1
  have f1 : W0.frozen? ⟨b, 1, none⟩ = false := frozen_of_row W0 b 1 _ _ hR0.str.obj
  have bx : w.heap.size < W0.heap.size := World.block_lt_of_cell? W0 _ cx
  have by' : w.heap.size + 1 < W0.heap.size := World.block_lt_of_cell? W0 _ cy
  have hb0 : b < W0.heap.size := by omega
  have W1 := fun (W : World) (hW : Below W0.heap.size W0 W) => written_any b lv sz L x y W hR.inv (by omega) hy (hR0.below hW).cells.2.2 (hR0.below hW).str.row
  have HW := aside W1
  have HR0 := aside hR0
  have HB0 := aside hB0
  have HI := aside hi
  have HF := aside hf
  have HTT := aside ht
  have HIN := aside hR.inv
  have HJ := aside hj
  have hlt : (x : Int) < (y : Int) := by omega
  have hwr : IntKind.i64.wrap ((heldOf L : Int) - (ovls x y L : Int)) = ((heldOf L - ovls x y L : Nat) : Int) := by rw [IntKind.wrap_i64]; omega
  generalize hov_ : ovls x y L = ov at *
  generalize hhe_ : heldOf L = he at *
  have HOV := aside hov_
  have HHE := aside hhe_
  have HWR := aside hwr
  clear hwr
  clear W1 hR hR0 hB0 hi hj hf ht hov_ hhe_ c0 c1 c2
  go_enter Try.func37, Try.ntmps37
  go_upto_region 2 with fail
  rw [← hW0]
  clear hW0
  go_cut [4] from 11 to 108 (fun p4 wx => p4 = .pointer (some ⟨w.heap.size, 0, none⟩) ∧ ∃ wy, Below W0.heap.size W0 wy ∧ wx = wy.setCell ⟨b, 1, none⟩ (.int .i64 ((he - ov : Nat) : Int)))
  case first =>
    go_region_with (go_at_call 35; refine (HW.out _ ?_).mono ?_; (exact (Below.refl _ _).drew); rintro e w' ⟨rfl, hb⟩; have c1w : w'.cell? ⟨b, 1, none⟩ = some (.int .i64 he) := (hb.cell (p := ⟨b, 1, none⟩) hb0).trans d1; have f1w : w'.frozen? ⟨b, 1, none⟩ = false := (hb.frozen (p := ⟨b, 1, none⟩) hb0).trans f1)
    all_goals
      go_wp2_with fail
      go_meet
      case rel => exact ⟨rfl, w', below_tr (below_dr W0) hb, by rw [HWR.out]⟩
  case rest =>
    obtain ⟨rfl, wy, hwy, rfl⟩ := hcut
    have hRy := HR0.out.below hwy
    have hSt := hRy.str.set 1 (.int .i64 ((he - ov : Nat) : Int)) (.int .i64 sz) (.int .i64 ((he - ov : Nat) : Int)) rfl
    have hub : Upd (fun k => k = b) W0 (wy.setCell ⟨b, 1, none⟩ (.int .i64 ((he - ov : Nat) : Int))) := (Upd.of_below hwy).trans (Upd.setCell (F := fun k => k = b) (p := ⟨b, 1, none⟩) rfl _) (fun _ _ h => h)
    generalize wy.setCell ⟨b, 1, none⟩ (.int .i64 ((he - ov : Nat) : Int)) = wp at *
    have hps := hub.size
    have px : wp.cell? ⟨w.heap.size, 0, none⟩ = some (.int .i64 x) := (World.cell?_of_block (a := ⟨w.heap.size, 0, none⟩) (hub.block w.heap.size bx (by omega))).trans cx
    have py : wp.cell? ⟨w.heap.size + 1, 0, none⟩ = some (.int .i64 y) := (World.cell?_of_block (a := ⟨w.heap.size + 1, 0, none⟩) (hub.block (w.heap.size + 1) by' (by omega))).trans cy
    have hl2 : wp.cell? ⟨b, 2, none⟩ = some lv := by rw [cell_of_row wp b 2 _ _ _ hSt.obj]; rfl
    obtain ⟨S1, S2⟩ := erase_S b lv sz L x y wp HIN.out w.heap.size (w.heap.size + 1) px py hl2 hSt.row
    rw [HI.out] at S1
    rw [HJ.out] at S2
    have hlen := HIN.out.len
    have hjn : j ≤ L.length := by rw [← HJ.out]; exact List.findIdx_le_length
    have HS1 := aside S1
    have HS2 := aside S2
    have HST := aside hSt
    have HUB := aside hub
    clear S1 S2 hRy hwy cx cy d1 f1
    go_wp2_with fail
    refine (HS1.out _ (Below.refl _ _)).mono ?_
    rintro e w1 ⟨rfl, hb1⟩
    go_wp2_with fail
    refine (HS2.out _ hb1).mono ?_
    rintro e w2 ⟨rfl, hb2⟩
    have hw2 := below_tr hb1 hb2
    have hS2 := HST.out.below hw2
    have qx : w2.cell? ⟨w.heap.size, 0, none⟩ = some (.int .i64 x) := (hw2.cell (World.block_lt_of_cell? wp _ px)).trans px
    have qy : w2.cell? ⟨w.heap.size + 1, 0, none⟩ = some (.int .i64 y) := (hw2.cell (World.block_lt_of_cell? wp _ py)).trans py
    obtain ⟨lg, lc, hlv, hf0, hf1⟩ := row_at hS2.row (i := i) (by omega)
    obtain ⟨lg2, lc2, hlv2, ht0, ht1⟩ := row_at hS2.row (i := j - 1) (by omega)
    have ql : w2.cell? ⟨b, 2, none⟩ = some lv := by rw [cell_of_row w2 b 2 _ _ _ hS2.obj]; rfl
    rw [hlv] at hlv2 ql
    simp only [Value.slice.injEq, Option.some.injEq, Addr.mk.injEq, true_and, and_true] at hlv2
    obtain ⟨rfl, rfl⟩ := hlv2
    have ef : L[i] = f := Option.some.inj ((List.getElem?_eq_getElem (by omega)).symm.trans HF.out)
    have et : L[j - 1] = t := Option.some.inj ((List.getElem?_eq_getElem (by omega)).symm.trans HTT.out)
    rw [ef] at hf0 hf1
    rw [et] at ht0 ht1
    unfold Piece.dv at hf1 ht1
    obtain ⟨jm, hjm⟩ : ∃ jm, jm = j - 1 := ⟨_, rfl⟩
    rw [← hjm] at ht0 ht1
    have hjn1 : (j : Int) - 1 = (jm : Int) := by omega
    have hjz : (jm : Int) < (L.length : Int) := by omega
    have hjw : IntKind.i64.wrap (jm : Int) = (jm : Int) := by rw [IntKind.wrap_i64]; omega
    have hiz : (i : Int) < (L.length : Int) := by omega
    have hfL : f ∈ L := List.mem_of_getElem? HF.out
    have htL : t ∈ L := List.mem_of_getElem? HTT.out
    have hfl := HIN.out.fin f hfL
    have htl := HIN.out.fin t htL
    have hszz := HIN.out.size
    unfold Piece.fin at hfl htl hty
    have HW2 := aside hw2
    have HS2' := aside hS2
    have g1 : decide ((i : Int) < (j : Int)) = true := by simp; omega
    have g1b : decide (i < j) = true := by simp; omega
    have g2 : decide ((f.org : Int) < (x : Int)) = false := by simp; omega
    have g2b : decide (f.org < x) = false := by simp; omega
    have xx := fun d os => ext_cell qx d os
    have xl := fun d os => ext_cell ql d os
    have xf0 := fun d os => ext_cell hf0 d os
    clear hw2 hb1 hb2 hlv ef et hjm hS2 px py hl2 hSt hub
    go_wp2
    refine region_ext (by kernel_rfl) (by kernel_rfl) ?_
    repeat (any_goals (first | go_big_quiet_step ((fail)) | quiet_step ((fail))))
    refine wpQuiet_nil ?_
    intro w3 hb3
    have z_l : w3.cell? ⟨b, 2, none⟩ = some (.slice (some ⟨lg, 0, none⟩) L.length lc) := (hb3.cell (World.block_lt_of_cell? w2 _ ql)).trans ql
    have z_t0 : w3.cell? ⟨lg, jm * 2, none⟩ = some (.int .i64 t.org) := (hb3.cell (World.block_lt_of_cell? w2 _ ht0)).trans ht0
    have z_t1 : w3.cell? ⟨lg, jm * 2 + 1, none⟩ = some (.slice (some ⟨t.blk, 0, none⟩) t.bs.length t.cap) := (hb3.cell (World.block_lt_of_cell? w2 _ ht1)).trans ht1
    have z_y : w3.cell? ⟨w.heap.size + 1, 0, none⟩ = some (.int .i64 y) := (hb3.cell (World.block_lt_of_cell? w2 _ qy)).trans qy
    have yl := fun d os => ext_cell z_l d os
    have y0 := fun d os => ext_cell z_t0 d os
    have y1 := fun d os => ext_cell z_t1 d os
    have yy := fun d os => ext_cell z_y d os
    have g3 : decide ((y : Int) < (t.org : Int) + (t.bs.length : Int)) = true := by simp; omega
    have g3b : decide ((t.org : Int) + (t.bs.length : Int) > (y : Int)) = true := by simp; omega
    have HB8 := aside hb3
    clear hb3 hf0 hf1 xx xl xf0
    go_wp2
    refine region_ext (by kernel_rfl) (by kernel_rfl) ?_
    repeat (any_goals (first | go_big_quiet_step ((go_at_call 41; exact calls_ext (to_any _ _ _ _ _ (by omega) (by omega) (by omega)))) | quiet_step ((go_at_call 41; exact calls_ext (to_any _ _ _ _ _ (by omega) (by omega) (by omega))))))
    refine wpQuiet_nil ?_
    intro w7 hb7
    have v_l : w7.cell? ⟨b, 2, none⟩ = some (.slice (some ⟨lg, 0, none⟩) L.length lc) := (hb7.cell (World.block_lt_of_cell? w3 _ z_l)).trans z_l
    have v_t0 : w7.cell? ⟨lg, jm * 2, none⟩ = some (.int .i64 t.org) := (hb7.cell (World.block_lt_of_cell? w3 _ z_t0)).trans z_t0
    have v_t1 : w7.cell? ⟨lg, jm * 2 + 1, none⟩ = some (.slice (some ⟨t.blk, 0, none⟩) t.bs.length t.cap) := (hb7.cell (World.block_lt_of_cell? w3 _ z_t1)).trans z_t1
    have v_y : w7.cell? ⟨w.heap.size + 1, 0, none⟩ = some (.int .i64 y) := (hb7.cell (World.block_lt_of_cell? w3 _ z_y)).trans z_y
    have wy7 : w.heap.size + 1 < w7.heap.size := World.block_lt_of_cell? w7 _ v_y
    have htoy : t.org < y := by
      have := List.not_of_lt_findIdx (p := fun d : Piece => decide ((y : Int) ≤ d.org)) (xs := L) (i := j - 1) (by rw [HJ.out]; omega)
      have et : L[j - 1]'(by omega) = t := Option.some.inj ((List.getElem?_eq_getElem (by omega)).symm.trans HTT.out)
      rw [et] at this
      simp at this
      omega
    obtain ⟨q, hq⟩ : ∃ q, q = y - t.org := ⟨_, rfl⟩
    have hqz : (y : Int) - (t.org : Int) = (q : Int) := by omega
    have hql : q < t.bs.length := by omega
    have hqw : IntKind.i64.wrap (q : Int) = (q : Int) := by rw [IntKind.wrap_i64]; omega
    have htc : t.bs.length ≤ t.cap ∧ t.cap ≤ maxLen := by
      obtain ⟨_, _, e, h1, h2⟩ := row_form (HS2'.out.data t htL)
      simp only [Piece.dv, Value.slice.injEq, true_and] at e
      omega
    have hqn : q ≤ t.bs.length := by omega
    have hqe : ¬ (t.cap = q) := by omega
    have HQ := aside hq
    have HB7 := aside (below_tr HB8.out hb7)
    have HBC := aside hb7
    clear yl y0 y1 yy hq g3 g3b htoy z_l z_t0 z_t1 z_y hb7
    go_upto_region 11 with fail
    have sl : ∃ m, m = t.bs.length - q := ⟨_, rfl⟩
    obtain ⟨m, hm⟩ := sl
    have HM := aside hm
    go_cut [8] from 11 to 108 (fun p8 wx => ∃ a9 c9 gr cr, p8 = .slice a9 1 c9 ∧ wx.ownsRow 0 56 2 (.slice a9 1 c9) 1 [.int .i64 y, .slice (some ⟨gr, 0, none⟩) m cr] ∧ wx.ownsRow 0 5 1 (.slice (some ⟨gr, 0, none⟩) m cr) m (bcells (t.bs.drop q)) ∧ w7.heap.size ≤ gr ∧ (∃ k, Value.ownBlock (.slice a9 1 c9) = some k ∧ w2.heap.size ≤ k) ∧ Below w2.heap.size w2 wx)
    case first =>
      have s90 : (w7.alloc (.cells #[.int .i64 t.org, .slice (some ⟨t.blk, 0, none⟩) t.bs.length t.cap] 56)).cell? ⟨w7.heap.size, 0, none⟩ = some (.int .i64 t.org) := by go_simp
      have s91 : (w7.alloc (.cells #[.int .i64 t.org, .slice (some ⟨t.blk, 0, none⟩) t.bs.length t.cap] 56)).cell? ⟨w7.heap.size, 1, none⟩ = some (.slice (some ⟨t.blk, 0, none⟩) t.bs.length t.cap) := by go_simp
      have sy : (w7.alloc (.cells #[.int .i64 t.org, .slice (some ⟨t.blk, 0, none⟩) t.bs.length t.cap] 56)).cell? ⟨w.heap.size + 1, 0, none⟩ = some (.int .i64 y) := ((below_al w7 _).cell wy7).trans v_y
      have hw4 := below_al w7 (.cells #[.int .i64 t.org, .slice (some ⟨t.blk, 0, none⟩) t.bs.length t.cap] 56)
      have l90 : w7.heap.size < (w7.alloc (.cells #[.int .i64 t.org, .slice (some ⟨t.blk, 0, none⟩) t.bs.length t.cap] 56)).heap.size := by simp
      have ly : w.heap.size + 1 < (w7.alloc (.cells #[.int .i64 t.org, .slice (some ⟨t.blk, 0, none⟩) t.bs.length t.cap] 56)).heap.size := by simp; omega
      generalize hW4 : w7.alloc (.cells #[.int .i64 t.org, .slice (some ⟨t.blk, 0, none⟩) t.bs.length t.cap] 56) = w4 at *
      clear hW4
      have HW4 := aside hw4
      have HRT : Aside (w4.ownsRow 0 5 1 (.slice (some ⟨t.blk, 0, none⟩) t.bs.length t.cap) t.bs.length (bcells t.bs)) := (HS2'.out.below (below_tr HB7.out hw4)).data t htL
      clear hw4 hm
      go_region_held2 (fun w' => w'.cell? ⟨w7.heap.size, 0, none⟩ = some (.int .i64 t.org) ∧ w'.cell? ⟨w7.heap.size, 1, none⟩ = some (.slice (some ⟨t.blk, 0, none⟩) t.bs.length t.cap) ∧ w'.cell? ⟨w.heap.size + 1, 0, none⟩ = some (.int .i64 y)) (go_keep) (first
        | (go_at_call 26; refine (clone_drop t.blk q t.bs.length t.cap _ _ t.bs _ (row_below HRT.out (below_dr w4)) (by omega) (by omega) rfl).mono ?_; rintro e w5 ⟨gr, cr, rfl, hw5, ho5, hb5⟩; have t90 : w5.cell? ⟨w7.heap.size, 0, none⟩ = some (.int .i64 t.org) := (hb5.cell (p := ⟨w7.heap.size, 0, none⟩) l90).trans s90; have t91 : w5.cell? ⟨w7.heap.size, 1, none⟩ = some (.slice (some ⟨t.blk, 0, none⟩) t.bs.length t.cap) := (hb5.cell (p := ⟨w7.heap.size, 1, none⟩) l90).trans s91; have ty : w5.cell? ⟨w.heap.size + 1, 0, none⟩ = some (.int .i64 y) := (hb5.cell (p := ⟨w.heap.size + 1, 0, none⟩) ly).trans sy; have HO5 := aside ho5; have HB5 : Aside (Below w4.heap.size w4 w5) := (below_tr (below_dr w4) hb5); have HG5 : Aside (w4.heap.size ≤ gr) := hw5; clear ho5 hb5 hw5)
        | (refine step_append_where rfl _ _ rfl (.slice none 0 0) 0 [] (by simp [Act.eval]) (World.ownsRow_nil _ _ _ _) (by omega) w5.heap.size 1 [.int .i64 y, .slice (some ⟨gr, 0, none⟩) (t.bs.length - q) cr] (by simp [Act.eval]) (own_one (heap_alloc_new w5 _)) (by intro u hu; simp only [List.mem_cons, List.not_mem_nil, or_false] at hu; rcases hu with rfl | rfl <;> rfl) ?_; rintro v8 w6 ho6 hg6 hw6 ⟨a9, c9, rfl⟩; have u90 : w6.cell? ⟨w7.heap.size, 0, none⟩ = some (.int .i64 t.org) := hg6.cell (((below_al w5 _).cell (World.block_lt_of_cell? w5 _ t90)).trans t90) (by simp [Value.ownBlock]); have u91 : w6.cell? ⟨w7.heap.size, 1, none⟩ = some (.slice (some ⟨t.blk, 0, none⟩) t.bs.length t.cap) := hg6.cell (((below_al w5 _).cell (World.block_lt_of_cell? w5 _ t91)).trans t91) (by simp [Value.ownBlock]); have uy : w6.cell? ⟨w.heap.size + 1, 0, none⟩ = some (.int .i64 y) := hg6.cell (((below_al w5 _).cell (World.block_lt_of_cell? w5 _ ty)).trans ty) (by simp [Value.ownBlock]); have HO6 := aside ho6; have HG6 := aside hg6; have HW6 := aside hw6; clear ho6 hg6 hw6))
      all_goals
        go_wp2_with fail
        go_meet
        case rel =>
          have hs7 := HB7.out.size
          have hs4 := HW4.out.size
          have hs5 := HB5.out.size
          have hg5 := HG5.out
          have hb6 : Below w5.heap.size w5 w6 := below_tr (below_al w5 _) (below_of_grown HG6.out)
          rw [HM.out]
          refine ⟨a9, c9, gr, cr, rfl, HO6.out, row_below HO5.out hb6, by omega, ?_, below_tr HB7.out (below_tr HW4.out (below_tr HB5.out hb6))⟩
          rcases HW6.out with e | ⟨k, e, hk⟩
          · obtain ⟨g, c, cu, e1, -⟩ := own_cells HO6.out (by omega)
            rw [e1] at e
            simp [Value.ownBlock] at e
          · exact ⟨k, e, by simp at hk; omega⟩
    case rest =>
      obtain ⟨a9, c9, gr, cr, rfl, ho9, hr9, hgr, ⟨k9, ek9, hk9⟩, hb9⟩ := hcut
      have hSx := HS2'.out.below hb9
      have hq1 : (t.bs.drop q).length = m := by rw [List.length_drop]; omega
      have hs7 := HB7.out.size
      have hb2 := HS2'.out.lv_lt (.inl rfl)
      have hFlt : ∀ k, Foot b lv L k → k < w2.heap.size := fun k hk => HS2'.out.lv_lt hk
      have hC := replacePieces b (.int .i64 sz) (.int .i64 ((he - ov : Nat) : Int)) lv (.slice a9 1 c9) L [⟨y, gr, cr, t.bs.drop q⟩] i j wc hSx (by omega) hjn hlen (by simp)
        (by
          have e : lcells [⟨y, gr, cr, t.bs.drop q⟩] = [.int .i64 y, .slice (some ⟨gr, 0, none⟩) m cr] := by
            simp only [lcells, List.flatMap_cons, List.flatMap_nil, List.append_nil, Piece.dv, hq1]
          rw [e]; exact ho9)
        (by simp) (fun k hk h => by rw [ek9] at hk; injection hk with hk; have := hFlt k h; omega)
        (by
          intro d hd
          simp only [List.mem_cons, List.not_mem_nil, or_false] at hd
          rw [hd]
          simp only [Piece.dv, hq1]; exact hr9)
        (by
          intro d hd
          simp only [List.mem_cons, List.not_mem_nil, or_false] at hd
          rw [hd]
          refine ⟨by simp only; omega, fun h => ?_⟩
          have := hFlt gr (.inr (.inl h)); omega)
        (by simp)
        (by
          intro d hd e he'
          obtain ⟨h1, h2⟩ := kept_ne HS2'.out.nd HF.out hij he'
          have h3 := hFlt e.blk (.inr (.inr ⟨e, h1, rfl⟩))
          simp only [List.mem_cons, List.not_mem_nil, or_false] at hd
          rw [hd]
          simp only; omega)
      have HC := aside hC
      have HB9 := aside hb9
      clear hC hSx ho9 hr9 hb9
      go_wp2_with fail
      refine HC.out.mono ?_
      rintro e w' ⟨rfl, lv', hS', hk', hu'⟩
      go_wp2
      go_end0
      have hsw : w.heap.size ≤ w2.heap.size := by have := World.block_lt_of_cell? w2 _ qx; simp at this; omega
      have hsc := HB9.out.size
      refine ⟨rfl, lv', gr, cr, ?_, by omega, ?_, ?_⟩
      · rw [← HQ.out]; exact hS'
      · rcases hk' with e | ⟨k, e, hk⟩
        · exact .inl e
        · exact .inr ⟨k, e, by omega⟩
      · have hu1 : Upd (fun k => k = b) w w2 := ((Upd.of_below (F := fun k => k = b) HB0.out).trans HUB.out (fun _ _ h => h)).trans (Upd.of_below (F := fun k => k = b) (HW2.out)) (fun _ _ h => h)
        refine ((hu1.trans (Upd.of_below (F := fun k => k = b) HB9.out) (fun _ _ h => h)).mono (G := Foot b lv L) (fun k _ h => .inl h)).trans hu' (fun k _ h => ?_)
        rcases h with e | e
        · exact .inl e
        · exact .inr (.inl e)
end Go.Proofs.Ytkekaljcbmkomaa
