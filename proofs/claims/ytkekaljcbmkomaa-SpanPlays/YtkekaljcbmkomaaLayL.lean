/- (*Bytes).lay where the bytes begin ahead of the first stretch that they meet: all that they meet become one. -/
import Derived.Test.YtkekaljcbmkomaaMerge
namespace Go.Proofs.Ytkekaljcbmkomaa
open Go.RowKit
attribute [local simp] lcells_nil readB_length bcells_length
theorem make_cap (w : World) (k : Nat) (hk : k ≤ 4294967296) : (Instr.makeSlice 22 (.int .i64 0) (.int .i64 k)).run Try.prog w = .ok (.slice (some ⟨w.heap.size, 0, none⟩) 0 k) (w.alloc (.cells (bcells (List.replicate k 0)).toArray 5)) := by
  obtain ⟨i, hi, hz, hs, hb⟩ := info_parts info5
  have h := run_make (P := Try.prog) w 22 5 i (.int .u8 0) Try.underlying22 hi hz .i64 .i64 0 k (by omega) (by omega) (by rw [hb]; omega) (by omega)
  rw [h, hs]
  simp only [Int.toNat_natCast, Nat.mul_one]
  have e : (madeCells (Value.int .u8 0).cells k) = (bcells (List.replicate k 0)).toArray := by
    apply Array.toList_inj.1
    rw [show (Value.int IntKind.u8 0).cells = #[.int .u8 0] from rfl, toList_madeCells_one]
    simp [bcells]
  rw [e]
  rfl

theorem mk_rel (wc : World) (b9 k : Nat) (x : Int) (v0 v1 : Value) (hk : k ≤ 4294967296) (hh9 : wc.heap[b9]? = some (.cells #[v0, v1] 56 (0, 0))) :
    ((((wc.setCell ⟨b9, 0, none⟩ (.int .i64 x)).setCell ⟨b9, 1, none⟩ (.slice (some ⟨wc.heap.size, 0, none⟩) 0 k)).alloc (.cells (bcells (List.replicate k 0)).toArray 5)).drew.ownsRow 0 5 1 (.slice (some ⟨wc.heap.size, 0, none⟩) 0 k) 0 (bcells [])) ∧
    (((wc.setCell ⟨b9, 0, none⟩ (.int .i64 x)).setCell ⟨b9, 1, none⟩ (.slice (some ⟨wc.heap.size, 0, none⟩) 0 k)).alloc (.cells (bcells (List.replicate k 0)).toArray 5)).drew.heap[b9]? = some (.cells #[.int .i64 x, .slice (some ⟨wc.heap.size, 0, none⟩) 0 k] 56 (0, 0)) ∧
    Upd (fun k => k = b9) wc (((wc.setCell ⟨b9, 0, none⟩ (.int .i64 x)).setCell ⟨b9, 1, none⟩ (.slice (some ⟨wc.heap.size, 0, none⟩) 0 k)).alloc (.cells (bcells (List.replicate k 0)).toArray 5)).drew := by
  have hb9 : b9 < wc.heap.size := (Array.getElem?_eq_some_iff.1 hh9).1
  have hs : ((wc.setCell ⟨b9, 0, none⟩ (.int .i64 x)).setCell ⟨b9, 1, none⟩ (.slice (some ⟨wc.heap.size, 0, none⟩) 0 k)).heap.size = wc.heap.size := by simp
  generalize hW : (wc.setCell ⟨b9, 0, none⟩ (.int .i64 x)).setCell ⟨b9, 1, none⟩ (.slice (some ⟨wc.heap.size, 0, none⟩) 0 k) = W at *
  refine ⟨?_, ?_, ?_⟩
  · have h := World.ownsRow_made (base := 0) (e := 5) (size := 1) W (bcells (List.replicate k 0)).toArray k (Nat.zero_le _) (by unfold maxLen; omega) (by simp)
    rw [hs] at h
    exact h
  · show (W.alloc _).heap[b9]? = _
    rw [Below.heap_alloc W _ b9 (by rw [hs]; exact hb9), ← hW, heap_setCell_same _ b9 1 _ _ _ (heap_setCell_same wc b9 0 _ _ _ hh9)]
    rfl
  · have h1 : Upd (fun k => k = b9) wc W := by
      rw [← hW]
      exact (Upd.setCell (F := fun k => k = b9) (p := ⟨b9, 0, none⟩) rfl _).trans (Upd.setCell (F := fun k => k = b9) (p := ⟨b9, 1, none⟩) rfl _) (fun _ _ h => h)
    exact h1.trans (G := fun _ => False) (Upd.of_below ((below_al W _).drew)) (fun _ _ h => h.elim)

set_option maxHeartbeats 2000000 in
set_option maxRecDepth 100000 in
theorem layMergeL_any (b : Nat) (x0 x1 lv : Value) (sz : Nat) (L : List Piece) (x i j : Nat) (src : Addr) (n c : Nat) (w : World) (f t : Piece) (l : List UInt8) (hS : Str w b x0 x1 lv L) (hI : Inv sz L) (hxl : x + n ≤ 1073741824)
    (hi : L.findIdx (fun d => decide ((x : Int) ≤ d.fin)) = i) (hj : L.findIdx (fun d => decide ((x : Int) + (n : Int) < d.org)) = j) (hij : i < j) (hf : L[i]? = some f) (ht : L[j - 1]? = some t)
    (hnl : n = l.length) (h0 : 0 < n) (hsrc : ∀ j v, (bcells l)[j]? = some v → w.cell? (src.add j) = some v) (hfx : x < f.org) (hte : t.org ≤ x + n) :
    Calls Try.prog 36 #[.pointer (some ⟨b, 0, none⟩), .int .i64 x, .slice (some src) n c] w fun e w' => e = .returned (.tuple #[]) ∧ ∃ lv' g cap, Str w' b x0 x1 lv' (L.take i ++ [⟨x, g, cap, l ++ t.bs.drop (min (x + n) t.fin - t.org)⟩] ++ L.drop j) ∧ w.heap.size ≤ g ∧ (lv'.ownBlock = lv.ownBlock ∨ ∃ k, lv'.ownBlock = some k ∧ w.heap.size ≤ k) ∧ Upd (Foot b lv L) w w' := by
  have hlen := hI.len
  have hjn : j ≤ L.length := by rw [← hj]; exact List.findIdx_le_length
  obtain ⟨W0, hW0⟩ : ∃ W0, W0 = (w.alloc (.cells #[.int .i64 x] 2)).alloc (.cells #[.int .i64 ((x : Int) + (n : Int))] 2) := ⟨_, rfl⟩
  have hl2 : w.cell? ⟨b, 2, none⟩ = some lv := by rw [cell_of_row w b 2 _ _ _ hS.obj]; rfl
  obtain ⟨S1, S2, hB0, cx, cy⟩ := lay_S b lv sz L x ((x : Int) + (n : Int)) w hI hl2 hS.row W0 hW0
  rw [hi] at S1
  rw [hj] at S2
  have bx : w.heap.size < W0.heap.size := World.block_lt_of_cell? W0 _ cx
  have by' : w.heap.size + 1 < W0.heap.size := World.block_lt_of_cell? W0 _ cy
  have hbl : b < w.heap.size := World.block_lt_of_cell? w _ hl2
  have HS1 := aside S1
  have HS2 := aside S2
  have HB0 := aside hB0
  have HS := aside hS
  have CX := aside cx
  have CY := aside cy
  have HL2 := aside hl2
  have HF := aside hf
  have HBD : Aside (∀ d, d ∈ L → d.bs.length ≤ 4294967296) := fun d hd => (hI.bd d hd).2
  have HIN := aside hI
  have HSR := aside hsrc
  have HNL := aside hnl
  have HTT := aside ht
  clear S1 S2 hB0 hS cx cy hI hi hj hl2 hf ht hsrc hnl
  have hijz : ((i : Int) == (j : Int)) = false := by simp; omega
  have hnez : ¬ (i = j) := by omega
  go_enter Try.func36, Try.ntmps36
  go_wp2_with fail
  rw [← hW0]
  refine (HS1.out _ (Below.refl _ _)).mono ?_
  rintro e w1 ⟨rfl, hb1⟩
  go_wp2_with fail
  refine (HS2.out _ hb1).mono ?_
  rintro e w2 ⟨rfl, hb2⟩
  have cx2 : w2.cell? ⟨w.heap.size, 0, none⟩ = some (.int .i64 x) := ((below_tr hb1 hb2).cell bx).trans CX.out
  have cy2 : w2.cell? ⟨w.heap.size + 1, 0, none⟩ = some (.int .i64 ((x : Int) + (n : Int))) := ((below_tr hb1 hb2).cell by').trans CY.out
  have hw2 := below_tr HB0.out (below_tr hb1 hb2)
  have HB2 := aside hw2
  clear hb1 hb2 hW0
  obtain ⟨lg, lc, hlv, hf0, hf1⟩ := row_at (row_below HS.out.row hw2) (i := i) (by omega)
  obtain ⟨lg2, lc2, hlv2, ht0, ht1⟩ := row_at (row_below HS.out.row hw2) (i := j - 1) (by omega)
  rw [hlv] at hlv2
  simp only [Value.slice.injEq, Option.some.injEq, Addr.mk.injEq, true_and, and_true] at hlv2
  obtain ⟨rfl, rfl⟩ := hlv2
  have hc2 : w2.cell? ⟨b, 2, none⟩ = some (.slice (some ⟨lg, 0, none⟩) L.length lc) := by rw [← hlv]; exact (hw2.cell hbl).trans HL2.out
  have ef : L[i] = f := Option.some.inj ((List.getElem?_eq_getElem (by omega)).symm.trans HF.out)
  have et : L[j - 1] = t := Option.some.inj ((List.getElem?_eq_getElem (by omega)).symm.trans HTT.out)
  rw [ef] at hf0 hf1
  rw [et] at ht0 ht1
  unfold Piece.dv at hf1 ht1
  have hiz : (i : Int) < (L.length : Int) := by omega
  obtain ⟨jm, hjm⟩ : ∃ jm, jm = j - 1 := ⟨_, rfl⟩
  rw [← hjm] at ht0 ht1
  have hjn1 : (j : Int) - 1 = (jm : Int) := by omega
  have hjz : (jm : Int) < (L.length : Int) := by omega
  have hjw : IntKind.i64.wrap (jm : Int) = (jm : Int) := by rw [IntKind.wrap_i64]; omega
  have HJM := aside hjm
  clear hjm
  clear hw2 hlv ef et
  go_upto_region 6 with fail
  go_cut [9, 10] from 25 to 110 (fun p9 p10 wx => ∃ b9 b10 : Nat, p9 = .pointer (some ⟨b9, 0, none⟩) ∧ p10 = .pointer (some ⟨b10, 0, none⟩) ∧ b9 ≠ b10 ∧ w2.heap.size ≤ b9 ∧ w2.heap.size ≤ b10 ∧ wx.heap[b9]? = some (.cells #[.int .i64 f.org, .slice (some ⟨f.blk, 0, none⟩) f.bs.length f.cap] 56 (0, 0)) ∧ wx.heap[b10]? = some (.cells #[.int .i64 t.org, .slice (some ⟨t.blk, 0, none⟩) t.bs.length t.cap] 56 (0, 0)) ∧ Below w2.heap.size w2 wx)
  case first =>
    go_region_held2 (fun w' => w'.cell? ⟨b, 2, none⟩ = some (.slice (some ⟨lg, 0, none⟩) L.length lc) ∧ w'.cell? ⟨lg, i * 2, none⟩ = some (.int .i64 f.org) ∧ w'.cell? ⟨lg, i * 2 + 1, none⟩ = some (.slice (some ⟨f.blk, 0, none⟩) f.bs.length f.cap) ∧ w'.cell? ⟨lg, jm * 2, none⟩ = some (.int .i64 t.org) ∧ w'.cell? ⟨lg, jm * 2 + 1, none⟩ = some (.slice (some ⟨t.blk, 0, none⟩) t.bs.length t.cap)) (go_keep) (fail)
    all_goals
      go_wp2_with fail
      go_meet
      case rel =>
        first
          | exact ⟨w2.heap.size, w2.heap.size + 1, rfl, rfl, by omega, Nat.le_refl _, by omega, two_old w2 _ _, two_new w2 _ _, two_below w2 _ _⟩
          | exact ⟨w2.heap.size + 1, w2.heap.size, rfl, rfl, by omega, by omega, Nat.le_refl _, two_new w2 _ _, two_old w2 _ _, two_below w2 _ _⟩
  case rest =>
    obtain ⟨b9, b10, rfl, rfl, hne, h9, h10, hh9, hh10, hbc⟩ := hcut
    have d90 : wc.cell? ⟨b9, 0, none⟩ = some (.int .i64 f.org) := by rw [cell_of_row wc b9 0 _ _ _ hh9]; rfl
    have d91 : wc.cell? ⟨b9, 1, none⟩ = some (.slice (some ⟨f.blk, 0, none⟩) f.bs.length f.cap) := by rw [cell_of_row wc b9 1 _ _ _ hh9]; rfl
    have d100 : wc.cell? ⟨b10, 0, none⟩ = some (.int .i64 t.org) := by rw [cell_of_row wc b10 0 _ _ _ hh10]; rfl
    have d101 : wc.cell? ⟨b10, 1, none⟩ = some (.slice (some ⟨t.blk, 0, none⟩) t.bs.length t.cap) := by rw [cell_of_row wc b10 1 _ _ _ hh10]; rfl
    have bx2 : w.heap.size < w2.heap.size := World.block_lt_of_cell? w2 _ cx2
    have by2 : w.heap.size + 1 < w2.heap.size := World.block_lt_of_cell? w2 _ cy2
    have dx : wc.cell? ⟨w.heap.size, 0, none⟩ = some (.int .i64 x) := (hbc.cell bx2).trans cx2
    have dy : wc.cell? ⟨w.heap.size + 1, 0, none⟩ = some (.int .i64 ((x : Int) + (n : Int))) := (hbc.cell by2).trans cy2
    have hfL : f ∈ L := List.mem_of_getElem? HF.out
    have htL : t ∈ L := List.mem_of_getElem? HTT.out
    have hfl := HIN.out.fin f hfL
    have htl := HIN.out.fin t htL
    have hszz := HIN.out.size
    have htn := HIN.out.ne t htL
    unfold Piece.fin at hfl htl
    have HWC := aside (below_tr HB2.out hbc)
    clear hh10 hbc hf0 hf1 ht0 ht1 hc2
    have xx := fun d os => ext_cell dx d os
    have xy := fun d os => ext_cell dy d os
    have x90 := fun d os => ext_cell d90 d os
    have x91 := fun d os => ext_cell d91 d os
    have g1 : decide ((f.org : Int) ≤ (x : Int)) = false := by simp; omega
    have g1b : decide (f.org ≤ x) = false := by simp; omega
    go_wp2
    refine region_ext (by kernel_rfl) (by kernel_rfl) ?_
    repeat (any_goals (first | go_big_quiet_step ((go_at_call 41; exact calls_ext (to_any _ _ _ _ _ (by omega) (by omega) (by omega)))) | quiet_step ((go_at_call 41; exact calls_ext (to_any _ _ _ _ _ (by omega) (by omega) (by omega))))))
    refine wpQuiet_nil ?_
    intro wq hq
    have e90 : wq.cell? ⟨b9, 0, none⟩ = some (.int .i64 f.org) := (hq.cell (World.block_lt_of_cell? wc _ d90)).trans d90
    have e91 : wq.cell? ⟨b9, 1, none⟩ = some (.slice (some ⟨f.blk, 0, none⟩) f.bs.length f.cap) := (hq.cell (World.block_lt_of_cell? wc _ d91)).trans d91
    have e100 : wq.cell? ⟨b10, 0, none⟩ = some (.int .i64 t.org) := (hq.cell (World.block_lt_of_cell? wc _ d100)).trans d100
    have e101 : wq.cell? ⟨b10, 1, none⟩ = some (.slice (some ⟨t.blk, 0, none⟩) t.bs.length t.cap) := (hq.cell (World.block_lt_of_cell? wc _ d101)).trans d101
    have ex : wq.cell? ⟨w.heap.size, 0, none⟩ = some (.int .i64 x) := (hq.cell (World.block_lt_of_cell? wc _ dx)).trans dx
    have ey : wq.cell? ⟨w.heap.size + 1, 0, none⟩ = some (.int .i64 ((x : Int) + (n : Int))) := (hq.cell (World.block_lt_of_cell? wc _ dy)).trans dy
    have hh9q : wq.heap[b9]? = some (.cells #[.int .i64 f.org, .slice (some ⟨f.blk, 0, none⟩) f.bs.length f.cap] 56 (0, 0)) := (hq.block b9 (Array.getElem?_eq_some_iff.1 hh9).1).trans hh9
    have HWQ := aside (below_tr HWC.out hq)
    clear xx xy x90 x91 d90 d91 d100 d101 dx dy hh9
    obtain ⟨lo, hlo⟩ : ∃ lo, lo = min (x + n) (t.org + t.bs.length) - t.org := ⟨_, rfl⟩
    have HLO := aside hlo
    obtain ⟨tl, htld⟩ : ∃ tl, tl = t.bs.length - lo := ⟨_, rfl⟩
    have HTLD := aside htld
    have htc : t.bs.length ≤ t.cap ∧ t.cap ≤ maxLen := by
      obtain ⟨_, _, e, h1, h2⟩ := row_form (HS.out.data t htL)
      simp only [Piece.dv, Value.slice.injEq, true_and] at e
      omega
    have hlo1 : lo ≤ t.bs.length := by omega
    have hw1 : IntKind.i64.wrap (lo : Int) = (lo : Int) := by rw [IntKind.wrap_i64]; omega
    have htlb : tl ≤ t.bs.length := by omega
    clear hlo htld
    go_upto_region 9 with fail
    go_cut [11] from 25 to 110 (fun p11 wx => ∃ (ta : Option Addr) (tc : Nat), p11 = .slice ta tl tc ∧ (0 < tl → ta = some ⟨t.blk, lo, none⟩) ∧ Below wq.heap.size wq wx)
    case first =>
      have xy := fun d os => ext_cell ey d os
      have x100 := fun d os => ext_cell e100 d os
      have x101 := fun d os => ext_cell e101 d os
      by_cases hmn : (t.org : Int) + (t.bs.length : Int) < (x : Int) + (n : Int)
      · have HLE : Aside (lo = t.bs.length) := by have := HLO.out; show lo = t.bs.length; omega
        by_cases hcp : t.cap = t.bs.length
        all_goals
          refine region_ext (by kernel_rfl) (by kernel_rfl) ?_
          repeat (any_goals (first | go_big_quiet_step ((go_at_call 41; exact calls_ext (to_any _ _ _ _ _ (by omega) (by omega) (by omega)))) | quiet_step ((go_at_call 41; exact calls_ext (to_any _ _ _ _ _ (by omega) (by omega) (by omega))))))
          refine wpQuiet_nil ?_
          intro wr hr
          go_wp2_with fail
          go_meet
          case rel =>
            rw [HTLD.out, HLE.out]
            simp only [Nat.add_sub_cancel_left]
            exact ⟨_, _, rfl, fun h => by omega, hr⟩
      · have hlz : (x : Int) + (n : Int) - (t.org : Int) = (lo : Int) := by have := HLO.out; omega
        by_cases hcp : t.cap = lo
        all_goals
          refine region_ext (by kernel_rfl) (by kernel_rfl) ?_
          repeat (any_goals (first | go_big_quiet_step ((go_at_call 41; exact calls_ext (to_any _ _ _ _ _ (by omega) (by omega) (by omega)))) | quiet_step ((go_at_call 41; exact calls_ext (to_any _ _ _ _ _ (by omega) (by omega) (by omega))))))
          refine wpQuiet_nil ?_
          intro wr hr
          go_wp2_with fail
          go_meet
          case rel =>
            rw [HTLD.out]
            exact ⟨_, _, rfl, fun h => by first | rfl | omega, hr⟩
    case rest =>
      obtain ⟨ta, tc, rfl, hta, hbc⟩ := hcut
      have hb9 : b9 < wq.heap.size := (Array.getElem?_eq_some_iff.1 hh9q).1
      have a90 : wc.cell? ⟨b9, 0, none⟩ = some (.int .i64 f.org) := (hbc.cell (World.block_lt_of_cell? wq _ e90)).trans e90
      have a91 : wc.cell? ⟨b9, 1, none⟩ = some (.slice (some ⟨f.blk, 0, none⟩) f.bs.length f.cap) := (hbc.cell (World.block_lt_of_cell? wq _ e91)).trans e91
      have ax : wc.cell? ⟨w.heap.size, 0, none⟩ = some (.int .i64 x) := (hbc.cell (World.block_lt_of_cell? wq _ ex)).trans ex
      have hh9c : wc.heap[b9]? = some (.cells #[.int .i64 f.org, .slice (some ⟨f.blk, 0, none⟩) f.bs.length f.cap] 56 (0, 0)) := (hbc.block b9 hb9).trans hh9q
      have hwc : Below w.heap.size w wc := below_tr HWQ.out hbc
      clear e90 e91 e100 e101 ex ey hh9q hbc hb9
      have hSc := HS.out.below hwc
      have hsr : ∀ j v, (bcells l)[j]? = some v → wc.cell? (src.add j) = some v := fun j v h => (hwc.cell (World.block_lt_of_cell? w _ (HSR.out j v h))).trans (HSR.out j v h)
      have HSC := aside hSc
      have HWCC := aside hwc
      have HSRC := aside hsr
      have HTA := aside hta
      have HH9 := aside hh9c
      have b9lt : b9 < wc.heap.size := (Array.getElem?_eq_some_iff.1 hh9c).1
      have wxlt : w.heap.size < wc.heap.size := World.block_lt_of_cell? wc _ ax
      have hgt : (x : Int) < (f.org : Int) := by omega
      have fr90 : wc.frozen? ⟨b9, 0, none⟩ = false := frozen_of_row wc b9 0 _ _ hh9c
      have fr91 : wc.frozen? ⟨b9, 1, none⟩ = false := frozen_of_row wc b9 1 _ _ hh9c
      obtain ⟨k, hk⟩ : ∃ k, k = n + tl := ⟨_, rfl⟩
      have hkz : (n : Int) + (tl : Int) = (k : Int) := by omega
      have hkw : IntKind.i64.wrap (k : Int) = (k : Int) := by rw [IntKind.wrap_i64]; omega
      have hkb : k ≤ 4294967296 := by omega
      have hmk := fun W => make_cap W k hkb
      have HK := aside hk
      clear hSc hwc hsr hta hh9c g1 g1b hk
      generalize wc = wb at *
      go_upto_region 11 with fail
      go_cut [9] from 25 to 110 (fun p9 wx => p9 = .pointer (some ⟨b9, 0, none⟩) ∧ ∃ g1, wb.heap.size ≤ g1 ∧ wx.ownsRow 0 5 1 (.slice (some ⟨g1, 0, none⟩) 0 k) 0 (bcells []) ∧ wx.heap[b9]? = some (.cells #[.int .i64 x, .slice (some ⟨g1, 0, none⟩) 0 k] 56 (0, 0)) ∧ Upd (fun k => k = b9) wb wx)
      case first =>
        go_region
        all_goals
          go_wp2_with fail
          go_meet
          case rel =>
            have hmr := mk_rel wb b9 k x _ _ hkb HH9.out
            exact ⟨rfl, wb.heap.size, Nat.le_refl _, hmr.1, hmr.2.1, hmr.2.2⟩
      case rest =>
        obtain ⟨rfl, g1, hg1, hr1, hh9d, hud⟩ := hcut
        have wds := hud.size
        have hg19 : g1 ≠ b9 := by omega
        have a90d : wc.cell? ⟨b9, 0, none⟩ = some (.int .i64 x) := by rw [cell_of_row wc b9 0 _ _ _ hh9d]; rfl
        have a91d : wc.cell? ⟨b9, 1, none⟩ = some (.slice (some ⟨g1, 0, none⟩) 0 k) := by rw [cell_of_row wc b9 1 _ _ _ hh9d]; rfl
        have hb9F : ¬ Foot b lv L b9 := fun h => by have := HS.out.lv_lt h; omega
        have b9x : b9 ≠ w.heap.size := by omega
        have axd : wc.cell? ⟨w.heap.size, 0, none⟩ = some (.int .i64 x) := (World.cell?_of_block (a := ⟨w.heap.size, 0, none⟩) (hud.block w.heap.size wxlt (fun e => b9x e.symm))).trans ax
        have fr9d : ∀ o, wc.frozen? ⟨b9, o, none⟩ = false := fun o => frozen_of_row wc b9 o _ _ hh9d
        have b9ltd : b9 < wc.heap.size := by omega
        have hSRd : ∀ j v, (bcells l)[j]? = some v → wc.cell? (src.add j) = some v := fun j v h => by
          have h1 := HSR.out j v h
          have hlt := World.block_lt_of_cell? w _ h1
          have hwbs := HWCC.out.size
          exact (World.cell?_of_block (hud.block _ (by omega) (fun e => by omega))).trans (HSRC.out j v h)
        have htl2 : (t.bs.drop lo).length = tl := by rw [List.length_drop, HTLD.out]
        have hSb := HSC.out
        have st5 : ∀ (g4 cap4 : Nat) (w4 : World), w4.ownsRow 0 5 1 (.slice (some ⟨g4, 0, none⟩) n cap4) n (bcells l) → wc.grownBy w4 (some g1) → (g4 = g1 ∨ wc.heap.size ≤ g4) →
            (w4.setCell ⟨b9, 1, none⟩ (.slice (some ⟨g4, 0, none⟩) n cap4)).ownsRow 0 5 1 (.slice (some ⟨g4, 0, none⟩) n cap4) n (bcells l) ∧
            (0 < tl → ∃ ad, ta = some ad ∧ ∀ j u, (bcells (t.bs.drop lo))[j]? = some u → (w4.setCell ⟨b9, 1, none⟩ (.slice (some ⟨g4, 0, none⟩) n cap4)).cell? (ad.add j) = some u) ∧
            Upd (fun k => k = f.blk ∨ k = b9) wb (w4.setCell ⟨b9, 1, none⟩ (.slice (some ⟨g4, 0, none⟩) n cap4)) ∧
            (w4.setCell ⟨b9, 1, none⟩ (.slice (some ⟨g4, 0, none⟩) n cap4)).heap[b9]? = some (.cells #[.int .i64 x, .slice (some ⟨g4, 0, none⟩) n cap4] 56 (0, 0)) := fun g4 cap4 w4 ho hg hw => by
          have hg49 : g4 ≠ b9 := by rcases hw with e | e <;> omega
          have hu4 : Upd (fun k => k = f.blk ∨ k = b9) wb w4 := (hud.mono (G := fun k => k = f.blk ∨ k = b9) (fun k _ h => .inr h)).trans (Upd.of_grown (F := fun k => k = g1) hg (fun k hk => by injection hk with hk; exact hk.symm)) (fun k hk e => by omega)
          have hu5 := hu4.trans (Upd.setCell (F := fun k => k = b9) (p := ⟨b9, 1, none⟩) rfl (.slice (some ⟨g4, 0, none⟩) n cap4)) (fun k _ h => .inr h)
          have hh94 : w4.heap[b9]? = some (.cells #[.int .i64 x, .slice (some ⟨g1, 0, none⟩) 0 k] 56 (0, 0)) := (hg.block b9 b9ltd (by intro e; injection e with e; omega)).trans hh9d
          have hu4' : Upd (fun k => k = b9) wb w4 := hud.trans (Upd.of_grown (F := fun k => k = g1) hg (fun k hk => by injection hk with hk; exact hk.symm)) (fun k hk e => by omega)
          have hu5' := hu4'.trans (Upd.setCell (F := fun k => k = b9) (p := ⟨b9, 1, none⟩) rfl (.slice (some ⟨g4, 0, none⟩) n cap4)) (fun k _ h => h)
          refine ⟨(Upd.setCell (F := fun k => k = b9) (p := ⟨b9, 1, none⟩) rfl _).row ho (fun k hk e => ?_), fun h0 => ?_, hu5, ?_⟩
          · simp only [Value.ownBlock, Option.some.injEq] at hk; exact hg49 (by rw [hk, e])
          · refine ⟨_, HTA.out h0, fun k u hk => ?_⟩
            have ht9 : t.blk ≠ b9 := fun e => hb9F (.inr (.inr ⟨t, htL, e⟩))
            have hkl : k < (bcells (t.bs.drop lo)).length := (List.getElem?_eq_some_iff.1 hk).1
            rw [bcells_length, htl2] at hkl
            have htd := HTLD.out
            have hrt := hSb.data t htL
            unfold Piece.dv at hrt
            have hc1 : wb.cell? ⟨t.blk, lo + k, none⟩ = some u := by
              rw [hrt.cellAt (lo + k) (by omega), ← hk]
              simp only [bcells, List.getElem?_map, List.getElem?_drop]
            rw [Addr.add_lit]
            have hblk := hu5'.block t.blk (World.block_lt_of_cell? wb _ hc1) (fun h => ht9 h)
            exact (World.cell?_of_block (a := ⟨t.blk, lo + k, none⟩) hblk).trans hc1
          · rw [heap_setCell_same w4 b9 1 _ _ _ hh94]; rfl
        have st7 : ∀ (g4 cap4 : Nat) (w4 : World) (g6 cap6 : Nat) (w6 : World), w4.ownsRow 0 5 1 (.slice (some ⟨g4, 0, none⟩) n cap4) n (bcells l) → wc.grownBy w4 (some g1) → (g4 = g1 ∨ wc.heap.size ≤ g4) →
            w6.ownsRow 0 5 1 (.slice (some ⟨g6, 0, none⟩) (n + tl) cap6) (n + tl) (bcells (l ++ t.bs.drop lo)) → (w4.setCell ⟨b9, 1, none⟩ (.slice (some ⟨g4, 0, none⟩) n cap4)).grownBy w6 (some g4) → (g6 = g4 ∨ (w4.setCell ⟨b9, 1, none⟩ (.slice (some ⟨g4, 0, none⟩) n cap4)).heap.size ≤ g6) →
            w6.heap[b9]? = some (.cells #[.int .i64 x, .slice (some ⟨g4, 0, none⟩) n cap4] 56 (0, 0)) ∧
            Calls Try.prog 47 #[.pointer (some ⟨b, 0, none⟩), .int .i64 i, .int .i64 j, .slice (some ⟨w6.heap.size, 0, none⟩) 1 1] ((w6.setCell ⟨b9, 1, none⟩ (.slice (some ⟨g6, 0, none⟩) (n + tl) cap6)).alloc (.cells #[.int .i64 x, .slice (some ⟨g6, 0, none⟩) (n + tl) cap6] 56)) fun e w' => e = .returned (.tuple #[]) ∧ ∃ lv', Str w' b x0 x1 lv' (L.take i ++ [⟨x, g6, cap6, l ++ t.bs.drop lo⟩] ++ L.drop j) ∧ w.heap.size ≤ g6 ∧ (lv'.ownBlock = lv.ownBlock ∨ ∃ k, lv'.ownBlock = some k ∧ w.heap.size ≤ k) ∧ Upd (Foot b lv L) w w' := fun g4 cap4 w4 g6 cap6 w6 ho hg hw ho6 hg6 hw6 => by
          obtain ⟨-, -, hu5, hh95⟩ := st5 g4 cap4 w4 ho hg hw
          have hs4 := hg.size
          rw [World.size_setCell] at hw6
          have hg4r : wb.heap.size ≤ g4 := by rcases hw with e | e <;> omega
          have hg6r : wb.heap.size ≤ g6 := by rcases hw6 with e | e <;> omega
          have hg69 : g6 ≠ b9 := by omega
          have hg49 : g4 ≠ b9 := by omega
          have hh96 : w6.heap[b9]? = some (.cells #[.int .i64 x, .slice (some ⟨g4, 0, none⟩) n cap4] 56 (0, 0)) := (hg6.block b9 (by rw [World.size_setCell]; omega) (by intro e; injection e with e; exact hg49 e.symm)).trans hh95
          have hu6 : Upd (fun k => k = f.blk ∨ k = b9) wb w6 := hu5.trans (Upd.of_grown (F := fun k => k = g4) hg6 (fun k hk => by injection hk with hk; exact hk.symm)) (fun k hk e => by omega)
          have hu7 := hu6.trans (Upd.setCell (F := fun k => k = b9) (p := ⟨b9, 1, none⟩) rfl (.slice (some ⟨g6, 0, none⟩) (n + tl) cap6)) (fun k _ h => .inr h)
          have hu8 := hu7.trans (G := fun _ => False) (Upd.of_below (below_al _ (.cells #[.int .i64 x, .slice (some ⟨g6, 0, none⟩) (n + tl) cap6] 56))) (fun _ _ h => h.elim)
          have hBl : (l ++ t.bs.drop lo).length = n + tl := by rw [List.length_append, htl2, ← HNL.out]
          refine ⟨hh96, ?_⟩
          have hm := merge_call b b9 w6.heap.size x0 x1 lv L i j x g6 cap6 f (l ++ t.bs.drop lo) wb ((w6.setCell ⟨b9, 1, none⟩ (.slice (some ⟨g6, 0, none⟩) (n + tl) cap6)).alloc (.cells #[.int .i64 x, .slice (some ⟨g6, 0, none⟩) (n + tl) cap6] 56)) hSb HF.out hij hjn hlen hu8 hb9F
            (by rw [hBl]; exact row_below ((Upd.setCell (F := fun k => k = b9) (p := ⟨b9, 1, none⟩) rfl _).row ho6 (fun k hk e => by simp only [Value.ownBlock, Option.some.injEq] at hk; exact hg69 (by rw [hk, e]))) (below_al _ _)) (.inr hg6r)
            (by rw [hBl]; have := heap_alloc_new (w6.setCell ⟨b9, 1, none⟩ (.slice (some ⟨g6, 0, none⟩) (n + tl) cap6)) (.cells #[.int .i64 x, .slice (some ⟨g6, 0, none⟩) (n + tl) cap6] 56); rwa [World.size_setCell] at this) (by have := hu6.size; omega)
          refine hm.mono ?_
          rintro e w' ⟨rfl, lv', hS', hk', hu'⟩
          have hwcs := HWCC.out.size
          refine ⟨rfl, lv', hS', by omega, ?_, ?_⟩
          · rcases hk' with e | ⟨k, e, hk⟩
            · exact .inl e
            · exact .inr ⟨k, e, by omega⟩
          · exact (Upd.of_below HWCC.out).trans hu' (fun k hk h => by rcases h with e | e; exact e; omega)
        have HT5 := aside st5
        have HT7 := aside st7
        have HR1 := aside hr1
        have HSRD := aside hSRd
        have HTL2 := aside htl2.symm
        clear st5 st7 hr1 hSRd htl2 hSb hud hh9d hmk a90 a91 ax fr90 fr91
        go_wp2_with (first
          | (at_builtin; refine wpList_append_bytes _ rfl _ _ rfl g1 k 0 [] rfl rfl HR1.out (some src) n c l rfl HNL.out (fun _ => ⟨src, rfl, HSRD.out⟩) (by omega) ?_; intro g4 cap4 w4 ho4 hg4 hw4; rw [Nat.zero_add, List.nil_append] at ho4; have HO4 := aside ho4; have HG4 := aside hg4; have HW4 := aside hw4; have c490 : w4.cell? ⟨b9, 0, none⟩ = some (.int .i64 x) := hg4.cell a90d (by intro e; injection e with e; exact hg19 e.symm); have c491 : w4.cell? ⟨b9, 1, none⟩ = some (.slice (some ⟨g1, 0, none⟩) 0 k) := hg4.cell a91d (by intro e; injection e with e; exact hg19 e.symm); have f491 : w4.frozen? ⟨b9, 1, none⟩ = false := (World.frozen?_of_block (hg4.block b9 b9ltd (by intro e; injection e with e; exact hg19 e.symm))).trans (fr9d 1); clear ho4 hg4 hw4)
          | (at_builtin; refine wpList_append_bytes _ rfl _ _ rfl g4 cap4 n l rfl HNL.out (HT5.out g4 cap4 w4 HO4.out HG4.out HW4.out).1 ta tl tc (t.bs.drop lo) rfl HTL2.out (HT5.out g4 cap4 w4 HO4.out HG4.out HW4.out).2.1 (by omega) ?_; intro g6 cap6 w6 ho6 hg6 hw6; have hst7 := HT7.out g4 cap4 w4 g6 cap6 w6 HO4.out HG4.out HW4.out ho6 hg6 hw6; have HC7 := aside hst7.2; have c690 : w6.cell? ⟨b9, 0, none⟩ = some (.int .i64 x) := (cell_of_row w6 b9 0 _ _ _ hst7.1).trans rfl; have c691 : w6.cell? ⟨b9, 1, none⟩ = some (.slice (some ⟨g4, 0, none⟩) n cap4) := (cell_of_row w6 b9 1 _ _ _ hst7.1).trans rfl; have f691 : w6.frozen? ⟨b9, 1, none⟩ = false := frozen_of_row w6 b9 1 _ _ hst7.1; clear ho6 hg6 hw6 hst7))
        refine HC7.out.mono ?_
        rintro e w' ⟨rfl, lv', hS', hg', hk', hu'⟩
        go_wp2
        go_end0
        refine ⟨rfl, lv', g6, cap6, ?_, hg', hk', hu'⟩
        have e1 : min (x + n) t.fin - t.org = lo := by rw [HLO.out]; rfl
        rw [e1]
        exact hS'
end Go.Proofs.Ytkekaljcbmkomaa
