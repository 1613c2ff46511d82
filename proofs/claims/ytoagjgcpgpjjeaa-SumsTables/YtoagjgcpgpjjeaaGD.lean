/- Merged: LayR, LayL, Erase, EraseLR, EraseL, EraseR, EraseN, EraseZ, EraseAny, LayAny, Cut, More, Content, All, Made, Wakes, Two. -/
import Derived.Test.YtoagjgcpgpjjeaaGC
import Derived.Test.YtoagjgcpgpjjeaaGA
import Derived.Deep.RegionHeld3
import Derived.Lib.SlBytesConst
namespace Go.Proofs.Ytoagjgcpgpjjeaa
open Go.RowKit
attribute [local simp] lcells_nil readB_length bcells_length
set_option maxHeartbeats 2000000 in
set_option maxRecDepth 100000 in
theorem layMergeR_any (b : Nat) (x0 x1 lv : Value) (sz : Nat) (L : List Piece) (x i j : Nat) (src : Addr) (n c : Nat) (w : World) (f t : Piece) (l : List UInt8) (hS : Str w b x0 x1 lv L) (hI : Inv sz L) (hxl : x + n ≤ 1073741824)
    (hi : L.findIdx (fun d => decide ((x : Int) ≤ d.fin)) = i) (hj : L.findIdx (fun d => decide ((x : Int) + (n : Int) < d.org)) = j) (hij : i < j) (hf : L[i]? = some f) (ht : L[j - 1]? = some t)
    (hnl : n = l.length) (h0 : 0 < n) (hsrc : ∀ j v, (bcells l)[j]? = some v → w.cell? (src.add j) = some v) (hfx : f.org ≤ x) (hfe : f.fin < x + n) (hxf : x ≤ f.fin) (hte : t.org ≤ x + n) :
    Calls Try.prog 44 #[.pointer (some ⟨b, 0, none⟩), .int .i64 x, .slice (some src) n c] w fun e w' => e = .returned (.tuple #[]) ∧ ∃ lv' g cap, Str w' b x0 x1 lv' (L.take i ++ [⟨f.org, g, cap, f.bs.take (x - f.org) ++ l ++ t.bs.drop (min (x + n) t.fin - t.org)⟩] ++ L.drop j) ∧ (g = f.blk ∨ w.heap.size ≤ g) ∧ (lv'.ownBlock = lv.ownBlock ∨ ∃ k, lv'.ownBlock = some k ∧ w.heap.size ≤ k) ∧ Upd (Foot b lv L) w w' := by
  have hlen := hI.len
  have hjn : j ≤ L.length := by rw [← hj]; exact List.findIdx_le_length
  obtain ⟨W0, hW0⟩ : ∃ W0, W0 = (w.alloc (.cells #[.int .i64 x] 2)).alloc (.cells #[.int .i64 ((x : Int) + (n : Int))] 2) := ⟨_, rfl⟩
  have hl2 : w.cell? ⟨b, 2, none⟩ = some lv := by rw [cell_of_row w b 2 _ _ _ hS.obj]; rfl
  obtain ⟨S1, S2, hB0, cx, cy⟩ := lay_S b lv sz L x ((x : Int) + (n : Int)) w hI hl2 hS.row W0 hW0
  rw [hi] at S1
  rw [hj] at S2
  have bx : w.heap.size < W0.heap.size := World.block_lt_of_cell? W0 _ cx
  have by' : w.heap.size + 1 < W0.heap.size := World.block_lt_of_cell? W0 _ cy
  have hbl : b < w.heap.size := World.block_lt_of_cell? w _ hl2
  have HS1 := aside S1
  have HS2 := aside S2
  have HB0 := aside hB0
  have HS := aside hS
  have CX := aside cx
  have CY := aside cy
  have HL2 := aside hl2
  have HF := aside hf
  have HBD : Aside (∀ d, d ∈ L → d.bs.length ≤ 4294967296) := fun d hd => (hI.bd d hd).2
  have HIN := aside hI
  have HSR := aside hsrc
  have HNL := aside hnl
  have HTT := aside ht
  clear S1 S2 hB0 hS cx cy hI hi hj hl2 hf ht hsrc hnl
  have hijz : ((i : Int) == (j : Int)) = false := by simp; omega
  have hnez : ¬ (i = j) := by omega
  go_enter Try.func44, Try.ntmps44
  go_wp2_with fail
  rw [← hW0]
  refine (HS1.out _ (Below.refl _ _)).mono ?_
  rintro e w1 ⟨rfl, hb1⟩
  go_wp2_with fail
  refine (HS2.out _ hb1).mono ?_
  rintro e w2 ⟨rfl, hb2⟩
  have cx2 : w2.cell? ⟨w.heap.size, 0, none⟩ = some (.int .i64 x) := ((below_tr hb1 hb2).cell bx).trans CX.out
  have cy2 : w2.cell? ⟨w.heap.size + 1, 0, none⟩ = some (.int .i64 ((x : Int) + (n : Int))) := ((below_tr hb1 hb2).cell by').trans CY.out
  have hw2 := below_tr HB0.out (below_tr hb1 hb2)
  have HB2 := aside hw2
  clear hb1 hb2 hW0
  obtain ⟨lg, lc, hlv, hf0, hf1⟩ := row_at (row_below HS.out.row hw2) (i := i) (by omega)
  obtain ⟨lg2, lc2, hlv2, ht0, ht1⟩ := row_at (row_below HS.out.row hw2) (i := j - 1) (by omega)
  rw [hlv] at hlv2
  simp only [Value.slice.injEq, Option.some.injEq, Addr.mk.injEq, true_and, and_true] at hlv2
  obtain ⟨rfl, rfl⟩ := hlv2
  have hc2 : w2.cell? ⟨b, 2, none⟩ = some (.slice (some ⟨lg, 0, none⟩) L.length lc) := by rw [← hlv]; exact (hw2.cell hbl).trans HL2.out
  have ef : L[i] = f := Option.some.inj ((List.getElem?_eq_getElem (by omega)).symm.trans HF.out)
  have et : L[j - 1] = t := Option.some.inj ((List.getElem?_eq_getElem (by omega)).symm.trans HTT.out)
  rw [ef] at hf0 hf1
  rw [et] at ht0 ht1
  unfold Piece.dv at hf1 ht1
  have hiz : (i : Int) < (L.length : Int) := by omega
  obtain ⟨jm, hjm⟩ : ∃ jm, jm = j - 1 := ⟨_, rfl⟩
  rw [← hjm] at ht0 ht1
  have hjn1 : (j : Int) - 1 = (jm : Int) := by omega
  have hjz : (jm : Int) < (L.length : Int) := by omega
  have hjw : IntKind.i64.wrap (jm : Int) = (jm : Int) := by rw [IntKind.wrap_i64]; omega
  have HJM := aside hjm
  clear hjm
  clear hw2 hlv ef et
  go_upto_region 6 with fail
  go_cut [9, 10] from 25 to 110 (fun p9 p10 wx => ∃ b9 b10 : Nat, p9 = .pointer (some ⟨b9, 0, none⟩) ∧ p10 = .pointer (some ⟨b10, 0, none⟩) ∧ b9 ≠ b10 ∧ w2.heap.size ≤ b9 ∧ w2.heap.size ≤ b10 ∧ wx.heap[b9]? = some (.cells #[.int .i64 f.org, .slice (some ⟨f.blk, 0, none⟩) f.bs.length f.cap] 126 (0, 0)) ∧ wx.heap[b10]? = some (.cells #[.int .i64 t.org, .slice (some ⟨t.blk, 0, none⟩) t.bs.length t.cap] 126 (0, 0)) ∧ Below w2.heap.size w2 wx)
  case first =>
    go_region_held2 (fun w' => w'.cell? ⟨b, 2, none⟩ = some (.slice (some ⟨lg, 0, none⟩) L.length lc) ∧ w'.cell? ⟨lg, i * 2, none⟩ = some (.int .i64 f.org) ∧ w'.cell? ⟨lg, i * 2 + 1, none⟩ = some (.slice (some ⟨f.blk, 0, none⟩) f.bs.length f.cap) ∧ w'.cell? ⟨lg, jm * 2, none⟩ = some (.int .i64 t.org) ∧ w'.cell? ⟨lg, jm * 2 + 1, none⟩ = some (.slice (some ⟨t.blk, 0, none⟩) t.bs.length t.cap)) (go_keep) (fail)
    all_goals
      go_wp2_with fail
      go_meet
      case rel =>
        first
          | exact ⟨w2.heap.size, w2.heap.size + 1, rfl, rfl, by omega, Nat.le_refl _, by omega, two_old w2 _ _, two_new w2 _ _, two_below w2 _ _⟩
          | exact ⟨w2.heap.size + 1, w2.heap.size, rfl, rfl, by omega, by omega, Nat.le_refl _, two_new w2 _ _, two_old w2 _ _, two_below w2 _ _⟩
  case rest =>
    obtain ⟨b9, b10, rfl, rfl, hne, h9, h10, hh9, hh10, hbc⟩ := hcut
    have d90 : wc.cell? ⟨b9, 0, none⟩ = some (.int .i64 f.org) := by rw [cell_of_row wc b9 0 _ _ _ hh9]; rfl
    have d91 : wc.cell? ⟨b9, 1, none⟩ = some (.slice (some ⟨f.blk, 0, none⟩) f.bs.length f.cap) := by rw [cell_of_row wc b9 1 _ _ _ hh9]; rfl
    have d100 : wc.cell? ⟨b10, 0, none⟩ = some (.int .i64 t.org) := by rw [cell_of_row wc b10 0 _ _ _ hh10]; rfl
    have d101 : wc.cell? ⟨b10, 1, none⟩ = some (.slice (some ⟨t.blk, 0, none⟩) t.bs.length t.cap) := by rw [cell_of_row wc b10 1 _ _ _ hh10]; rfl
    have bx2 : w.heap.size < w2.heap.size := World.block_lt_of_cell? w2 _ cx2
    have by2 : w.heap.size + 1 < w2.heap.size := World.block_lt_of_cell? w2 _ cy2
    have dx : wc.cell? ⟨w.heap.size, 0, none⟩ = some (.int .i64 x) := (hbc.cell bx2).trans cx2
    have dy : wc.cell? ⟨w.heap.size + 1, 0, none⟩ = some (.int .i64 ((x : Int) + (n : Int))) := (hbc.cell by2).trans cy2
    have hfL : f ∈ L := List.mem_of_getElem? HF.out
    have htL : t ∈ L := List.mem_of_getElem? HTT.out
    unfold Piece.fin at hfe hxf
    have hfl := HIN.out.fin f hfL
    have htl := HIN.out.fin t htL
    have hszz := HIN.out.size
    have htn := HIN.out.ne t htL
    unfold Piece.fin at hfl htl
    have HWC := aside (below_tr HB2.out hbc)
    clear hh10 hbc hf0 hf1 ht0 ht1 hc2
    have xx := fun d os => ext_cell dx d os
    have xy := fun d os => ext_cell dy d os
    have x90 := fun d os => ext_cell d90 d os
    have x91 := fun d os => ext_cell d91 d os
    have g1 : decide ((f.org : Int) ≤ (x : Int)) = true := by simp; omega
    have g1b : decide (f.org ≤ x) = true := by simp; omega
    have g2 : decide ((x : Int) + (n : Int) ≤ (f.org : Int) + (f.bs.length : Int)) = false := by simp; omega
    go_wp2
    refine region_ext (by kernel_rfl) (by kernel_rfl) ?_
    repeat (any_goals (first | go_big_quiet_step ((go_at_call 61; exact calls_ext (to_any _ _ _ _ _ (by omega) (by omega) (by omega)))) | quiet_step ((go_at_call 61; exact calls_ext (to_any _ _ _ _ _ (by omega) (by omega) (by omega))))))
    refine wpQuiet_nil ?_
    intro wq hq
    have e90 : wq.cell? ⟨b9, 0, none⟩ = some (.int .i64 f.org) := (hq.cell (World.block_lt_of_cell? wc _ d90)).trans d90
    have e91 : wq.cell? ⟨b9, 1, none⟩ = some (.slice (some ⟨f.blk, 0, none⟩) f.bs.length f.cap) := (hq.cell (World.block_lt_of_cell? wc _ d91)).trans d91
    have e100 : wq.cell? ⟨b10, 0, none⟩ = some (.int .i64 t.org) := (hq.cell (World.block_lt_of_cell? wc _ d100)).trans d100
    have e101 : wq.cell? ⟨b10, 1, none⟩ = some (.slice (some ⟨t.blk, 0, none⟩) t.bs.length t.cap) := (hq.cell (World.block_lt_of_cell? wc _ d101)).trans d101
    have ex : wq.cell? ⟨w.heap.size, 0, none⟩ = some (.int .i64 x) := (hq.cell (World.block_lt_of_cell? wc _ dx)).trans dx
    have ey : wq.cell? ⟨w.heap.size + 1, 0, none⟩ = some (.int .i64 ((x : Int) + (n : Int))) := (hq.cell (World.block_lt_of_cell? wc _ dy)).trans dy
    have hh9q : wq.heap[b9]? = some (.cells #[.int .i64 f.org, .slice (some ⟨f.blk, 0, none⟩) f.bs.length f.cap] 126 (0, 0)) := (hq.block b9 (Array.getElem?_eq_some_iff.1 hh9).1).trans hh9
    have HWQ := aside (below_tr HWC.out hq)
    clear xx xy x90 x91 d90 d91 d100 d101 dx dy hh9
    obtain ⟨lo, hlo⟩ : ∃ lo, lo = min (x + n) (t.org + t.bs.length) - t.org := ⟨_, rfl⟩
    have HLO := aside hlo
    have htc : t.bs.length ≤ t.cap ∧ t.cap ≤ maxLen := by
      obtain ⟨_, _, e, h1, h2⟩ := row_form (HS.out.data t htL)
      simp only [Piece.dv, Value.slice.injEq, true_and] at e
      omega
    have hlo1 : lo ≤ t.bs.length := by omega
    have hw1 : IntKind.i64.wrap (lo : Int) = (lo : Int) := by rw [IntKind.wrap_i64]; omega
    clear hlo
    go_upto_region 9 with fail
    go_cut [11] from 25 to 110 (fun p11 wx => ∃ (ta : Option Addr) (tc : Nat), p11 = .slice ta (t.bs.length - lo) tc ∧ (0 < t.bs.length - lo → ta = some ⟨t.blk, lo, none⟩) ∧ Below wq.heap.size wq wx)
    case first =>
      have xy := fun d os => ext_cell ey d os
      have x100 := fun d os => ext_cell e100 d os
      have x101 := fun d os => ext_cell e101 d os
      by_cases hmn : (t.org : Int) + (t.bs.length : Int) < (x : Int) + (n : Int)
      · have HLE : Aside (lo = t.bs.length) := by have := HLO.out; show lo = t.bs.length; omega
        by_cases hcp : t.cap = t.bs.length
        all_goals
          refine region_ext (by kernel_rfl) (by kernel_rfl) ?_
          repeat (any_goals (first | go_big_quiet_step ((go_at_call 61; exact calls_ext (to_any _ _ _ _ _ (by omega) (by omega) (by omega)))) | quiet_step ((go_at_call 61; exact calls_ext (to_any _ _ _ _ _ (by omega) (by omega) (by omega))))))
          refine wpQuiet_nil ?_
          intro wr hr
          go_wp2_with fail
          go_meet
          case rel =>
            rw [HLE.out]
            simp only [Nat.add_sub_cancel_left]
            exact ⟨_, _, rfl, fun h => by omega, hr⟩
      · have hlz : (x : Int) + (n : Int) - (t.org : Int) = (lo : Int) := by have := HLO.out; omega
        by_cases hcp : t.cap = lo
        all_goals
          refine region_ext (by kernel_rfl) (by kernel_rfl) ?_
          repeat (any_goals (first | go_big_quiet_step ((go_at_call 61; exact calls_ext (to_any _ _ _ _ _ (by omega) (by omega) (by omega)))) | quiet_step ((go_at_call 61; exact calls_ext (to_any _ _ _ _ _ (by omega) (by omega) (by omega))))))
          refine wpQuiet_nil ?_
          intro wr hr
          go_wp2_with fail
          go_meet
          case rel => exact ⟨_, _, rfl, fun h => by first | rfl | omega, hr⟩
    case rest =>
      obtain ⟨ta, tc, rfl, hta, hbc⟩ := hcut
      have hb9 : b9 < wq.heap.size := (Array.getElem?_eq_some_iff.1 hh9q).1
      have a90 : wc.cell? ⟨b9, 0, none⟩ = some (.int .i64 f.org) := (hbc.cell (World.block_lt_of_cell? wq _ e90)).trans e90
      have a91 : wc.cell? ⟨b9, 1, none⟩ = some (.slice (some ⟨f.blk, 0, none⟩) f.bs.length f.cap) := (hbc.cell (World.block_lt_of_cell? wq _ e91)).trans e91
      have ax : wc.cell? ⟨w.heap.size, 0, none⟩ = some (.int .i64 x) := (hbc.cell (World.block_lt_of_cell? wq _ ex)).trans ex
      have hh9c : wc.heap[b9]? = some (.cells #[.int .i64 f.org, .slice (some ⟨f.blk, 0, none⟩) f.bs.length f.cap] 126 (0, 0)) := (hbc.block b9 hb9).trans hh9q
      have hwc : Below w.heap.size w wc := below_tr HWQ.out hbc
      clear e90 e91 e100 e101 ex ey hh9q hbc hb9
      obtain ⟨p, hp⟩ : ∃ p, p = x - f.org := ⟨_, rfl⟩
      have hpz : (x : Int) - (f.org : Int) = (p : Int) := by omega
      have hpl : p ≤ f.bs.length := by omega
      have hSc := HS.out.below hwc
      have hfr := hSc.data f hfL
      have hfc : f.bs.length ≤ f.cap ∧ f.cap ≤ maxLen := by
        obtain ⟨_, _, e, h1, h2⟩ := row_form hfr
        simp only [Piece.dv, Value.slice.injEq, true_and] at e
        omega
      have hpr : wc.ownsRow 0 5 1 (.slice (some ⟨f.blk, 0, none⟩) p f.cap) p (bcells (f.bs.take p)) := by
        rcases hfr.2 with ⟨hbad, -⟩ | ⟨g', cap', cur, hgv, -, hgc, hg1, hg2, hg3, hg4⟩
        · simp [Piece.dv] at hbad
        · simp only [Piece.dv, Value.slice.injEq, Option.some.injEq, Addr.mk.injEq, true_and, and_true] at hgv
          obtain ⟨rfl, rfl⟩ := hgv
          refine ⟨by simp; omega, .inr ⟨f.blk, f.cap, cur, rfl, Nat.zero_le _, hgc, by omega, hg2, hg3, ?_⟩⟩
          rw [show bcells (f.bs.take p) = (bcells f.bs).take p by simp [bcells, List.map_take], ← hg4, List.take_take]; congr 1; omega
      have hsr : ∀ j v, (bcells l)[j]? = some v → wc.cell? (src.add j) = some v := fun j v h => (hwc.cell (World.block_lt_of_cell? w _ (HSR.out j v h))).trans (HSR.out j v h)
      have hlen1 : (f.bs.take p).length = p := by rw [List.length_take]; omega
      have HP := aside hp
      have HPR := aside hpr
      have HSRC := aside hsr
      have HSC := aside hSc
      have HWCC := aside hwc
      have HL1 := aside hlen1
      have HTA := aside hta
      have HH9 := aside hh9c
      have hfcz : f.cap ≤ 9223372036854775807 := by have := hfc.2; unfold maxLen at this; omega
      have hpc : p ≤ f.cap := by omega
      have b9lt : b9 < wc.heap.size := (Array.getElem?_eq_some_iff.1 hh9c).1
      have hf9 : f.blk ≠ b9 := fun e => by have := (HS.out.data f hfL).lt f.blk rfl; omega
      have hgt : ¬ ((x : Int) < (f.org : Int)) := by omega
      have fr9 : ∀ o, wc.frozen? ⟨b9, o, none⟩ = false := fun o => frozen_of_row wc b9 o _ _ hh9c
      have htl2 : (t.bs.drop lo).length = t.bs.length - lo := by rw [List.length_drop]
      have hb9F : ¬ Foot b lv L b9 := fun h => by have := HS.out.lv_lt h; omega
      have hb9x : b9 ≠ w.heap.size := by omega
      have st5 : ∀ (g4 cap4 : Nat) (w4 : World), w4.ownsRow 0 5 1 (.slice (some ⟨g4, 0, none⟩) (p + n) cap4) (p + n) (bcells (f.bs.take p ++ l)) → wc.grownBy w4 (some f.blk) → (g4 = f.blk ∨ wc.heap.size ≤ g4) →
          (w4.setCell ⟨b9, 1, none⟩ (.slice (some ⟨g4, 0, none⟩) (p + n) cap4)).ownsRow 0 5 1 (.slice (some ⟨g4, 0, none⟩) (p + n) cap4) (p + n) (bcells (f.bs.take p ++ l)) ∧
          (0 < t.bs.length - lo → ∃ ad, ta = some ad ∧ ∀ j u, (bcells (t.bs.drop lo))[j]? = some u → (w4.setCell ⟨b9, 1, none⟩ (.slice (some ⟨g4, 0, none⟩) (p + n) cap4)).cell? (ad.add j) = some u) ∧
          Upd (fun k => k = f.blk ∨ k = b9) wc (w4.setCell ⟨b9, 1, none⟩ (.slice (some ⟨g4, 0, none⟩) (p + n) cap4)) ∧
          (w4.setCell ⟨b9, 1, none⟩ (.slice (some ⟨g4, 0, none⟩) (p + n) cap4)).heap[b9]? = some (.cells #[.int .i64 f.org, .slice (some ⟨g4, 0, none⟩) (p + n) cap4] 126 (0, 0)) := fun g4 cap4 w4 ho hg hw => by
        have hg49 : g4 ≠ b9 := by rcases hw with e | e; rw [e]; exact hf9; omega
        have hu4 : Upd (fun k => k = f.blk ∨ k = b9) wc w4 := Upd.of_grown hg (fun k hk => by injection hk with hk; exact .inl hk.symm)
        have hu5 := hu4.trans (Upd.setCell (F := fun k => k = b9) (p := ⟨b9, 1, none⟩) rfl (.slice (some ⟨g4, 0, none⟩) (p + n) cap4)) (fun k _ h => .inr h)
        have hh94 : w4.heap[b9]? = some (.cells #[.int .i64 f.org, .slice (some ⟨f.blk, 0, none⟩) f.bs.length f.cap] 126 (0, 0)) := (hg.block b9 b9lt (by intro e; injection e with e; exact hf9 e.symm)).trans hh9c
        refine ⟨(Upd.setCell (F := fun k => k = b9) (p := ⟨b9, 1, none⟩) rfl _).row ho (fun k hk e => ?_), fun h0 => ?_, hu5, ?_⟩
        · simp only [Value.ownBlock, Option.some.injEq] at hk; exact hg49 (by rw [hk, e])
        · refine ⟨_, hta h0, fun k u hk => ?_⟩
          have htf : t.blk ≠ f.blk := nd_ne HS.out.nd HTT.out HF.out (fun e => by
            have e2 : t = f := by have h1 := HTT.out; rw [e, HF.out] at h1; exact (Option.some.inj h1).symm
            have := HLO.out
            rw [e2] at h0 this
            omega)
          have ht9 : t.blk ≠ b9 := fun e => hb9F (.inr (.inr ⟨t, htL, e⟩))
          have hkl : k < (bcells (t.bs.drop lo)).length := (List.getElem?_eq_some_iff.1 hk).1
          rw [bcells_length, htl2] at hkl
          have hrt := hSc.data t htL
          unfold Piece.dv at hrt
          have hc1 : wc.cell? ⟨t.blk, lo + k, none⟩ = some u := by
            rw [hrt.cellAt (lo + k) (by omega), ← hk]
            simp only [bcells, List.getElem?_map, List.getElem?_drop]
          rw [Addr.add_lit]
          have hblk := hu5.block t.blk (World.block_lt_of_cell? wc _ hc1) (fun h => by rcases h with e | e; exact htf e; exact ht9 e)
          exact (World.cell?_of_block (a := ⟨t.blk, lo + k, none⟩) hblk).trans hc1
        · rw [heap_setCell_same w4 b9 1 _ _ _ hh94]; rfl
      have st7 : ∀ (g4 cap4 : Nat) (w4 : World) (g6 cap6 : Nat) (w6 : World), w4.ownsRow 0 5 1 (.slice (some ⟨g4, 0, none⟩) (p + n) cap4) (p + n) (bcells (f.bs.take p ++ l)) → wc.grownBy w4 (some f.blk) → (g4 = f.blk ∨ wc.heap.size ≤ g4) →
          w6.ownsRow 0 5 1 (.slice (some ⟨g6, 0, none⟩) (p + n + (t.bs.length - lo)) cap6) (p + n + (t.bs.length - lo)) (bcells (f.bs.take p ++ l ++ t.bs.drop lo)) → (w4.setCell ⟨b9, 1, none⟩ (.slice (some ⟨g4, 0, none⟩) (p + n) cap4)).grownBy w6 (some g4) → (g6 = g4 ∨ (w4.setCell ⟨b9, 1, none⟩ (.slice (some ⟨g4, 0, none⟩) (p + n) cap4)).heap.size ≤ g6) →
          w6.heap[b9]? = some (.cells #[.int .i64 f.org, .slice (some ⟨g4, 0, none⟩) (p + n) cap4] 126 (0, 0)) ∧
          Calls Try.prog 65 #[.pointer (some ⟨b, 0, none⟩), .int .i64 i, .int .i64 j, .slice (some ⟨w6.heap.size, 0, none⟩) 1 1] ((w6.setCell ⟨b9, 1, none⟩ (.slice (some ⟨g6, 0, none⟩) (p + n + (t.bs.length - lo)) cap6)).alloc (.cells #[.int .i64 f.org, .slice (some ⟨g6, 0, none⟩) (p + n + (t.bs.length - lo)) cap6] 126)) fun e w' => e = .returned (.tuple #[]) ∧ ∃ lv', Str w' b x0 x1 lv' (L.take i ++ [⟨f.org, g6, cap6, f.bs.take p ++ l ++ t.bs.drop lo⟩] ++ L.drop j) ∧ (g6 = f.blk ∨ w.heap.size ≤ g6) ∧ (lv'.ownBlock = lv.ownBlock ∨ ∃ k, lv'.ownBlock = some k ∧ w.heap.size ≤ k) ∧ Upd (Foot b lv L) w w' := fun g4 cap4 w4 g6 cap6 w6 ho hg hw ho6 hg6 hw6 => by
        obtain ⟨-, -, hu5, hh95⟩ := st5 g4 cap4 w4 ho hg hw
        have hs4 := hg.size
        rw [World.size_setCell] at hw6
        have hg6r : g6 = f.blk ∨ wc.heap.size ≤ g6 := by
          rcases hw6 with e | e
          · rw [e]; exact hw
          · exact .inr (by omega)
        have hg69 : g6 ≠ b9 := by rcases hg6r with e | e; rw [e]; exact hf9; omega
        have hg49 : g4 ≠ b9 := by rcases hw with e | e; rw [e]; exact hf9; omega
        have hh96 : w6.heap[b9]? = some (.cells #[.int .i64 f.org, .slice (some ⟨g4, 0, none⟩) (p + n) cap4] 126 (0, 0)) := (hg6.block b9 (by rw [World.size_setCell]; omega) (by intro e; injection e with e; exact hg49 e.symm)).trans hh95
        have hu6 : Upd (fun k => k = f.blk ∨ k = b9) wc w6 := hu5.trans (Upd.of_grown (F := fun k => k = g4) hg6 (fun k hk => by injection hk with hk; exact hk.symm)) (fun k hk e => by
          rcases hw with e1 | e1
          · exact .inl (by rw [e, e1])
          · omega)
        have hu7 := hu6.trans (Upd.setCell (F := fun k => k = b9) (p := ⟨b9, 1, none⟩) rfl (.slice (some ⟨g6, 0, none⟩) (p + n + (t.bs.length - lo)) cap6)) (fun k _ h => .inr h)
        have hu8 := hu7.trans (G := fun _ => False) (Upd.of_below (below_al _ (.cells #[.int .i64 f.org, .slice (some ⟨g6, 0, none⟩) (p + n + (t.bs.length - lo)) cap6] 126))) (fun _ _ h => h.elim)
        have hBl : (f.bs.take p ++ l ++ t.bs.drop lo).length = p + n + (t.bs.length - lo) := by rw [List.length_append, List.length_append, hlen1, htl2, ← HNL.out]
        refine ⟨hh96, ?_⟩
        have hm := merge_call b b9 w6.heap.size x0 x1 lv L i j f.org g6 cap6 f (f.bs.take p ++ l ++ t.bs.drop lo) wc ((w6.setCell ⟨b9, 1, none⟩ (.slice (some ⟨g6, 0, none⟩) (p + n + (t.bs.length - lo)) cap6)).alloc (.cells #[.int .i64 f.org, .slice (some ⟨g6, 0, none⟩) (p + n + (t.bs.length - lo)) cap6] 126)) hSc HF.out hij hjn hlen hu8 hb9F
          (by rw [hBl]; exact row_below ((Upd.setCell (F := fun k => k = b9) (p := ⟨b9, 1, none⟩) rfl _).row ho6 (fun k hk e => by simp only [Value.ownBlock, Option.some.injEq] at hk; exact hg69 (by rw [hk, e]))) (below_al _ _)) hg6r
          (by rw [hBl]; have := heap_alloc_new (w6.setCell ⟨b9, 1, none⟩ (.slice (some ⟨g6, 0, none⟩) (p + n + (t.bs.length - lo)) cap6)) (.cells #[.int .i64 f.org, .slice (some ⟨g6, 0, none⟩) (p + n + (t.bs.length - lo)) cap6] 126); rwa [World.size_setCell] at this) (by have := hu6.size; omega)
        refine hm.mono ?_
        rintro e w' ⟨rfl, lv', hS', hk', hu'⟩
        have hwcs := hwc.size
        refine ⟨rfl, lv', hS', ?_, ?_, ?_⟩
        · rcases hg6r with e | e
          · exact .inl e
          · exact .inr (by omega)
        · rcases hk' with e | ⟨k, e, hk⟩
          · exact .inl e
          · exact .inr ⟨k, e, by omega⟩
        · exact (Upd.of_below hwc).trans hu' (fun k hk h => by rcases h with e | e; exact e; omega)
      have HT5 := aside st5
      have HT7 := aside st7
      clear st5 st7 hp hpr hsr hSc hwc hlen1 hta hh9c hfr g1 g1b g2 htl2
      have HTL2 : Aside (t.bs.length - lo = (t.bs.drop lo).length) := by show t.bs.length - lo = (t.bs.drop lo).length; rw [List.length_drop]
      go_wp2_with (first
        | (at_builtin; refine wpList_append_bytes _ rfl _ _ rfl f.blk f.cap p (f.bs.take p) rfl HL1.out.symm HPR.out (some src) n c l rfl HNL.out (fun _ => ⟨src, rfl, HSRC.out⟩) (by omega) ?_; intro g4 cap4 w4 ho4 hg4 hw4; have HO4 := aside ho4; have HG4 := aside hg4; have HW4 := aside hw4; have c490 : w4.cell? ⟨b9, 0, none⟩ = some (.int .i64 f.org) := hg4.cell a90 (by intro e; injection e with e; exact hf9 e.symm); have c491 : w4.cell? ⟨b9, 1, none⟩ = some (.slice (some ⟨f.blk, 0, none⟩) f.bs.length f.cap) := hg4.cell a91 (by intro e; injection e with e; exact hf9 e.symm); have f491 : w4.frozen? ⟨b9, 1, none⟩ = false := (World.frozen?_of_block (hg4.block b9 b9lt (by intro e; injection e with e; exact hf9 e.symm))).trans (fr9 1); clear ho4 hg4 hw4)
        | (at_builtin; refine wpList_append_bytes _ rfl _ _ rfl g4 cap4 (p + n) (f.bs.take p ++ l) rfl (by rw [List.length_append, ← HNL.out, HL1.out]) (HT5.out g4 cap4 w4 HO4.out HG4.out HW4.out).1 ta (t.bs.length - lo) tc (t.bs.drop lo) rfl HTL2.out (HT5.out g4 cap4 w4 HO4.out HG4.out HW4.out).2.1 (by omega) ?_; intro g6 cap6 w6 ho6 hg6 hw6; have hst7 := HT7.out g4 cap4 w4 g6 cap6 w6 HO4.out HG4.out HW4.out ho6 hg6 hw6; have HC7 := aside hst7.2; have c690 : w6.cell? ⟨b9, 0, none⟩ = some (.int .i64 f.org) := (cell_of_row w6 b9 0 _ _ _ hst7.1).trans rfl; have c691 : w6.cell? ⟨b9, 1, none⟩ = some (.slice (some ⟨g4, 0, none⟩) (p + n) cap4) := (cell_of_row w6 b9 1 _ _ _ hst7.1).trans rfl; have f691 : w6.frozen? ⟨b9, 1, none⟩ = false := frozen_of_row w6 b9 1 _ _ hst7.1; clear ho6 hg6 hw6 hst7))
      refine HC7.out.mono ?_
      rintro e w' ⟨rfl, lv', hS', hg', hk', hu'⟩
      go_wp2
      go_end0
      refine ⟨rfl, lv', g6, cap6, ?_, hg', hk', hu'⟩
      have e1 : min (x + n) t.fin - t.org = lo := by rw [HLO.out]; rfl
      rw [e1, ← HP.out]
      exact hS'
end Go.Proofs.Ytoagjgcpgpjjeaa

namespace Go.Proofs.Ytoagjgcpgpjjeaa
open Go.RowKit
attribute [local simp] lcells_nil readB_length bcells_length
theorem make_cap (w : World) (k : Nat) (hk : k ≤ 4294967296) : (Instr.makeSlice 22 (.int .i64 0) (.int .i64 k)).run Try.prog w = .ok (.slice (some ⟨w.heap.size, 0, none⟩) 0 k) (w.alloc (.cells (bcells (List.replicate k 0)).toArray 5)) := by
  obtain ⟨i, hi, hz, hs, hb⟩ := info_parts info5
  have h := run_make (P := Try.prog) w 22 5 i (.int .u8 0) Try.underlying22 hi hz .i64 .i64 0 k (by omega) (by omega) (by rw [hb]; omega) (by omega)
  rw [h, hs]
  simp only [Int.toNat_natCast, Nat.mul_one]
  have e : (madeCells (Value.int .u8 0).cells k) = (bcells (List.replicate k 0)).toArray := by
    apply Array.toList_inj.1
    rw [show (Value.int IntKind.u8 0).cells = #[.int .u8 0] from rfl, toList_madeCells_one]
    simp [bcells]
  rw [e]
  rfl

theorem mk_rel (wc : World) (b9 k : Nat) (x : Int) (v0 v1 : Value) (hk : k ≤ 4294967296) (hh9 : wc.heap[b9]? = some (.cells #[v0, v1] 126 (0, 0))) :
    ((((wc.setCell ⟨b9, 0, none⟩ (.int .i64 x)).setCell ⟨b9, 1, none⟩ (.slice (some ⟨wc.heap.size, 0, none⟩) 0 k)).alloc (.cells (bcells (List.replicate k 0)).toArray 5)).drew.ownsRow 0 5 1 (.slice (some ⟨wc.heap.size, 0, none⟩) 0 k) 0 (bcells [])) ∧
    (((wc.setCell ⟨b9, 0, none⟩ (.int .i64 x)).setCell ⟨b9, 1, none⟩ (.slice (some ⟨wc.heap.size, 0, none⟩) 0 k)).alloc (.cells (bcells (List.replicate k 0)).toArray 5)).drew.heap[b9]? = some (.cells #[.int .i64 x, .slice (some ⟨wc.heap.size, 0, none⟩) 0 k] 126 (0, 0)) ∧
    Upd (fun k => k = b9) wc (((wc.setCell ⟨b9, 0, none⟩ (.int .i64 x)).setCell ⟨b9, 1, none⟩ (.slice (some ⟨wc.heap.size, 0, none⟩) 0 k)).alloc (.cells (bcells (List.replicate k 0)).toArray 5)).drew := by
  have hb9 : b9 < wc.heap.size := (Array.getElem?_eq_some_iff.1 hh9).1
  have hs : ((wc.setCell ⟨b9, 0, none⟩ (.int .i64 x)).setCell ⟨b9, 1, none⟩ (.slice (some ⟨wc.heap.size, 0, none⟩) 0 k)).heap.size = wc.heap.size := by simp
  generalize hW : (wc.setCell ⟨b9, 0, none⟩ (.int .i64 x)).setCell ⟨b9, 1, none⟩ (.slice (some ⟨wc.heap.size, 0, none⟩) 0 k) = W at *
  refine ⟨?_, ?_, ?_⟩
  · have h := World.ownsRow_made (base := 0) (e := 5) (size := 1) W (bcells (List.replicate k 0)).toArray k (Nat.zero_le _) (by unfold maxLen; omega) (by simp)
    rw [hs] at h
    exact h
  · show (W.alloc _).heap[b9]? = _
    rw [Below.heap_alloc W _ b9 (by rw [hs]; exact hb9), ← hW, heap_setCell_same _ b9 1 _ _ _ (heap_setCell_same wc b9 0 _ _ _ hh9)]
    rfl
  · have h1 : Upd (fun k => k = b9) wc W := by
      rw [← hW]
      exact (Upd.setCell (F := fun k => k = b9) (p := ⟨b9, 0, none⟩) rfl _).trans (Upd.setCell (F := fun k => k = b9) (p := ⟨b9, 1, none⟩) rfl _) (fun _ _ h => h)
    exact h1.trans (G := fun _ => False) (Upd.of_below ((below_al W _).drew)) (fun _ _ h => h.elim)

set_option maxHeartbeats 2000000 in
set_option maxRecDepth 100000 in
theorem layMergeL_any (b : Nat) (x0 x1 lv : Value) (sz : Nat) (L : List Piece) (x i j : Nat) (src : Addr) (n c : Nat) (w : World) (f t : Piece) (l : List UInt8) (hS : Str w b x0 x1 lv L) (hI : Inv sz L) (hxl : x + n ≤ 1073741824)
    (hi : L.findIdx (fun d => decide ((x : Int) ≤ d.fin)) = i) (hj : L.findIdx (fun d => decide ((x : Int) + (n : Int) < d.org)) = j) (hij : i < j) (hf : L[i]? = some f) (ht : L[j - 1]? = some t)
    (hnl : n = l.length) (h0 : 0 < n) (hsrc : ∀ j v, (bcells l)[j]? = some v → w.cell? (src.add j) = some v) (hfx : x < f.org) (hte : t.org ≤ x + n) :
    Calls Try.prog 44 #[.pointer (some ⟨b, 0, none⟩), .int .i64 x, .slice (some src) n c] w fun e w' => e = .returned (.tuple #[]) ∧ ∃ lv' g cap, Str w' b x0 x1 lv' (L.take i ++ [⟨x, g, cap, l ++ t.bs.drop (min (x + n) t.fin - t.org)⟩] ++ L.drop j) ∧ w.heap.size ≤ g ∧ (lv'.ownBlock = lv.ownBlock ∨ ∃ k, lv'.ownBlock = some k ∧ w.heap.size ≤ k) ∧ Upd (Foot b lv L) w w' := by
  have hlen := hI.len
  have hjn : j ≤ L.length := by rw [← hj]; exact List.findIdx_le_length
  obtain ⟨W0, hW0⟩ : ∃ W0, W0 = (w.alloc (.cells #[.int .i64 x] 2)).alloc (.cells #[.int .i64 ((x : Int) + (n : Int))] 2) := ⟨_, rfl⟩
  have hl2 : w.cell? ⟨b, 2, none⟩ = some lv := by rw [cell_of_row w b 2 _ _ _ hS.obj]; rfl
  obtain ⟨S1, S2, hB0, cx, cy⟩ := lay_S b lv sz L x ((x : Int) + (n : Int)) w hI hl2 hS.row W0 hW0
  rw [hi] at S1
  rw [hj] at S2
  have bx : w.heap.size < W0.heap.size := World.block_lt_of_cell? W0 _ cx
  have by' : w.heap.size + 1 < W0.heap.size := World.block_lt_of_cell? W0 _ cy
  have hbl : b < w.heap.size := World.block_lt_of_cell? w _ hl2
  have HS1 := aside S1
  have HS2 := aside S2
  have HB0 := aside hB0
  have HS := aside hS
  have CX := aside cx
  have CY := aside cy
  have HL2 := aside hl2
  have HF := aside hf
  have HBD : Aside (∀ d, d ∈ L → d.bs.length ≤ 4294967296) := fun d hd => (hI.bd d hd).2
  have HIN := aside hI
  have HSR := aside hsrc
  have HNL := aside hnl
  have HTT := aside ht
  clear S1 S2 hB0 hS cx cy hI hi hj hl2 hf ht hsrc hnl
  have hijz : ((i : Int) == (j : Int)) = false := by simp; omega
  have hnez : ¬ (i = j) := by omega
  go_enter Try.func44, Try.ntmps44
  go_wp2_with fail
  rw [← hW0]
  refine (HS1.out _ (Below.refl _ _)).mono ?_
  rintro e w1 ⟨rfl, hb1⟩
  go_wp2_with fail
  refine (HS2.out _ hb1).mono ?_
  rintro e w2 ⟨rfl, hb2⟩
  have cx2 : w2.cell? ⟨w.heap.size, 0, none⟩ = some (.int .i64 x) := ((below_tr hb1 hb2).cell bx).trans CX.out
  have cy2 : w2.cell? ⟨w.heap.size + 1, 0, none⟩ = some (.int .i64 ((x : Int) + (n : Int))) := ((below_tr hb1 hb2).cell by').trans CY.out
  have hw2 := below_tr HB0.out (below_tr hb1 hb2)
  have HB2 := aside hw2
  clear hb1 hb2 hW0
  obtain ⟨lg, lc, hlv, hf0, hf1⟩ := row_at (row_below HS.out.row hw2) (i := i) (by omega)
  obtain ⟨lg2, lc2, hlv2, ht0, ht1⟩ := row_at (row_below HS.out.row hw2) (i := j - 1) (by omega)
  rw [hlv] at hlv2
  simp only [Value.slice.injEq, Option.some.injEq, Addr.mk.injEq, true_and, and_true] at hlv2
  obtain ⟨rfl, rfl⟩ := hlv2
  have hc2 : w2.cell? ⟨b, 2, none⟩ = some (.slice (some ⟨lg, 0, none⟩) L.length lc) := by rw [← hlv]; exact (hw2.cell hbl).trans HL2.out
  have ef : L[i] = f := Option.some.inj ((List.getElem?_eq_getElem (by omega)).symm.trans HF.out)
  have et : L[j - 1] = t := Option.some.inj ((List.getElem?_eq_getElem (by omega)).symm.trans HTT.out)
  rw [ef] at hf0 hf1
  rw [et] at ht0 ht1
  unfold Piece.dv at hf1 ht1
  have hiz : (i : Int) < (L.length : Int) := by omega
  obtain ⟨jm, hjm⟩ : ∃ jm, jm = j - 1 := ⟨_, rfl⟩
  rw [← hjm] at ht0 ht1
  have hjn1 : (j : Int) - 1 = (jm : Int) := by omega
  have hjz : (jm : Int) < (L.length : Int) := by omega
  have hjw : IntKind.i64.wrap (jm : Int) = (jm : Int) := by rw [IntKind.wrap_i64]; omega
  have HJM := aside hjm
  clear hjm
  clear hw2 hlv ef et
  go_upto_region 6 with fail
  go_cut [9, 10] from 25 to 110 (fun p9 p10 wx => ∃ b9 b10 : Nat, p9 = .pointer (some ⟨b9, 0, none⟩) ∧ p10 = .pointer (some ⟨b10, 0, none⟩) ∧ b9 ≠ b10 ∧ w2.heap.size ≤ b9 ∧ w2.heap.size ≤ b10 ∧ wx.heap[b9]? = some (.cells #[.int .i64 f.org, .slice (some ⟨f.blk, 0, none⟩) f.bs.length f.cap] 126 (0, 0)) ∧ wx.heap[b10]? = some (.cells #[.int .i64 t.org, .slice (some ⟨t.blk, 0, none⟩) t.bs.length t.cap] 126 (0, 0)) ∧ Below w2.heap.size w2 wx)
  case first =>
    go_region_held2 (fun w' => w'.cell? ⟨b, 2, none⟩ = some (.slice (some ⟨lg, 0, none⟩) L.length lc) ∧ w'.cell? ⟨lg, i * 2, none⟩ = some (.int .i64 f.org) ∧ w'.cell? ⟨lg, i * 2 + 1, none⟩ = some (.slice (some ⟨f.blk, 0, none⟩) f.bs.length f.cap) ∧ w'.cell? ⟨lg, jm * 2, none⟩ = some (.int .i64 t.org) ∧ w'.cell? ⟨lg, jm * 2 + 1, none⟩ = some (.slice (some ⟨t.blk, 0, none⟩) t.bs.length t.cap)) (go_keep) (fail)
    all_goals
      go_wp2_with fail
      go_meet
      case rel =>
        first
          | exact ⟨w2.heap.size, w2.heap.size + 1, rfl, rfl, by omega, Nat.le_refl _, by omega, two_old w2 _ _, two_new w2 _ _, two_below w2 _ _⟩
          | exact ⟨w2.heap.size + 1, w2.heap.size, rfl, rfl, by omega, by omega, Nat.le_refl _, two_new w2 _ _, two_old w2 _ _, two_below w2 _ _⟩
  case rest =>
    obtain ⟨b9, b10, rfl, rfl, hne, h9, h10, hh9, hh10, hbc⟩ := hcut
    have d90 : wc.cell? ⟨b9, 0, none⟩ = some (.int .i64 f.org) := by rw [cell_of_row wc b9 0 _ _ _ hh9]; rfl
    have d91 : wc.cell? ⟨b9, 1, none⟩ = some (.slice (some ⟨f.blk, 0, none⟩) f.bs.length f.cap) := by rw [cell_of_row wc b9 1 _ _ _ hh9]; rfl
    have d100 : wc.cell? ⟨b10, 0, none⟩ = some (.int .i64 t.org) := by rw [cell_of_row wc b10 0 _ _ _ hh10]; rfl
    have d101 : wc.cell? ⟨b10, 1, none⟩ = some (.slice (some ⟨t.blk, 0, none⟩) t.bs.length t.cap) := by rw [cell_of_row wc b10 1 _ _ _ hh10]; rfl
    have bx2 : w.heap.size < w2.heap.size := World.block_lt_of_cell? w2 _ cx2
    have by2 : w.heap.size + 1 < w2.heap.size := World.block_lt_of_cell? w2 _ cy2
    have dx : wc.cell? ⟨w.heap.size, 0, none⟩ = some (.int .i64 x) := (hbc.cell bx2).trans cx2
    have dy : wc.cell? ⟨w.heap.size + 1, 0, none⟩ = some (.int .i64 ((x : Int) + (n : Int))) := (hbc.cell by2).trans cy2
    have hfL : f ∈ L := List.mem_of_getElem? HF.out
    have htL : t ∈ L := List.mem_of_getElem? HTT.out
    have hfl := HIN.out.fin f hfL
    have htl := HIN.out.fin t htL
    have hszz := HIN.out.size
    have htn := HIN.out.ne t htL
    unfold Piece.fin at hfl htl
    have HWC := aside (below_tr HB2.out hbc)
    clear hh10 hbc hf0 hf1 ht0 ht1 hc2
    have xx := fun d os => ext_cell dx d os
    have xy := fun d os => ext_cell dy d os
    have x90 := fun d os => ext_cell d90 d os
    have x91 := fun d os => ext_cell d91 d os
    have g1 : decide ((f.org : Int) ≤ (x : Int)) = false := by simp; omega
    have g1b : decide (f.org ≤ x) = false := by simp; omega
    go_wp2
    refine region_ext (by kernel_rfl) (by kernel_rfl) ?_
    repeat (any_goals (first | go_big_quiet_step ((go_at_call 61; exact calls_ext (to_any _ _ _ _ _ (by omega) (by omega) (by omega)))) | quiet_step ((go_at_call 61; exact calls_ext (to_any _ _ _ _ _ (by omega) (by omega) (by omega))))))
    refine wpQuiet_nil ?_
    intro wq hq
    have e90 : wq.cell? ⟨b9, 0, none⟩ = some (.int .i64 f.org) := (hq.cell (World.block_lt_of_cell? wc _ d90)).trans d90
    have e91 : wq.cell? ⟨b9, 1, none⟩ = some (.slice (some ⟨f.blk, 0, none⟩) f.bs.length f.cap) := (hq.cell (World.block_lt_of_cell? wc _ d91)).trans d91
    have e100 : wq.cell? ⟨b10, 0, none⟩ = some (.int .i64 t.org) := (hq.cell (World.block_lt_of_cell? wc _ d100)).trans d100
    have e101 : wq.cell? ⟨b10, 1, none⟩ = some (.slice (some ⟨t.blk, 0, none⟩) t.bs.length t.cap) := (hq.cell (World.block_lt_of_cell? wc _ d101)).trans d101
    have ex : wq.cell? ⟨w.heap.size, 0, none⟩ = some (.int .i64 x) := (hq.cell (World.block_lt_of_cell? wc _ dx)).trans dx
    have ey : wq.cell? ⟨w.heap.size + 1, 0, none⟩ = some (.int .i64 ((x : Int) + (n : Int))) := (hq.cell (World.block_lt_of_cell? wc _ dy)).trans dy
    have hh9q : wq.heap[b9]? = some (.cells #[.int .i64 f.org, .slice (some ⟨f.blk, 0, none⟩) f.bs.length f.cap] 126 (0, 0)) := (hq.block b9 (Array.getElem?_eq_some_iff.1 hh9).1).trans hh9
    have HWQ := aside (below_tr HWC.out hq)
    clear xx xy x90 x91 d90 d91 d100 d101 dx dy hh9
    obtain ⟨lo, hlo⟩ : ∃ lo, lo = min (x + n) (t.org + t.bs.length) - t.org := ⟨_, rfl⟩
    have HLO := aside hlo
    obtain ⟨tl, htld⟩ : ∃ tl, tl = t.bs.length - lo := ⟨_, rfl⟩
    have HTLD := aside htld
    have htc : t.bs.length ≤ t.cap ∧ t.cap ≤ maxLen := by
      obtain ⟨_, _, e, h1, h2⟩ := row_form (HS.out.data t htL)
      simp only [Piece.dv, Value.slice.injEq, true_and] at e
      omega
    have hlo1 : lo ≤ t.bs.length := by omega
    have hw1 : IntKind.i64.wrap (lo : Int) = (lo : Int) := by rw [IntKind.wrap_i64]; omega
    have htlb : tl ≤ t.bs.length := by omega
    clear hlo htld
    go_upto_region 9 with fail
    go_cut [11] from 25 to 110 (fun p11 wx => ∃ (ta : Option Addr) (tc : Nat), p11 = .slice ta tl tc ∧ (0 < tl → ta = some ⟨t.blk, lo, none⟩) ∧ Below wq.heap.size wq wx)
    case first =>
      have xy := fun d os => ext_cell ey d os
      have x100 := fun d os => ext_cell e100 d os
      have x101 := fun d os => ext_cell e101 d os
      by_cases hmn : (t.org : Int) + (t.bs.length : Int) < (x : Int) + (n : Int)
      · have HLE : Aside (lo = t.bs.length) := by have := HLO.out; show lo = t.bs.length; omega
        by_cases hcp : t.cap = t.bs.length
        all_goals
          refine region_ext (by kernel_rfl) (by kernel_rfl) ?_
          repeat (any_goals (first | go_big_quiet_step ((go_at_call 61; exact calls_ext (to_any _ _ _ _ _ (by omega) (by omega) (by omega)))) | quiet_step ((go_at_call 61; exact calls_ext (to_any _ _ _ _ _ (by omega) (by omega) (by omega))))))
          refine wpQuiet_nil ?_
          intro wr hr
          go_wp2_with fail
          go_meet
          case rel =>
            rw [HTLD.out, HLE.out]
            simp only [Nat.add_sub_cancel_left]
            exact ⟨_, _, rfl, fun h => by omega, hr⟩
      · have hlz : (x : Int) + (n : Int) - (t.org : Int) = (lo : Int) := by have := HLO.out; omega
        by_cases hcp : t.cap = lo
        all_goals
          refine region_ext (by kernel_rfl) (by kernel_rfl) ?_
          repeat (any_goals (first | go_big_quiet_step ((go_at_call 61; exact calls_ext (to_any _ _ _ _ _ (by omega) (by omega) (by omega)))) | quiet_step ((go_at_call 61; exact calls_ext (to_any _ _ _ _ _ (by omega) (by omega) (by omega))))))
          refine wpQuiet_nil ?_
          intro wr hr
          go_wp2_with fail
          go_meet
          case rel =>
            rw [HTLD.out]
            exact ⟨_, _, rfl, fun h => by first | rfl | omega, hr⟩
    case rest =>
      obtain ⟨ta, tc, rfl, hta, hbc⟩ := hcut
      have hb9 : b9 < wq.heap.size := (Array.getElem?_eq_some_iff.1 hh9q).1
      have a90 : wc.cell? ⟨b9, 0, none⟩ = some (.int .i64 f.org) := (hbc.cell (World.block_lt_of_cell? wq _ e90)).trans e90
      have a91 : wc.cell? ⟨b9, 1, none⟩ = some (.slice (some ⟨f.blk, 0, none⟩) f.bs.length f.cap) := (hbc.cell (World.block_lt_of_cell? wq _ e91)).trans e91
      have ax : wc.cell? ⟨w.heap.size, 0, none⟩ = some (.int .i64 x) := (hbc.cell (World.block_lt_of_cell? wq _ ex)).trans ex
      have hh9c : wc.heap[b9]? = some (.cells #[.int .i64 f.org, .slice (some ⟨f.blk, 0, none⟩) f.bs.length f.cap] 126 (0, 0)) := (hbc.block b9 hb9).trans hh9q
      have hwc : Below w.heap.size w wc := below_tr HWQ.out hbc
      clear e90 e91 e100 e101 ex ey hh9q hbc hb9
      have hSc := HS.out.below hwc
      have hsr : ∀ j v, (bcells l)[j]? = some v → wc.cell? (src.add j) = some v := fun j v h => (hwc.cell (World.block_lt_of_cell? w _ (HSR.out j v h))).trans (HSR.out j v h)
      have HSC := aside hSc
      have HWCC := aside hwc
      have HSRC := aside hsr
      have HTA := aside hta
      have HH9 := aside hh9c
      have b9lt : b9 < wc.heap.size := (Array.getElem?_eq_some_iff.1 hh9c).1
      have wxlt : w.heap.size < wc.heap.size := World.block_lt_of_cell? wc _ ax
      have hgt : (x : Int) < (f.org : Int) := by omega
      have fr90 : wc.frozen? ⟨b9, 0, none⟩ = false := frozen_of_row wc b9 0 _ _ hh9c
      have fr91 : wc.frozen? ⟨b9, 1, none⟩ = false := frozen_of_row wc b9 1 _ _ hh9c
      obtain ⟨k, hk⟩ : ∃ k, k = n + tl := ⟨_, rfl⟩
      have hkz : (n : Int) + (tl : Int) = (k : Int) := by omega
      have hkw : IntKind.i64.wrap (k : Int) = (k : Int) := by rw [IntKind.wrap_i64]; omega
      have hkb : k ≤ 4294967296 := by omega
      have hmk := fun W => make_cap W k hkb
      have HK := aside hk
      clear hSc hwc hsr hta hh9c g1 g1b hk
      generalize wc = wb at *
      go_upto_region 11 with fail
      go_cut [9] from 25 to 110 (fun p9 wx => p9 = .pointer (some ⟨b9, 0, none⟩) ∧ ∃ g1, wb.heap.size ≤ g1 ∧ wx.ownsRow 0 5 1 (.slice (some ⟨g1, 0, none⟩) 0 k) 0 (bcells []) ∧ wx.heap[b9]? = some (.cells #[.int .i64 x, .slice (some ⟨g1, 0, none⟩) 0 k] 126 (0, 0)) ∧ Upd (fun k => k = b9) wb wx)
      case first =>
        go_region
        all_goals
          go_wp2_with fail
          go_meet
          case rel =>
            have hmr := mk_rel wb b9 k x _ _ hkb HH9.out
            exact ⟨rfl, wb.heap.size, Nat.le_refl _, hmr.1, hmr.2.1, hmr.2.2⟩
      case rest =>
        obtain ⟨rfl, g1, hg1, hr1, hh9d, hud⟩ := hcut
        have wds := hud.size
        have hg19 : g1 ≠ b9 := by omega
        have a90d : wc.cell? ⟨b9, 0, none⟩ = some (.int .i64 x) := by rw [cell_of_row wc b9 0 _ _ _ hh9d]; rfl
        have a91d : wc.cell? ⟨b9, 1, none⟩ = some (.slice (some ⟨g1, 0, none⟩) 0 k) := by rw [cell_of_row wc b9 1 _ _ _ hh9d]; rfl
        have hb9F : ¬ Foot b lv L b9 := fun h => by have := HS.out.lv_lt h; omega
        have b9x : b9 ≠ w.heap.size := by omega
        have axd : wc.cell? ⟨w.heap.size, 0, none⟩ = some (.int .i64 x) := (World.cell?_of_block (a := ⟨w.heap.size, 0, none⟩) (hud.block w.heap.size wxlt (fun e => b9x e.symm))).trans ax
        have fr9d : ∀ o, wc.frozen? ⟨b9, o, none⟩ = false := fun o => frozen_of_row wc b9 o _ _ hh9d
        have b9ltd : b9 < wc.heap.size := by omega
        have hSRd : ∀ j v, (bcells l)[j]? = some v → wc.cell? (src.add j) = some v := fun j v h => by
          have h1 := HSR.out j v h
          have hlt := World.block_lt_of_cell? w _ h1
          have hwbs := HWCC.out.size
          exact (World.cell?_of_block (hud.block _ (by omega) (fun e => by omega))).trans (HSRC.out j v h)
        have htl2 : (t.bs.drop lo).length = tl := by rw [List.length_drop, HTLD.out]
        have hSb := HSC.out
        have st5 : ∀ (g4 cap4 : Nat) (w4 : World), w4.ownsRow 0 5 1 (.slice (some ⟨g4, 0, none⟩) n cap4) n (bcells l) → wc.grownBy w4 (some g1) → (g4 = g1 ∨ wc.heap.size ≤ g4) →
            (w4.setCell ⟨b9, 1, none⟩ (.slice (some ⟨g4, 0, none⟩) n cap4)).ownsRow 0 5 1 (.slice (some ⟨g4, 0, none⟩) n cap4) n (bcells l) ∧
            (0 < tl → ∃ ad, ta = some ad ∧ ∀ j u, (bcells (t.bs.drop lo))[j]? = some u → (w4.setCell ⟨b9, 1, none⟩ (.slice (some ⟨g4, 0, none⟩) n cap4)).cell? (ad.add j) = some u) ∧
            Upd (fun k => k = f.blk ∨ k = b9) wb (w4.setCell ⟨b9, 1, none⟩ (.slice (some ⟨g4, 0, none⟩) n cap4)) ∧
            (w4.setCell ⟨b9, 1, none⟩ (.slice (some ⟨g4, 0, none⟩) n cap4)).heap[b9]? = some (.cells #[.int .i64 x, .slice (some ⟨g4, 0, none⟩) n cap4] 126 (0, 0)) := fun g4 cap4 w4 ho hg hw => by
          have hg49 : g4 ≠ b9 := by rcases hw with e | e <;> omega
          have hu4 : Upd (fun k => k = f.blk ∨ k = b9) wb w4 := (hud.mono (G := fun k => k = f.blk ∨ k = b9) (fun k _ h => .inr h)).trans (Upd.of_grown (F := fun k => k = g1) hg (fun k hk => by injection hk with hk; exact hk.symm)) (fun k hk e => by omega)
          have hu5 := hu4.trans (Upd.setCell (F := fun k => k = b9) (p := ⟨b9, 1, none⟩) rfl (.slice (some ⟨g4, 0, none⟩) n cap4)) (fun k _ h => .inr h)
          have hh94 : w4.heap[b9]? = some (.cells #[.int .i64 x, .slice (some ⟨g1, 0, none⟩) 0 k] 126 (0, 0)) := (hg.block b9 b9ltd (by intro e; injection e with e; omega)).trans hh9d
          have hu4' : Upd (fun k => k = b9) wb w4 := hud.trans (Upd.of_grown (F := fun k => k = g1) hg (fun k hk => by injection hk with hk; exact hk.symm)) (fun k hk e => by omega)
          have hu5' := hu4'.trans (Upd.setCell (F := fun k => k = b9) (p := ⟨b9, 1, none⟩) rfl (.slice (some ⟨g4, 0, none⟩) n cap4)) (fun k _ h => h)
          refine ⟨(Upd.setCell (F := fun k => k = b9) (p := ⟨b9, 1, none⟩) rfl _).row ho (fun k hk e => ?_), fun h0 => ?_, hu5, ?_⟩
          · simp only [Value.ownBlock, Option.some.injEq] at hk; exact hg49 (by rw [hk, e])
          · refine ⟨_, HTA.out h0, fun k u hk => ?_⟩
            have ht9 : t.blk ≠ b9 := fun e => hb9F (.inr (.inr ⟨t, htL, e⟩))
            have hkl : k < (bcells (t.bs.drop lo)).length := (List.getElem?_eq_some_iff.1 hk).1
            rw [bcells_length, htl2] at hkl
            have htd := HTLD.out
            have hrt := hSb.data t htL
            unfold Piece.dv at hrt
            have hc1 : wb.cell? ⟨t.blk, lo + k, none⟩ = some u := by
              rw [hrt.cellAt (lo + k) (by omega), ← hk]
              simp only [bcells, List.getElem?_map, List.getElem?_drop]
            rw [Addr.add_lit]
            have hblk := hu5'.block t.blk (World.block_lt_of_cell? wb _ hc1) (fun h => ht9 h)
            exact (World.cell?_of_block (a := ⟨t.blk, lo + k, none⟩) hblk).trans hc1
          · rw [heap_setCell_same w4 b9 1 _ _ _ hh94]; rfl
        have st7 : ∀ (g4 cap4 : Nat) (w4 : World) (g6 cap6 : Nat) (w6 : World), w4.ownsRow 0 5 1 (.slice (some ⟨g4, 0, none⟩) n cap4) n (bcells l) → wc.grownBy w4 (some g1) → (g4 = g1 ∨ wc.heap.size ≤ g4) →
            w6.ownsRow 0 5 1 (.slice (some ⟨g6, 0, none⟩) (n + tl) cap6) (n + tl) (bcells (l ++ t.bs.drop lo)) → (w4.setCell ⟨b9, 1, none⟩ (.slice (some ⟨g4, 0, none⟩) n cap4)).grownBy w6 (some g4) → (g6 = g4 ∨ (w4.setCell ⟨b9, 1, none⟩ (.slice (some ⟨g4, 0, none⟩) n cap4)).heap.size ≤ g6) →
            w6.heap[b9]? = some (.cells #[.int .i64 x, .slice (some ⟨g4, 0, none⟩) n cap4] 126 (0, 0)) ∧
            Calls Try.prog 65 #[.pointer (some ⟨b, 0, none⟩), .int .i64 i, .int .i64 j, .slice (some ⟨w6.heap.size, 0, none⟩) 1 1] ((w6.setCell ⟨b9, 1, none⟩ (.slice (some ⟨g6, 0, none⟩) (n + tl) cap6)).alloc (.cells #[.int .i64 x, .slice (some ⟨g6, 0, none⟩) (n + tl) cap6] 126)) fun e w' => e = .returned (.tuple #[]) ∧ ∃ lv', Str w' b x0 x1 lv' (L.take i ++ [⟨x, g6, cap6, l ++ t.bs.drop lo⟩] ++ L.drop j) ∧ w.heap.size ≤ g6 ∧ (lv'.ownBlock = lv.ownBlock ∨ ∃ k, lv'.ownBlock = some k ∧ w.heap.size ≤ k) ∧ Upd (Foot b lv L) w w' := fun g4 cap4 w4 g6 cap6 w6 ho hg hw ho6 hg6 hw6 => by
          obtain ⟨-, -, hu5, hh95⟩ := st5 g4 cap4 w4 ho hg hw
          have hs4 := hg.size
          rw [World.size_setCell] at hw6
          have hg4r : wb.heap.size ≤ g4 := by rcases hw with e | e <;> omega
          have hg6r : wb.heap.size ≤ g6 := by rcases hw6 with e | e <;> omega
          have hg69 : g6 ≠ b9 := by omega
          have hg49 : g4 ≠ b9 := by omega
          have hh96 : w6.heap[b9]? = some (.cells #[.int .i64 x, .slice (some ⟨g4, 0, none⟩) n cap4] 126 (0, 0)) := (hg6.block b9 (by rw [World.size_setCell]; omega) (by intro e; injection e with e; exact hg49 e.symm)).trans hh95
          have hu6 : Upd (fun k => k = f.blk ∨ k = b9) wb w6 := hu5.trans (Upd.of_grown (F := fun k => k = g4) hg6 (fun k hk => by injection hk with hk; exact hk.symm)) (fun k hk e => by omega)
          have hu7 := hu6.trans (Upd.setCell (F := fun k => k = b9) (p := ⟨b9, 1, none⟩) rfl (.slice (some ⟨g6, 0, none⟩) (n + tl) cap6)) (fun k _ h => .inr h)
          have hu8 := hu7.trans (G := fun _ => False) (Upd.of_below (below_al _ (.cells #[.int .i64 x, .slice (some ⟨g6, 0, none⟩) (n + tl) cap6] 126))) (fun _ _ h => h.elim)
          have hBl : (l ++ t.bs.drop lo).length = n + tl := by rw [List.length_append, htl2, ← HNL.out]
          refine ⟨hh96, ?_⟩
          have hm := merge_call b b9 w6.heap.size x0 x1 lv L i j x g6 cap6 f (l ++ t.bs.drop lo) wb ((w6.setCell ⟨b9, 1, none⟩ (.slice (some ⟨g6, 0, none⟩) (n + tl) cap6)).alloc (.cells #[.int .i64 x, .slice (some ⟨g6, 0, none⟩) (n + tl) cap6] 126)) hSb HF.out hij hjn hlen hu8 hb9F
            (by rw [hBl]; exact row_below ((Upd.setCell (F := fun k => k = b9) (p := ⟨b9, 1, none⟩) rfl _).row ho6 (fun k hk e => by simp only [Value.ownBlock, Option.some.injEq] at hk; exact hg69 (by rw [hk, e]))) (below_al _ _)) (.inr hg6r)
            (by rw [hBl]; have := heap_alloc_new (w6.setCell ⟨b9, 1, none⟩ (.slice (some ⟨g6, 0, none⟩) (n + tl) cap6)) (.cells #[.int .i64 x, .slice (some ⟨g6, 0, none⟩) (n + tl) cap6] 126); rwa [World.size_setCell] at this) (by have := hu6.size; omega)
          refine hm.mono ?_
          rintro e w' ⟨rfl, lv', hS', hk', hu'⟩
          have hwcs := HWCC.out.size
          refine ⟨rfl, lv', hS', by omega, ?_, ?_⟩
          · rcases hk' with e | ⟨k, e, hk⟩
            · exact .inl e
            · exact .inr ⟨k, e, by omega⟩
          · exact (Upd.of_below HWCC.out).trans hu' (fun k hk h => by rcases h with e | e; exact e; omega)
        have HT5 := aside st5
        have HT7 := aside st7
        have HR1 := aside hr1
        have HSRD := aside hSRd
        have HTL2 := aside htl2.symm
        clear st5 st7 hr1 hSRd htl2 hSb hud hh9d hmk a90 a91 ax fr90 fr91
        go_wp2_with (first
          | (at_builtin; refine wpList_append_bytes _ rfl _ _ rfl g1 k 0 [] rfl rfl HR1.out (some src) n c l rfl HNL.out (fun _ => ⟨src, rfl, HSRD.out⟩) (by omega) ?_; intro g4 cap4 w4 ho4 hg4 hw4; rw [Nat.zero_add, List.nil_append] at ho4; have HO4 := aside ho4; have HG4 := aside hg4; have HW4 := aside hw4; have c490 : w4.cell? ⟨b9, 0, none⟩ = some (.int .i64 x) := hg4.cell a90d (by intro e; injection e with e; exact hg19 e.symm); have c491 : w4.cell? ⟨b9, 1, none⟩ = some (.slice (some ⟨g1, 0, none⟩) 0 k) := hg4.cell a91d (by intro e; injection e with e; exact hg19 e.symm); have f491 : w4.frozen? ⟨b9, 1, none⟩ = false := (World.frozen?_of_block (hg4.block b9 b9ltd (by intro e; injection e with e; exact hg19 e.symm))).trans (fr9d 1); clear ho4 hg4 hw4)
          | (at_builtin; refine wpList_append_bytes _ rfl _ _ rfl g4 cap4 n l rfl HNL.out (HT5.out g4 cap4 w4 HO4.out HG4.out HW4.out).1 ta tl tc (t.bs.drop lo) rfl HTL2.out (HT5.out g4 cap4 w4 HO4.out HG4.out HW4.out).2.1 (by omega) ?_; intro g6 cap6 w6 ho6 hg6 hw6; have hst7 := HT7.out g4 cap4 w4 g6 cap6 w6 HO4.out HG4.out HW4.out ho6 hg6 hw6; have HC7 := aside hst7.2; have c690 : w6.cell? ⟨b9, 0, none⟩ = some (.int .i64 x) := (cell_of_row w6 b9 0 _ _ _ hst7.1).trans rfl; have c691 : w6.cell? ⟨b9, 1, none⟩ = some (.slice (some ⟨g4, 0, none⟩) n cap4) := (cell_of_row w6 b9 1 _ _ _ hst7.1).trans rfl; have f691 : w6.frozen? ⟨b9, 1, none⟩ = false := frozen_of_row w6 b9 1 _ _ hst7.1; clear ho6 hg6 hw6 hst7))
        refine HC7.out.mono ?_
        rintro e w' ⟨rfl, lv', hS', hg', hk', hu'⟩
        go_wp2
        go_end0
        refine ⟨rfl, lv', g6, cap6, ?_, hg', hk', hu'⟩
        have e1 : min (x + n) t.fin - t.org = lo := by rw [HLO.out]; rfl
        rw [e1]
        exact hS'
end Go.Proofs.Ytoagjgcpgpjjeaa

namespace Go.Proofs.Ytoagjgcpgpjjeaa
open Go.RowKit
attribute [local simp] lcells_nil readB_length bcells_length
theorem erase_S (b : Nat) (lv : Value) (sz : Nat) (L : List Piece) (x y : Int) (w : World) (hI : Inv sz L) (bx by' : Nat) (cx : w.cell? ⟨bx, 0, none⟩ = some (.int .i64 x)) (cy : w.cell? ⟨by', 0, none⟩ = some (.int .i64 y)) (hl2 : w.cell? ⟨b, 2, none⟩ = some lv) (hrow : w.ownsRow 0 126 2 lv L.length (lcells L)) :
    (∀ W, Below w.heap.size w W → Calls Try.prog 62 #[.pointer (some ⟨b, 0, none⟩), .func (.func 67) #[] #[.pointer (some ⟨bx, 0, none⟩)]] W fun e w' => e = .returned (.int .i64 (L.findIdx (fun d => decide (x < d.fin)))) ∧ Below W.heap.size W w') ∧
    (∀ W, Below w.heap.size w W → Calls Try.prog 62 #[.pointer (some ⟨b, 0, none⟩), .func (.func 68) #[] #[.pointer (some ⟨by', 0, none⟩)]] W fun e w' => e = .returned (.int .i64 (L.findIdx (fun d => decide (y ≤ d.org)))) ∧ Below W.heap.size W w') := by
  have hlen := hI.len
  have hbx : bx < w.heap.size := World.block_lt_of_cell? w _ cx
  have hby : by' < w.heap.size := World.block_lt_of_cell? w _ cy
  have e48 : ∀ args w, (callFunc 67 args).run Try.prog w = .ok (.enter 67 args) w := enters_of Try.func67 (by kernel_rfl) rfl
  have e49 : ∀ args w, (callFunc 68 args).run Try.prog w = .ok (.enter 68 args) w := enters_of Try.func68 (by kernel_rfl) rfl
  have hbl : b < w.heap.size := World.block_lt_of_cell? w _ hl2
  refine ⟨fun W hW => ?_, fun W hW => ?_⟩
  · exact search_any 67 _ e48 b lv L (fun d => decide (x < d.fin)) W ((hW.cell hbl).trans hl2) (row_below hrow hW) (by omega)
      (fun d hd V hV => erase1_any d.org (some ⟨d.blk, 0, none⟩) d.bs.length d.cap bx x V (by omega) (by have := (hI.bd d hd).1; omega) (hI.bd d hd).2 (((below_tr hW hV).cell hbx).trans cx))
      (fun a c ha hc hac h => by have := (hI.so a c ha hc hac).2; simp at h ⊢; omega)
  · exact search_any 68 _ e49 b lv L (fun d => decide (y ≤ d.org)) W ((hW.cell hbl).trans hl2) (row_below hrow hW) (by omega)
      (fun d hd V hV => erase2_any d.org (some ⟨d.blk, 0, none⟩) d.bs.length d.cap by' y V (((below_tr hW hV).cell hby).trans cy))
      (fun a c ha hc hac h => by have := (hI.so a c ha hc hac).1; simp at h ⊢; omega)

set_option maxHeartbeats 400000 in
theorem eraseNone_any (b : Nat) (x y : Int) (w : World) (h : y ≤ x) : Calls Try.prog 47 #[.pointer (some ⟨b, 0, none⟩), .int .i64 x, .int .i64 y] w fun e w' => e = .returned (.tuple #[]) ∧ Below w.heap.size w w' := by
  go_enter Try.func47, Try.ntmps47
  go_wp2
  refine bodyPost_ret (results_none rfl _ _ _) rfl ?_
  exact ⟨rfl, (below_al w _).alloc (by simp) _⟩

theorem step_append_where {ops : Array Oper} {o : Oper} {a : Act} {w : World} {K : Act → World → Prop} {Q : Exit → Act → World → Prop} {E : Prop} (hgd : o.guard = none) (s x : Operand)
    (ho : o.op = .call { callee := .builtin .append, args := #[s, x], argTypes := #[100, 100] }) (v : Value) (n : Nat) (xs : List Value) (hs : a.eval s = v) (hown : w.ownsRow 0 126 2 v n xs) (hn : n ≤ 4)
    (vb c : Nat) (vs : List Value) (hx : a.eval x = .slice (some ⟨vb, 0, none⟩) 1 c) (hv : w.ownsRow 0 126 2 (.slice (some ⟨vb, 0, none⟩) 1 c) 1 vs) (h1 : ∀ u ∈ vs, u.oneCell' = true)
    (hK : ∀ v' w', w'.ownsRow 0 126 2 v' (n + 1) (xs ++ vs) → w.grownBy w' v.ownBlock → (v'.ownBlock = v.ownBlock ∨ ∃ k, v'.ownBlock = some k ∧ w.heap.size ≤ k) → (∃ a' c', v' = .slice a' (n + 1) c') → K (a.put o.dst v') w') :
    if Region.wanted o (yielded ops a.tmps) = true then Oper.wp Try.prog o a w K Q else E := by
  have hw : Region.wanted o (yielded ops a.tmps) = true := by simp [Region.wanted, hgd]
  rw [if_pos hw]
  have hvl := hv.1
  obtain ⟨v', w', hr, h2, h3, h4⟩ := run_append_where (P := Try.prog) w 100 o.type 126 (.agg #[.int .i64 0, .slice none 0 0]) 2 32 Try.underlying100 info56 rfl (by decide) v n xs hown ⟨vb, 0, none⟩ 1 c vs hvl (hv.cells (g := vb) rfl) h1 (by unfold maxLen; omega) (by omega) (by omega)
  unfold Oper.wp
  simp [execOp, ho, resolve, invoke, builtin, hs, hx, hr, Result.andThen]
  obtain ⟨a', c', e, -, -⟩ := row_form h2
  refine hK v' w' h2 h3 ?_ ⟨a', c', e⟩
  rcases h4 with ⟨e, -⟩ | ⟨e, -⟩
  · exact .inl e
  · exact .inr ⟨_, e, Nat.le_refl _⟩

theorem below_of_grown {w w' : World} {v : Value} (h : w.grownBy w' v.ownBlock) (hv : v.ownBlock = none := by rfl) : Below w.heap.size w w' := ⟨h.os, h.tape, h.output, h.size, fun k hk => h.block k hk (by rw [hv]; simp)⟩
theorem fit50s_any (g n cap : Nat) (l : List UInt8) (w : World) (hown : w.ownsRow 0 5 1 (.slice (some ⟨g, 0, none⟩) n cap) n (bcells l)) (hn : n ≤ 4294967296) :
    Calls Try.prog 69 #[.slice (some ⟨g, 0, none⟩) n cap] w fun e w' => ∃ g' cap', e = .returned (.slice (some ⟨g', 0, none⟩) n cap') ∧ w'.ownsRow 0 5 1 (.slice (some ⟨g', 0, none⟩) n cap') n (bcells l) ∧ Below w.heap.size w w' ∧ (g' = g ∨ w.heap.size ≤ g') := by
  refine (fit50_any _ n (bcells l) w hown hn (bcells_one _)).mono ?_
  rintro e w' ⟨v', rfl, ho, hb, hw⟩
  rcases hw with rfl | ⟨k, hk, hkw⟩
  · exact ⟨g, cap, rfl, ho, hb, .inl rfl⟩
  · rcases ho.2 with ⟨rfl, -⟩ | ⟨g', cap', cur, rfl, r⟩
    · simp [Value.ownBlock] at hk
    · simp only [Value.ownBlock, Option.some.injEq] at hk
      exact ⟨g', cap', rfl, ho, hb, .inr (by omega)⟩
theorem clone_drop (g q n cap m c : Nat) (l : List UInt8) (w : World) (hown : w.ownsRow 0 5 1 (.slice (some ⟨g, 0, none⟩) n cap) n (bcells l)) (hn : n ≤ 4294967296) (hq : q < n) (hm : m = n - q) :
    Calls Try.prog 66 #[.slice (some ⟨g, q, none⟩) m c] w fun e w' => ∃ g' cap', e = .returned (.slice (some ⟨g', 0, none⟩) m cap') ∧ w.heap.size ≤ g' ∧ w'.ownsRow 0 5 1 (.slice (some ⟨g', 0, none⟩) m cap') m (bcells (l.drop q)) ∧ Below w.heap.size w w' := by
  have hl := hown.1
  rw [bcells_length] at hl
  have hml : (l.drop q).length = m := by rw [List.length_drop]; omega
  have := clone_any ⟨g, q, none⟩ (l.drop q) c w (by omega) (by omega) (fun k u hk => by
    have hkl : k < (bcells (l.drop q)).length := (List.getElem?_eq_some_iff.1 hk).1
    rw [bcells_length, hml] at hkl
    rw [Addr.add_lit, hown.cellAt (q + k) (by omega), ← hk]
    simp only [bcells, List.getElem?_map, List.getElem?_drop])
  rw [hml] at this
  exact this
theorem row_take {w : World} {g n cap : Nat} {l : List UInt8} (h : w.ownsRow 0 5 1 (.slice (some ⟨g, 0, none⟩) n cap) n (bcells l)) (p : Nat) (hp : p ≤ n) (hn : n = l.length) : w.ownsRow 0 5 1 (.slice (some ⟨g, 0, none⟩) p cap) p (bcells (l.take p)) := by
  rcases h.2 with ⟨hbad, -⟩ | ⟨g', cap', cur, hgv, -, hgc, hg1, hg2, hg3, hg4⟩
  · simp at hbad
  · simp only [Value.slice.injEq, Option.some.injEq, Addr.mk.injEq, true_and, and_true] at hgv
    obtain ⟨rfl, rfl⟩ := hgv
    refine ⟨by simp; omega, .inr ⟨g, cap, cur, rfl, Nat.zero_le _, hgc, by omega, hg2, hg3, ?_⟩⟩
    rw [show bcells (l.take p) = (bcells l).take p by simp [bcells, List.map_take], ← hg4, List.take_take]; congr 1; omega

end Go.Proofs.Ytoagjgcpgpjjeaa

namespace Go.Proofs.Ytoagjgcpgpjjeaa
open Go.RowKit
attribute [local simp] lcells_nil readB_length bcells_length
set_option maxHeartbeats 2000000 in
set_option maxRecDepth 100000 in
theorem eraseLR_any (b : Nat) (sz : Nat) (lv : Value) (L : List Piece) (x y i j : Nat) (w : World) (hR : Rep w b sz lv L) (hxy : x < y) (hy : y ≤ 1073741824)
    (hi : L.findIdx (fun d => decide ((x : Int) < d.fin)) = i) (hj : L.findIdx (fun d => decide ((y : Int) ≤ d.org)) = j) (hij : i < j) (f t : Piece) (hf : L[i]? = some f) (ht : L[j - 1]? = some t) (hfx : f.org < x) (hty : y < t.fin) :
    Calls Try.prog 47 #[.pointer (some ⟨b, 0, none⟩), .int .i64 x, .int .i64 y] w fun e w' => e = .returned (.tuple #[]) ∧ ∃ lv' gl cl gr cr, Str w' b (.int .i64 sz) (.int .i64 ((heldOf L - ovls x y L : Nat) : Int)) lv' (L.take i ++ [⟨f.org, gl, cl, f.bs.take (x - f.org)⟩, ⟨y, gr, cr, t.bs.drop (y - t.org)⟩] ++ L.drop j) ∧ (gl = f.blk ∨ w.heap.size ≤ gl) ∧ w.heap.size ≤ gr ∧ (lv'.ownBlock = lv.ownBlock ∨ ∃ k, lv'.ownBlock = some k ∧ w.heap.size ≤ k) ∧ Upd (Foot b lv L) w w' := by
  obtain ⟨c0, c1, c2⟩ := hR.cells
  have hbl : b < w.heap.size := World.block_lt_of_cell? w _ c0
  have hhe := hR.inv.held
  have hov := ovls_le x y L
  obtain ⟨W0, hW0⟩ : ∃ W0, W0 = (w.alloc (.cells #[.int .i64 x] 2)).alloc (.cells #[.int .i64 y] 2) := ⟨_, rfl⟩
  have hB0 : Below w.heap.size w W0 := by rw [hW0]; exact (below_al w _).alloc (by simp) _
  have cx : W0.cell? ⟨w.heap.size, 0, none⟩ = some (.int .i64 x) := by rw [hW0]; go_simp
  have cy : W0.cell? ⟨w.heap.size + 1, 0, none⟩ = some (.int .i64 y) := by rw [hW0]; go_simp
  have hR0 := hR.below hB0
  have d1 : W0.cell? ⟨b, 1, none⟩ = some (.int .i64 (heldOf L)) := hR0.cells.2.1
  have f1 : W0.frozen? ⟨b, 1, none⟩ = false := frozen_of_row W0 b 1 _ _ hR0.str.obj
  have bx : w.heap.size < W0.heap.size := World.block_lt_of_cell? W0 _ cx
  have by' : w.heap.size + 1 < W0.heap.size := World.block_lt_of_cell? W0 _ cy
  have hb0 : b < W0.heap.size := by omega
  have W1 := fun (W : World) (hW : Below W0.heap.size W0 W) => written_any b lv sz L x y W hR.inv (by omega) hy (hR0.below hW).cells.2.2 (hR0.below hW).str.row
  have HW := aside W1
  have HR0 := aside hR0
  have HB0 := aside hB0
  have HI := aside hi
  have HF := aside hf
  have HTT := aside ht
  have HIN := aside hR.inv
  have HJ := aside hj
  have hlt : (x : Int) < (y : Int) := by omega
  have hwr : IntKind.i64.wrap ((heldOf L : Int) - (ovls x y L : Int)) = ((heldOf L - ovls x y L : Nat) : Int) := by rw [IntKind.wrap_i64]; omega
  generalize hov_ : ovls x y L = ov at *
  generalize hhe_ : heldOf L = he at *
  have HOV := aside hov_
  have HHE := aside hhe_
  have HWR := aside hwr
  clear hwr
  clear W1 hR hR0 hB0 hi hj hf ht hov_ hhe_ c0 c1 c2
  go_enter Try.func47, Try.ntmps47
  go_upto_region 2 with fail
  rw [← hW0]
  clear hW0
  go_cut [4] from 11 to 108 (fun p4 wx => p4 = .pointer (some ⟨w.heap.size, 0, none⟩) ∧ ∃ wy, Below W0.heap.size W0 wy ∧ wx = wy.setCell ⟨b, 1, none⟩ (.int .i64 ((he - ov : Nat) : Int)))
  case first =>
    go_region_with (go_at_call 43; refine (HW.out _ ?_).mono ?_; (exact (Below.refl _ _).drew); rintro e w' ⟨rfl, hb⟩; have c1w : w'.cell? ⟨b, 1, none⟩ = some (.int .i64 he) := (hb.cell (p := ⟨b, 1, none⟩) hb0).trans d1; have f1w : w'.frozen? ⟨b, 1, none⟩ = false := (hb.frozen (p := ⟨b, 1, none⟩) hb0).trans f1)
    all_goals
      go_wp2_with fail
      go_meet
      case rel => exact ⟨rfl, w', below_tr (below_dr W0) hb, by rw [HWR.out]⟩
  case rest =>
    obtain ⟨rfl, wy, hwy, rfl⟩ := hcut
    have hRy := HR0.out.below hwy
    have hSt := hRy.str.set 1 (.int .i64 ((he - ov : Nat) : Int)) (.int .i64 sz) (.int .i64 ((he - ov : Nat) : Int)) rfl
    have hub : Upd (fun k => k = b) W0 (wy.setCell ⟨b, 1, none⟩ (.int .i64 ((he - ov : Nat) : Int))) := (Upd.of_below hwy).trans (Upd.setCell (F := fun k => k = b) (p := ⟨b, 1, none⟩) rfl _) (fun _ _ h => h)
    generalize wy.setCell ⟨b, 1, none⟩ (.int .i64 ((he - ov : Nat) : Int)) = wp at *
    have hps := hub.size
    have px : wp.cell? ⟨w.heap.size, 0, none⟩ = some (.int .i64 x) := (World.cell?_of_block (a := ⟨w.heap.size, 0, none⟩) (hub.block w.heap.size bx (by omega))).trans cx
    have py : wp.cell? ⟨w.heap.size + 1, 0, none⟩ = some (.int .i64 y) := (World.cell?_of_block (a := ⟨w.heap.size + 1, 0, none⟩) (hub.block (w.heap.size + 1) by' (by omega))).trans cy
    have hl2 : wp.cell? ⟨b, 2, none⟩ = some lv := by rw [cell_of_row wp b 2 _ _ _ hSt.obj]; rfl
    obtain ⟨S1, S2⟩ := erase_S b lv sz L x y wp HIN.out w.heap.size (w.heap.size + 1) px py hl2 hSt.row
    rw [HI.out] at S1
    rw [HJ.out] at S2
    have hlen := HIN.out.len
    have hjn : j ≤ L.length := by rw [← HJ.out]; exact List.findIdx_le_length
    have HS1 := aside S1
    have HS2 := aside S2
    have HST := aside hSt
    have HUB := aside hub
    clear S1 S2 hRy hwy cx cy d1 f1
    go_wp2_with fail
    refine (HS1.out _ (Below.refl _ _)).mono ?_
    rintro e w1 ⟨rfl, hb1⟩
    go_wp2_with fail
    refine (HS2.out _ hb1).mono ?_
    rintro e w2 ⟨rfl, hb2⟩
    have hw2 := below_tr hb1 hb2
    have hS2 := HST.out.below hw2
    have qx : w2.cell? ⟨w.heap.size, 0, none⟩ = some (.int .i64 x) := (hw2.cell (World.block_lt_of_cell? wp _ px)).trans px
    have qy : w2.cell? ⟨w.heap.size + 1, 0, none⟩ = some (.int .i64 y) := (hw2.cell (World.block_lt_of_cell? wp _ py)).trans py
    obtain ⟨lg, lc, hlv, hf0, hf1⟩ := row_at hS2.row (i := i) (by omega)
    obtain ⟨lg2, lc2, hlv2, ht0, ht1⟩ := row_at hS2.row (i := j - 1) (by omega)
    have ql : w2.cell? ⟨b, 2, none⟩ = some lv := by rw [cell_of_row w2 b 2 _ _ _ hS2.obj]; rfl
    rw [hlv] at hlv2 ql
    simp only [Value.slice.injEq, Option.some.injEq, Addr.mk.injEq, true_and, and_true] at hlv2
    obtain ⟨rfl, rfl⟩ := hlv2
    have ef : L[i] = f := Option.some.inj ((List.getElem?_eq_getElem (by omega)).symm.trans HF.out)
    have et : L[j - 1] = t := Option.some.inj ((List.getElem?_eq_getElem (by omega)).symm.trans HTT.out)
    rw [ef] at hf0 hf1
    rw [et] at ht0 ht1
    unfold Piece.dv at hf1 ht1
    obtain ⟨jm, hjm⟩ : ∃ jm, jm = j - 1 := ⟨_, rfl⟩
    rw [← hjm] at ht0 ht1
    have hjn1 : (j : Int) - 1 = (jm : Int) := by omega
    have hjz : (jm : Int) < (L.length : Int) := by omega
    have hjw : IntKind.i64.wrap (jm : Int) = (jm : Int) := by rw [IntKind.wrap_i64]; omega
    have hiz : (i : Int) < (L.length : Int) := by omega
    have hfL : f ∈ L := List.mem_of_getElem? HF.out
    have htL : t ∈ L := List.mem_of_getElem? HTT.out
    have hfl := HIN.out.fin f hfL
    have htl := HIN.out.fin t htL
    have hszz := HIN.out.size
    unfold Piece.fin at hfl htl hty
    have HW2 := aside hw2
    have HS2' := aside hS2
    have g1 : decide ((i : Int) < (j : Int)) = true := by simp; omega
    have g1b : decide (i < j) = true := by simp; omega
    have g2 : decide ((f.org : Int) < (x : Int)) = true := by simp; omega
    have g2b : decide (f.org < x) = true := by simp; omega
    have xx := fun d os => ext_cell qx d os
    have xl := fun d os => ext_cell ql d os
    have xf0 := fun d os => ext_cell hf0 d os
    clear hw2 hb1 hb2 hlv ef et hjm hS2 px py hl2 hSt hub
    go_wp2
    refine region_ext (by kernel_rfl) (by kernel_rfl) ?_
    repeat (any_goals (first | go_big_quiet_step ((fail)) | quiet_step ((fail))))
    refine wpQuiet_nil ?_
    intro w3 hb3
    have r_l : w3.cell? ⟨b, 2, none⟩ = some (.slice (some ⟨lg, 0, none⟩) L.length lc) := (hb3.cell (World.block_lt_of_cell? w2 _ ql)).trans ql
    have r_f0 : w3.cell? ⟨lg, i * 2, none⟩ = some (.int .i64 f.org) := (hb3.cell (World.block_lt_of_cell? w2 _ hf0)).trans hf0
    have r_f1 : w3.cell? ⟨lg, i * 2 + 1, none⟩ = some (.slice (some ⟨f.blk, 0, none⟩) f.bs.length f.cap) := (hb3.cell (World.block_lt_of_cell? w2 _ hf1)).trans hf1
    have r_x : w3.cell? ⟨w.heap.size, 0, none⟩ = some (.int .i64 x) := (hb3.cell (World.block_lt_of_cell? w2 _ qx)).trans qx
    have wx3 : w.heap.size < w3.heap.size := World.block_lt_of_cell? w3 _ r_x
    obtain ⟨p, hp⟩ : ∃ p, p = x - f.org := ⟨_, rfl⟩
    have hpz : (x : Int) - (f.org : Int) = (p : Int) := by omega
    have hxf : x < f.org + f.bs.length := by
      have := findIdx_at (q := fun d : Piece => decide ((x : Int) < d.fin)) (L := L) (by rw [HI.out]; omega)
      simp only [HI.out] at this
      have h2 := of_decide_eq_true this
      have ef : L[i] = f := Option.some.inj ((List.getElem?_eq_getElem (by omega)).symm.trans HF.out)
      rw [ef] at h2
      unfold Piece.fin at h2
      omega
    have hpl : p ≤ f.bs.length := by omega
    have hpw : IntKind.i64.wrap (p : Int) = (p : Int) := by rw [IntKind.wrap_i64]; omega
    have hrf : ∀ W, Below w2.heap.size w2 W → W.ownsRow 0 5 1 (.slice (some ⟨f.blk, 0, none⟩) p f.cap) p (bcells (f.bs.take p)) := fun W hW => row_take ((HS2'.out.below hW).data f hfL) p hpl rfl
    have hfc : p ≤ f.cap := by
      obtain ⟨_, _, e, h1, -⟩ := row_form (hrf w2 (Below.refl _ _))
      simp only [Value.slice.injEq, true_and] at e
      omega
    have HRF := aside hrf
    have HP := aside hp
    clear xx xl xf0 hrf hp hxf
    go_upto_region 8 with fail
    go_cut [8] from 11 to 108 (fun p8 wx => ∃ a8 c8 gl cl, p8 = .slice a8 1 c8 ∧ wx.ownsRow 0 126 2 (.slice a8 1 c8) 1 [.int .i64 f.org, .slice (some ⟨gl, 0, none⟩) p cl] ∧ wx.ownsRow 0 5 1 (.slice (some ⟨gl, 0, none⟩) p cl) p (bcells (f.bs.take p)) ∧ (gl = f.blk ∨ w2.heap.size ≤ gl) ∧ (∃ k, Value.ownBlock (.slice a8 1 c8) = some k ∧ w2.heap.size ≤ k ∧ k ≠ gl) ∧ Below w2.heap.size w2 wx)
    case first =>
      have s90 : (w3.alloc (.cells #[.int .i64 f.org, .slice (some ⟨f.blk, 0, none⟩) f.bs.length f.cap] 126)).cell? ⟨w3.heap.size, 0, none⟩ = some (.int .i64 f.org) := by go_simp
      have s91 : (w3.alloc (.cells #[.int .i64 f.org, .slice (some ⟨f.blk, 0, none⟩) f.bs.length f.cap] 126)).cell? ⟨w3.heap.size, 1, none⟩ = some (.slice (some ⟨f.blk, 0, none⟩) f.bs.length f.cap) := by go_simp
      have sx : (w3.alloc (.cells #[.int .i64 f.org, .slice (some ⟨f.blk, 0, none⟩) f.bs.length f.cap] 126)).cell? ⟨w.heap.size, 0, none⟩ = some (.int .i64 x) := ((below_al w3 _).cell wx3).trans r_x
      have hw4 := below_tr hb3 (below_al w3 (.cells #[.int .i64 f.org, .slice (some ⟨f.blk, 0, none⟩) f.bs.length f.cap] 126))
      have l90 : w3.heap.size < (w3.alloc (.cells #[.int .i64 f.org, .slice (some ⟨f.blk, 0, none⟩) f.bs.length f.cap] 126)).heap.size := by simp
      have lx : w.heap.size < (w3.alloc (.cells #[.int .i64 f.org, .slice (some ⟨f.blk, 0, none⟩) f.bs.length f.cap] 126)).heap.size := by simp; omega
      generalize hW4 : w3.alloc (.cells #[.int .i64 f.org, .slice (some ⟨f.blk, 0, none⟩) f.bs.length f.cap] 126) = w4 at *
      clear hW4
      have HW4 := aside hw4
      clear hw4
      go_region_held2 (fun w' => w'.cell? ⟨w3.heap.size, 0, none⟩ = some (.int .i64 f.org) ∧ w'.cell? ⟨w3.heap.size, 1, none⟩ = some (.slice (some ⟨f.blk, 0, none⟩) f.bs.length f.cap) ∧ w'.cell? ⟨w.heap.size, 0, none⟩ = some (.int .i64 x)) (go_keep) (first
        | (go_at_call 69; refine (fit50s_any f.blk p f.cap (f.bs.take p) _ (HRF.out _ (HW4.out.drew)) (by omega)).mono ?_; rintro e w5 ⟨gl, cl, rfl, ho5, hb5, hw5⟩; have t90 : w5.cell? ⟨w3.heap.size, 0, none⟩ = some (.int .i64 f.org) := (hb5.cell (p := ⟨w3.heap.size, 0, none⟩) l90).trans s90; have t91 : w5.cell? ⟨w3.heap.size, 1, none⟩ = some (.slice (some ⟨f.blk, 0, none⟩) f.bs.length f.cap) := (hb5.cell (p := ⟨w3.heap.size, 1, none⟩) l90).trans s91; have tx : w5.cell? ⟨w.heap.size, 0, none⟩ = some (.int .i64 x) := (hb5.cell (p := ⟨w.heap.size, 0, none⟩) lx).trans sx; have HO5 := aside ho5; have HB5 : Aside (Below w4.heap.size w4 w5) := (below_tr (below_dr w4) hb5); have HG5 : Aside (gl = f.blk ∨ w4.heap.size ≤ gl) := hw5; clear ho5 hb5 hw5)
        | (refine step_append_where rfl _ _ rfl (.slice none 0 0) 0 [] (by simp [Act.eval]) (World.ownsRow_nil _ _ _ _) (by omega) w5.heap.size 1 [.int .i64 f.org, .slice (some ⟨gl, 0, none⟩) p cl] (by simp [Act.eval]) (own_one (heap_alloc_new w5 _)) (by intro u hu; simp only [List.mem_cons, List.not_mem_nil, or_false] at hu; rcases hu with rfl | rfl <;> rfl) ?_; rintro v8 w6 ho6 hg6 hw6 ⟨a8, c8, rfl⟩; have u90 : w6.cell? ⟨w3.heap.size, 0, none⟩ = some (.int .i64 f.org) := hg6.cell (((below_al w5 _).cell (World.block_lt_of_cell? w5 _ t90)).trans t90) (by simp [Value.ownBlock]); have u91 : w6.cell? ⟨w3.heap.size, 1, none⟩ = some (.slice (some ⟨f.blk, 0, none⟩) f.bs.length f.cap) := hg6.cell (((below_al w5 _).cell (World.block_lt_of_cell? w5 _ t91)).trans t91) (by simp [Value.ownBlock]); have ux : w6.cell? ⟨w.heap.size, 0, none⟩ = some (.int .i64 x) := hg6.cell (((below_al w5 _).cell (World.block_lt_of_cell? w5 _ tx)).trans tx) (by simp [Value.ownBlock]); have HO6 := aside ho6; have HG6 := aside hg6; have HW6 := aside hw6; clear ho6 hg6 hw6))
      all_goals
        go_wp2_with fail
        go_meet
        case rel =>
          have hb6 : Below w5.heap.size w5 w6 := below_tr (below_al w5 _) (below_of_grown HG6.out)
          have hb56 := below_tr HB5.out hb6
          have hs4 := HW4.out.size
          have hs5 := HB5.out.size
          refine ⟨a8, c8, gl, cl, rfl, HO6.out, row_below HO5.out hb6, ?_, ?_, below_tr HW4.out hb56⟩
          · rcases HG5.out with e | e
            · exact .inl e
            · exact .inr (by omega)
          · rcases HW6.out with e | ⟨k, e, hk⟩
            · obtain ⟨g, c, cu, e1, -⟩ := own_cells HO6.out (by omega)
              rw [e1] at e
              simp [Value.ownBlock] at e
            · refine ⟨k, e, ?_, ?_⟩
              · simp at hk; omega
              · have hg := (HO5.out.lt gl rfl).2
                simp at hk; omega
    case rest =>
      obtain ⟨a8, c8, gl, cl, rfl, ho8, hol, hgl, ⟨k8, ek8, hk8, hk8g⟩, hb8⟩ := hcut
      have z_l : wc.cell? ⟨b, 2, none⟩ = some (.slice (some ⟨lg, 0, none⟩) L.length lc) := (hb8.cell (World.block_lt_of_cell? w2 _ ql)).trans ql
      have z_t0 : wc.cell? ⟨lg, jm * 2, none⟩ = some (.int .i64 t.org) := (hb8.cell (World.block_lt_of_cell? w2 _ ht0)).trans ht0
      have z_t1 : wc.cell? ⟨lg, jm * 2 + 1, none⟩ = some (.slice (some ⟨t.blk, 0, none⟩) t.bs.length t.cap) := (hb8.cell (World.block_lt_of_cell? w2 _ ht1)).trans ht1
      have z_y : wc.cell? ⟨w.heap.size + 1, 0, none⟩ = some (.int .i64 y) := (hb8.cell (World.block_lt_of_cell? w2 _ qy)).trans qy
      have yl := fun d os => ext_cell z_l d os
      have y0 := fun d os => ext_cell z_t0 d os
      have y1 := fun d os => ext_cell z_t1 d os
      have yy := fun d os => ext_cell z_y d os
      have g3 : decide ((y : Int) < (t.org : Int) + (t.bs.length : Int)) = true := by simp; omega
      have g3b : decide ((t.org : Int) + (t.bs.length : Int) > (y : Int)) = true := by simp; omega
      have HO8 := aside ho8
      have HOL := aside hol
      have HGL := aside hgl
      have HB8 := aside hb8
      clear ho8 hol hgl hb8 r_l r_f0 r_f1 r_x hf0 hf1
      go_wp2
      refine region_ext (by kernel_rfl) (by kernel_rfl) ?_
      repeat (any_goals (first | go_big_quiet_step ((go_at_call 61; exact calls_ext (to_any _ _ _ _ _ (by omega) (by omega) (by omega)))) | quiet_step ((go_at_call 61; exact calls_ext (to_any _ _ _ _ _ (by omega) (by omega) (by omega))))))
      refine wpQuiet_nil ?_
      intro w7 hb7
      have v_l : w7.cell? ⟨b, 2, none⟩ = some (.slice (some ⟨lg, 0, none⟩) L.length lc) := (hb7.cell (World.block_lt_of_cell? wc _ z_l)).trans z_l
      have v_t0 : w7.cell? ⟨lg, jm * 2, none⟩ = some (.int .i64 t.org) := (hb7.cell (World.block_lt_of_cell? wc _ z_t0)).trans z_t0
      have v_t1 : w7.cell? ⟨lg, jm * 2 + 1, none⟩ = some (.slice (some ⟨t.blk, 0, none⟩) t.bs.length t.cap) := (hb7.cell (World.block_lt_of_cell? wc _ z_t1)).trans z_t1
      have v_y : w7.cell? ⟨w.heap.size + 1, 0, none⟩ = some (.int .i64 y) := (hb7.cell (World.block_lt_of_cell? wc _ z_y)).trans z_y
      have wy7 : w.heap.size + 1 < w7.heap.size := World.block_lt_of_cell? w7 _ v_y
      have htoy : t.org < y := by
        have := List.not_of_lt_findIdx (p := fun d : Piece => decide ((y : Int) ≤ d.org)) (xs := L) (i := j - 1) (by rw [HJ.out]; omega)
        have et : L[j - 1]'(by omega) = t := Option.some.inj ((List.getElem?_eq_getElem (by omega)).symm.trans HTT.out)
        rw [et] at this
        simp at this
        omega
      obtain ⟨q, hq⟩ : ∃ q, q = y - t.org := ⟨_, rfl⟩
      have hqz : (y : Int) - (t.org : Int) = (q : Int) := by omega
      have hql : q < t.bs.length := by omega
      have hqw : IntKind.i64.wrap (q : Int) = (q : Int) := by rw [IntKind.wrap_i64]; omega
      have htc : t.bs.length ≤ t.cap ∧ t.cap ≤ maxLen := by
        obtain ⟨_, _, e, h1, h2⟩ := row_form (HS2'.out.data t htL)
        simp only [Piece.dv, Value.slice.injEq, true_and] at e
        omega
      have hqn : q ≤ t.bs.length := by omega
      have hqe : ¬ (t.cap = q) := by omega
      have HQ := aside hq
      have HB7 := aside (below_tr HB8.out hb7)
      have HBC := aside hb7
      have HO7 : Aside (w7.ownsRow 0 126 2 (.slice a8 1 c8) 1 [.int .i64 f.org, .slice (some ⟨gl, 0, none⟩) p cl]) := row_below HO8.out hb7
      clear yl y0 y1 yy hq g3 g3b htoy z_l z_t0 z_t1 z_y hb7
      go_upto_region 11 with fail
      have sl : ∃ m, m = t.bs.length - q := ⟨_, rfl⟩
      obtain ⟨m, hm⟩ := sl
      have HM := aside hm
      go_cut [8] from 11 to 108 (fun p8 wx => ∃ a9 c9 gr cr, p8 = .slice a9 2 c9 ∧ wx.ownsRow 0 126 2 (.slice a9 2 c9) 2 [.int .i64 f.org, .slice (some ⟨gl, 0, none⟩) p cl, .int .i64 y, .slice (some ⟨gr, 0, none⟩) m cr] ∧ wx.ownsRow 0 5 1 (.slice (some ⟨gl, 0, none⟩) p cl) p (bcells (f.bs.take p)) ∧ wx.ownsRow 0 5 1 (.slice (some ⟨gr, 0, none⟩) m cr) m (bcells (t.bs.drop q)) ∧ w7.heap.size ≤ gr ∧ (∃ k, Value.ownBlock (.slice a9 2 c9) = some k ∧ w2.heap.size ≤ k) ∧ Below w2.heap.size w2 wx)
      case first =>
        have s90 : (w7.alloc (.cells #[.int .i64 t.org, .slice (some ⟨t.blk, 0, none⟩) t.bs.length t.cap] 126)).cell? ⟨w7.heap.size, 0, none⟩ = some (.int .i64 t.org) := by go_simp
        have s91 : (w7.alloc (.cells #[.int .i64 t.org, .slice (some ⟨t.blk, 0, none⟩) t.bs.length t.cap] 126)).cell? ⟨w7.heap.size, 1, none⟩ = some (.slice (some ⟨t.blk, 0, none⟩) t.bs.length t.cap) := by go_simp
        have sy : (w7.alloc (.cells #[.int .i64 t.org, .slice (some ⟨t.blk, 0, none⟩) t.bs.length t.cap] 126)).cell? ⟨w.heap.size + 1, 0, none⟩ = some (.int .i64 y) := ((below_al w7 _).cell wy7).trans v_y
        have hw4 := below_al w7 (.cells #[.int .i64 t.org, .slice (some ⟨t.blk, 0, none⟩) t.bs.length t.cap] 126)
        have l90 : w7.heap.size < (w7.alloc (.cells #[.int .i64 t.org, .slice (some ⟨t.blk, 0, none⟩) t.bs.length t.cap] 126)).heap.size := by simp
        have ly : w.heap.size + 1 < (w7.alloc (.cells #[.int .i64 t.org, .slice (some ⟨t.blk, 0, none⟩) t.bs.length t.cap] 126)).heap.size := by simp; omega
        have hk87 : k8 < w7.heap.size := (HO7.out.lt k8 ek8).2
        have hn1 : some w7.heap.size ≠ Value.ownBlock (.slice a8 1 c8) := by rw [ek8]; intro e; injection e with e; omega
        have hn2 : some (w.heap.size + 1) ≠ Value.ownBlock (.slice a8 1 c8) := by rw [ek8]; intro e; injection e with e; have := World.block_lt_of_cell? w2 _ qy; simp at this; omega
        generalize hW4 : w7.alloc (.cells #[.int .i64 t.org, .slice (some ⟨t.blk, 0, none⟩) t.bs.length t.cap] 126) = w4 at *
        clear hW4
        have HW4 := aside hw4
        have HRT : Aside (w4.ownsRow 0 5 1 (.slice (some ⟨t.blk, 0, none⟩) t.bs.length t.cap) t.bs.length (bcells t.bs)) := (HS2'.out.below (below_tr HB7.out hw4)).data t htL
        have HO4 : Aside (w4.ownsRow 0 126 2 (.slice a8 1 c8) 1 [.int .i64 f.org, .slice (some ⟨gl, 0, none⟩) p cl]) := row_below HO7.out hw4
        clear hw4 hm
        go_region_held2 (fun w' => w'.cell? ⟨w7.heap.size, 0, none⟩ = some (.int .i64 t.org) ∧ w'.cell? ⟨w7.heap.size, 1, none⟩ = some (.slice (some ⟨t.blk, 0, none⟩) t.bs.length t.cap) ∧ w'.cell? ⟨w.heap.size + 1, 0, none⟩ = some (.int .i64 y)) (go_keep) (first
          | (go_at_call 66; refine (clone_drop t.blk q t.bs.length t.cap _ _ t.bs _ (row_below HRT.out (below_dr w4)) (by omega) (by omega) rfl).mono ?_; rintro e w5 ⟨gr, cr, rfl, hw5, ho5, hb5⟩; have t90 : w5.cell? ⟨w7.heap.size, 0, none⟩ = some (.int .i64 t.org) := (hb5.cell (p := ⟨w7.heap.size, 0, none⟩) l90).trans s90; have t91 : w5.cell? ⟨w7.heap.size, 1, none⟩ = some (.slice (some ⟨t.blk, 0, none⟩) t.bs.length t.cap) := (hb5.cell (p := ⟨w7.heap.size, 1, none⟩) l90).trans s91; have ty : w5.cell? ⟨w.heap.size + 1, 0, none⟩ = some (.int .i64 y) := (hb5.cell (p := ⟨w.heap.size + 1, 0, none⟩) ly).trans sy; have HO5 := aside ho5; have HB5 : Aside (Below w4.heap.size w4 w5) := (below_tr (below_dr w4) hb5); have HG5 : Aside (w4.heap.size ≤ gr) := hw5; clear ho5 hb5 hw5)
          | (refine step_append_where rfl _ _ rfl (.slice a8 1 c8) 1 [.int .i64 f.org, .slice (some ⟨gl, 0, none⟩) p cl] (by simp [Act.eval]) (row_below HO4.out (below_tr HB5.out (below_al w5 _))) (by omega) w5.heap.size 1 [.int .i64 y, .slice (some ⟨gr, 0, none⟩) (t.bs.length - q) cr] (by simp [Act.eval]) (own_one (heap_alloc_new w5 _)) (by intro u hu; simp only [List.mem_cons, List.not_mem_nil, or_false] at hu; rcases hu with rfl | rfl <;> rfl) ?_; rintro v8 w6 ho6 hg6 hw6 ⟨a9, c9, rfl⟩; have u90 : w6.cell? ⟨w7.heap.size, 0, none⟩ = some (.int .i64 t.org) := hg6.cell (((below_al w5 _).cell (World.block_lt_of_cell? w5 _ t90)).trans t90) hn1; have u91 : w6.cell? ⟨w7.heap.size, 1, none⟩ = some (.slice (some ⟨t.blk, 0, none⟩) t.bs.length t.cap) := hg6.cell (((below_al w5 _).cell (World.block_lt_of_cell? w5 _ t91)).trans t91) hn1; have uy : w6.cell? ⟨w.heap.size + 1, 0, none⟩ = some (.int .i64 y) := hg6.cell (((below_al w5 _).cell (World.block_lt_of_cell? w5 _ ty)).trans ty) hn2; have HO6 := aside ho6; have HG6 := aside hg6; have HW6 := aside hw6; clear ho6 hg6 hw6))
        all_goals
          go_wp2_with fail
          go_meet
          case rel =>
            have hs7 := HB7.out.size
            have hs4 := HW4.out.size
            have hs5 := HB5.out.size
            have hg5 := HG5.out
            have hb5a := below_tr HB5.out (below_al w5 (.cells #[.int .i64 y, .slice (some ⟨gr, 0, none⟩) (t.bs.length - q) cr] 126))
            have hb24 := below_tr HB7.out (below_tr HW4.out hb5a)
            have hu6 := Upd.of_grown (F := fun k => k = k8) HG6.out (fun k hk => by rw [ek8] at hk; injection hk with hk; exact hk.symm)
            have hsz6 := HG6.out.size
            rw [HM.out]
            refine ⟨a9, c9, gr, cr, rfl, HO6.out, ?_, ?_, by omega, ?_, ?_⟩
            · exact hu6.row (row_below (row_below HOL.out (HBC.out)) (below_tr HW4.out hb5a)) (fun k hk e => by simp only [Value.ownBlock, Option.some.injEq] at hk; exact hk8g (by rw [hk, e]))
            · exact hu6.row (row_below HO5.out (below_al w5 _)) (fun k hk e => by simp only [Value.ownBlock, Option.some.injEq] at hk; omega)
            · rcases HW6.out with e | ⟨k, e, hk⟩
              · exact ⟨k8, e.trans ek8, hk8⟩
              · exact ⟨k, e, by simp at hk; omega⟩
            · exact ⟨HG6.out.os.trans hb24.os, HG6.out.tape.trans hb24.tape, HG6.out.output.trans hb24.output, Nat.le_trans hb24.size hsz6, fun k hk => (HG6.out.block k (by have := hb24.size; omega) (by rw [ek8]; intro e; injection e with e; omega)).trans (hb24.block k hk)⟩
      case rest =>
        obtain ⟨a9, c9, gr, cr, rfl, ho9, hl9, hr9, hgr, ⟨k9, ek9, hk9⟩, hb9⟩ := hcut
        have hSx := HS2'.out.below hb9
        have hp1 : (f.bs.take p).length = p := by rw [List.length_take]; omega
        have hq1 : (t.bs.drop q).length = m := by rw [List.length_drop]; omega
        have hfb := HS2'.out.dne f hfL
        have hs7 := HB7.out.size
        have hb2 := HS2'.out.lv_lt (.inl rfl)
        have hFlt : ∀ k, Foot b lv L k → k < w2.heap.size := fun k hk => HS2'.out.lv_lt hk
        have hgln : gl ≠ gr := by
          have := (HOL.out.lt gl rfl).2
          have := HBC.out.size
          omega
        have hC := replacePieces b (.int .i64 sz) (.int .i64 ((he - ov : Nat) : Int)) lv (.slice a9 2 c9) L [⟨f.org, gl, cl, f.bs.take p⟩, ⟨y, gr, cr, t.bs.drop q⟩] i j wc hSx (by omega) hjn hlen (by simp)
          (by
            have e : lcells [⟨f.org, gl, cl, f.bs.take p⟩, ⟨y, gr, cr, t.bs.drop q⟩] = [.int .i64 f.org, .slice (some ⟨gl, 0, none⟩) p cl, .int .i64 y, .slice (some ⟨gr, 0, none⟩) m cr] := by
              simp only [lcells, List.flatMap_cons, List.flatMap_nil, List.append_nil, List.cons_append, List.nil_append, Piece.dv, hp1, hq1]
            rw [e]; exact ho9)
          (by simp) (fun k hk h => by rw [ek9] at hk; injection hk with hk; have := hFlt k h; omega)
          (by
            intro d hd
            simp only [List.mem_cons, List.not_mem_nil, or_false] at hd
            rcases hd with rfl | rfl
            · simp only [Piece.dv, hp1]; exact hl9
            · simp only [Piece.dv, hq1]; exact hr9)
          (by
            intro d hd
            simp only [List.mem_cons, List.not_mem_nil, or_false] at hd
            rcases hd with rfl | rfl
            · rcases HGL.out with e | e
              · simp only; rw [e]; exact hfb
              · refine ⟨by simp only; omega, fun h => ?_⟩
                have := hFlt gl (.inr (.inl h)); omega
            · refine ⟨by simp only; omega, fun h => ?_⟩
              have := hFlt gr (.inr (.inl h)); omega)
          (by simp [hgln])
          (by
            intro d hd e he'
            obtain ⟨h1, h2⟩ := kept_ne HS2'.out.nd HF.out hij he'
            have h3 := hFlt e.blk (.inr (.inr ⟨e, h1, rfl⟩))
            simp only [List.mem_cons, List.not_mem_nil, or_false] at hd
            rcases hd with rfl | rfl
            · rcases HGL.out with e1 | e1
              · simp only; rw [e1]; exact h2
              · simp only; omega
            · simp only; omega)
        have HC := aside hC
        have HB9 := aside hb9
        clear hC hSx ho9 hl9 hr9 hb9
        go_wp2_with fail
        refine HC.out.mono ?_
        rintro e w' ⟨rfl, lv', hS', hk', hu'⟩
        go_wp2
        go_end0
        have hsw : w.heap.size ≤ w2.heap.size := by have := World.block_lt_of_cell? w2 _ qx; simp at this; omega
        have hsc := HB9.out.size
        refine ⟨rfl, lv', gl, cl, gr, cr, ?_, ?_, by omega, ?_, ?_⟩
        · rw [← HP.out, ← HQ.out]; exact hS'
        · rcases HGL.out with e | e
          · exact .inl e
          · exact .inr (by omega)
        · rcases hk' with e | ⟨k, e, hk⟩
          · exact .inl e
          · exact .inr ⟨k, e, by omega⟩
        · have hu1 : Upd (fun k => k = b) w w2 := ((Upd.of_below (F := fun k => k = b) HB0.out).trans HUB.out (fun _ _ h => h)).trans (Upd.of_below (F := fun k => k = b) (HW2.out)) (fun _ _ h => h)
          refine ((hu1.trans (Upd.of_below (F := fun k => k = b) HB9.out) (fun _ _ h => h)).mono (G := Foot b lv L) (fun k _ h => .inl h)).trans hu' (fun k _ h => ?_)
          rcases h with e | e
          · exact .inl e
          · exact .inr (.inl e)
end Go.Proofs.Ytoagjgcpgpjjeaa

namespace Go.Proofs.Ytoagjgcpgpjjeaa
open Go.RowKit
attribute [local simp] lcells_nil readB_length bcells_length
set_option maxHeartbeats 2000000 in
set_option maxRecDepth 100000 in
theorem eraseL_any (b : Nat) (sz : Nat) (lv : Value) (L : List Piece) (x y i j : Nat) (w : World) (hR : Rep w b sz lv L) (hxy : x < y) (hy : y ≤ 1073741824)
    (hi : L.findIdx (fun d => decide ((x : Int) < d.fin)) = i) (hj : L.findIdx (fun d => decide ((y : Int) ≤ d.org)) = j) (hij : i < j) (f t : Piece) (hf : L[i]? = some f) (ht : L[j - 1]? = some t) (hfx : f.org < x) (hty : t.fin ≤ y) :
    Calls Try.prog 47 #[.pointer (some ⟨b, 0, none⟩), .int .i64 x, .int .i64 y] w fun e w' => e = .returned (.tuple #[]) ∧ ∃ lv' gl cl, Str w' b (.int .i64 sz) (.int .i64 ((heldOf L - ovls x y L : Nat) : Int)) lv' (L.take i ++ [⟨f.org, gl, cl, f.bs.take (x - f.org)⟩] ++ L.drop j) ∧ (gl = f.blk ∨ w.heap.size ≤ gl) ∧ (lv'.ownBlock = lv.ownBlock ∨ ∃ k, lv'.ownBlock = some k ∧ w.heap.size ≤ k) ∧ Upd (Foot b lv L) w w' := by
  obtain ⟨c0, c1, c2⟩ := hR.cells
  have hbl : b < w.heap.size := World.block_lt_of_cell? w _ c0
  have hhe := hR.inv.held
  have hov := ovls_le x y L
  obtain ⟨W0, hW0⟩ : ∃ W0, W0 = (w.alloc (.cells #[.int .i64 x] 2)).alloc (.cells #[.int .i64 y] 2) := ⟨_, rfl⟩
  have hB0 : Below w.heap.size w W0 := by rw [hW0]; exact (below_al w _).alloc (by simp) _
  have cx : W0.cell? ⟨w.heap.size, 0, none⟩ = some (.int .i64 x) := by rw [hW0]; go_simp
  have cy : W0.cell? ⟨w.heap.size + 1, 0, none⟩ = some (.int .i64 y) := by rw [hW0]; go_simp
  have hR0 := hR.below hB0
  have d1 : W0.cell? ⟨b, 1, none⟩ = some (.int .i64 (heldOf L)) := hR0.cells.2.1
  have f1 : W0.frozen? ⟨b, 1, none⟩ = false := frozen_of_row W0 b 1 _ _ hR0.str.obj
  have bx : w.heap.size < W0.heap.size := World.block_lt_of_cell? W0 _ cx
  have by' : w.heap.size + 1 < W0.heap.size := World.block_lt_of_cell? W0 _ cy
  have hb0 : b < W0.heap.size := by omega
  have W1 := fun (W : World) (hW : Below W0.heap.size W0 W) => written_any b lv sz L x y W hR.inv (by omega) hy (hR0.below hW).cells.2.2 (hR0.below hW).str.row
  have HW := aside W1
  have HR0 := aside hR0
  have HB0 := aside hB0
  have HI := aside hi
  have HF := aside hf
  have HTT := aside ht
  have HIN := aside hR.inv
  have HJ := aside hj
  have hlt : (x : Int) < (y : Int) := by omega
  have hwr : IntKind.i64.wrap ((heldOf L : Int) - (ovls x y L : Int)) = ((heldOf L - ovls x y L : Nat) : Int) := by rw [IntKind.wrap_i64]; omega
  generalize hov_ : ovls x y L = ov at *
  generalize hhe_ : heldOf L = he at *
  have HOV := aside hov_
  have HHE := aside hhe_
  have HWR := aside hwr
  clear hwr
  clear W1 hR hR0 hB0 hi hj hf ht hov_ hhe_ c0 c1 c2
  go_enter Try.func47, Try.ntmps47
  go_upto_region 2 with fail
  rw [← hW0]
  clear hW0
  go_cut [4] from 11 to 108 (fun p4 wx => p4 = .pointer (some ⟨w.heap.size, 0, none⟩) ∧ ∃ wy, Below W0.heap.size W0 wy ∧ wx = wy.setCell ⟨b, 1, none⟩ (.int .i64 ((he - ov : Nat) : Int)))
  case first =>
    go_region_with (go_at_call 43; refine (HW.out _ ?_).mono ?_; (exact (Below.refl _ _).drew); rintro e w' ⟨rfl, hb⟩; have c1w : w'.cell? ⟨b, 1, none⟩ = some (.int .i64 he) := (hb.cell (p := ⟨b, 1, none⟩) hb0).trans d1; have f1w : w'.frozen? ⟨b, 1, none⟩ = false := (hb.frozen (p := ⟨b, 1, none⟩) hb0).trans f1)
    all_goals
      go_wp2_with fail
      go_meet
      case rel => exact ⟨rfl, w', below_tr (below_dr W0) hb, by rw [HWR.out]⟩
  case rest =>
    obtain ⟨rfl, wy, hwy, rfl⟩ := hcut
    have hRy := HR0.out.below hwy
    have hSt := hRy.str.set 1 (.int .i64 ((he - ov : Nat) : Int)) (.int .i64 sz) (.int .i64 ((he - ov : Nat) : Int)) rfl
    have hub : Upd (fun k => k = b) W0 (wy.setCell ⟨b, 1, none⟩ (.int .i64 ((he - ov : Nat) : Int))) := (Upd.of_below hwy).trans (Upd.setCell (F := fun k => k = b) (p := ⟨b, 1, none⟩) rfl _) (fun _ _ h => h)
    generalize wy.setCell ⟨b, 1, none⟩ (.int .i64 ((he - ov : Nat) : Int)) = wp at *
    have hps := hub.size
    have px : wp.cell? ⟨w.heap.size, 0, none⟩ = some (.int .i64 x) := (World.cell?_of_block (a := ⟨w.heap.size, 0, none⟩) (hub.block w.heap.size bx (by omega))).trans cx
    have py : wp.cell? ⟨w.heap.size + 1, 0, none⟩ = some (.int .i64 y) := (World.cell?_of_block (a := ⟨w.heap.size + 1, 0, none⟩) (hub.block (w.heap.size + 1) by' (by omega))).trans cy
    have hl2 : wp.cell? ⟨b, 2, none⟩ = some lv := by rw [cell_of_row wp b 2 _ _ _ hSt.obj]; rfl
    obtain ⟨S1, S2⟩ := erase_S b lv sz L x y wp HIN.out w.heap.size (w.heap.size + 1) px py hl2 hSt.row
    rw [HI.out] at S1
    rw [HJ.out] at S2
    have hlen := HIN.out.len
    have hjn : j ≤ L.length := by rw [← HJ.out]; exact List.findIdx_le_length
    have HS1 := aside S1
    have HS2 := aside S2
    have HST := aside hSt
    have HUB := aside hub
    clear S1 S2 hRy hwy cx cy d1 f1
    go_wp2_with fail
    refine (HS1.out _ (Below.refl _ _)).mono ?_
    rintro e w1 ⟨rfl, hb1⟩
    go_wp2_with fail
    refine (HS2.out _ hb1).mono ?_
    rintro e w2 ⟨rfl, hb2⟩
    have hw2 := below_tr hb1 hb2
    have hS2 := HST.out.below hw2
    have qx : w2.cell? ⟨w.heap.size, 0, none⟩ = some (.int .i64 x) := (hw2.cell (World.block_lt_of_cell? wp _ px)).trans px
    have qy : w2.cell? ⟨w.heap.size + 1, 0, none⟩ = some (.int .i64 y) := (hw2.cell (World.block_lt_of_cell? wp _ py)).trans py
    obtain ⟨lg, lc, hlv, hf0, hf1⟩ := row_at hS2.row (i := i) (by omega)
    obtain ⟨lg2, lc2, hlv2, ht0, ht1⟩ := row_at hS2.row (i := j - 1) (by omega)
    have ql : w2.cell? ⟨b, 2, none⟩ = some lv := by rw [cell_of_row w2 b 2 _ _ _ hS2.obj]; rfl
    rw [hlv] at hlv2 ql
    simp only [Value.slice.injEq, Option.some.injEq, Addr.mk.injEq, true_and, and_true] at hlv2
    obtain ⟨rfl, rfl⟩ := hlv2
    have ef : L[i] = f := Option.some.inj ((List.getElem?_eq_getElem (by omega)).symm.trans HF.out)
    have et : L[j - 1] = t := Option.some.inj ((List.getElem?_eq_getElem (by omega)).symm.trans HTT.out)
    rw [ef] at hf0 hf1
    rw [et] at ht0 ht1
    unfold Piece.dv at hf1 ht1
    obtain ⟨jm, hjm⟩ : ∃ jm, jm = j - 1 := ⟨_, rfl⟩
    rw [← hjm] at ht0 ht1
    have hjn1 : (j : Int) - 1 = (jm : Int) := by omega
    have hjz : (jm : Int) < (L.length : Int) := by omega
    have hjw : IntKind.i64.wrap (jm : Int) = (jm : Int) := by rw [IntKind.wrap_i64]; omega
    have hiz : (i : Int) < (L.length : Int) := by omega
    have hfL : f ∈ L := List.mem_of_getElem? HF.out
    have htL : t ∈ L := List.mem_of_getElem? HTT.out
    have hfl := HIN.out.fin f hfL
    have htl := HIN.out.fin t htL
    have hszz := HIN.out.size
    unfold Piece.fin at hfl htl hty
    have HW2 := aside hw2
    have HS2' := aside hS2
    have g1 : decide ((i : Int) < (j : Int)) = true := by simp; omega
    have g1b : decide (i < j) = true := by simp; omega
    have g2 : decide ((f.org : Int) < (x : Int)) = true := by simp; omega
    have g2b : decide (f.org < x) = true := by simp; omega
    have xx := fun d os => ext_cell qx d os
    have xl := fun d os => ext_cell ql d os
    have xf0 := fun d os => ext_cell hf0 d os
    clear hw2 hb1 hb2 hlv ef et hjm hS2 px py hl2 hSt hub
    go_wp2
    refine region_ext (by kernel_rfl) (by kernel_rfl) ?_
    repeat (any_goals (first | go_big_quiet_step ((fail)) | quiet_step ((fail))))
    refine wpQuiet_nil ?_
    intro w3 hb3
    have r_l : w3.cell? ⟨b, 2, none⟩ = some (.slice (some ⟨lg, 0, none⟩) L.length lc) := (hb3.cell (World.block_lt_of_cell? w2 _ ql)).trans ql
    have r_f0 : w3.cell? ⟨lg, i * 2, none⟩ = some (.int .i64 f.org) := (hb3.cell (World.block_lt_of_cell? w2 _ hf0)).trans hf0
    have r_f1 : w3.cell? ⟨lg, i * 2 + 1, none⟩ = some (.slice (some ⟨f.blk, 0, none⟩) f.bs.length f.cap) := (hb3.cell (World.block_lt_of_cell? w2 _ hf1)).trans hf1
    have r_x : w3.cell? ⟨w.heap.size, 0, none⟩ = some (.int .i64 x) := (hb3.cell (World.block_lt_of_cell? w2 _ qx)).trans qx
    have wx3 : w.heap.size < w3.heap.size := World.block_lt_of_cell? w3 _ r_x
    obtain ⟨p, hp⟩ : ∃ p, p = x - f.org := ⟨_, rfl⟩
    have hpz : (x : Int) - (f.org : Int) = (p : Int) := by omega
    have hxf : x < f.org + f.bs.length := by
      have := findIdx_at (q := fun d : Piece => decide ((x : Int) < d.fin)) (L := L) (by rw [HI.out]; omega)
      simp only [HI.out] at this
      have h2 := of_decide_eq_true this
      have ef : L[i] = f := Option.some.inj ((List.getElem?_eq_getElem (by omega)).symm.trans HF.out)
      rw [ef] at h2
      unfold Piece.fin at h2
      omega
    have hpl : p ≤ f.bs.length := by omega
    have hpw : IntKind.i64.wrap (p : Int) = (p : Int) := by rw [IntKind.wrap_i64]; omega
    have hrf : ∀ W, Below w2.heap.size w2 W → W.ownsRow 0 5 1 (.slice (some ⟨f.blk, 0, none⟩) p f.cap) p (bcells (f.bs.take p)) := fun W hW => row_take ((HS2'.out.below hW).data f hfL) p hpl rfl
    have hfc : p ≤ f.cap := by
      obtain ⟨_, _, e, h1, -⟩ := row_form (hrf w2 (Below.refl _ _))
      simp only [Value.slice.injEq, true_and] at e
      omega
    have HRF := aside hrf
    have HP := aside hp
    clear xx xl xf0 hrf hp hxf
    go_upto_region 8 with fail
    go_cut [8] from 11 to 108 (fun p8 wx => ∃ a8 c8 gl cl, p8 = .slice a8 1 c8 ∧ wx.ownsRow 0 126 2 (.slice a8 1 c8) 1 [.int .i64 f.org, .slice (some ⟨gl, 0, none⟩) p cl] ∧ wx.ownsRow 0 5 1 (.slice (some ⟨gl, 0, none⟩) p cl) p (bcells (f.bs.take p)) ∧ (gl = f.blk ∨ w2.heap.size ≤ gl) ∧ (∃ k, Value.ownBlock (.slice a8 1 c8) = some k ∧ w2.heap.size ≤ k ∧ k ≠ gl) ∧ Below w2.heap.size w2 wx)
    case first =>
      have s90 : (w3.alloc (.cells #[.int .i64 f.org, .slice (some ⟨f.blk, 0, none⟩) f.bs.length f.cap] 126)).cell? ⟨w3.heap.size, 0, none⟩ = some (.int .i64 f.org) := by go_simp
      have s91 : (w3.alloc (.cells #[.int .i64 f.org, .slice (some ⟨f.blk, 0, none⟩) f.bs.length f.cap] 126)).cell? ⟨w3.heap.size, 1, none⟩ = some (.slice (some ⟨f.blk, 0, none⟩) f.bs.length f.cap) := by go_simp
      have sx : (w3.alloc (.cells #[.int .i64 f.org, .slice (some ⟨f.blk, 0, none⟩) f.bs.length f.cap] 126)).cell? ⟨w.heap.size, 0, none⟩ = some (.int .i64 x) := ((below_al w3 _).cell wx3).trans r_x
      have hw4 := below_tr hb3 (below_al w3 (.cells #[.int .i64 f.org, .slice (some ⟨f.blk, 0, none⟩) f.bs.length f.cap] 126))
      have l90 : w3.heap.size < (w3.alloc (.cells #[.int .i64 f.org, .slice (some ⟨f.blk, 0, none⟩) f.bs.length f.cap] 126)).heap.size := by simp
      have lx : w.heap.size < (w3.alloc (.cells #[.int .i64 f.org, .slice (some ⟨f.blk, 0, none⟩) f.bs.length f.cap] 126)).heap.size := by simp; omega
      generalize hW4 : w3.alloc (.cells #[.int .i64 f.org, .slice (some ⟨f.blk, 0, none⟩) f.bs.length f.cap] 126) = w4 at *
      clear hW4
      have HW4 := aside hw4
      clear hw4
      go_region_held2 (fun w' => w'.cell? ⟨w3.heap.size, 0, none⟩ = some (.int .i64 f.org) ∧ w'.cell? ⟨w3.heap.size, 1, none⟩ = some (.slice (some ⟨f.blk, 0, none⟩) f.bs.length f.cap) ∧ w'.cell? ⟨w.heap.size, 0, none⟩ = some (.int .i64 x)) (go_keep) (first
        | (go_at_call 69; refine (fit50s_any f.blk p f.cap (f.bs.take p) _ (HRF.out _ (HW4.out.drew)) (by omega)).mono ?_; rintro e w5 ⟨gl, cl, rfl, ho5, hb5, hw5⟩; have t90 : w5.cell? ⟨w3.heap.size, 0, none⟩ = some (.int .i64 f.org) := (hb5.cell (p := ⟨w3.heap.size, 0, none⟩) l90).trans s90; have t91 : w5.cell? ⟨w3.heap.size, 1, none⟩ = some (.slice (some ⟨f.blk, 0, none⟩) f.bs.length f.cap) := (hb5.cell (p := ⟨w3.heap.size, 1, none⟩) l90).trans s91; have tx : w5.cell? ⟨w.heap.size, 0, none⟩ = some (.int .i64 x) := (hb5.cell (p := ⟨w.heap.size, 0, none⟩) lx).trans sx; have HO5 := aside ho5; have HB5 : Aside (Below w4.heap.size w4 w5) := (below_tr (below_dr w4) hb5); have HG5 : Aside (gl = f.blk ∨ w4.heap.size ≤ gl) := hw5; clear ho5 hb5 hw5)
        | (refine step_append_where rfl _ _ rfl (.slice none 0 0) 0 [] (by simp [Act.eval]) (World.ownsRow_nil _ _ _ _) (by omega) w5.heap.size 1 [.int .i64 f.org, .slice (some ⟨gl, 0, none⟩) p cl] (by simp [Act.eval]) (own_one (heap_alloc_new w5 _)) (by intro u hu; simp only [List.mem_cons, List.not_mem_nil, or_false] at hu; rcases hu with rfl | rfl <;> rfl) ?_; rintro v8 w6 ho6 hg6 hw6 ⟨a8, c8, rfl⟩; have u90 : w6.cell? ⟨w3.heap.size, 0, none⟩ = some (.int .i64 f.org) := hg6.cell (((below_al w5 _).cell (World.block_lt_of_cell? w5 _ t90)).trans t90) (by simp [Value.ownBlock]); have u91 : w6.cell? ⟨w3.heap.size, 1, none⟩ = some (.slice (some ⟨f.blk, 0, none⟩) f.bs.length f.cap) := hg6.cell (((below_al w5 _).cell (World.block_lt_of_cell? w5 _ t91)).trans t91) (by simp [Value.ownBlock]); have ux : w6.cell? ⟨w.heap.size, 0, none⟩ = some (.int .i64 x) := hg6.cell (((below_al w5 _).cell (World.block_lt_of_cell? w5 _ tx)).trans tx) (by simp [Value.ownBlock]); have HO6 := aside ho6; have HG6 := aside hg6; have HW6 := aside hw6; clear ho6 hg6 hw6))
      all_goals
        go_wp2_with fail
        go_meet
        case rel =>
          have hb6 : Below w5.heap.size w5 w6 := below_tr (below_al w5 _) (below_of_grown HG6.out)
          have hb56 := below_tr HB5.out hb6
          have hs4 := HW4.out.size
          have hs5 := HB5.out.size
          refine ⟨a8, c8, gl, cl, rfl, HO6.out, row_below HO5.out hb6, ?_, ?_, below_tr HW4.out hb56⟩
          · rcases HG5.out with e | e
            · exact .inl e
            · exact .inr (by omega)
          · rcases HW6.out with e | ⟨k, e, hk⟩
            · obtain ⟨g, c, cu, e1, -⟩ := own_cells HO6.out (by omega)
              rw [e1] at e
              simp [Value.ownBlock] at e
            · refine ⟨k, e, ?_, ?_⟩
              · simp at hk; omega
              · have hg := (HO5.out.lt gl rfl).2
                simp at hk; omega
    case rest =>
      obtain ⟨a8, c8, gl, cl, rfl, ho8, hol, hgl, ⟨k8, ek8, hk8, hk8g⟩, hb8⟩ := hcut
      have z_l : wc.cell? ⟨b, 2, none⟩ = some (.slice (some ⟨lg, 0, none⟩) L.length lc) := (hb8.cell (World.block_lt_of_cell? w2 _ ql)).trans ql
      have z_t0 : wc.cell? ⟨lg, jm * 2, none⟩ = some (.int .i64 t.org) := (hb8.cell (World.block_lt_of_cell? w2 _ ht0)).trans ht0
      have z_t1 : wc.cell? ⟨lg, jm * 2 + 1, none⟩ = some (.slice (some ⟨t.blk, 0, none⟩) t.bs.length t.cap) := (hb8.cell (World.block_lt_of_cell? w2 _ ht1)).trans ht1
      have z_y : wc.cell? ⟨w.heap.size + 1, 0, none⟩ = some (.int .i64 y) := (hb8.cell (World.block_lt_of_cell? w2 _ qy)).trans qy
      have yl := fun d os => ext_cell z_l d os
      have y0 := fun d os => ext_cell z_t0 d os
      have y1 := fun d os => ext_cell z_t1 d os
      have yy := fun d os => ext_cell z_y d os
      have g3 : decide ((y : Int) < (t.org : Int) + (t.bs.length : Int)) = false := by simp; omega
      have g3b : decide ((t.org : Int) + (t.bs.length : Int) > (y : Int)) = false := by simp; omega
      have HO8 := aside ho8
      have HOL := aside hol
      have HGL := aside hgl
      have HB8 := aside hb8
      clear ho8 hol hgl hb8 r_l r_f0 r_f1 r_x hf0 hf1
      go_wp2
      refine region_ext (by kernel_rfl) (by kernel_rfl) ?_
      repeat (any_goals (first | go_big_quiet_step ((go_at_call 61; exact calls_ext (to_any _ _ _ _ _ (by omega) (by omega) (by omega)))) | quiet_step ((go_at_call 61; exact calls_ext (to_any _ _ _ _ _ (by omega) (by omega) (by omega))))))
      refine wpQuiet_nil ?_
      intro w7 hb7
      have hb9 := below_tr HB8.out hb7
      have ho9 := row_below HO8.out hb7
      have hl9 := row_below HOL.out hb7
      have hSx := HS2'.out.below hb9
      have hp1 : (f.bs.take p).length = p := by rw [List.length_take]; omega
      have hfb := HS2'.out.dne f hfL
      have hb2 := HS2'.out.lv_lt (.inl rfl)
      have hFlt : ∀ k, Foot b lv L k → k < w2.heap.size := fun k hk => HS2'.out.lv_lt hk
      have hC := replacePieces b (.int .i64 sz) (.int .i64 ((he - ov : Nat) : Int)) lv (.slice a8 1 c8) L [⟨f.org, gl, cl, f.bs.take p⟩] i j w7 hSx (by omega) hjn hlen (by simp)
        (by
          have e : lcells [⟨f.org, gl, cl, f.bs.take p⟩] = [.int .i64 f.org, .slice (some ⟨gl, 0, none⟩) p cl] := by
            simp only [lcells, List.flatMap_cons, List.flatMap_nil, List.append_nil, Piece.dv, hp1]
          rw [e]; exact ho9)
        (by simp) (fun k hk h => by rw [ek8] at hk; injection hk with hk; have := hFlt k h; omega)
        (by
          intro d hd
          simp only [List.mem_cons, List.not_mem_nil, or_false] at hd
          rw [hd]
          simp only [Piece.dv, hp1]; exact hl9)
        (by
          intro d hd
          simp only [List.mem_cons, List.not_mem_nil, or_false] at hd
          rw [hd]
          rcases HGL.out with e | e
          · simp only; rw [e]; exact hfb
          · refine ⟨by simp only; omega, fun h => ?_⟩
            have := hFlt gl (.inr (.inl h)); omega)
        (by simp)
        (by
          intro d hd e he'
          obtain ⟨h1, h2⟩ := kept_ne HS2'.out.nd HF.out hij he'
          have h3 := hFlt e.blk (.inr (.inr ⟨e, h1, rfl⟩))
          simp only [List.mem_cons, List.not_mem_nil, or_false] at hd
          rw [hd]
          rcases HGL.out with e1 | e1
          · simp only; rw [e1]; exact h2
          · simp only; omega)
      have HC := aside hC
      have HB9 := aside hb9
      clear hC hSx ho9 hl9 hb9 hb7
      go_wp2_with fail
      refine HC.out.mono ?_
      rintro e w' ⟨rfl, lv', hS', hk', hu'⟩
      go_wp2
      go_end0
      have hsw : w.heap.size ≤ w2.heap.size := by have := World.block_lt_of_cell? w2 _ qx; simp at this; omega
      have hsc := HB9.out.size
      refine ⟨rfl, lv', gl, cl, ?_, ?_, ?_, ?_⟩
      · rw [← HP.out]; exact hS'
      · rcases HGL.out with e | e
        · exact .inl e
        · exact .inr (by omega)
      · rcases hk' with e | ⟨k, e, hk⟩
        · exact .inl e
        · exact .inr ⟨k, e, by omega⟩
      · have hu1 : Upd (fun k => k = b) w w2 := ((Upd.of_below (F := fun k => k = b) HB0.out).trans HUB.out (fun _ _ h => h)).trans (Upd.of_below (F := fun k => k = b) (HW2.out)) (fun _ _ h => h)
        refine ((hu1.trans (Upd.of_below (F := fun k => k = b) HB9.out) (fun _ _ h => h)).mono (G := Foot b lv L) (fun k _ h => .inl h)).trans hu' (fun k _ h => ?_)
        rcases h with e | e
        · exact .inl e
        · exact .inr (.inl e)
end Go.Proofs.Ytoagjgcpgpjjeaa

namespace Go.Proofs.Ytoagjgcpgpjjeaa
open Go.RowKit
attribute [local simp] lcells_nil readB_length bcells_length
set_option maxHeartbeats 2000000 in
set_option maxRecDepth 100000 in
theorem eraseR_any (b : Nat) (sz : Nat) (lv : Value) (L : List Piece) (x y i j : Nat) (w : World) (hR : Rep w b sz lv L) (hxy : x < y) (hy : y ≤ 1073741824)
    (hi : L.findIdx (fun d => decide ((x : Int) < d.fin)) = i) (hj : L.findIdx (fun d => decide ((y : Int) ≤ d.org)) = j) (hij : i < j) (f t : Piece) (hf : L[i]? = some f) (ht : L[j - 1]? = some t) (hfx : x ≤ f.org) (hty : y < t.fin) :
    Calls Try.prog 47 #[.pointer (some ⟨b, 0, none⟩), .int .i64 x, .int .i64 y] w fun e w' => e = .returned (.tuple #[]) ∧ ∃ lv' gr cr, Str w' b (.int .i64 sz) (.int .i64 ((heldOf L - ovls x y L : Nat) : Int)) lv' (L.take i ++ [⟨y, gr, cr, t.bs.drop (y - t.org)⟩] ++ L.drop j) ∧ w.heap.size ≤ gr ∧ (lv'.ownBlock = lv.ownBlock ∨ ∃ k, lv'.ownBlock = some k ∧ w.heap.size ≤ k) ∧ Upd (Foot b lv L) w w' := by
  obtain ⟨c0, c1, c2⟩ := hR.cells
  have hbl : b < w.heap.size := World.block_lt_of_cell? w _ c0
  have hhe := hR.inv.held
  have hov := ovls_le x y L
  obtain ⟨W0, hW0⟩ : ∃ W0, W0 = (w.alloc (.cells #[.int .i64 x] 2)).alloc (.cells #[.int .i64 y] 2) := ⟨_, rfl⟩
  have hB0 : Below w.heap.size w W0 := by rw [hW0]; exact (below_al w _).alloc (by simp) _
  have cx : W0.cell? ⟨w.heap.size, 0, none⟩ = some (.int .i64 x) := by rw [hW0]; go_simp
  have cy : W0.cell? ⟨w.heap.size + 1, 0, none⟩ = some (.int .i64 y) := by rw [hW0]; go_simp
  have hR0 := hR.below hB0
  have d1 : W0.cell? ⟨b, 1, none⟩ = some (.int .i64 (heldOf L)) := hR0.cells.2.1
  have f1 : W0.frozen? ⟨b, 1, none⟩ = false := frozen_of_row W0 b 1 _ _ hR0.str.obj
  have bx : w.heap.size < W0.heap.size := World.block_lt_of_cell? W0 _ cx
  have by' : w.heap.size + 1 < W0.heap.size := World.block_lt_of_cell? W0 _ cy
  have hb0 : b < W0.heap.size := by omega
  have W1 := fun (W : World) (hW : Below W0.heap.size W0 W) => written_any b lv sz L x y W hR.inv (by omega) hy (hR0.below hW).cells.2.2 (hR0.below hW).str.row
  have HW := aside W1
  have HR0 := aside hR0
  have HB0 := aside hB0
  have HI := aside hi
  have HF := aside hf
  have HTT := aside ht
  have HIN := aside hR.inv
  have HJ := aside hj
  have hlt : (x : Int) < (y : Int) := by omega
  have hwr : IntKind.i64.wrap ((heldOf L : Int) - (ovls x y L : Int)) = ((heldOf L - ovls x y L : Nat) : Int) := by rw [IntKind.wrap_i64]; omega
  generalize hov_ : ovls x y L = ov at *
  generalize hhe_ : heldOf L = he at *
  have HOV := aside hov_
  have HHE := aside hhe_
  have HWR := aside hwr
  clear hwr
  clear W1 hR hR0 hB0 hi hj hf ht hov_ hhe_ c0 c1 c2
  go_enter Try.func47, Try.ntmps47
  go_upto_region 2 with fail
  rw [← hW0]
  clear hW0
  go_cut [4] from 11 to 108 (fun p4 wx => p4 = .pointer (some ⟨w.heap.size, 0, none⟩) ∧ ∃ wy, Below W0.heap.size W0 wy ∧ wx = wy.setCell ⟨b, 1, none⟩ (.int .i64 ((he - ov : Nat) : Int)))
  case first =>
    go_region_with (go_at_call 43; refine (HW.out _ ?_).mono ?_; (exact (Below.refl _ _).drew); rintro e w' ⟨rfl, hb⟩; have c1w : w'.cell? ⟨b, 1, none⟩ = some (.int .i64 he) := (hb.cell (p := ⟨b, 1, none⟩) hb0).trans d1; have f1w : w'.frozen? ⟨b, 1, none⟩ = false := (hb.frozen (p := ⟨b, 1, none⟩) hb0).trans f1)
    all_goals
      go_wp2_with fail
      go_meet
      case rel => exact ⟨rfl, w', below_tr (below_dr W0) hb, by rw [HWR.out]⟩
  case rest =>
    obtain ⟨rfl, wy, hwy, rfl⟩ := hcut
    have hRy := HR0.out.below hwy
    have hSt := hRy.str.set 1 (.int .i64 ((he - ov : Nat) : Int)) (.int .i64 sz) (.int .i64 ((he - ov : Nat) : Int)) rfl
    have hub : Upd (fun k => k = b) W0 (wy.setCell ⟨b, 1, none⟩ (.int .i64 ((he - ov : Nat) : Int))) := (Upd.of_below hwy).trans (Upd.setCell (F := fun k => k = b) (p := ⟨b, 1, none⟩) rfl _) (fun _ _ h => h)
    generalize wy.setCell ⟨b, 1, none⟩ (.int .i64 ((he - ov : Nat) : Int)) = wp at *
    have hps := hub.size
    have px : wp.cell? ⟨w.heap.size, 0, none⟩ = some (.int .i64 x) := (World.cell?_of_block (a := ⟨w.heap.size, 0, none⟩) (hub.block w.heap.size bx (by omega))).trans cx
    have py : wp.cell? ⟨w.heap.size + 1, 0, none⟩ = some (.int .i64 y) := (World.cell?_of_block (a := ⟨w.heap.size + 1, 0, none⟩) (hub.block (w.heap.size + 1) by' (by omega))).trans cy
    have hl2 : wp.cell? ⟨b, 2, none⟩ = some lv := by rw [cell_of_row wp b 2 _ _ _ hSt.obj]; rfl
    obtain ⟨S1, S2⟩ := erase_S b lv sz L x y wp HIN.out w.heap.size (w.heap.size + 1) px py hl2 hSt.row
    rw [HI.out] at S1
    rw [HJ.out] at S2
    have hlen := HIN.out.len
    have hjn : j ≤ L.length := by rw [← HJ.out]; exact List.findIdx_le_length
    have HS1 := aside S1
    have HS2 := aside S2
    have HST := aside hSt
    have HUB := aside hub
    clear S1 S2 hRy hwy cx cy d1 f1
    go_wp2_with fail
    refine (HS1.out _ (Below.refl _ _)).mono ?_
    rintro e w1 ⟨rfl, hb1⟩
    go_wp2_with fail
    refine (HS2.out _ hb1).mono ?_
    rintro e w2 ⟨rfl, hb2⟩
    have hw2 := below_tr hb1 hb2
    have hS2 := HST.out.below hw2
    have qx : w2.cell? ⟨w.heap.size, 0, none⟩ = some (.int .i64 x) := (hw2.cell (World.block_lt_of_cell? wp _ px)).trans px
    have qy : w2.cell? ⟨w.heap.size + 1, 0, none⟩ = some (.int .i64 y) := (hw2.cell (World.block_lt_of_cell? wp _ py)).trans py
    obtain ⟨lg, lc, hlv, hf0, hf1⟩ := row_at hS2.row (i := i) (by omega)
    obtain ⟨lg2, lc2, hlv2, ht0, ht1⟩ := row_at hS2.row (i := j - 1) (by omega)
    have ql : w2.cell? ⟨b, 2, none⟩ = some lv := by rw [cell_of_row w2 b 2 _ _ _ hS2.obj]; rfl
    rw [hlv] at hlv2 ql
    simp only [Value.slice.injEq, Option.some.injEq, Addr.mk.injEq, true_and, and_true] at hlv2
    obtain ⟨rfl, rfl⟩ := hlv2
    have ef : L[i] = f := Option.some.inj ((List.getElem?_eq_getElem (by omega)).symm.trans HF.out)
    have et : L[j - 1] = t := Option.some.inj ((List.getElem?_eq_getElem (by omega)).symm.trans HTT.out)
    rw [ef] at hf0 hf1
    rw [et] at ht0 ht1
    unfold Piece.dv at hf1 ht1
    obtain ⟨jm, hjm⟩ : ∃ jm, jm = j - 1 := ⟨_, rfl⟩
    rw [← hjm] at ht0 ht1
    have hjn1 : (j : Int) - 1 = (jm : Int) := by omega
    have hjz : (jm : Int) < (L.length : Int) := by omega
    have hjw : IntKind.i64.wrap (jm : Int) = (jm : Int) := by rw [IntKind.wrap_i64]; omega
    have hiz : (i : Int) < (L.length : Int) := by omega
    have hfL : f ∈ L := List.mem_of_getElem? HF.out
    have htL : t ∈ L := List.mem_of_getElem? HTT.out
    have hfl := HIN.out.fin f hfL
    have htl := HIN.out.fin t htL
    have hszz := HIN.out.size
    unfold Piece.fin at hfl htl hty
    have HW2 := aside hw2
    have HS2' := aside hS2
    have g1 : decide ((i : Int) < (j : Int)) = true := by simp; omega
    have g1b : decide (i < j) = true := by simp; omega
    have g2 : decide ((f.org : Int) < (x : Int)) = false := by simp; omega
    have g2b : decide (f.org < x) = false := by simp; omega
    have xx := fun d os => ext_cell qx d os
    have xl := fun d os => ext_cell ql d os
    have xf0 := fun d os => ext_cell hf0 d os
    clear hw2 hb1 hb2 hlv ef et hjm hS2 px py hl2 hSt hub
    go_wp2
    refine region_ext (by kernel_rfl) (by kernel_rfl) ?_
    repeat (any_goals (first | go_big_quiet_step ((fail)) | quiet_step ((fail))))
    refine wpQuiet_nil ?_
    intro w3 hb3
    have z_l : w3.cell? ⟨b, 2, none⟩ = some (.slice (some ⟨lg, 0, none⟩) L.length lc) := (hb3.cell (World.block_lt_of_cell? w2 _ ql)).trans ql
    have z_t0 : w3.cell? ⟨lg, jm * 2, none⟩ = some (.int .i64 t.org) := (hb3.cell (World.block_lt_of_cell? w2 _ ht0)).trans ht0
    have z_t1 : w3.cell? ⟨lg, jm * 2 + 1, none⟩ = some (.slice (some ⟨t.blk, 0, none⟩) t.bs.length t.cap) := (hb3.cell (World.block_lt_of_cell? w2 _ ht1)).trans ht1
    have z_y : w3.cell? ⟨w.heap.size + 1, 0, none⟩ = some (.int .i64 y) := (hb3.cell (World.block_lt_of_cell? w2 _ qy)).trans qy
    have yl := fun d os => ext_cell z_l d os
    have y0 := fun d os => ext_cell z_t0 d os
    have y1 := fun d os => ext_cell z_t1 d os
    have yy := fun d os => ext_cell z_y d os
    have g3 : decide ((y : Int) < (t.org : Int) + (t.bs.length : Int)) = true := by simp; omega
    have g3b : decide ((t.org : Int) + (t.bs.length : Int) > (y : Int)) = true := by simp; omega
    have HB8 := aside hb3
    clear hb3 hf0 hf1 xx xl xf0
    go_wp2
    refine region_ext (by kernel_rfl) (by kernel_rfl) ?_
    repeat (any_goals (first | go_big_quiet_step ((go_at_call 61; exact calls_ext (to_any _ _ _ _ _ (by omega) (by omega) (by omega)))) | quiet_step ((go_at_call 61; exact calls_ext (to_any _ _ _ _ _ (by omega) (by omega) (by omega))))))
    refine wpQuiet_nil ?_
    intro w7 hb7
    have v_l : w7.cell? ⟨b, 2, none⟩ = some (.slice (some ⟨lg, 0, none⟩) L.length lc) := (hb7.cell (World.block_lt_of_cell? w3 _ z_l)).trans z_l
    have v_t0 : w7.cell? ⟨lg, jm * 2, none⟩ = some (.int .i64 t.org) := (hb7.cell (World.block_lt_of_cell? w3 _ z_t0)).trans z_t0
    have v_t1 : w7.cell? ⟨lg, jm * 2 + 1, none⟩ = some (.slice (some ⟨t.blk, 0, none⟩) t.bs.length t.cap) := (hb7.cell (World.block_lt_of_cell? w3 _ z_t1)).trans z_t1
    have v_y : w7.cell? ⟨w.heap.size + 1, 0, none⟩ = some (.int .i64 y) := (hb7.cell (World.block_lt_of_cell? w3 _ z_y)).trans z_y
    have wy7 : w.heap.size + 1 < w7.heap.size := World.block_lt_of_cell? w7 _ v_y
    have htoy : t.org < y := by
      have := List.not_of_lt_findIdx (p := fun d : Piece => decide ((y : Int) ≤ d.org)) (xs := L) (i := j - 1) (by rw [HJ.out]; omega)
      have et : L[j - 1]'(by omega) = t := Option.some.inj ((List.getElem?_eq_getElem (by omega)).symm.trans HTT.out)
      rw [et] at this
      simp at this
      omega
    obtain ⟨q, hq⟩ : ∃ q, q = y - t.org := ⟨_, rfl⟩
    have hqz : (y : Int) - (t.org : Int) = (q : Int) := by omega
    have hql : q < t.bs.length := by omega
    have hqw : IntKind.i64.wrap (q : Int) = (q : Int) := by rw [IntKind.wrap_i64]; omega
    have htc : t.bs.length ≤ t.cap ∧ t.cap ≤ maxLen := by
      obtain ⟨_, _, e, h1, h2⟩ := row_form (HS2'.out.data t htL)
      simp only [Piece.dv, Value.slice.injEq, true_and] at e
      omega
    have hqn : q ≤ t.bs.length := by omega
    have hqe : ¬ (t.cap = q) := by omega
    have HQ := aside hq
    have HB7 := aside (below_tr HB8.out hb7)
    have HBC := aside hb7
    clear yl y0 y1 yy hq g3 g3b htoy z_l z_t0 z_t1 z_y hb7
    go_upto_region 11 with fail
    have sl : ∃ m, m = t.bs.length - q := ⟨_, rfl⟩
    obtain ⟨m, hm⟩ := sl
    have HM := aside hm
    go_cut [8] from 11 to 108 (fun p8 wx => ∃ a9 c9 gr cr, p8 = .slice a9 1 c9 ∧ wx.ownsRow 0 126 2 (.slice a9 1 c9) 1 [.int .i64 y, .slice (some ⟨gr, 0, none⟩) m cr] ∧ wx.ownsRow 0 5 1 (.slice (some ⟨gr, 0, none⟩) m cr) m (bcells (t.bs.drop q)) ∧ w7.heap.size ≤ gr ∧ (∃ k, Value.ownBlock (.slice a9 1 c9) = some k ∧ w2.heap.size ≤ k) ∧ Below w2.heap.size w2 wx)
    case first =>
      have s90 : (w7.alloc (.cells #[.int .i64 t.org, .slice (some ⟨t.blk, 0, none⟩) t.bs.length t.cap] 126)).cell? ⟨w7.heap.size, 0, none⟩ = some (.int .i64 t.org) := by go_simp
      have s91 : (w7.alloc (.cells #[.int .i64 t.org, .slice (some ⟨t.blk, 0, none⟩) t.bs.length t.cap] 126)).cell? ⟨w7.heap.size, 1, none⟩ = some (.slice (some ⟨t.blk, 0, none⟩) t.bs.length t.cap) := by go_simp
      have sy : (w7.alloc (.cells #[.int .i64 t.org, .slice (some ⟨t.blk, 0, none⟩) t.bs.length t.cap] 126)).cell? ⟨w.heap.size + 1, 0, none⟩ = some (.int .i64 y) := ((below_al w7 _).cell wy7).trans v_y
      have hw4 := below_al w7 (.cells #[.int .i64 t.org, .slice (some ⟨t.blk, 0, none⟩) t.bs.length t.cap] 126)
      have l90 : w7.heap.size < (w7.alloc (.cells #[.int .i64 t.org, .slice (some ⟨t.blk, 0, none⟩) t.bs.length t.cap] 126)).heap.size := by simp
      have ly : w.heap.size + 1 < (w7.alloc (.cells #[.int .i64 t.org, .slice (some ⟨t.blk, 0, none⟩) t.bs.length t.cap] 126)).heap.size := by simp; omega
      generalize hW4 : w7.alloc (.cells #[.int .i64 t.org, .slice (some ⟨t.blk, 0, none⟩) t.bs.length t.cap] 126) = w4 at *
      clear hW4
      have HW4 := aside hw4
      have HRT : Aside (w4.ownsRow 0 5 1 (.slice (some ⟨t.blk, 0, none⟩) t.bs.length t.cap) t.bs.length (bcells t.bs)) := (HS2'.out.below (below_tr HB7.out hw4)).data t htL
      clear hw4 hm
      go_region_held2 (fun w' => w'.cell? ⟨w7.heap.size, 0, none⟩ = some (.int .i64 t.org) ∧ w'.cell? ⟨w7.heap.size, 1, none⟩ = some (.slice (some ⟨t.blk, 0, none⟩) t.bs.length t.cap) ∧ w'.cell? ⟨w.heap.size + 1, 0, none⟩ = some (.int .i64 y)) (go_keep) (first
        | (go_at_call 66; refine (clone_drop t.blk q t.bs.length t.cap _ _ t.bs _ (row_below HRT.out (below_dr w4)) (by omega) (by omega) rfl).mono ?_; rintro e w5 ⟨gr, cr, rfl, hw5, ho5, hb5⟩; have t90 : w5.cell? ⟨w7.heap.size, 0, none⟩ = some (.int .i64 t.org) := (hb5.cell (p := ⟨w7.heap.size, 0, none⟩) l90).trans s90; have t91 : w5.cell? ⟨w7.heap.size, 1, none⟩ = some (.slice (some ⟨t.blk, 0, none⟩) t.bs.length t.cap) := (hb5.cell (p := ⟨w7.heap.size, 1, none⟩) l90).trans s91; have ty : w5.cell? ⟨w.heap.size + 1, 0, none⟩ = some (.int .i64 y) := (hb5.cell (p := ⟨w.heap.size + 1, 0, none⟩) ly).trans sy; have HO5 := aside ho5; have HB5 : Aside (Below w4.heap.size w4 w5) := (below_tr (below_dr w4) hb5); have HG5 : Aside (w4.heap.size ≤ gr) := hw5; clear ho5 hb5 hw5)
        | (refine step_append_where rfl _ _ rfl (.slice none 0 0) 0 [] (by simp [Act.eval]) (World.ownsRow_nil _ _ _ _) (by omega) w5.heap.size 1 [.int .i64 y, .slice (some ⟨gr, 0, none⟩) (t.bs.length - q) cr] (by simp [Act.eval]) (own_one (heap_alloc_new w5 _)) (by intro u hu; simp only [List.mem_cons, List.not_mem_nil, or_false] at hu; rcases hu with rfl | rfl <;> rfl) ?_; rintro v8 w6 ho6 hg6 hw6 ⟨a9, c9, rfl⟩; have u90 : w6.cell? ⟨w7.heap.size, 0, none⟩ = some (.int .i64 t.org) := hg6.cell (((below_al w5 _).cell (World.block_lt_of_cell? w5 _ t90)).trans t90) (by simp [Value.ownBlock]); have u91 : w6.cell? ⟨w7.heap.size, 1, none⟩ = some (.slice (some ⟨t.blk, 0, none⟩) t.bs.length t.cap) := hg6.cell (((below_al w5 _).cell (World.block_lt_of_cell? w5 _ t91)).trans t91) (by simp [Value.ownBlock]); have uy : w6.cell? ⟨w.heap.size + 1, 0, none⟩ = some (.int .i64 y) := hg6.cell (((below_al w5 _).cell (World.block_lt_of_cell? w5 _ ty)).trans ty) (by simp [Value.ownBlock]); have HO6 := aside ho6; have HG6 := aside hg6; have HW6 := aside hw6; clear ho6 hg6 hw6))
      all_goals
        go_wp2_with fail
        go_meet
        case rel =>
          have hs7 := HB7.out.size
          have hs4 := HW4.out.size
          have hs5 := HB5.out.size
          have hg5 := HG5.out
          have hb6 : Below w5.heap.size w5 w6 := below_tr (below_al w5 _) (below_of_grown HG6.out)
          rw [HM.out]
          refine ⟨a9, c9, gr, cr, rfl, HO6.out, row_below HO5.out hb6, by omega, ?_, below_tr HB7.out (below_tr HW4.out (below_tr HB5.out hb6))⟩
          rcases HW6.out with e | ⟨k, e, hk⟩
          · obtain ⟨g, c, cu, e1, -⟩ := own_cells HO6.out (by omega)
            rw [e1] at e
            simp [Value.ownBlock] at e
          · exact ⟨k, e, by simp at hk; omega⟩
    case rest =>
      obtain ⟨a9, c9, gr, cr, rfl, ho9, hr9, hgr, ⟨k9, ek9, hk9⟩, hb9⟩ := hcut
      have hSx := HS2'.out.below hb9
      have hq1 : (t.bs.drop q).length = m := by rw [List.length_drop]; omega
      have hs7 := HB7.out.size
      have hb2 := HS2'.out.lv_lt (.inl rfl)
      have hFlt : ∀ k, Foot b lv L k → k < w2.heap.size := fun k hk => HS2'.out.lv_lt hk
      have hC := replacePieces b (.int .i64 sz) (.int .i64 ((he - ov : Nat) : Int)) lv (.slice a9 1 c9) L [⟨y, gr, cr, t.bs.drop q⟩] i j wc hSx (by omega) hjn hlen (by simp)
        (by
          have e : lcells [⟨y, gr, cr, t.bs.drop q⟩] = [.int .i64 y, .slice (some ⟨gr, 0, none⟩) m cr] := by
            simp only [lcells, List.flatMap_cons, List.flatMap_nil, List.append_nil, Piece.dv, hq1]
          rw [e]; exact ho9)
        (by simp) (fun k hk h => by rw [ek9] at hk; injection hk with hk; have := hFlt k h; omega)
        (by
          intro d hd
          simp only [List.mem_cons, List.not_mem_nil, or_false] at hd
          rw [hd]
          simp only [Piece.dv, hq1]; exact hr9)
        (by
          intro d hd
          simp only [List.mem_cons, List.not_mem_nil, or_false] at hd
          rw [hd]
          refine ⟨by simp only; omega, fun h => ?_⟩
          have := hFlt gr (.inr (.inl h)); omega)
        (by simp)
        (by
          intro d hd e he'
          obtain ⟨h1, h2⟩ := kept_ne HS2'.out.nd HF.out hij he'
          have h3 := hFlt e.blk (.inr (.inr ⟨e, h1, rfl⟩))
          simp only [List.mem_cons, List.not_mem_nil, or_false] at hd
          rw [hd]
          simp only; omega)
      have HC := aside hC
      have HB9 := aside hb9
      clear hC hSx ho9 hr9 hb9
      go_wp2_with fail
      refine HC.out.mono ?_
      rintro e w' ⟨rfl, lv', hS', hk', hu'⟩
      go_wp2
      go_end0
      have hsw : w.heap.size ≤ w2.heap.size := by have := World.block_lt_of_cell? w2 _ qx; simp at this; omega
      have hsc := HB9.out.size
      refine ⟨rfl, lv', gr, cr, ?_, by omega, ?_, ?_⟩
      · rw [← HQ.out]; exact hS'
      · rcases hk' with e | ⟨k, e, hk⟩
        · exact .inl e
        · exact .inr ⟨k, e, by omega⟩
      · have hu1 : Upd (fun k => k = b) w w2 := ((Upd.of_below (F := fun k => k = b) HB0.out).trans HUB.out (fun _ _ h => h)).trans (Upd.of_below (F := fun k => k = b) (HW2.out)) (fun _ _ h => h)
        refine ((hu1.trans (Upd.of_below (F := fun k => k = b) HB9.out) (fun _ _ h => h)).mono (G := Foot b lv L) (fun k _ h => .inl h)).trans hu' (fun k _ h => ?_)
        rcases h with e | e
        · exact .inl e
        · exact .inr (.inl e)
end Go.Proofs.Ytoagjgcpgpjjeaa

namespace Go.Proofs.Ytoagjgcpgpjjeaa
open Go.RowKit
attribute [local simp] lcells_nil readB_length bcells_length
set_option maxHeartbeats 2000000 in
set_option maxRecDepth 100000 in
theorem eraseN_any (b : Nat) (sz : Nat) (lv : Value) (L : List Piece) (x y i j : Nat) (w : World) (hR : Rep w b sz lv L) (hxy : x < y) (hy : y ≤ 1073741824)
    (hi : L.findIdx (fun d => decide ((x : Int) < d.fin)) = i) (hj : L.findIdx (fun d => decide ((y : Int) ≤ d.org)) = j) (hij : i < j) (f t : Piece) (hf : L[i]? = some f) (ht : L[j - 1]? = some t) (hfx : x ≤ f.org) (hty : t.fin ≤ y) :
    Calls Try.prog 47 #[.pointer (some ⟨b, 0, none⟩), .int .i64 x, .int .i64 y] w fun e w' => e = .returned (.tuple #[]) ∧ ∃ lv', Str w' b (.int .i64 sz) (.int .i64 ((heldOf L - ovls x y L : Nat) : Int)) lv' (L.take i ++ [] ++ L.drop j) ∧ (lv'.ownBlock = lv.ownBlock ∨ ∃ k, lv'.ownBlock = some k ∧ w.heap.size ≤ k) ∧ Upd (Foot b lv L) w w' := by
  obtain ⟨c0, c1, c2⟩ := hR.cells
  have hbl : b < w.heap.size := World.block_lt_of_cell? w _ c0
  have hhe := hR.inv.held
  have hov := ovls_le x y L
  obtain ⟨W0, hW0⟩ : ∃ W0, W0 = (w.alloc (.cells #[.int .i64 x] 2)).alloc (.cells #[.int .i64 y] 2) := ⟨_, rfl⟩
  have hB0 : Below w.heap.size w W0 := by rw [hW0]; exact (below_al w _).alloc (by simp) _
  have cx : W0.cell? ⟨w.heap.size, 0, none⟩ = some (.int .i64 x) := by rw [hW0]; go_simp
  have cy : W0.cell? ⟨w.heap.size + 1, 0, none⟩ = some (.int .i64 y) := by rw [hW0]; go_simp
  have hR0 := hR.below hB0
  have d1 : W0.cell? ⟨b, 1, none⟩ = some (.int .i64 (heldOf L)) := hR0.cells.2.1
  have f1 : W0.frozen? ⟨b, 1, none⟩ = false := frozen_of_row W0 b 1 _ _ hR0.str.obj
  have bx : w.heap.size < W0.heap.size := World.block_lt_of_cell? W0 _ cx
  have by' : w.heap.size + 1 < W0.heap.size := World.block_lt_of_cell? W0 _ cy
  have hb0 : b < W0.heap.size := by omega
  have W1 := fun (W : World) (hW : Below W0.heap.size W0 W) => written_any b lv sz L x y W hR.inv (by omega) hy (hR0.below hW).cells.2.2 (hR0.below hW).str.row
  have HW := aside W1
  have HR0 := aside hR0
  have HB0 := aside hB0
  have HI := aside hi
  have HF := aside hf
  have HTT := aside ht
  have HIN := aside hR.inv
  have HJ := aside hj
  have hlt : (x : Int) < (y : Int) := by omega
  have hwr : IntKind.i64.wrap ((heldOf L : Int) - (ovls x y L : Int)) = ((heldOf L - ovls x y L : Nat) : Int) := by rw [IntKind.wrap_i64]; omega
  generalize hov_ : ovls x y L = ov at *
  generalize hhe_ : heldOf L = he at *
  have HOV := aside hov_
  have HHE := aside hhe_
  have HWR := aside hwr
  clear hwr
  clear W1 hR hR0 hB0 hi hj hf ht hov_ hhe_ c0 c1 c2
  go_enter Try.func47, Try.ntmps47
  go_upto_region 2 with fail
  rw [← hW0]
  clear hW0
  go_cut [4] from 11 to 108 (fun p4 wx => p4 = .pointer (some ⟨w.heap.size, 0, none⟩) ∧ ∃ wy, Below W0.heap.size W0 wy ∧ wx = wy.setCell ⟨b, 1, none⟩ (.int .i64 ((he - ov : Nat) : Int)))
  case first =>
    go_region_with (go_at_call 43; refine (HW.out _ ?_).mono ?_; (exact (Below.refl _ _).drew); rintro e w' ⟨rfl, hb⟩; have c1w : w'.cell? ⟨b, 1, none⟩ = some (.int .i64 he) := (hb.cell (p := ⟨b, 1, none⟩) hb0).trans d1; have f1w : w'.frozen? ⟨b, 1, none⟩ = false := (hb.frozen (p := ⟨b, 1, none⟩) hb0).trans f1)
    all_goals
      go_wp2_with fail
      go_meet
      case rel => exact ⟨rfl, w', below_tr (below_dr W0) hb, by rw [HWR.out]⟩
  case rest =>
    obtain ⟨rfl, wy, hwy, rfl⟩ := hcut
    have hRy := HR0.out.below hwy
    have hSt := hRy.str.set 1 (.int .i64 ((he - ov : Nat) : Int)) (.int .i64 sz) (.int .i64 ((he - ov : Nat) : Int)) rfl
    have hub : Upd (fun k => k = b) W0 (wy.setCell ⟨b, 1, none⟩ (.int .i64 ((he - ov : Nat) : Int))) := (Upd.of_below hwy).trans (Upd.setCell (F := fun k => k = b) (p := ⟨b, 1, none⟩) rfl _) (fun _ _ h => h)
    generalize wy.setCell ⟨b, 1, none⟩ (.int .i64 ((he - ov : Nat) : Int)) = wp at *
    have hps := hub.size
    have px : wp.cell? ⟨w.heap.size, 0, none⟩ = some (.int .i64 x) := (World.cell?_of_block (a := ⟨w.heap.size, 0, none⟩) (hub.block w.heap.size bx (by omega))).trans cx
    have py : wp.cell? ⟨w.heap.size + 1, 0, none⟩ = some (.int .i64 y) := (World.cell?_of_block (a := ⟨w.heap.size + 1, 0, none⟩) (hub.block (w.heap.size + 1) by' (by omega))).trans cy
    have hl2 : wp.cell? ⟨b, 2, none⟩ = some lv := by rw [cell_of_row wp b 2 _ _ _ hSt.obj]; rfl
    obtain ⟨S1, S2⟩ := erase_S b lv sz L x y wp HIN.out w.heap.size (w.heap.size + 1) px py hl2 hSt.row
    rw [HI.out] at S1
    rw [HJ.out] at S2
    have hlen := HIN.out.len
    have hjn : j ≤ L.length := by rw [← HJ.out]; exact List.findIdx_le_length
    have HS1 := aside S1
    have HS2 := aside S2
    have HST := aside hSt
    have HUB := aside hub
    clear S1 S2 hRy hwy cx cy d1 f1
    go_wp2_with fail
    refine (HS1.out _ (Below.refl _ _)).mono ?_
    rintro e w1 ⟨rfl, hb1⟩
    go_wp2_with fail
    refine (HS2.out _ hb1).mono ?_
    rintro e w2 ⟨rfl, hb2⟩
    have hw2 := below_tr hb1 hb2
    have hS2 := HST.out.below hw2
    have qx : w2.cell? ⟨w.heap.size, 0, none⟩ = some (.int .i64 x) := (hw2.cell (World.block_lt_of_cell? wp _ px)).trans px
    have qy : w2.cell? ⟨w.heap.size + 1, 0, none⟩ = some (.int .i64 y) := (hw2.cell (World.block_lt_of_cell? wp _ py)).trans py
    obtain ⟨lg, lc, hlv, hf0, hf1⟩ := row_at hS2.row (i := i) (by omega)
    obtain ⟨lg2, lc2, hlv2, ht0, ht1⟩ := row_at hS2.row (i := j - 1) (by omega)
    have ql : w2.cell? ⟨b, 2, none⟩ = some lv := by rw [cell_of_row w2 b 2 _ _ _ hS2.obj]; rfl
    rw [hlv] at hlv2 ql
    simp only [Value.slice.injEq, Option.some.injEq, Addr.mk.injEq, true_and, and_true] at hlv2
    obtain ⟨rfl, rfl⟩ := hlv2
    have ef : L[i] = f := Option.some.inj ((List.getElem?_eq_getElem (by omega)).symm.trans HF.out)
    have et : L[j - 1] = t := Option.some.inj ((List.getElem?_eq_getElem (by omega)).symm.trans HTT.out)
    rw [ef] at hf0 hf1
    rw [et] at ht0 ht1
    unfold Piece.dv at hf1 ht1
    obtain ⟨jm, hjm⟩ : ∃ jm, jm = j - 1 := ⟨_, rfl⟩
    rw [← hjm] at ht0 ht1
    have hjn1 : (j : Int) - 1 = (jm : Int) := by omega
    have hjz : (jm : Int) < (L.length : Int) := by omega
    have hjw : IntKind.i64.wrap (jm : Int) = (jm : Int) := by rw [IntKind.wrap_i64]; omega
    have hiz : (i : Int) < (L.length : Int) := by omega
    have hfL : f ∈ L := List.mem_of_getElem? HF.out
    have htL : t ∈ L := List.mem_of_getElem? HTT.out
    have hfl := HIN.out.fin f hfL
    have htl := HIN.out.fin t htL
    have hszz := HIN.out.size
    unfold Piece.fin at hfl htl hty
    have HW2 := aside hw2
    have HS2' := aside hS2
    have g1 : decide ((i : Int) < (j : Int)) = true := by simp; omega
    have g1b : decide (i < j) = true := by simp; omega
    have g2 : decide ((f.org : Int) < (x : Int)) = false := by simp; omega
    have g2b : decide (f.org < x) = false := by simp; omega
    have xx := fun d os => ext_cell qx d os
    have xl := fun d os => ext_cell ql d os
    have xf0 := fun d os => ext_cell hf0 d os
    clear hw2 hb1 hb2 hlv ef et hjm hS2 px py hl2 hSt hub
    go_wp2
    refine region_ext (by kernel_rfl) (by kernel_rfl) ?_
    repeat (any_goals (first | go_big_quiet_step ((fail)) | quiet_step ((fail))))
    refine wpQuiet_nil ?_
    intro w3 hb3
    have z_l : w3.cell? ⟨b, 2, none⟩ = some (.slice (some ⟨lg, 0, none⟩) L.length lc) := (hb3.cell (World.block_lt_of_cell? w2 _ ql)).trans ql
    have z_t0 : w3.cell? ⟨lg, jm * 2, none⟩ = some (.int .i64 t.org) := (hb3.cell (World.block_lt_of_cell? w2 _ ht0)).trans ht0
    have z_t1 : w3.cell? ⟨lg, jm * 2 + 1, none⟩ = some (.slice (some ⟨t.blk, 0, none⟩) t.bs.length t.cap) := (hb3.cell (World.block_lt_of_cell? w2 _ ht1)).trans ht1
    have z_y : w3.cell? ⟨w.heap.size + 1, 0, none⟩ = some (.int .i64 y) := (hb3.cell (World.block_lt_of_cell? w2 _ qy)).trans qy
    have yl := fun d os => ext_cell z_l d os
    have y0 := fun d os => ext_cell z_t0 d os
    have y1 := fun d os => ext_cell z_t1 d os
    have yy := fun d os => ext_cell z_y d os
    have g3 : decide ((y : Int) < (t.org : Int) + (t.bs.length : Int)) = false := by simp; omega
    have g3b : decide ((t.org : Int) + (t.bs.length : Int) > (y : Int)) = false := by simp; omega
    have HB8 := aside hb3
    clear hb3 hf0 hf1 xx xl xf0
    go_wp2
    refine region_ext (by kernel_rfl) (by kernel_rfl) ?_
    repeat (any_goals (first | go_big_quiet_step ((go_at_call 61; exact calls_ext (to_any _ _ _ _ _ (by omega) (by omega) (by omega)))) | quiet_step ((go_at_call 61; exact calls_ext (to_any _ _ _ _ _ (by omega) (by omega) (by omega))))))
    refine wpQuiet_nil ?_
    intro w7 hb7
    have hb9 := below_tr HB8.out hb7
    have hC := replacePieces b (.int .i64 sz) (.int .i64 ((he - ov : Nat) : Int)) lv (.slice none 0 0) L [] i j w7 (HS2'.out.below hb9) (by omega) hjn hlen (by simp)
      (World.ownsRow_nil _ _ _ _) (fun _ => rfl) (fun k hk h => by simp [Value.ownBlock] at hk) (by simp) (by simp) (by simp) (by simp)
    have HC := aside hC
    have HB9 := aside hb9
    clear hC hb9 hb7
    go_wp2_with fail
    refine HC.out.mono ?_
    rintro e w' ⟨rfl, lv', hS', hk', hu'⟩
    go_wp2
    go_end0
    have hsw : w.heap.size ≤ w2.heap.size := by have := World.block_lt_of_cell? w2 _ qx; simp at this; omega
    have hsc := HB9.out.size
    refine ⟨rfl, lv', hS', ?_, ?_⟩
    · rcases hk' with e | ⟨k, e, hk⟩
      · exact .inl e
      · exact .inr ⟨k, e, by omega⟩
    · have hu1 : Upd (fun k => k = b) w w2 := ((Upd.of_below (F := fun k => k = b) HB0.out).trans HUB.out (fun _ _ h => h)).trans (Upd.of_below (F := fun k => k = b) (HW2.out)) (fun _ _ h => h)
      refine ((hu1.trans (Upd.of_below (F := fun k => k = b) HB9.out) (fun _ _ h => h)).mono (G := Foot b lv L) (fun k _ h => .inl h)).trans hu' (fun k _ h => ?_)
      rcases h with e | e
      · exact .inl e
      · exact .inr (.inl e)
end Go.Proofs.Ytoagjgcpgpjjeaa

namespace Go.Proofs.Ytoagjgcpgpjjeaa
open Go.RowKit
attribute [local simp] lcells_nil readB_length bcells_length
set_option maxHeartbeats 2000000 in
set_option maxRecDepth 100000 in
theorem eraseZ_any (b : Nat) (sz : Nat) (lv : Value) (L : List Piece) (x y i j : Nat) (w : World) (hR : Rep w b sz lv L) (hxy : x < y) (hy : y ≤ 1073741824)
    (hi : L.findIdx (fun d => decide ((x : Int) < d.fin)) = i) (hj : L.findIdx (fun d => decide ((y : Int) ≤ d.org)) = j) (hij : i = j) :
    Calls Try.prog 47 #[.pointer (some ⟨b, 0, none⟩), .int .i64 x, .int .i64 y] w fun e w' => e = .returned (.tuple #[]) ∧ ∃ lv', Str w' b (.int .i64 sz) (.int .i64 ((heldOf L - ovls x y L : Nat) : Int)) lv' (L.take i ++ [] ++ L.drop j) ∧ (lv'.ownBlock = lv.ownBlock ∨ ∃ k, lv'.ownBlock = some k ∧ w.heap.size ≤ k) ∧ Upd (Foot b lv L) w w' := by
  obtain ⟨c0, c1, c2⟩ := hR.cells
  have hbl : b < w.heap.size := World.block_lt_of_cell? w _ c0
  have hhe := hR.inv.held
  have hov := ovls_le x y L
  obtain ⟨W0, hW0⟩ : ∃ W0, W0 = (w.alloc (.cells #[.int .i64 x] 2)).alloc (.cells #[.int .i64 y] 2) := ⟨_, rfl⟩
  have hB0 : Below w.heap.size w W0 := by rw [hW0]; exact (below_al w _).alloc (by simp) _
  have cx : W0.cell? ⟨w.heap.size, 0, none⟩ = some (.int .i64 x) := by rw [hW0]; go_simp
  have cy : W0.cell? ⟨w.heap.size + 1, 0, none⟩ = some (.int .i64 y) := by rw [hW0]; go_simp
  have hR0 := hR.below hB0
  have d1 : W0.cell? ⟨b, 1, none⟩ = some (.int .i64 (heldOf L)) := hR0.cells.2.1
  have f1 : W0.frozen? ⟨b, 1, none⟩ = false := frozen_of_row W0 b 1 _ _ hR0.str.obj
  have bx : w.heap.size < W0.heap.size := World.block_lt_of_cell? W0 _ cx
  have by' : w.heap.size + 1 < W0.heap.size := World.block_lt_of_cell? W0 _ cy
  have hb0 : b < W0.heap.size := by omega
  have W1 := fun (W : World) (hW : Below W0.heap.size W0 W) => written_any b lv sz L x y W hR.inv (by omega) hy (hR0.below hW).cells.2.2 (hR0.below hW).str.row
  have HW := aside W1
  have HR0 := aside hR0
  have HB0 := aside hB0
  have HI := aside hi
  have HIJ := aside hij
  clear hij
  have HIN := aside hR.inv
  have HJ := aside hj
  have hlt : (x : Int) < (y : Int) := by omega
  have hwr : IntKind.i64.wrap ((heldOf L : Int) - (ovls x y L : Int)) = ((heldOf L - ovls x y L : Nat) : Int) := by rw [IntKind.wrap_i64]; omega
  generalize hov_ : ovls x y L = ov at *
  generalize hhe_ : heldOf L = he at *
  have HOV := aside hov_
  have HHE := aside hhe_
  have HWR := aside hwr
  clear hwr
  clear W1 hR hR0 hB0 hi hj hov_ hhe_ c0 c1 c2
  go_enter Try.func47, Try.ntmps47
  go_upto_region 2 with fail
  rw [← hW0]
  clear hW0
  go_cut [4] from 11 to 108 (fun p4 wx => p4 = .pointer (some ⟨w.heap.size, 0, none⟩) ∧ ∃ wy, Below W0.heap.size W0 wy ∧ wx = wy.setCell ⟨b, 1, none⟩ (.int .i64 ((he - ov : Nat) : Int)))
  case first =>
    go_region_with (go_at_call 43; refine (HW.out _ ?_).mono ?_; (exact (Below.refl _ _).drew); rintro e w' ⟨rfl, hb⟩; have c1w : w'.cell? ⟨b, 1, none⟩ = some (.int .i64 he) := (hb.cell (p := ⟨b, 1, none⟩) hb0).trans d1; have f1w : w'.frozen? ⟨b, 1, none⟩ = false := (hb.frozen (p := ⟨b, 1, none⟩) hb0).trans f1)
    all_goals
      go_wp2_with fail
      go_meet
      case rel => exact ⟨rfl, w', below_tr (below_dr W0) hb, by rw [HWR.out]⟩
  case rest =>
    obtain ⟨rfl, wy, hwy, rfl⟩ := hcut
    have hRy := HR0.out.below hwy
    have hSt := hRy.str.set 1 (.int .i64 ((he - ov : Nat) : Int)) (.int .i64 sz) (.int .i64 ((he - ov : Nat) : Int)) rfl
    have hub : Upd (fun k => k = b) W0 (wy.setCell ⟨b, 1, none⟩ (.int .i64 ((he - ov : Nat) : Int))) := (Upd.of_below hwy).trans (Upd.setCell (F := fun k => k = b) (p := ⟨b, 1, none⟩) rfl _) (fun _ _ h => h)
    generalize wy.setCell ⟨b, 1, none⟩ (.int .i64 ((he - ov : Nat) : Int)) = wp at *
    have hps := hub.size
    have px : wp.cell? ⟨w.heap.size, 0, none⟩ = some (.int .i64 x) := (World.cell?_of_block (a := ⟨w.heap.size, 0, none⟩) (hub.block w.heap.size bx (by omega))).trans cx
    have py : wp.cell? ⟨w.heap.size + 1, 0, none⟩ = some (.int .i64 y) := (World.cell?_of_block (a := ⟨w.heap.size + 1, 0, none⟩) (hub.block (w.heap.size + 1) by' (by omega))).trans cy
    have hl2 : wp.cell? ⟨b, 2, none⟩ = some lv := by rw [cell_of_row wp b 2 _ _ _ hSt.obj]; rfl
    obtain ⟨S1, S2⟩ := erase_S b lv sz L x y wp HIN.out w.heap.size (w.heap.size + 1) px py hl2 hSt.row
    rw [HI.out] at S1
    rw [HJ.out] at S2
    have hlen := HIN.out.len
    have hjn : j ≤ L.length := by rw [← HJ.out]; exact List.findIdx_le_length
    have HS1 := aside S1
    have HS2 := aside S2
    have HST := aside hSt
    have HUB := aside hub
    clear S1 S2 hRy hwy cx cy d1 f1
    go_wp2_with fail
    refine (HS1.out _ (Below.refl _ _)).mono ?_
    rintro e w1 ⟨rfl, hb1⟩
    go_wp2_with fail
    refine (HS2.out _ hb1).mono ?_
    rintro e w2 ⟨rfl, hb2⟩
    have hw2 := below_tr hb1 hb2
    have hS2 := HST.out.below hw2
    have qx : w2.cell? ⟨w.heap.size, 0, none⟩ = some (.int .i64 x) := (hw2.cell (World.block_lt_of_cell? wp _ px)).trans px
    have qy : w2.cell? ⟨w.heap.size + 1, 0, none⟩ = some (.int .i64 y) := (hw2.cell (World.block_lt_of_cell? wp _ py)).trans py
    have HW2 := aside hw2
    have HS2' := aside hS2
    have g1 : decide ((i : Int) < (j : Int)) = false := by have := HIJ.out; simp; omega
    have g1b : decide (i < j) = false := by have := HIJ.out; simp; omega
    clear hw2 hb1 hb2 hS2 px py hl2 hSt hub
    go_wp2
    refine region_ext (by kernel_rfl) (by kernel_rfl) ?_
    repeat (any_goals (first | go_big_quiet_step ((fail)) | quiet_step ((fail))))
    refine wpQuiet_nil ?_
    intro w3 hb3
    have HB8 := aside hb3
    clear hb3
    go_wp2
    refine region_ext (by kernel_rfl) (by kernel_rfl) ?_
    repeat (any_goals (first | go_big_quiet_step ((fail)) | quiet_step ((fail))))
    refine wpQuiet_nil ?_
    intro w7 hb7
    have hb9 := below_tr HB8.out hb7
    have hC := replacePieces b (.int .i64 sz) (.int .i64 ((he - ov : Nat) : Int)) lv (.slice none 0 0) L [] i j w7 (HS2'.out.below hb9) (Nat.le_of_eq HIJ.out) hjn hlen (by simp)
      (World.ownsRow_nil _ _ _ _) (fun _ => rfl) (fun k hk h => by simp [Value.ownBlock] at hk) (by simp) (by simp) (by simp) (by simp)
    have HC := aside hC
    have HB9 := aside hb9
    clear hC hb9 hb7
    go_wp2_with fail
    refine HC.out.mono ?_
    rintro e w' ⟨rfl, lv', hS', hk', hu'⟩
    go_wp2
    go_end0
    have hsw : w.heap.size ≤ w2.heap.size := by have := World.block_lt_of_cell? w2 _ qx; simp at this; omega
    have hsc := HB9.out.size
    refine ⟨rfl, lv', hS', ?_, ?_⟩
    · rcases hk' with e | ⟨k, e, hk⟩
      · exact .inl e
      · exact .inr ⟨k, e, by omega⟩
    · have hu1 : Upd (fun k => k = b) w w2 := ((Upd.of_below (F := fun k => k = b) HB0.out).trans HUB.out (fun _ _ h => h)).trans (Upd.of_below (F := fun k => k = b) (HW2.out)) (fun _ _ h => h)
      refine ((hu1.trans (Upd.of_below (F := fun k => k = b) HB9.out) (fun _ _ h => h)).mono (G := Foot b lv L) (fun k _ h => .inl h)).trans hu' (fun k _ h => ?_)
      rcases h with e | e
      · exact .inl e
      · exact .inr (.inl e)
end Go.Proofs.Ytoagjgcpgpjjeaa

namespace Go.Proofs.Ytoagjgcpgpjjeaa
open Go.RowKit
/-- The blocks of an object are those that it had, or new ones. -/
def Grew (b : Nat) (lv : Value) (L : List Piece) (w : World) (lv' : Value) (L' : List Piece) : Prop := ∀ k, Foot b lv' L' k → Foot b lv L k ∨ w.heap.size ≤ k

theorem grew_of {b : Nat} {lv lv' : Value} {L N : List Piece} {w : World} {i j : Nat} (hv : lv'.ownBlock = lv.ownBlock ∨ ∃ k, lv'.ownBlock = some k ∧ w.heap.size ≤ k) (hN : ∀ n, n ∈ N → (∃ d, d ∈ L ∧ d.blk = n.blk) ∨ w.heap.size ≤ n.blk) : Grew b lv L w lv' (L.take i ++ N ++ L.drop j) := by
  rintro k (rfl | hk | ⟨d, hd, rfl⟩)
  · exact .inl (.inl rfl)
  · rcases hv with e | ⟨k', e, h⟩
    · exact .inl (.inr (.inl (e ▸ hk)))
    · rw [e] at hk; injection hk with hk; exact .inr (by omega)
  · simp only [List.mem_append] at hd
    rcases hd with (hd | hd) | hd
    · exact .inl (.inr (.inr ⟨d, List.mem_of_mem_take hd, rfl⟩))
    · rcases hN d hd with ⟨e, he, h⟩ | h
      · exact .inl (.inr (.inr ⟨e, he, h⟩))
      · exact .inr h
    · exact .inl (.inr (.inr ⟨d, List.mem_of_mem_drop hd, rfl⟩))

theorem erase_any (b : Nat) (sz : Nat) (lv : Value) (L : List Piece) (x y : Nat) (w : World) (hR : Rep w b sz lv L) (hxy : x < y) (hy : y ≤ 1073741824) :
    Calls Try.prog 47 #[.pointer (some ⟨b, 0, none⟩), .int .i64 x, .int .i64 y] w fun e w' => e = .returned (.tuple #[]) ∧ ∃ lv' L', Rep w' b sz lv' L' ∧ Erased L L' x y ∧ Grew b lv L w lv' L' ∧ Upd (Foot b lv L) w w' := by
  have key : ∀ (w' : World) (lv' : Value) (L' : List Piece), Str w' b (.int .i64 sz) (.int .i64 ((heldOf L - ovls x y L : Nat) : Int)) lv' L' → Erased L L' x y → Rep w' b sz lv' L' := fun w' lv' L' hS hE => by
    have hh := hE.held
    refine ⟨?_, hE.sep, hE.ne, fun d hd => ?_, hR.inv.size, by have := hR.inv.held; omega⟩
    · rw [show heldOf L - ovls x y L = heldOf L' by omega] at hS; exact hS
    · obtain ⟨e, he, -, h2, -⟩ := hE.inn d hd
      have := hR.inv.fin e he; omega
  rcases Nat.lt_or_eq_of_le (hR.inv.ij (x := x) (y := y) (by omega)) with hij | hij
  · have hjl : L.findIdx (fun d => decide ((y : Int) ≤ d.org)) ≤ L.length := List.findIdx_le_length
    obtain ⟨f, hf⟩ : ∃ f, L[L.findIdx (fun d => decide ((x : Int) < d.fin))]? = some f := ⟨_, List.getElem?_eq_getElem (by omega)⟩
    obtain ⟨t, ht⟩ : ∃ t, L[L.findIdx (fun d => decide ((y : Int) ≤ d.org)) - 1]? = some t := ⟨_, List.getElem?_eq_getElem (by omega)⟩
    have hE := fun gl cl gr cr => erased_parts hR.inv hxy rfl rfl hij hf ht gl cl gr cr
    have hfL : f ∈ L := List.mem_of_getElem? hf
    by_cases hfx : f.org < x <;> by_cases hty : y < t.fin
    · refine (eraseLR_any b sz lv L x y _ _ w hR hxy hy rfl rfl hij f t hf ht hfx hty).mono ?_
      rintro e w' ⟨rfl, lv', gl, cl, gr, cr, hS, hgl, hgr, hv, hu⟩
      have hE' := hE gl cl gr cr
      simp only [leftN, rightN, if_pos hfx, if_pos hty, List.cons_append, List.nil_append] at hE'
      refine ⟨rfl, lv', _, key _ _ _ hS hE', hE', grew_of hv (fun n hn => ?_), hu⟩
      simp only [List.mem_cons, List.not_mem_nil, or_false] at hn
      rcases hn with rfl | rfl
      · rcases hgl with e | e
        · exact .inl ⟨f, hfL, e.symm⟩
        · exact .inr e
      · exact .inr hgr
    · refine (eraseL_any b sz lv L x y _ _ w hR hxy hy rfl rfl hij f t hf ht hfx (by omega)).mono ?_
      rintro e w' ⟨rfl, lv', gl, cl, hS, hgl, hv, hu⟩
      have hE' := hE gl cl 0 0
      simp only [leftN, rightN, if_pos hfx, if_neg hty, List.append_nil] at hE'
      refine ⟨rfl, lv', _, key _ _ _ hS hE', hE', grew_of hv (fun n hn => ?_), hu⟩
      rw [List.mem_singleton.1 hn]
      rcases hgl with e | e
      · exact .inl ⟨f, hfL, e.symm⟩
      · exact .inr e
    · refine (eraseR_any b sz lv L x y _ _ w hR hxy hy rfl rfl hij f t hf ht (by omega) hty).mono ?_
      rintro e w' ⟨rfl, lv', gr, cr, hS, hgr, hv, hu⟩
      have hE' := hE 0 0 gr cr
      simp only [leftN, rightN, if_neg hfx, if_pos hty, List.nil_append] at hE'
      refine ⟨rfl, lv', _, key _ _ _ hS hE', hE', grew_of hv (fun n hn => ?_), hu⟩
      rw [List.mem_singleton.1 hn]
      exact .inr hgr
    · refine (eraseN_any b sz lv L x y _ _ w hR hxy hy rfl rfl hij f t hf ht (by omega) (by omega)).mono ?_
      rintro e w' ⟨rfl, lv', hS, hv, hu⟩
      have hE' := hE 0 0 0 0
      simp only [leftN, rightN, if_neg hfx, if_neg hty, List.append_nil] at hE'
      simp only [List.append_nil] at hS
      refine ⟨rfl, lv', _, key _ _ _ hS hE', hE', ?_, hu⟩
      have := grew_of (b := b) (L := L) (N := []) (i := L.findIdx (fun d => decide ((x : Int) < d.fin))) (j := L.findIdx (fun d => decide ((y : Int) ≤ d.org))) hv (fun n hn => by simp at hn)
      simpa only [List.append_nil] using this
  · refine (eraseZ_any b sz lv L x y _ _ w hR hxy hy rfl rfl hij).mono ?_
    rintro e w' ⟨rfl, lv', hS, hv, hu⟩
    have hE' := erased_same hR.inv hxy rfl rfl hij
    exact ⟨rfl, lv', _, key _ _ _ hS hE', hE', grew_of hv (fun n hn => by simp at hn), hu⟩
end Go.Proofs.Ytoagjgcpgpjjeaa

namespace Go.Proofs.Ytoagjgcpgpjjeaa
open Go.RowKit

theorem lay_any (b : Nat) (x0 x1 lv : Value) (sz : Nat) (L : List Piece) (x : Nat) (src : Addr) (l : List UInt8) (c : Nat) (w : World) (hS : Str w b x0 x1 lv L) (hI : Inv sz L) (h0 : 0 < l.length) (hl : l.length ≤ 4194304) (hxl : x + l.length ≤ 1073741824)
    (hsrc : ∀ j v, (bcells l)[j]? = some v → w.cell? (src.add j) = some v) :
    Calls Try.prog 44 #[.pointer (some ⟨b, 0, none⟩), .int .i64 x, .slice (some src) l.length c] w fun e w' => e = .returned (.tuple #[]) ∧ ∃ lv' L', Str w' b x0 x1 lv' L' ∧ Laid L L' x l ∧ Grew b lv L w lv' L' ∧ Upd (Foot b lv L) w w' := by
  obtain ⟨i, hi⟩ : ∃ i, L.findIdx (fun d => decide ((x : Int) ≤ d.fin)) = i := ⟨_, rfl⟩
  obtain ⟨j, hj⟩ : ∃ j, L.findIdx (fun d => decide ((x : Int) + (l.length : Int) < d.org)) = j := ⟨_, rfl⟩
  have hjl : j ≤ L.length := by rw [← hj]; exact List.findIdx_le_length
  have hil : i ≤ L.length := by rw [← hi]; exact List.findIdx_le_length
  have hijle : i ≤ j := by
    apply Nat.le_of_not_lt
    intro hlt
    rw [← hi] at hlt
    obtain ⟨ht, h1⟩ := findIdx_lt hlt
    have h2 : decide ((x : Int) + (l.length : Int) < (L[j].org : Int)) = true := by
      have := findIdx_at (q := fun d : Piece => decide ((x : Int) + (l.length : Int) < d.org)) (L := L) (by rw [hj]; exact ht)
      simpa only [hj] using this
    have h1 := of_decide_eq_false h1
    have h2 := of_decide_eq_true h2
    unfold Piece.fin at h1
    omega
  rcases Nat.lt_or_eq_of_le hijle with hij | hij
  · obtain ⟨f, hf⟩ : ∃ f, L[i]? = some f := ⟨_, List.getElem?_eq_getElem (by omega)⟩
    obtain ⟨t, ht⟩ : ∃ t, L[j - 1]? = some t := ⟨_, List.getElem?_eq_getElem (by omega)⟩
    have hE := fun g cc => laid_touch hI h0 hi hj hij hf ht g cc
    have hfL : f ∈ L := List.mem_of_getElem? hf
    obtain ⟨hlf, rfl⟩ := List.getElem?_eq_some_iff.1 hf
    obtain ⟨hlt, rfl⟩ := List.getElem?_eq_some_iff.1 ht
    have hxf : x ≤ L[i].fin := by
      have := findIdx_at (q := fun d : Piece => decide ((x : Int) ≤ d.fin)) (L := L) (by rw [hi]; exact hlf)
      have h2 : decide ((x : Int) ≤ (L[i].fin : Int)) = true := by simpa only [hi] using this
      have := of_decide_eq_true h2
      omega
    have hte : L[j - 1].org ≤ x + l.length := by
      obtain ⟨_, h2⟩ := findIdx_lt (q := fun d : Piece => decide ((x : Int) + (l.length : Int) < d.org)) (L := L) (t := j - 1) (by rw [hj]; omega)
      have h2 := of_decide_eq_false h2
      omega
    rcases Nat.lt_or_ge x L[i].org with hfx | hfx
    · refine (layMergeL_any b x0 x1 lv sz L x i j src l.length c w L[i] L[j - 1] l hS hI hxl hi hj hij hf ht rfl h0 hsrc hfx hte).mono ?_
      rintro e w' ⟨rfl, lv', g, cap, hS', hg, hv, hu⟩
      have hE' := hE g cap
      rw [show min L[i].org x = x by omega, show x - L[i].org = 0 by omega, List.take_zero, List.nil_append] at hE'
      refine ⟨rfl, lv', _, hS', hE', grew_of hv (fun n hn => ?_), hu⟩
      rw [List.mem_singleton.1 hn]; exact .inr hg
    · rcases Nat.lt_or_ge L[i].fin (x + l.length) with hfe | hfe
      · refine (layMergeR_any b x0 x1 lv sz L x i j src l.length c w L[i] L[j - 1] l hS hI hxl hi hj hij hf ht rfl h0 hsrc hfx hfe hxf hte).mono ?_
        rintro e w' ⟨rfl, lv', g, cap, hS', hg, hv, hu⟩
        have hE' := hE g cap
        rw [show min L[i].org x = L[i].org by omega] at hE'
        refine ⟨rfl, lv', _, hS', hE', grew_of hv (fun n hn => ?_), hu⟩
        rw [List.mem_singleton.1 hn]
        rcases hg with hg | hg
        · exact .inl ⟨_, hfL, hg.symm⟩
        · exact .inr hg
      · have hj1 : j = i + 1 := by
          apply Nat.le_antisymm ?_ hij
          apply Nat.le_of_not_lt
          intro hlt2
          have h3 : i + 1 < L.length := by omega
          obtain ⟨_, h2⟩ := findIdx_lt (q := fun d : Piece => decide ((x : Int) + (l.length : Int) < d.org)) (L := L) (t := i + 1) (by rw [hj]; omega)
          have h2 := of_decide_eq_false h2
          have := hI.lt hlf h3 (by omega)
          omega
        subst hj1
        refine (layIn_any b x0 x1 lv sz L x i (i + 1) src l.length c w L[i] L[i + 1 - 1] l hS hI hxl hi hj hij hf ht rfl h0 hsrc hfx hfe).mono ?_
        rintro e w' ⟨rfl, hS', hu⟩
        have hE' := hE L[i].blk L[i].cap
        have e1 : L[i].bs.take (x - L[i].org) ++ l ++ L[i + 1 - 1].bs.drop (min (x + l.length) L[i + 1 - 1].fin - L[i + 1 - 1].org) = splice L[i].bs (x - L[i].org) l := by
          simp only [Nat.add_sub_cancel]
          unfold splice
          rw [show min (x + l.length) L[i].fin - L[i].org = x - L[i].org + l.length by omega, List.append_assoc]
        rw [show min L[i].org x = L[i].org by omega, e1] at hE'
        refine ⟨rfl, lv, _, hS', hE', grew_of (.inl rfl) (fun n hn => ?_), hu.mono (fun k _ hk => .inr (.inr ⟨_, hfL, hk.symm⟩))⟩
        rw [List.mem_singleton.1 hn]
        exact .inl ⟨_, hfL, rfl⟩
  · subst hij
    refine (lay0_any b x0 x1 lv sz L x i src l c w hS hI h0 hl hxl hi hj hsrc).mono ?_
    rintro e w' ⟨rfl, lv', g, cap, hS', hg, hv, hu⟩
    refine ⟨rfl, lv', _, hS', laid_alone hI h0 hi hj g cap, grew_of hv (fun n hn => ?_), hu.mono (fun k _ hk => ?_)⟩
    · rw [List.mem_singleton.1 hn]; exact .inr hg
    · rcases hk with e | e
      · exact .inl e
      · exact .inr (.inl e)

theorem Grew.mono {b : Nat} {lv lv' : Value} {L L' : List Piece} {w W : World} (h : Grew b lv L W lv' L') (hs : w.heap.size ≤ W.heap.size) : Grew b lv L w lv' L' := fun k hk => by
  rcases h k hk with h | h
  · exact .inl h
  · exact .inr (by omega)

/-- Put where it fits. -/
theorem put_any (b sz : Nat) (lv : Value) (L : List Piece) (x : Nat) (src : Addr) (l : List UInt8) (c : Nat) (w : World) (hR : Rep w b sz lv L) (h0 : 0 < l.length) (hxl : x + l.length ≤ 1073741824) (hheld : heldOf L - ovls x (x + l.length) L + l.length ≤ 4194304)
    (hsrc : ∀ j v, (bcells l)[j]? = some v → w.cell? (src.add j) = some v) :
    Calls Try.prog 22 #[.pointer (some ⟨b, 0, none⟩), .int .i64 x, .slice (some src) l.length c] w fun e w' => e = .returned (.int .i64 0) ∧ ∃ lv' L', Rep w' b (max sz (x + l.length)) lv' L' ∧ Laid L L' x l ∧ Grew b lv L w lv' L' ∧ Upd (Foot b lv L) w w' := by
  have h := put_of b sz lv L x l.length c (some src) w (fun lv' L' => Laid L L' x l ∧ Grew b lv L w lv' L') hR h0 hxl hheld
    (fun W hW => (lay_any b _ _ lv sz L x src l c W (hR.below hW).str hR.inv h0 (by omega) hxl (fun j v hj => (hW.cell (World.block_lt_of_cell? w _ (hsrc j v hj))).trans (hsrc j v hj))).mono (by
      rintro e w' ⟨rfl, lv', L', hS, hL, hG, hu⟩
      exact ⟨rfl, lv', L', hS, ⟨hL, hG.mono hW.size⟩, hu⟩))
  refine h.mono ?_
  rintro e w' ⟨rfl, lv', L', hS, ⟨hL, hG⟩, hu⟩
  have hh := hL.held
  have ho := ovls_le x (x + l.length) L
  refine ⟨rfl, lv', L', ⟨?_, hL.sep, hL.ne, fun d hd => ?_, by have := hR.inv.size; omega, by omega⟩, hL, hG, hu⟩
  · rw [show heldOf L - ovls x (x + l.length) L + l.length = heldOf L' by omega] at hS
    exact hS
  · rcases hL.fin d hd with h1 | ⟨e, he, h1⟩
    · omega
    · have := hR.inv.fin e he; omega
end Go.Proofs.Ytoagjgcpgpjjeaa

namespace Go.Proofs.Ytoagjgcpgpjjeaa
open Go.RowKit
theorem erased_none {sz : Nat} {L : List Piece} (h : Inv sz L) {x y : Nat} (hxy : y ≤ x) : Erased L L x y := by
  refine ⟨h.sep, h.ne, fun n hn => ⟨n, hn, Nat.le_refl _, Nat.le_refl _, fun h => by omega⟩, ?_, fun p => by rw [if_neg (by omega)], fun p => ⟨fun h => ⟨h, by omega⟩, fun h => h.1⟩, by omega⟩
  rw [ovls_zero (L := L) (fun d hd => by unfold ovl; omega)]; rfl
theorem eraseAll_any (b : Nat) (sz : Nat) (lv : Value) (L : List Piece) (x y : Nat) (w : World) (hR : Rep w b sz lv L) (hy : y ≤ 1073741824) :
    Calls Try.prog 47 #[.pointer (some ⟨b, 0, none⟩), .int .i64 x, .int .i64 y] w fun e w' => e = .returned (.tuple #[]) ∧ ∃ lv' L', Rep w' b sz lv' L' ∧ Erased L L' x y ∧ Grew b lv L w lv' L' ∧ Upd (Foot b lv L) w w' := by
  rcases Nat.lt_or_ge x y with hxy | hxy
  · exact erase_any b sz lv L x y w hR hxy hy
  · refine (eraseNone_any b x y w (by omega)).mono ?_
    rintro e w' ⟨rfl, hb⟩
    exact ⟨rfl, lv, L, hR.below hb, erased_none hR.inv hxy, fun k hk => .inl hk, Upd.of_below hb⟩
theorem cutNeg_any (b : Nat) (x : Int) (w : World) (hx : x < 0) : Calls Try.prog 24 #[.pointer (some ⟨b, 0, none⟩), .int .i64 x] w fun e w' => e = .returned (.int .i64 2) ∧ w' = w := by
  go_enter Try.func24, Try.ntmps24
  go_wp2
  go_ret
  exact ⟨rfl, rfl⟩
theorem cutLong_any (b : Nat) (x : Int) (w : World) (hx : 1073741824 < x) : Calls Try.prog 24 #[.pointer (some ⟨b, 0, none⟩), .int .i64 x] w fun e w' => e = .returned (.int .i64 3) ∧ w' = w := by
  have h0 : ¬ (x < 0) := by omega
  go_enter Try.func24, Try.ntmps24
  go_wp2
  go_ret
  exact ⟨rfl, rfl⟩
theorem cut_any (b sz : Nat) (lv : Value) (L : List Piece) (x : Nat) (w : World) (hR : Rep w b sz lv L) (hx : x ≤ 1073741824) :
    Calls Try.prog 24 #[.pointer (some ⟨b, 0, none⟩), .int .i64 x] w fun e w' => e = .returned (.int .i64 0) ∧ ∃ lv' L', Rep w' b x lv' L' ∧ Erased L L' x sz ∧ Grew b lv L w lv' L' ∧ Upd (Foot b lv L) w w' := by
  have HE := aside (eraseAll_any b sz lv L x sz w hR hR.inv.size)
  obtain ⟨c0, c1, c2⟩ := hR.cells
  have h0 : ¬ ((x : Int) < 0) := by omega
  have h1 : ¬ (1073741824 < (x : Int)) := by omega
  have h2 : ¬ (1073741824 < x) := by omega
  have HR := aside hR
  clear hR
  go_enter Try.func24, Try.ntmps24
  go_wp2_with fail
  refine HE.out.mono ?_
  rintro e w' ⟨rfl, lv', L', hR', hE, hG, hu⟩
  obtain ⟨d0, d1, d2⟩ := hR'.cells
  have f0 : w'.frozen? ⟨b, 0, none⟩ = false := frozen_of_row w' b 0 _ _ hR'.str.obj
  go_wp2_with fail
  go_ret
  have hS := hR'.str.set 0 (.int .i64 x) (.int .i64 x) (.int .i64 (heldOf L')) rfl
  refine ⟨rfl, lv', L', ⟨hS, hR'.inv.sep, hR'.inv.ne, fun d hd => ?_, hx, hR'.inv.held⟩, hE, hG, hu.trans (Upd.setCell (F := fun k => k = b) (p := ⟨b, 0, none⟩) rfl _) (fun k _ h => .inl h)⟩
  obtain ⟨e, he, h3, h4, h5⟩ := hE.inn d hd
  have h6 := HR.out.inv.fin e he
  have h7 := hE.ne d hd
  unfold Piece.fin at *
  omega
end Go.Proofs.Ytoagjgcpgpjjeaa

namespace Go.Proofs.Ytoagjgcpgpjjeaa
open Go.RowKit
attribute [local simp] lcells_nil readB_length bcells_length

theorem putNone_any (b : Nat) (x : Int) (a : Option Addr) (c : Nat) (w : World) (hx : 0 ≤ x) : Calls Try.prog 22 #[.pointer (some ⟨b, 0, none⟩), .int .i64 x, .slice a 0 c] w fun e w' => e = .returned (.int .i64 0) ∧ w' = w := by
  have h0 : ¬ (x < 0) := by omega
  go_enter Try.func22, Try.ntmps22
  go_wp2
  go_ret
  exact ⟨rfl, rfl⟩

theorem putFar_any (b : Nat) (x : Int) (a : Option Addr) (n c : Nat) (w : World) (hx : 0 ≤ x) (hx2 : x ≤ 9223372036854775807) (hn0 : 0 < n) (hn : n ≤ 4611686018427387904) (h : 1073741824 < x + n) : Calls Try.prog 22 #[.pointer (some ⟨b, 0, none⟩), .int .i64 x, .slice a n c] w fun e w' => e = .returned (.int .i64 3) ∧ w' = w := by
  have h0 : ¬ (x < 0) := by omega
  have h1 : ¬ ((n : Int) = 0) := by omega
  have h2 : ¬ (n = 0) := by omega
  have h3 : (1073741824 : Int) - x < (n : Int) := by omega
  go_enter Try.func22, Try.ntmps22
  go_wp2
  go_ret
  exact ⟨rfl, rfl⟩

set_option maxHeartbeats 1000000 in
theorem putFull_any (b sz : Nat) (lv : Value) (L : List Piece) (x n c : Nat) (src : Option Addr) (w : World) (hR : Rep w b sz lv L) (h0 : 0 < n) (hxl : x + n ≤ 1073741824) (hheld : 4194304 < heldOf L - ovls x (x + n) L + n) :
    Calls Try.prog 22 #[.pointer (some ⟨b, 0, none⟩), .int .i64 x, .slice src n c] w fun e w' => e = .returned (.int .i64 3) ∧ Below w.heap.size w w' := by
  obtain ⟨c0, c1, c2⟩ := hR.cells
  have hbl : b < w.heap.size := World.block_lt_of_cell? w _ c0
  have hov := ovls_le x (x + n) L
  have hhe := hR.inv.held
  have W1 := fun (W : World) (hW : Below w.heap.size w W) => written_any b lv sz L x (x + n) W hR.inv (by omega) hxl (hR.below hW).cells.2.2 (hR.below hW).str.row
  have x1 : ∀ d os, (ext w d os).cell? ⟨b, 1, none⟩ = some (.int .i64 (heldOf L)) := fun d os => ext_cell c1 d os
  have HW := aside W1
  have hn0 : ((n : Int) == 0) = false := by simp; omega
  have hnz : ¬ (n = 0) := by omega
  generalize ovls x (x + n) L = ov at *
  generalize heldOf L = he at *
  have hbig : 4194304 < (he : Int) - ov + n := by omega
  clear W1 hR
  go_enter Try.func22, Try.ntmps22
  go_wp2
  refine region_ext (by kernel_rfl) (by kernel_rfl) ?_
  repeat (any_goals (first | go_big_quiet_step ((go_at_call 43; rw [show (x : Int) + (n : Int) = ((x + n : Nat) : Int) by omega]; exact calls_ext (HW.out _ (below_ext _ _ _)))) | quiet_step ((go_at_call 43; rw [show (x : Int) + (n : Int) = ((x + n : Nat) : Int) by omega]; exact calls_ext (HW.out _ (below_ext _ _ _))))))
  refine wpQuiet_nil ?_
  intro wq hq
  have HQ := aside hq
  clear hq
  go_wp2
  go_ret
  exact ⟨rfl, HQ.out⟩

set_option maxHeartbeats 1000000 in
/-- Punch, whole. -/
theorem punchNeg_any (b : Nat) (x n : Int) (w : World) (hx : x < 0 ∨ n < 0) : Calls Try.prog 26 #[.pointer (some ⟨b, 0, none⟩), .int .i64 x, .int .i64 n] w fun e w' => e = .returned (.int .i64 2) ∧ w' = w := by
  by_cases h : x < 0
  · have hd : decide (x < 0) = true := by simpa using h
    go_enter Try.func26, Try.ntmps26
    go_wp2
    go_ret
    exact ⟨rfl, rfl⟩
  · have hd : decide (x < 0) = false := by simpa using h
    have hn : n < 0 := by omega
    go_enter Try.func26, Try.ntmps26
    go_wp2
    go_ret
    exact ⟨rfl, rfl⟩

set_option maxHeartbeats 1000000 in
theorem punch_any (b sz : Nat) (lv : Value) (L : List Piece) (x n : Nat) (w : World) (hR : Rep w b sz lv L) :
    Calls Try.prog 26 #[.pointer (some ⟨b, 0, none⟩), .int .i64 x, .int .i64 n] w fun e w' => e = .returned (.int .i64 0) ∧ ∃ lv' L', Rep w' b sz lv' L' ∧ Erased L L' x (x + min n (sz - x)) ∧ Grew b lv L w lv' L' ∧ Upd (Foot b lv L) w w' := by
  have hsz := hR.inv.size
  obtain ⟨c0, c1, c2⟩ := hR.cells
  have d1 : decide ((x : Int) < 0) = false := by simp
  have d2 : decide ((n : Int) < 0) = false := by simp
  rcases Nat.lt_or_ge x sz with hlt | hge
  · have HE := aside (eraseAll_any b sz lv L x (x + min n (sz - x)) w hR (by omega))
    have hlt' : (x : Int) < (sz : Int) := by omega
    have hmn : min (n : Int) ((sz : Int) - (x : Int)) = ((min n (sz - x) : Nat) : Int) := by omega
    have HMN := aside hmn
    have hxx : (x : Int) + ((min n (sz - x) : Nat) : Int) = ((x + min n (sz - x) : Nat) : Int) := by omega
    have hmle : min n (sz - x) ≤ sz := by omega
    generalize min n (sz - x) = m at *
    have HXX := aside hxx
    clear hmn hxx hR
    go_enter Try.func26, Try.ntmps26
    go_wp2_with ((with_reducible refine wpList_min2 _ rfl _ _ _ rfl (n : Int) ((sz : Int) - (x : Int)) (m : Int) ?_ ?_ HMN.out ?_); rfl; rfl)
    rw [HXX.out]
    refine HE.out.mono ?_
    rintro e w' ⟨rfl, lv', L', hR', hE, hG, hu⟩
    have HH := aside (And.intro hR' (And.intro hE (And.intro hG hu)))
    clear hR' hE hG hu
    go_wp2
    go_ret
    exact ⟨rfl, lv', L', HH.out⟩
  · have hge' : ¬ ((x : Int) < (sz : Int)) := by omega
    have HR := aside hR
    clear hR
    go_enter Try.func26, Try.ntmps26
    go_wp2
    go_ret
    exact ⟨rfl, lv, L, HR.out, erased_none HR.out.inv (by omega), fun k hk => .inl hk, Upd.refl _ _⟩

set_option maxHeartbeats 1000000 in
/-- New of no bytes. -/
theorem newNone_any (a : Option Addr) (c : Nat) (w : World) (hc : c ≤ 4611686018427387904) :
    Calls Try.prog 20 #[.slice a 0 c] w fun e w' => e = .returned (.pointer (some ⟨w.heap.size, 0, none⟩)) ∧ ∃ lv, Rep w' w.heap.size 0 lv [] ∧ Below w.heap.size w w' ∧ ∀ k, Foot w.heap.size lv [] k → w.heap.size ≤ k := by
  have hR := aside (rep_new w)
  have hcc : (0 : Int) ≤ (c : Int) := by omega
  go_enter Try.func20, Try.ntmps20
  go_wp2_with ((with_reducible refine wpList_min2 _ rfl _ _ _ rfl (0 : Int) 4194304 (0 : Int) ?_ ?_ (by decide) ?_); rfl; rfl)
  refine (putNone_any _ _ _ _ _ (by omega)).mono ?_
  rintro e w' ⟨rfl, rfl⟩
  go_wp2
  go_ret
  refine ⟨rfl, .slice none 0 0, hR.out, below_al w _, ?_⟩
  rintro k (rfl | h | ⟨d, hd, -⟩)
  · exact Nat.le_refl _
  · cases h
  · simp at hd
end Go.Proofs.Ytoagjgcpgpjjeaa

namespace Go.Proofs.Ytoagjgcpgpjjeaa
open Go.RowKit

/-- What the stretches hold, without where it lies in memory. -/
def ct (L : List Piece) : List (Nat × List UInt8) := L.map fun d => (d.org, d.bs)

theorem ct_unique : ∀ {L M : List Piece}, L.Pairwise (fun a b => a.fin < b.org) → (∀ d, d ∈ L → 0 < d.bs.length) → M.Pairwise (fun a b => a.fin < b.org) → (∀ d, d ∈ M → 0 < d.bs.length) →
    (∀ p, heldAt L p ↔ heldAt M p) → (∀ p, byteAt L p = byteAt M p) → ct L = ct M := by
  intro L
  induction L with
  | nil =>
    intro M _ _ _ hMn hh _
    cases M with
    | nil => rfl
    | cons e M =>
      have hn := hMn e (by simp)
      obtain ⟨d, hd, -⟩ := (hh e.org).2 ⟨e, by simp, Nat.le_refl _, by unfold Piece.fin; omega⟩
      simp at hd
  | cons d L ih =>
    intro M hL hLn hM hMn hh hb
    cases M with
    | nil =>
      have hn := hLn d (by simp)
      obtain ⟨e, he, -⟩ := (hh d.org).1 ⟨d, by simp, Nat.le_refl _, by unfold Piece.fin; omega⟩
      simp at he
    | cons e M =>
      have hL' := List.pairwise_cons.1 hL
      have hM' := List.pairwise_cons.1 hM
      have hdn := hLn d (by simp)
      have hen := hMn e (by simp)
      have hdf : d.org < d.fin := by unfold Piece.fin; omega
      have hef : e.org < e.fin := by unfold Piece.fin; omega
      have key : ∀ {d e : Piece} {L M : List Piece}, (∀ x, x ∈ L → d.fin < x.org) → (∀ x, x ∈ M → e.fin < x.org) → d.org < d.fin → e.org < e.fin → (∀ p, heldAt (d :: L) p ↔ heldAt (e :: M) p) → e.org ≤ d.org := by
        intro d e L M h1 h2 hd he hh
        obtain ⟨x, hx, h3, h4⟩ := (hh d.org).1 ⟨d, by simp, Nat.le_refl _, hd⟩
        rcases List.mem_cons.1 hx with rfl | hx
        · exact h3
        · have := h2 x hx; omega
      have ho : d.org = e.org := Nat.le_antisymm (key hM'.1 hL'.1 hef hdf (fun p => (hh p).symm)) (key hL'.1 hM'.1 hdf hef hh)
      have key2 : ∀ {d e : Piece} {L M : List Piece}, (∀ x, x ∈ L → d.fin < x.org) → d.org < d.fin → d.org = e.org → (∀ p, heldAt (d :: L) p ↔ heldAt (e :: M) p) → e.fin ≤ d.fin := by
        intro d e L M h1 hd ho hh
        apply Nat.le_of_not_lt
        intro hlt
        obtain ⟨x, hx, h3, h4⟩ := (hh d.fin).2 ⟨e, by simp, by omega, hlt⟩
        rcases List.mem_cons.1 hx with rfl | hx
        · omega
        · have := h1 x hx; omega
      have hf : d.fin = e.fin := Nat.le_antisymm (key2 hM'.1 hef ho.symm (fun p => (hh p).symm)) (key2 hL'.1 hdf ho hh)
      have hbs : d.bs = e.bs := by
        have hlen : d.bs.length = e.bs.length := by unfold Piece.fin at hf; omega
        apply List.ext_getElem hlen
        intro i h1 h2
        have h3 := hb (d.org + i)
        rw [byteAt_mem hL (d := d) (by simp) (by omega) (by unfold Piece.fin; omega), byteAt_mem hM (d := e) (by simp) (by omega) (by unfold Piece.fin; omega)] at h3
        rw [Nat.add_sub_cancel_left, show d.org + i - e.org = i by omega] at h3
        simpa [List.getD_eq_getElem?_getD, List.getElem?_eq_getElem h1, List.getElem?_eq_getElem h2] using h3
      have tl : ct L = ct M := by
        have hx : ∀ {d : Piece} {L : List Piece}, (∀ x, x ∈ L → d.fin < x.org) → ∀ p, heldAt L p ↔ heldAt (d :: L) p ∧ d.fin < p := by
          intro d L h p
          constructor
          · rintro ⟨x, hx, h1, h2⟩
            have := h x hx
            exact ⟨⟨x, by simp [hx], h1, h2⟩, by omega⟩
          · rintro ⟨⟨x, hx, h1, h2⟩, h3⟩
            rcases List.mem_cons.1 hx with rfl | hx
            · omega
            · exact ⟨x, hx, h1, h2⟩
        have hy : ∀ {d : Piece} {L : List Piece}, (∀ x, x ∈ L → d.fin < x.org) → ∀ p, byteAt L p = if d.fin < p then byteAt (d :: L) p else 0 := by
          intro d L h p
          split
          · rw [byteAt, if_neg (by omega)]
          · exact byteAt_of_not (fun ⟨x, hx, h1, h2⟩ => by have := h x hx; omega)
        refine ih hL'.2 (fun x hx => hLn x (by simp [hx])) hM'.2 (fun x hx => hMn x (by simp [hx])) (fun p => ?_) (fun p => ?_)
        · rw [hx hL'.1 p, hx hM'.1 p, hh p, hf]
        · rw [hy hL'.1 p, hy hM'.1 p, hb p, hf]
      simp only [ct, List.map_cons, List.cons.injEq, Prod.mk.injEq] at tl ⊢
      exact ⟨⟨ho, hbs⟩, tl⟩

theorem ct_cases {L M : List Piece} (h : ct L = ct M) : (L = [] ∧ M = []) ∨ ∃ d L' e M', L = d :: L' ∧ M = e :: M' ∧ d.org = e.org ∧ d.bs = e.bs ∧ ct L' = ct M' := by
  cases L with
  | nil => cases M with
    | nil => exact .inl ⟨rfl, rfl⟩
    | cons e M => simp [ct] at h
  | cons d L => cases M with
    | nil => simp [ct] at h
    | cons e M =>
      simp only [ct, List.map_cons, List.cons.injEq, Prod.mk.injEq] at h
      exact .inr ⟨d, L, e, M, rfl, rfl, h.1.1, h.1.2, h.2⟩

theorem ct_length {L M : List Piece} (h : ct L = ct M) : L.length = M.length := by simpa [ct] using congrArg List.length h
theorem ct_held : ∀ {L M : List Piece}, ct L = ct M → heldOf L = heldOf M := by
  intro L
  induction L with
  | nil => intro M h; rcases ct_cases h with ⟨-, rfl⟩ | ⟨_, _, _, _, h1, -⟩ <;> simp_all
  | cons d L ih =>
    intro M h
    rcases ct_cases h with ⟨h1, -⟩ | ⟨d', L', e, M', h1, rfl, -, h3, h4⟩
    · simp at h1
    · obtain ⟨rfl, rfl⟩ := List.cons.inj h1
      rw [heldOf_cons, heldOf_cons, h3, ih h4]
theorem ct_ovls (x y : Nat) : ∀ {L M : List Piece}, ct L = ct M → ovls x y L = ovls x y M := by
  intro L
  induction L with
  | nil => intro M h; rcases ct_cases h with ⟨-, rfl⟩ | ⟨_, _, _, _, h1, -⟩ <;> simp_all
  | cons d L ih =>
    intro M h
    rcases ct_cases h with ⟨h1, -⟩ | ⟨d', L', e, M', h1, rfl, h2, h3, h4⟩
    · simp at h1
    · obtain ⟨rfl, rfl⟩ := List.cons.inj h1
      rw [ovls_cons, ovls_cons, ih h4]
      unfold ovl Piece.fin
      rw [h2, h3]
theorem ct_byte (p : Nat) : ∀ {L M : List Piece}, ct L = ct M → byteAt L p = byteAt M p := by
  intro L
  induction L with
  | nil => intro M h; rcases ct_cases h with ⟨-, rfl⟩ | ⟨_, _, _, _, h1, -⟩ <;> simp_all
  | cons d L ih =>
    intro M h
    rcases ct_cases h with ⟨h1, -⟩ | ⟨d', L', e, M', h1, rfl, h2, h3, h4⟩
    · simp at h1
    · obtain ⟨rfl, rfl⟩ := List.cons.inj h1
      rw [byteAt, byteAt, ih h4]
      unfold Piece.fin
      rw [h2, h3]
theorem ct_has (p : Nat) : ∀ {L M : List Piece}, ct L = ct M → (heldAt L p ↔ heldAt M p) := by
  have key : ∀ {L M : List Piece}, ct L = ct M → heldAt L p → heldAt M p := by
    intro L M h
    rintro ⟨d, hd, h1, h2⟩
    have : (d.org, d.bs) ∈ ct M := by rw [← h]; exact List.mem_map.2 ⟨d, hd, rfl⟩
    obtain ⟨e, he, h3⟩ := List.mem_map.1 this
    simp only [Prod.mk.injEq] at h3
    exact ⟨e, he, by omega, by unfold Piece.fin at *; rw [h3.2]; omega⟩
  intro L M h
  exact ⟨key h, key h.symm⟩
theorem ct_readB {L M : List Piece} (h : ct L = ct M) (x m : Nat) : readB L x m = readB M x m := List.map_congr_left fun _ _ => ct_byte _ h
theorem ct_next (sz x : Nat) : ∀ {L M : List Piece}, ct L = ct M → nextOf L sz x = nextOf M sz x := by
  intro L
  induction L with
  | nil => intro M h; rcases ct_cases h with ⟨-, rfl⟩ | ⟨_, _, _, _, h1, -⟩ <;> simp_all
  | cons d L ih =>
    intro M h
    rcases ct_cases h with ⟨h1, -⟩ | ⟨d', L', e, M', h1, rfl, h2, h3, h4⟩
    · simp at h1
    · obtain ⟨rfl, rfl⟩ := List.cons.inj h1
      have hf : d.fin = e.fin := by unfold Piece.fin; rw [h2, h3]
      have := ih h4
      unfold nextOf at this ⊢
      rw [List.find?_cons, List.find?_cons, hf]
      cases decide (x < e.fin)
      · exact this
      · simp only [h2, hf]

theorem laid_ct {L L' M M' : List Piece} {x : Nat} {l : List UInt8} (h : Laid L L' x l) (k : Laid M M' x l) (e : ct L = ct M) : ct L' = ct M' :=
  ct_unique h.sep h.ne k.sep k.ne (fun p => by rw [h.has, k.has, ct_has p e]) (fun p => by rw [h.byte, k.byte, ct_byte p e])
theorem erased_ct {L L' M M' : List Piece} {x y : Nat} (h : Erased L L' x y) (k : Erased M M' x y) (e : ct L = ct M) : ct L' = ct M' :=
  ct_unique h.sep h.ne k.sep k.ne (fun p => by rw [h.has, k.has, ct_has p e]) (fun p => by rw [h.byte, k.byte, ct_byte p e])

/-- Put, Cut, Punch: the answer, and what stands behind it. -/
def PutR (sz : Nat) (L : List Piece) (x : Int) (l : List UInt8) (r : Int) (sz' : Nat) (L' : List Piece) : Prop :=
  (x < 0 ∧ r = 2 ∧ sz' = sz ∧ L' = L) ∨ (0 ≤ x ∧ l = [] ∧ r = 0 ∧ sz' = sz ∧ L' = L) ∨
  (0 ≤ x ∧ l ≠ [] ∧ (1073741824 < x + l.length ∨ 4194304 < heldOf L - ovls x.toNat (x.toNat + l.length) L + l.length) ∧ r = 3 ∧ sz' = sz ∧ L' = L) ∨
  (0 ≤ x ∧ l ≠ [] ∧ x + l.length ≤ 1073741824 ∧ heldOf L - ovls x.toNat (x.toNat + l.length) L + l.length ≤ 4194304 ∧ r = 0 ∧ sz' = max sz (x.toNat + l.length) ∧ Laid L L' x.toNat l)
def CutR (sz : Nat) (L : List Piece) (x : Int) (r : Int) (sz' : Nat) (L' : List Piece) : Prop :=
  (x < 0 ∧ r = 2 ∧ sz' = sz ∧ L' = L) ∨ (1073741824 < x ∧ r = 3 ∧ sz' = sz ∧ L' = L) ∨ (0 ≤ x ∧ x ≤ 1073741824 ∧ r = 0 ∧ sz' = x.toNat ∧ Erased L L' x.toNat sz)
def PunchR (sz : Nat) (L : List Piece) (x n : Int) (r : Int) (sz' : Nat) (L' : List Piece) : Prop :=
  ((x < 0 ∨ n < 0) ∧ r = 2 ∧ sz' = sz ∧ L' = L) ∨ (0 ≤ x ∧ 0 ≤ n ∧ r = 0 ∧ sz' = sz ∧ Erased L L' x.toNat (x.toNat + min n.toNat (sz - x.toNat)))

theorem put_ct {sz : Nat} {L M L' M' : List Piece} {x : Int} {l : List UInt8} {r q : Int} {s t : Nat} (e : ct L = ct M) (h : PutR sz L x l r s L') (k : PutR sz M x l q t M') : r = q ∧ s = t ∧ ct L' = ct M' := by
  unfold PutR at h k
  rw [ct_held e, ct_ovls _ _ e] at h
  rcases h with ⟨h1, h2, h3, h4⟩ | ⟨h1, h2, h3, h4, h5⟩ | ⟨h1, h2, h3, h4, h5, h6⟩ | ⟨h1, h2, h3, h4, h5, h6, h7⟩ <;>
  rcases k with ⟨k1, k2, k3, k4⟩ | ⟨k1, k2, k3, k4, k5⟩ | ⟨k1, k2, k3, k4, k5, k6⟩ | ⟨k1, k2, k3, k4, k5, k6, k7⟩ <;>
  first
    | omega
    | exact absurd k2 h2
    | exact absurd h2 k2
    | (subst h4 k4; exact ⟨by omega, by omega, e⟩)
    | (subst h5 k5; exact ⟨by omega, by omega, e⟩)
    | (subst h6 k6; exact ⟨by omega, by omega, e⟩)
    | exact ⟨by omega, by omega, laid_ct h7 k7 e⟩
theorem cut_ct {sz : Nat} {L M L' M' : List Piece} {x : Int} {r q : Int} {s t : Nat} (e : ct L = ct M) (h : CutR sz L x r s L') (k : CutR sz M x q t M') : r = q ∧ s = t ∧ ct L' = ct M' := by
  unfold CutR at h k
  rcases h with ⟨h1, h2, h3, h4⟩ | ⟨h1, h2, h3, h4⟩ | ⟨h1, h2, h3, h4, h5⟩ <;>
  rcases k with ⟨k1, k2, k3, k4⟩ | ⟨k1, k2, k3, k4⟩ | ⟨k1, k2, k3, k4, k5⟩ <;>
  first
    | omega
    | (subst h4 k4; exact ⟨by omega, by omega, e⟩)
    | exact ⟨by omega, by omega, erased_ct h5 k5 e⟩
theorem punch_ct {sz : Nat} {L M L' M' : List Piece} {x n : Int} {r q : Int} {s t : Nat} (e : ct L = ct M) (h : PunchR sz L x n r s L') (k : PunchR sz M x n q t M') : r = q ∧ s = t ∧ ct L' = ct M' := by
  unfold PunchR at h k
  rcases h with ⟨h1, h2, h3, h4⟩ | ⟨h1, h2, h3, h4, h5⟩ <;>
  rcases k with ⟨k1, k2, k3, k4⟩ | ⟨k1, k2, k3, k4, k5⟩ <;>
  first
    | omega
    | (subst h4 k4; exact ⟨by omega, by omega, e⟩)
    | exact ⟨by omega, by omega, erased_ct h5 k5 e⟩
end Go.Proofs.Ytoagjgcpgpjjeaa

namespace Go.Proofs.Ytoagjgcpgpjjeaa
open Go.RowKit
attribute [local simp] lcells_nil readB_length bcells_length

theorem put_all (b sz : Nat) (lv : Value) (L : List Piece) (x : Int) (a : Option Addr) (l : List UInt8) (c : Nat) (w : World) (hR : Rep w b sz lv L) (hb : BsAt w a l) (hx : x ≤ 9223372036854775807) (hl : l.length ≤ 4611686018427387904) :
    Calls Try.prog 22 #[.pointer (some ⟨b, 0, none⟩), .int .i64 x, .slice a l.length c] w fun e w' => ∃ r sz' lv' L', e = .returned (.int .i64 r) ∧ PutR sz L x l r sz' L' ∧ Rep w' b sz' lv' L' ∧ Grew b lv L w lv' L' ∧ Upd (Foot b lv L) w w' := by
  by_cases h0 : x < 0
  · refine (putNeg_any b x _ w h0).mono ?_
    rintro e w' ⟨rfl, rfl⟩
    exact ⟨2, sz, lv, L, rfl, .inl ⟨h0, rfl, rfl, rfl⟩, hR, fun k hk => .inl hk, Upd.refl _ _⟩
  · by_cases hn : l = []
    · subst hn
      refine (putNone_any b x a c w (by omega)).mono ?_
      rintro e w' ⟨rfl, rfl⟩
      exact ⟨0, sz, lv, L, rfl, .inr (.inl ⟨by omega, rfl, rfl, rfl, rfl⟩), hR, fun k hk => .inl hk, Upd.refl _ _⟩
    · have hpos : 0 < l.length := List.length_pos_iff.2 hn
      by_cases hf : 1073741824 < x + l.length
      · refine (putFar_any b x a l.length c w (by omega) hx hpos hl hf).mono ?_
        rintro e w' ⟨rfl, rfl⟩
        exact ⟨3, sz, lv, L, rfl, .inr (.inr (.inl ⟨by omega, hn, .inl hf, rfl, rfl, rfl⟩)), hR, fun k hk => .inl hk, Upd.refl _ _⟩
      · obtain ⟨y, rfl⟩ : ∃ y : Nat, x = y := ⟨x.toNat, by omega⟩
        by_cases hh : 4194304 < heldOf L - ovls y (y + l.length) L + l.length
        · refine (putFull_any b sz lv L y l.length c a w hR hpos (by omega) hh).mono ?_
          rintro e w' ⟨rfl, hb'⟩
          exact ⟨3, sz, lv, L, rfl, .inr (.inr (.inl ⟨by omega, hn, .inr hh, rfl, rfl, rfl⟩)), hR.below hb', fun k hk => .inl hk, Upd.of_below hb'⟩
        · obtain ⟨ad, rfl, hc⟩ := hb hn
          refine (put_any b sz lv L y ad l c w hR hpos (by omega) (by omega) hc).mono ?_
          rintro e w' ⟨rfl, lv', L', hR', hL, hG, hu⟩
          exact ⟨0, _, lv', L', rfl, .inr (.inr (.inr ⟨by omega, hn, by omega, by simpa using hh, rfl, rfl, hL⟩)), hR', hG, hu⟩

theorem cut_all (b sz : Nat) (lv : Value) (L : List Piece) (x : Int) (w : World) (hR : Rep w b sz lv L) :
    Calls Try.prog 24 #[.pointer (some ⟨b, 0, none⟩), .int .i64 x] w fun e w' => ∃ r sz' lv' L', e = .returned (.int .i64 r) ∧ CutR sz L x r sz' L' ∧ Rep w' b sz' lv' L' ∧ Grew b lv L w lv' L' ∧ Upd (Foot b lv L) w w' := by
  by_cases h0 : x < 0
  · refine (cutNeg_any b x w h0).mono ?_
    rintro e w' ⟨rfl, rfl⟩
    exact ⟨2, sz, lv, L, rfl, .inl ⟨h0, rfl, rfl, rfl⟩, hR, fun k hk => .inl hk, Upd.refl _ _⟩
  · by_cases h1 : 1073741824 < x
    · refine (cutLong_any b x w h1).mono ?_
      rintro e w' ⟨rfl, rfl⟩
      exact ⟨3, sz, lv, L, rfl, .inr (.inl ⟨h1, rfl, rfl, rfl⟩), hR, fun k hk => .inl hk, Upd.refl _ _⟩
    · obtain ⟨y, rfl⟩ : ∃ y : Nat, x = y := ⟨x.toNat, by omega⟩
      refine (cut_any b sz lv L y w hR (by omega)).mono ?_
      rintro e w' ⟨rfl, lv', L', hR', hE, hG, hu⟩
      exact ⟨0, y, lv', L', rfl, .inr (.inr ⟨by omega, by omega, rfl, rfl, hE⟩), hR', hG, hu⟩

theorem punch_all (b sz : Nat) (lv : Value) (L : List Piece) (x n : Int) (w : World) (hR : Rep w b sz lv L) :
    Calls Try.prog 26 #[.pointer (some ⟨b, 0, none⟩), .int .i64 x, .int .i64 n] w fun e w' => ∃ r sz' lv' L', e = .returned (.int .i64 r) ∧ PunchR sz L x n r sz' L' ∧ Rep w' b sz' lv' L' ∧ Grew b lv L w lv' L' ∧ Upd (Foot b lv L) w w' := by
  by_cases h0 : x < 0 ∨ n < 0
  · refine (punchNeg_any b x n w h0).mono ?_
    rintro e w' ⟨rfl, rfl⟩
    exact ⟨2, sz, lv, L, rfl, .inl ⟨h0, rfl, rfl, rfl⟩, hR, fun k hk => .inl hk, Upd.refl _ _⟩
  · obtain ⟨y, rfl⟩ : ∃ y : Nat, x = y := ⟨x.toNat, by omega⟩
    obtain ⟨m, rfl⟩ : ∃ m : Nat, n = m := ⟨n.toNat, by omega⟩
    refine (punch_any b sz lv L y m w hR).mono ?_
    rintro e w' ⟨rfl, lv', L', hR', hE, hG, hu⟩
    exact ⟨0, sz, lv', L', rfl, .inr ⟨by omega, by omega, rfl, rfl, hE⟩, hR', hG, hu⟩

theorem ct_get {L M : List Piece} (h : ct L = ct M) (sz : Nat) (x n : Int) : getL L sz x n = getL M sz x n := by unfold getL; rw [ct_readB h]
end Go.Proofs.Ytoagjgcpgpjjeaa

namespace Go.Proofs.Ytoagjgcpgpjjeaa
open Go.RowKit
attribute [local simp] lcells_nil readB_length bcells_length

/-- The content that New makes. -/
def ini (l : List UInt8) : List (Nat × List UInt8) := if l = [] then [] else [(0, l.take 4194304)]
theorem new_all (a : Option Addr) (l : List UInt8) (c : Nat) (w : World) (h : BsAt w a l) (hlc : l.length ≤ c) (hc : c ≤ 4611686018427387904) :
    Calls Try.prog 20 #[.slice a l.length c] w fun e w' => e = .returned (.pointer (some ⟨w.heap.size, 0, none⟩)) ∧ ∃ lv L, Rep w' w.heap.size (min l.length 4194304) lv L ∧ ct L = ini l ∧ L.length ≤ 1 ∧ Below w.heap.size w w' ∧ ∀ k, Foot w.heap.size lv L k → w.heap.size ≤ k := by
  by_cases hn : l = []
  · subst hn
    refine (newNone_any a c w hc).mono ?_
    rintro e w' ⟨rfl, lv, hR, hb, hf⟩
    exact ⟨rfl, lv, [], by simpa using hR, by simp [ini, ct], by simp, hb, hf⟩
  · obtain ⟨ad, rfl, hs⟩ := h hn
    refine (new_any ad l c w (List.length_pos_iff.2 hn) hlc hc hs).mono ?_
    rintro e w' ⟨rfl, lv, g, cap, hR, hb, hf⟩
    refine ⟨rfl, lv, _, ?_, by simp [ini, ct, hn], by simp, hb, hf⟩
    rw [List.length_take, Nat.min_comm] at hR
    exact hR
end Go.Proofs.Ytoagjgcpgpjjeaa

namespace Go.Proofs.Ytoagjgcpgpjjeaa
open Go.RowKit
attribute [local simp] lcells_nil readB_length bcells_length
theorem cells_lit {w : World} {b : Nat} {cs : List Value} {T : TypeId} {fr : Nat × Nat} (h : w.heap[b]? = some (.cells cs.toArray T fr)) : ∀ j v, cs[j]? = some v → w.cell? ((⟨b, 0, none⟩ : Addr).add j) = some v := fun j v hj => by
  rw [Addr.add_lit, Nat.zero_add, cell_of_row w b j _ _ _ h]; simpa using hj

theorem str_of_bytes (w : World) (a : Addr) (l : List UInt8) (n c : Nat) (hn : n = l.length) (h : ∀ j v, (bcells l)[j]? = some v → w.cell? (a.add j) = some v) : (convert 22 9 (.slice (some a) n c)).run Try.prog w = .ok (.string ⟨l.toArray⟩) w := by
  subst hn
  rw [run_convert_bytes_string w 22 9 5 (some a) l.length c Try.underlying22 Try.underlying5 Try.underlying9]
  have e : bcells l = (l.map fun b => (b.toNat : Int)).map (Value.int .u8) := by simp [bcells]
  rw [run_bytesToString w a l.length c (l.map fun b => (b.toNat : Int)) (by rw [← e]; have := run_loadCells_list (P := Try.prog) (w := w) a (bcells l) h; rwa [bcells_length] at this), foldl_push_byteCells, show ByteArray.empty.data = #[] from rfl, Array.empty_append]


end Go.Proofs.Ytoagjgcpgpjjeaa

namespace Go.Proofs.Ytoagjgcpgpjjeaa
open Go.RowKit
attribute [local simp] lcells_nil readB_length bcells_length

/-- An object: its block, its size, its row, its stretches. -/
structure Ob where
  b : Nat
  sz : Nat
  lv : Value
  L : List Piece
def Ob.At (o : Ob) (w : World) : Prop := Rep w o.b o.sz o.lv o.L
def Ob.F (o : Ob) (k : Nat) : Prop := Foot o.b o.lv o.L k

theorem Rep.kept {w w' : World} {b sz : Nat} {lv : Value} {L : List Piece} {F : Nat → Prop} (h : Rep w b sz lv L) (hu : Upd F w w') (hF : ∀ k, Foot b lv L k → ¬ F k) : Rep w' b sz lv L := ⟨h.str.kept hu hF, h.inv⟩

structure Two (w0 w : World) (s t : Ob) : Prop where
  rs : s.At w
  rt : t.At w
  dis : ∀ k, s.F k → ¬ t.F k
  below : Below w0.heap.size w0 w
  fs : ∀ k, s.F k → w0.heap.size ≤ k
  ft : ∀ k, t.F k → w0.heap.size ≤ k
theorem Two.symm {w0 w : World} {s t : Ob} (h : Two w0 w s t) : Two w0 w t s := ⟨h.rt, h.rs, fun k h1 h2 => h.dis k h2 h1, h.below, h.ft, h.fs⟩
theorem Two.quiet {w0 w w' : World} {s t : Ob} (h : Two w0 w s t) (hb : Below w.heap.size w w') : Two w0 w' s t := ⟨h.rs.below hb, h.rt.below hb, h.dis, h.below.trans (hb.mono h.below.size), h.fs, h.ft⟩
theorem Two.left {w0 w w' : World} {s t : Ob} (h : Two w0 w s t) {sz' : Nat} {lv' : Value} {L' : List Piece} (hR : Rep w' s.b sz' lv' L') (hG : Grew s.b s.lv s.L w lv' L') (hu : Upd (Foot s.b s.lv s.L) w w') : Two w0 w' ⟨s.b, sz', lv', L'⟩ t := by
  refine ⟨hR, h.rt.kept hu (fun k hk hs => h.dis k hs hk), fun k hk ht => ?_, h.below.trans (hu.below h.below.size h.fs), fun k hk => ?_, h.ft⟩
  · rcases hG k hk with h1 | h1
    · exact h.dis k h1 ht
    · have := h.rt.str.lv_lt ht; omega
  · rcases hG k hk with h1 | h1
    · exact h.fs k h1
    · have := h.below.size; omega
theorem Two.right {w0 w w' : World} {s t : Ob} (h : Two w0 w s t) {sz' : Nat} {lv' : Value} {L' : List Piece} (hR : Rep w' t.b sz' lv' L') (hG : Grew t.b t.lv t.L w lv' L') (hu : Upd (Foot t.b t.lv t.L) w w') : Two w0 w' s ⟨t.b, sz', lv', L'⟩ := (h.symm.left hR hG hu).symm

theorem erased_all {sz : Nat} {L L' : List Piece} (h : Inv sz L) (hE : Erased L L' 0 sz) : L' = [] := by
  cases L' with
  | nil => rfl
  | cons d L' =>
    have hn := hE.ne d (by simp)
    obtain ⟨⟨e, he, h1, h2⟩, h3⟩ := (hE.has d.org).1 ⟨d, by simp, Nat.le_refl _, by unfold Piece.fin; omega⟩
    have := h.fin e he
    omega
theorem erased_nil {L' : List Piece} {x y : Nat} (hE : Erased [] L' x y) : L' = [] := by
  cases L' with
  | nil => rfl
  | cons d L' =>
    have hn := hE.ne d (by simp)
    obtain ⟨⟨e, he, -⟩, -⟩ := (hE.has d.org).1 ⟨d, by simp, Nat.le_refl _, by unfold Piece.fin; omega⟩
    simp at he

theorem str_all (w : World) (a : Option Addr) (l : List UInt8) (c : Nat) (h : BsAt w a l) : (convert 22 9 (.slice a l.length c)).run Try.prog w = .ok (.string ⟨l.toArray⟩) w := by
  by_cases hl : l = []
  · subst hl
    cases a with
    | none =>
      show (convert 22 9 (.slice none 0 c)).run Try.prog w = _
      rw [run_convert_bytes_string w 22 9 5 none 0 c Try.underlying22 Try.underlying5 Try.underlying9]
      rfl
    | some a => exact str_of_bytes w a [] 0 c rfl (fun j v hj => by simp [bcells] at hj)
  · obtain ⟨ad, rfl, hc⟩ := h hl
    exact str_of_bytes w ad l l.length c rfl hc
theorem NewB.bs {w : World} {B : Nat} {a : Option Addr} {l : List UInt8} (h : NewB w B a l) : BsAt w a l := fun hl => by
  rcases h with h | ⟨rfl, hh⟩
  · exact absurd h hl
  · exact ⟨_, rfl, cells_lit hh⟩
theorem NewB.below {w w' : World} {B : Nat} {a : Option Addr} {l : List UInt8} (h : NewB w B a l) (hb : Below w.heap.size w w') : NewB w' B a l := by
  rcases h with h | ⟨rfl, hh⟩
  · exact .inl h
  · exact .inr ⟨rfl, (hb.block _ (Array.getElem?_eq_some_iff.1 hh).1).trans hh⟩
/-- Noughts. -/
theorem get_empty (sz : Nat) (x n : Int) : ∃ m, getL [] sz x n = List.replicate m 0 ∧ m ≤ n.toNat := by
  unfold getL
  split
  · exact ⟨0, rfl, by omega⟩
  · exact ⟨_, readB_nil _ _, by omega⟩
end Go.Proofs.Ytoagjgcpgpjjeaa
