/- (*Bytes).lay where the bytes go on from the first stretch that they meet: all that they meet become one. -/
import Derived.Test.YtkekaljcbmkomaaMerge
namespace Go.Proofs.Ytkekaljcbmkomaa
open Go.RowKit
attribute [local simp] lcells_nil readB_length bcells_length
set_option maxHeartbeats 2000000 in
set_option maxRecDepth 100000 in
theorem layMergeR_any (b : Nat) (x0 x1 lv : Value) (sz : Nat) (L : List Piece) (x i j : Nat) (src : Addr) (n c : Nat) (w : World) (f t : Piece) (l : List UInt8) (hS : Str w b x0 x1 lv L) (hI : Inv sz L) (hxl : x + n ≤ 1073741824)
    (hi : L.findIdx (fun d => decide ((x : Int) ≤ d.fin)) = i) (hj : L.findIdx (fun d => decide ((x : Int) + (n : Int) < d.org)) = j) (hij : i < j) (hf : L[i]? = some f) (ht : L[j - 1]? = some t)
    (hnl : n = l.length) (h0 : 0 < n) (hsrc : ∀ j v, (bcells l)[j]? = some v → w.cell? (src.add j) = some v) (hfx : f.org ≤ x) (hfe : f.fin < x + n) (hxf : x ≤ f.fin) (hte : t.org ≤ x + n) :
    Calls Try.prog 36 #[.pointer (some ⟨b, 0, none⟩), .int .i64 x, .slice (some src) n c] w fun e w' => e = .returned (.tuple #[]) ∧ ∃ lv' g cap, Str w' b x0 x1 lv' (L.take i ++ [⟨f.org, g, cap, f.bs.take (x - f.org) ++ l ++ t.bs.drop (min (x + n) t.fin - t.org)⟩] ++ L.drop j) ∧ (g = f.blk ∨ w.heap.size ≤ g) ∧ (lv'.ownBlock = lv.ownBlock ∨ ∃ k, lv'.ownBlock = some k ∧ w.heap.size ≤ k) ∧ Upd (Foot b lv L) w w' := by
  have hlen := hI.len
  have hjn : j ≤ L.length := by rw [← hj]; exact List.findIdx_le_length
  obtain ⟨W0, hW0⟩ : ∃ W0, W0 = (w.alloc (.cells #[.int .i64 x] 2)).alloc (.cells #[.int .i64 ((x : Int) + (n : Int))] 2) := ⟨_, rfl⟩
  have hl2 : w.cell? ⟨b, 2, none⟩ = some lv := by rw [cell_of_row w b 2 _ _ _ hS.obj]; rfl
  obtain ⟨S1, S2, hB0, cx, cy⟩ := lay_S b lv sz L x ((x : Int) + (n : Int)) w hI hl2 hS.row W0 hW0
  rw [hi] at S1
  rw [hj] at S2
  have bx : w.heap.size < W0.heap.size := World.block_lt_of_cell? W0 _ cx
  have by' : w.heap.size + 1 < W0.heap.size := World.block_lt_of_cell? W0 _ cy
  have hbl : b < w.heap.size := World.block_lt_of_cell? w _ hl2
  have HS1 := aside S1
  have HS2 := aside S2
  have HB0 := aside hB0
  have HS := aside hS
  have CX := aside cx
  have CY := aside cy
  have HL2 := aside hl2
  have HF := aside hf
  have HBD : Aside (∀ d, d ∈ L → d.bs.length ≤ 4294967296) := fun d hd => (hI.bd d hd).2
  have HIN := aside hI
  have HSR := aside hsrc
  have HNL := aside hnl
  have HTT := aside ht
  clear S1 S2 hB0 hS cx cy hI hi hj hl2 hf ht hsrc hnl
  have hijz : ((i : Int) == (j : Int)) = false := by simp; omega
  have hnez : ¬ (i = j) := by omega
  go_enter Try.func36, Try.ntmps36
  go_wp2_with fail
  rw [← hW0]
  refine (HS1.out _ (Below.refl _ _)).mono ?_
  rintro e w1 ⟨rfl, hb1⟩
  go_wp2_with fail
  refine (HS2.out _ hb1).mono ?_
  rintro e w2 ⟨rfl, hb2⟩
  have cx2 : w2.cell? ⟨w.heap.size, 0, none⟩ = some (.int .i64 x) := ((below_tr hb1 hb2).cell bx).trans CX.out
  have cy2 : w2.cell? ⟨w.heap.size + 1, 0, none⟩ = some (.int .i64 ((x : Int) + (n : Int))) := ((below_tr hb1 hb2).cell by').trans CY.out
  have hw2 := below_tr HB0.out (below_tr hb1 hb2)
  have HB2 := aside hw2
  clear hb1 hb2 hW0
  obtain ⟨lg, lc, hlv, hf0, hf1⟩ := row_at (row_below HS.out.row hw2) (i := i) (by omega)
  obtain ⟨lg2, lc2, hlv2, ht0, ht1⟩ := row_at (row_below HS.out.row hw2) (i := j - 1) (by omega)
  rw [hlv] at hlv2
  simp only [Value.slice.injEq, Option.some.injEq, Addr.mk.injEq, true_and, and_true] at hlv2
  obtain ⟨rfl, rfl⟩ := hlv2
  have hc2 : w2.cell? ⟨b, 2, none⟩ = some (.slice (some ⟨lg, 0, none⟩) L.length lc) := by rw [← hlv]; exact (hw2.cell hbl).trans HL2.out
  have ef : L[i] = f := Option.some.inj ((List.getElem?_eq_getElem (by omega)).symm.trans HF.out)
  have et : L[j - 1] = t := Option.some.inj ((List.getElem?_eq_getElem (by omega)).symm.trans HTT.out)
  rw [ef] at hf0 hf1
  rw [et] at ht0 ht1
  unfold Piece.dv at hf1 ht1
  have hiz : (i : Int) < (L.length : Int) := by omega
  obtain ⟨jm, hjm⟩ : ∃ jm, jm = j - 1 := ⟨_, rfl⟩
  rw [← hjm] at ht0 ht1
  have hjn1 : (j : Int) - 1 = (jm : Int) := by omega
  have hjz : (jm : Int) < (L.length : Int) := by omega
  have hjw : IntKind.i64.wrap (jm : Int) = (jm : Int) := by rw [IntKind.wrap_i64]; omega
  have HJM := aside hjm
  clear hjm
  clear hw2 hlv ef et
  go_upto_region 6 with fail
  go_cut [9, 10] from 25 to 110 (fun p9 p10 wx => ∃ b9 b10 : Nat, p9 = .pointer (some ⟨b9, 0, none⟩) ∧ p10 = .pointer (some ⟨b10, 0, none⟩) ∧ b9 ≠ b10 ∧ w2.heap.size ≤ b9 ∧ w2.heap.size ≤ b10 ∧ wx.heap[b9]? = some (.cells #[.int .i64 f.org, .slice (some ⟨f.blk, 0, none⟩) f.bs.length f.cap] 56 (0, 0)) ∧ wx.heap[b10]? = some (.cells #[.int .i64 t.org, .slice (some ⟨t.blk, 0, none⟩) t.bs.length t.cap] 56 (0, 0)) ∧ Below w2.heap.size w2 wx)
  case first =>
    go_region_held2 (fun w' => w'.cell? ⟨b, 2, none⟩ = some (.slice (some ⟨lg, 0, none⟩) L.length lc) ∧ w'.cell? ⟨lg, i * 2, none⟩ = some (.int .i64 f.org) ∧ w'.cell? ⟨lg, i * 2 + 1, none⟩ = some (.slice (some ⟨f.blk, 0, none⟩) f.bs.length f.cap) ∧ w'.cell? ⟨lg, jm * 2, none⟩ = some (.int .i64 t.org) ∧ w'.cell? ⟨lg, jm * 2 + 1, none⟩ = some (.slice (some ⟨t.blk, 0, none⟩) t.bs.length t.cap)) (go_keep) (fail)
    all_goals
      go_wp2_with fail
      go_meet
      case rel =>
        first
          | exact ⟨w2.heap.size, w2.heap.size + 1, rfl, rfl, by omega, Nat.le_refl _, by omega, two_old w2 _ _, two_new w2 _ _, two_below w2 _ _⟩
          | exact ⟨w2.heap.size + 1, w2.heap.size, rfl, rfl, by omega, by omega, Nat.le_refl _, two_new w2 _ _, two_old w2 _ _, two_below w2 _ _⟩
  case rest =>
    obtain ⟨b9, b10, rfl, rfl, hne, h9, h10, hh9, hh10, hbc⟩ := hcut
    have d90 : wc.cell? ⟨b9, 0, none⟩ = some (.int .i64 f.org) := by rw [cell_of_row wc b9 0 _ _ _ hh9]; rfl
    have d91 : wc.cell? ⟨b9, 1, none⟩ = some (.slice (some ⟨f.blk, 0, none⟩) f.bs.length f.cap) := by rw [cell_of_row wc b9 1 _ _ _ hh9]; rfl
    have d100 : wc.cell? ⟨b10, 0, none⟩ = some (.int .i64 t.org) := by rw [cell_of_row wc b10 0 _ _ _ hh10]; rfl
    have d101 : wc.cell? ⟨b10, 1, none⟩ = some (.slice (some ⟨t.blk, 0, none⟩) t.bs.length t.cap) := by rw [cell_of_row wc b10 1 _ _ _ hh10]; rfl
    have bx2 : w.heap.size < w2.heap.size := World.block_lt_of_cell? w2 _ cx2
    have by2 : w.heap.size + 1 < w2.heap.size := World.block_lt_of_cell? w2 _ cy2
    have dx : wc.cell? ⟨w.heap.size, 0, none⟩ = some (.int .i64 x) := (hbc.cell bx2).trans cx2
    have dy : wc.cell? ⟨w.heap.size + 1, 0, none⟩ = some (.int .i64 ((x : Int) + (n : Int))) := (hbc.cell by2).trans cy2
    have hfL : f ∈ L := List.mem_of_getElem? HF.out
    have htL : t ∈ L := List.mem_of_getElem? HTT.out
    unfold Piece.fin at hfe hxf
    have hfl := HIN.out.fin f hfL
    have htl := HIN.out.fin t htL
    have hszz := HIN.out.size
    have htn := HIN.out.ne t htL
    unfold Piece.fin at hfl htl
    have HWC := aside (below_tr HB2.out hbc)
    clear hh10 hbc hf0 hf1 ht0 ht1 hc2
    have xx := fun d os => ext_cell dx d os
    have xy := fun d os => ext_cell dy d os
    have x90 := fun d os => ext_cell d90 d os
    have x91 := fun d os => ext_cell d91 d os
    have g1 : decide ((f.org : Int) ≤ (x : Int)) = true := by simp; omega
    have g1b : decide (f.org ≤ x) = true := by simp; omega
    have g2 : decide ((x : Int) + (n : Int) ≤ (f.org : Int) + (f.bs.length : Int)) = false := by simp; omega
    go_wp2
    refine region_ext (by kernel_rfl) (by kernel_rfl) ?_
    repeat (any_goals (first | go_big_quiet_step ((go_at_call 41; exact calls_ext (to_any _ _ _ _ _ (by omega) (by omega) (by omega)))) | quiet_step ((go_at_call 41; exact calls_ext (to_any _ _ _ _ _ (by omega) (by omega) (by omega))))))
    refine wpQuiet_nil ?_
    intro wq hq
    have e90 : wq.cell? ⟨b9, 0, none⟩ = some (.int .i64 f.org) := (hq.cell (World.block_lt_of_cell? wc _ d90)).trans d90
    have e91 : wq.cell? ⟨b9, 1, none⟩ = some (.slice (some ⟨f.blk, 0, none⟩) f.bs.length f.cap) := (hq.cell (World.block_lt_of_cell? wc _ d91)).trans d91
    have e100 : wq.cell? ⟨b10, 0, none⟩ = some (.int .i64 t.org) := (hq.cell (World.block_lt_of_cell? wc _ d100)).trans d100
    have e101 : wq.cell? ⟨b10, 1, none⟩ = some (.slice (some ⟨t.blk, 0, none⟩) t.bs.length t.cap) := (hq.cell (World.block_lt_of_cell? wc _ d101)).trans d101
    have ex : wq.cell? ⟨w.heap.size, 0, none⟩ = some (.int .i64 x) := (hq.cell (World.block_lt_of_cell? wc _ dx)).trans dx
    have ey : wq.cell? ⟨w.heap.size + 1, 0, none⟩ = some (.int .i64 ((x : Int) + (n : Int))) := (hq.cell (World.block_lt_of_cell? wc _ dy)).trans dy
    have hh9q : wq.heap[b9]? = some (.cells #[.int .i64 f.org, .slice (some ⟨f.blk, 0, none⟩) f.bs.length f.cap] 56 (0, 0)) := (hq.block b9 (Array.getElem?_eq_some_iff.1 hh9).1).trans hh9
    have HWQ := aside (below_tr HWC.out hq)
    clear xx xy x90 x91 d90 d91 d100 d101 dx dy hh9
    obtain ⟨lo, hlo⟩ : ∃ lo, lo = min (x + n) (t.org + t.bs.length) - t.org := ⟨_, rfl⟩
    have HLO := aside hlo
    have htc : t.bs.length ≤ t.cap ∧ t.cap ≤ maxLen := by
      obtain ⟨_, _, e, h1, h2⟩ := row_form (HS.out.data t htL)
      simp only [Piece.dv, Value.slice.injEq, true_and] at e
      omega
    have hlo1 : lo ≤ t.bs.length := by omega
    have hw1 : IntKind.i64.wrap (lo : Int) = (lo : Int) := by rw [IntKind.wrap_i64]; omega
    clear hlo
    go_upto_region 9 with fail
    go_cut [11] from 25 to 110 (fun p11 wx => ∃ (ta : Option Addr) (tc : Nat), p11 = .slice ta (t.bs.length - lo) tc ∧ (0 < t.bs.length - lo → ta = some ⟨t.blk, lo, none⟩) ∧ Below wq.heap.size wq wx)
    case first =>
      have xy := fun d os => ext_cell ey d os
      have x100 := fun d os => ext_cell e100 d os
      have x101 := fun d os => ext_cell e101 d os
      by_cases hmn : (t.org : Int) + (t.bs.length : Int) < (x : Int) + (n : Int)
      · have HLE : Aside (lo = t.bs.length) := by have := HLO.out; show lo = t.bs.length; omega
        by_cases hcp : t.cap = t.bs.length
        all_goals
          refine region_ext (by kernel_rfl) (by kernel_rfl) ?_
          repeat (any_goals (first | go_big_quiet_step ((go_at_call 41; exact calls_ext (to_any _ _ _ _ _ (by omega) (by omega) (by omega)))) | quiet_step ((go_at_call 41; exact calls_ext (to_any _ _ _ _ _ (by omega) (by omega) (by omega))))))
          refine wpQuiet_nil ?_
          intro wr hr
          go_wp2_with fail
          go_meet
          case rel =>
            rw [HLE.out]
            simp only [Nat.add_sub_cancel_left]
            exact ⟨_, _, rfl, fun h => by omega, hr⟩
      · have hlz : (x : Int) + (n : Int) - (t.org : Int) = (lo : Int) := by have := HLO.out; omega
        by_cases hcp : t.cap = lo
        all_goals
          refine region_ext (by kernel_rfl) (by kernel_rfl) ?_
          repeat (any_goals (first | go_big_quiet_step ((go_at_call 41; exact calls_ext (to_any _ _ _ _ _ (by omega) (by omega) (by omega)))) | quiet_step ((go_at_call 41; exact calls_ext (to_any _ _ _ _ _ (by omega) (by omega) (by omega))))))
          refine wpQuiet_nil ?_
          intro wr hr
          go_wp2_with fail
          go_meet
          case rel => exact ⟨_, _, rfl, fun h => by first | rfl | omega, hr⟩
    case rest =>
      obtain ⟨ta, tc, rfl, hta, hbc⟩ := hcut
      have hb9 : b9 < wq.heap.size := (Array.getElem?_eq_some_iff.1 hh9q).1
      have a90 : wc.cell? ⟨b9, 0, none⟩ = some (.int .i64 f.org) := (hbc.cell (World.block_lt_of_cell? wq _ e90)).trans e90
      have a91 : wc.cell? ⟨b9, 1, none⟩ = some (.slice (some ⟨f.blk, 0, none⟩) f.bs.length f.cap) := (hbc.cell (World.block_lt_of_cell? wq _ e91)).trans e91
      have ax : wc.cell? ⟨w.heap.size, 0, none⟩ = some (.int .i64 x) := (hbc.cell (World.block_lt_of_cell? wq _ ex)).trans ex
      have hh9c : wc.heap[b9]? = some (.cells #[.int .i64 f.org, .slice (some ⟨f.blk, 0, none⟩) f.bs.length f.cap] 56 (0, 0)) := (hbc.block b9 hb9).trans hh9q
      have hwc : Below w.heap.size w wc := below_tr HWQ.out hbc
      clear e90 e91 e100 e101 ex ey hh9q hbc hb9
      obtain ⟨p, hp⟩ : ∃ p, p = x - f.org := ⟨_, rfl⟩
      have hpz : (x : Int) - (f.org : Int) = (p : Int) := by omega
      have hpl : p ≤ f.bs.length := by omega
      have hSc := HS.out.below hwc
      have hfr := hSc.data f hfL
      have hfc : f.bs.length ≤ f.cap ∧ f.cap ≤ maxLen := by
        obtain ⟨_, _, e, h1, h2⟩ := row_form hfr
        simp only [Piece.dv, Value.slice.injEq, true_and] at e
        omega
      have hpr : wc.ownsRow 0 5 1 (.slice (some ⟨f.blk, 0, none⟩) p f.cap) p (bcells (f.bs.take p)) := by
        rcases hfr.2 with ⟨hbad, -⟩ | ⟨g', cap', cur, hgv, -, hgc, hg1, hg2, hg3, hg4⟩
        · simp [Piece.dv] at hbad
        · simp only [Piece.dv, Value.slice.injEq, Option.some.injEq, Addr.mk.injEq, true_and, and_true] at hgv
          obtain ⟨rfl, rfl⟩ := hgv
          refine ⟨by simp; omega, .inr ⟨f.blk, f.cap, cur, rfl, Nat.zero_le _, hgc, by omega, hg2, hg3, ?_⟩⟩
          rw [show bcells (f.bs.take p) = (bcells f.bs).take p by simp [bcells, List.map_take], ← hg4, List.take_take]; congr 1; omega
      have hsr : ∀ j v, (bcells l)[j]? = some v → wc.cell? (src.add j) = some v := fun j v h => (hwc.cell (World.block_lt_of_cell? w _ (HSR.out j v h))).trans (HSR.out j v h)
      have hlen1 : (f.bs.take p).length = p := by rw [List.length_take]; omega
      have HP := aside hp
      have HPR := aside hpr
      have HSRC := aside hsr
      have HSC := aside hSc
      have HWCC := aside hwc
      have HL1 := aside hlen1
      have HTA := aside hta
      have HH9 := aside hh9c
      have hfcz : f.cap ≤ 9223372036854775807 := by have := hfc.2; unfold maxLen at this; omega
      have hpc : p ≤ f.cap := by omega
      have b9lt : b9 < wc.heap.size := (Array.getElem?_eq_some_iff.1 hh9c).1
      have hf9 : f.blk ≠ b9 := fun e => by have := (HS.out.data f hfL).lt f.blk rfl; omega
      have hgt : ¬ ((x : Int) < (f.org : Int)) := by omega
      have fr9 : ∀ o, wc.frozen? ⟨b9, o, none⟩ = false := fun o => frozen_of_row wc b9 o _ _ hh9c
      have htl2 : (t.bs.drop lo).length = t.bs.length - lo := by rw [List.length_drop]
      have hb9F : ¬ Foot b lv L b9 := fun h => by have := HS.out.lv_lt h; omega
      have hb9x : b9 ≠ w.heap.size := by omega
      have st5 : ∀ (g4 cap4 : Nat) (w4 : World), w4.ownsRow 0 5 1 (.slice (some ⟨g4, 0, none⟩) (p + n) cap4) (p + n) (bcells (f.bs.take p ++ l)) → wc.grownBy w4 (some f.blk) → (g4 = f.blk ∨ wc.heap.size ≤ g4) →
          (w4.setCell ⟨b9, 1, none⟩ (.slice (some ⟨g4, 0, none⟩) (p + n) cap4)).ownsRow 0 5 1 (.slice (some ⟨g4, 0, none⟩) (p + n) cap4) (p + n) (bcells (f.bs.take p ++ l)) ∧
          (0 < t.bs.length - lo → ∃ ad, ta = some ad ∧ ∀ j u, (bcells (t.bs.drop lo))[j]? = some u → (w4.setCell ⟨b9, 1, none⟩ (.slice (some ⟨g4, 0, none⟩) (p + n) cap4)).cell? (ad.add j) = some u) ∧
          Upd (fun k => k = f.blk ∨ k = b9) wc (w4.setCell ⟨b9, 1, none⟩ (.slice (some ⟨g4, 0, none⟩) (p + n) cap4)) ∧
          (w4.setCell ⟨b9, 1, none⟩ (.slice (some ⟨g4, 0, none⟩) (p + n) cap4)).heap[b9]? = some (.cells #[.int .i64 f.org, .slice (some ⟨g4, 0, none⟩) (p + n) cap4] 56 (0, 0)) := fun g4 cap4 w4 ho hg hw => by
        have hg49 : g4 ≠ b9 := by rcases hw with e | e; rw [e]; exact hf9; omega
        have hu4 : Upd (fun k => k = f.blk ∨ k = b9) wc w4 := Upd.of_grown hg (fun k hk => by injection hk with hk; exact .inl hk.symm)
        have hu5 := hu4.trans (Upd.setCell (F := fun k => k = b9) (p := ⟨b9, 1, none⟩) rfl (.slice (some ⟨g4, 0, none⟩) (p + n) cap4)) (fun k _ h => .inr h)
        have hh94 : w4.heap[b9]? = some (.cells #[.int .i64 f.org, .slice (some ⟨f.blk, 0, none⟩) f.bs.length f.cap] 56 (0, 0)) := (hg.block b9 b9lt (by intro e; injection e with e; exact hf9 e.symm)).trans hh9c
        refine ⟨(Upd.setCell (F := fun k => k = b9) (p := ⟨b9, 1, none⟩) rfl _).row ho (fun k hk e => ?_), fun h0 => ?_, hu5, ?_⟩
        · simp only [Value.ownBlock, Option.some.injEq] at hk; exact hg49 (by rw [hk, e])
        · refine ⟨_, hta h0, fun k u hk => ?_⟩
          have htf : t.blk ≠ f.blk := nd_ne HS.out.nd HTT.out HF.out (fun e => by
            have e2 : t = f := by have h1 := HTT.out; rw [e, HF.out] at h1; exact (Option.some.inj h1).symm
            have := HLO.out
            rw [e2] at h0 this
            omega)
          have ht9 : t.blk ≠ b9 := fun e => hb9F (.inr (.inr ⟨t, htL, e⟩))
          have hkl : k < (bcells (t.bs.drop lo)).length := (List.getElem?_eq_some_iff.1 hk).1
          rw [bcells_length, htl2] at hkl
          have hrt := hSc.data t htL
          unfold Piece.dv at hrt
          have hc1 : wc.cell? ⟨t.blk, lo + k, none⟩ = some u := by
            rw [hrt.cellAt (lo + k) (by omega), ← hk]
            simp only [bcells, List.getElem?_map, List.getElem?_drop]
          rw [Addr.add_lit]
          have hblk := hu5.block t.blk (World.block_lt_of_cell? wc _ hc1) (fun h => by rcases h with e | e; exact htf e; exact ht9 e)
          exact (World.cell?_of_block (a := ⟨t.blk, lo + k, none⟩) hblk).trans hc1
        · rw [heap_setCell_same w4 b9 1 _ _ _ hh94]; rfl
      have st7 : ∀ (g4 cap4 : Nat) (w4 : World) (g6 cap6 : Nat) (w6 : World), w4.ownsRow 0 5 1 (.slice (some ⟨g4, 0, none⟩) (p + n) cap4) (p + n) (bcells (f.bs.take p ++ l)) → wc.grownBy w4 (some f.blk) → (g4 = f.blk ∨ wc.heap.size ≤ g4) →
          w6.ownsRow 0 5 1 (.slice (some ⟨g6, 0, none⟩) (p + n + (t.bs.length - lo)) cap6) (p + n + (t.bs.length - lo)) (bcells (f.bs.take p ++ l ++ t.bs.drop lo)) → (w4.setCell ⟨b9, 1, none⟩ (.slice (some ⟨g4, 0, none⟩) (p + n) cap4)).grownBy w6 (some g4) → (g6 = g4 ∨ (w4.setCell ⟨b9, 1, none⟩ (.slice (some ⟨g4, 0, none⟩) (p + n) cap4)).heap.size ≤ g6) →
          w6.heap[b9]? = some (.cells #[.int .i64 f.org, .slice (some ⟨g4, 0, none⟩) (p + n) cap4] 56 (0, 0)) ∧
          Calls Try.prog 47 #[.pointer (some ⟨b, 0, none⟩), .int .i64 i, .int .i64 j, .slice (some ⟨w6.heap.size, 0, none⟩) 1 1] ((w6.setCell ⟨b9, 1, none⟩ (.slice (some ⟨g6, 0, none⟩) (p + n + (t.bs.length - lo)) cap6)).alloc (.cells #[.int .i64 f.org, .slice (some ⟨g6, 0, none⟩) (p + n + (t.bs.length - lo)) cap6] 56)) fun e w' => e = .returned (.tuple #[]) ∧ ∃ lv', Str w' b x0 x1 lv' (L.take i ++ [⟨f.org, g6, cap6, f.bs.take p ++ l ++ t.bs.drop lo⟩] ++ L.drop j) ∧ (g6 = f.blk ∨ w.heap.size ≤ g6) ∧ (lv'.ownBlock = lv.ownBlock ∨ ∃ k, lv'.ownBlock = some k ∧ w.heap.size ≤ k) ∧ Upd (Foot b lv L) w w' := fun g4 cap4 w4 g6 cap6 w6 ho hg hw ho6 hg6 hw6 => by
        obtain ⟨-, -, hu5, hh95⟩ := st5 g4 cap4 w4 ho hg hw
        have hs4 := hg.size
        rw [World.size_setCell] at hw6
        have hg6r : g6 = f.blk ∨ wc.heap.size ≤ g6 := by
          rcases hw6 with e | e
          · rw [e]; exact hw
          · exact .inr (by omega)
        have hg69 : g6 ≠ b9 := by rcases hg6r with e | e; rw [e]; exact hf9; omega
        have hg49 : g4 ≠ b9 := by rcases hw with e | e; rw [e]; exact hf9; omega
        have hh96 : w6.heap[b9]? = some (.cells #[.int .i64 f.org, .slice (some ⟨g4, 0, none⟩) (p + n) cap4] 56 (0, 0)) := (hg6.block b9 (by rw [World.size_setCell]; omega) (by intro e; injection e with e; exact hg49 e.symm)).trans hh95
        have hu6 : Upd (fun k => k = f.blk ∨ k = b9) wc w6 := hu5.trans (Upd.of_grown (F := fun k => k = g4) hg6 (fun k hk => by injection hk with hk; exact hk.symm)) (fun k hk e => by
          rcases hw with e1 | e1
          · exact .inl (by rw [e, e1])
          · omega)
        have hu7 := hu6.trans (Upd.setCell (F := fun k => k = b9) (p := ⟨b9, 1, none⟩) rfl (.slice (some ⟨g6, 0, none⟩) (p + n + (t.bs.length - lo)) cap6)) (fun k _ h => .inr h)
        have hu8 := hu7.trans (G := fun _ => False) (Upd.of_below (below_al _ (.cells #[.int .i64 f.org, .slice (some ⟨g6, 0, none⟩) (p + n + (t.bs.length - lo)) cap6] 56))) (fun _ _ h => h.elim)
        have hBl : (f.bs.take p ++ l ++ t.bs.drop lo).length = p + n + (t.bs.length - lo) := by rw [List.length_append, List.length_append, hlen1, htl2, ← HNL.out]
        refine ⟨hh96, ?_⟩
        have hm := merge_call b b9 w6.heap.size x0 x1 lv L i j f.org g6 cap6 f (f.bs.take p ++ l ++ t.bs.drop lo) wc ((w6.setCell ⟨b9, 1, none⟩ (.slice (some ⟨g6, 0, none⟩) (p + n + (t.bs.length - lo)) cap6)).alloc (.cells #[.int .i64 f.org, .slice (some ⟨g6, 0, none⟩) (p + n + (t.bs.length - lo)) cap6] 56)) hSc HF.out hij hjn hlen hu8 hb9F
          (by rw [hBl]; exact row_below ((Upd.setCell (F := fun k => k = b9) (p := ⟨b9, 1, none⟩) rfl _).row ho6 (fun k hk e => by simp only [Value.ownBlock, Option.some.injEq] at hk; exact hg69 (by rw [hk, e]))) (below_al _ _)) hg6r
          (by rw [hBl]; have := heap_alloc_new (w6.setCell ⟨b9, 1, none⟩ (.slice (some ⟨g6, 0, none⟩) (p + n + (t.bs.length - lo)) cap6)) (.cells #[.int .i64 f.org, .slice (some ⟨g6, 0, none⟩) (p + n + (t.bs.length - lo)) cap6] 56); rwa [World.size_setCell] at this) (by have := hu6.size; omega)
        refine hm.mono ?_
        rintro e w' ⟨rfl, lv', hS', hk', hu'⟩
        have hwcs := hwc.size
        refine ⟨rfl, lv', hS', ?_, ?_, ?_⟩
        · rcases hg6r with e | e
          · exact .inl e
          · exact .inr (by omega)
        · rcases hk' with e | ⟨k, e, hk⟩
          · exact .inl e
          · exact .inr ⟨k, e, by omega⟩
        · exact (Upd.of_below hwc).trans hu' (fun k hk h => by rcases h with e | e; exact e; omega)
      have HT5 := aside st5
      have HT7 := aside st7
      clear st5 st7 hp hpr hsr hSc hwc hlen1 hta hh9c hfr g1 g1b g2 htl2
      have HTL2 : Aside (t.bs.length - lo = (t.bs.drop lo).length) := by show t.bs.length - lo = (t.bs.drop lo).length; rw [List.length_drop]
      go_wp2_with (first
        | (at_builtin; refine wpList_append_bytes _ rfl _ _ rfl f.blk f.cap p (f.bs.take p) rfl HL1.out.symm HPR.out (some src) n c l rfl HNL.out (fun _ => ⟨src, rfl, HSRC.out⟩) (by omega) ?_; intro g4 cap4 w4 ho4 hg4 hw4; have HO4 := aside ho4; have HG4 := aside hg4; have HW4 := aside hw4; have c490 : w4.cell? ⟨b9, 0, none⟩ = some (.int .i64 f.org) := hg4.cell a90 (by intro e; injection e with e; exact hf9 e.symm); have c491 : w4.cell? ⟨b9, 1, none⟩ = some (.slice (some ⟨f.blk, 0, none⟩) f.bs.length f.cap) := hg4.cell a91 (by intro e; injection e with e; exact hf9 e.symm); have f491 : w4.frozen? ⟨b9, 1, none⟩ = false := (World.frozen?_of_block (hg4.block b9 b9lt (by intro e; injection e with e; exact hf9 e.symm))).trans (fr9 1); clear ho4 hg4 hw4)
        | (at_builtin; refine wpList_append_bytes _ rfl _ _ rfl g4 cap4 (p + n) (f.bs.take p ++ l) rfl (by rw [List.length_append, ← HNL.out, HL1.out]) (HT5.out g4 cap4 w4 HO4.out HG4.out HW4.out).1 ta (t.bs.length - lo) tc (t.bs.drop lo) rfl HTL2.out (HT5.out g4 cap4 w4 HO4.out HG4.out HW4.out).2.1 (by omega) ?_; intro g6 cap6 w6 ho6 hg6 hw6; have hst7 := HT7.out g4 cap4 w4 g6 cap6 w6 HO4.out HG4.out HW4.out ho6 hg6 hw6; have HC7 := aside hst7.2; have c690 : w6.cell? ⟨b9, 0, none⟩ = some (.int .i64 f.org) := (cell_of_row w6 b9 0 _ _ _ hst7.1).trans rfl; have c691 : w6.cell? ⟨b9, 1, none⟩ = some (.slice (some ⟨g4, 0, none⟩) (p + n) cap4) := (cell_of_row w6 b9 1 _ _ _ hst7.1).trans rfl; have f691 : w6.frozen? ⟨b9, 1, none⟩ = false := frozen_of_row w6 b9 1 _ _ hst7.1; clear ho6 hg6 hw6 hst7))
      refine HC7.out.mono ?_
      rintro e w' ⟨rfl, lv', hS', hg', hk', hu'⟩
      go_wp2
      go_end0
      refine ⟨rfl, lv', g6, cap6, ?_, hg', hk', hu'⟩
      have e1 : min (x + n) t.fin - t.org = lo := by rw [HLO.out]; rfl
      rw [e1, ← HP.out]
      exact hS'
end Go.Proofs.Ytkekaljcbmkomaa
