/- (*Bytes).lay where the bytes lie within one stretch: they are copied over in place. -/
import Derived.Test.YtkekaljcbmkomaaLayS
import Derived.Deep.RegionHeld2
namespace Go.Proofs.Ytkekaljcbmkomaa
open Go.RowKit
attribute [local simp] lcells_nil readB_length bcells_length
theorem splice_take_out {α : Type} (l c : List α) (off k : Nat) (h : off + c.length ≤ k) (hk : k ≤ l.length) : (splice l off c).take k = splice (l.take k) off c := by
  have e0 : l.drop (off + c.length) = (l.drop (off + c.length)).take (k - (off + c.length)) ++ l.drop k := by
    have := List.take_append_drop (k - (off + c.length)) (l.drop (off + c.length))
    rw [List.drop_drop, show off + c.length + (k - (off + c.length)) = k by omega] at this
    exact this.symm
  have e : splice l off c = splice (l.take k) off c ++ l.drop k := by
    simp only [splice, List.append_assoc]
    rw [List.take_take, Nat.min_eq_left (by omega), List.drop_take, ← e0]
  have hl : (splice (l.take k) off c).length = k := by rw [length_splice _ _ _ (by rw [List.length_take]; omega), List.length_take]; omega
  rw [e]
  exact List.take_left' hl

theorem L_split {α : Type} {L : List α} {i : Nat} {f : α} (h : L[i]? = some f) : L = L.take i ++ [f] ++ L.drop (i + 1) := by
  obtain ⟨hi, rfl⟩ := List.getElem?_eq_some_iff.1 h
  rw [List.append_assoc, List.singleton_append, List.getElem_cons_drop, List.take_append_drop]

theorem upd_setRow {w : World} {g : Nat} {cs : Array Value} : Upd (fun k => k = g) w (w.setRow g cs) := ⟨rfl, rfl, rfl, by simp [World.setRow], fun k _ hn => setRow_other _ g k _ hn⟩

/-- The bytes of one stretch are written over in place. -/
theorem str_in {w : World} {b : Nat} {x0 x1 lv : Value} {L : List Piece} {i : Nat} {f : Piece} (hS : Str w b x0 x1 lv L) (hf : L[i]? = some f) (cur : Array Value) (hc : w.heap[f.blk]? = some (.cells cur 5 (0, 0))) (hcs : cur.size = f.cap) (hcl : f.bs.length ≤ f.cap) (hcm : f.cap ≤ maxLen) (ht : cur.toList.take f.bs.length = bcells f.bs)
    (o : Nat) (l : List UInt8) (ho : o + l.length ≤ f.bs.length) : Str (w.setRow f.blk (splice cur.toList o (bcells l)).toArray) b x0 x1 lv (L.take i ++ [⟨f.org, f.blk, f.cap, splice f.bs o l⟩] ++ L.drop (i + 1)) := by
  have hL := L_split hf
  have hfL : f ∈ L := List.mem_of_getElem? hf
  have hu := upd_setRow (w := w) (g := f.blk) (cs := (splice cur.toList o (bcells l)).toArray)
  have hll : (splice f.bs o l).length = f.bs.length := length_splice _ _ _ ho
  have hlc : lcells (L.take i ++ [⟨f.org, f.blk, f.cap, splice f.bs o l⟩] ++ L.drop (i + 1)) = lcells L := by
    conv => rhs; rw [hL]
    simp only [lcells_append]
    congr 2
    simp only [lcells, List.flatMap_cons, List.flatMap_nil, Piece.dv, hll]
  have hlen : (L.take i ++ [(⟨f.org, f.blk, f.cap, splice f.bs o l⟩ : Piece)] ++ L.drop (i + 1)).length = L.length := by
    conv => rhs; rw [hL]
    simp
  have hnd := hS.nd
  rw [hL] at hnd
  have hnd2 : ((L.take i ++ [(⟨f.org, f.blk, f.cap, splice f.bs o l⟩ : Piece)] ++ L.drop (i + 1)).map fun d => d.blk).Nodup := by simpa using hnd
  have hoth : ∀ d, d ∈ L.take i ++ L.drop (i + 1) → d ∈ L ∧ d.blk ≠ f.blk := fun d hd => by
    have h1 : d ∈ L := by rw [hL]; simp only [List.mem_append] at hd ⊢; rcases hd with h | h; exact .inl (.inl h); exact .inr h
    refine ⟨h1, fun e => ?_⟩
    simp only [List.map_append, List.map_cons, List.append_assoc, List.singleton_append] at hnd
    have hp := (List.perm_middle (a := f.blk) (l₁ := (L.take i).map fun d => d.blk) (l₂ := (L.drop (i + 1)).map fun d => d.blk)).nodup_iff.1 hnd
    have hn := (List.nodup_cons.1 hp).1
    apply hn
    rw [← List.map_append, ← e]
    exact List.mem_map_of_mem hd
  have hmem : ∀ d, d ∈ L.take i ++ [⟨f.org, f.blk, f.cap, splice f.bs o l⟩] ++ L.drop (i + 1) → d ∈ L.take i ++ L.drop (i + 1) ∨ d = ⟨f.org, f.blk, f.cap, splice f.bs o l⟩ := fun d hd => by
    simp only [List.mem_append, List.mem_singleton] at hd ⊢
    rcases hd with (h | h) | h
    · exact .inl (.inl h)
    · exact .inr h
    · exact .inl (.inr h)
  refine ⟨?_, ?_, ?_, hS.lne, ?_, hnd2⟩
  · rw [setRow_other _ _ _ _ (fun e => (hS.dne f hfL).1 e.symm)]; exact hS.obj
  · rw [hlc, hlen]
    exact hu.row hS.row (fun k hk e => (hS.dne f hfL).2 (by rw [hk, e]))
  · intro d hd
    rcases hmem d hd with h | rfl
    · refine hu.row (hS.data d (hoth d h).1) (fun k hk e => (hoth d h).2 ?_)
      simp only [Piece.dv, Value.ownBlock, Option.some.injEq] at hk
      rw [hk, e]
    · refine ⟨by simp, .inr ⟨f.blk, f.cap, _, rfl, Nat.zero_le _, setRow_heap w _ _ _ _ _ hc, by simpa [hll] using hcl, hcm, ?_, ?_⟩⟩
      · simp only [List.size_toArray, Nat.mul_one]
        rw [length_splice _ _ _ (by rw [bcells_length]; simp; omega)]
        simpa using hcs
      · simp only [Nat.mul_one, hll]
        have e1 := splice_take_out cur.toList (bcells l) o f.bs.length (by rw [bcells_length]; exact ho) (by simp; omega)
        rw [e1, ht, bcells_splice]
  · intro d hd
    rcases hmem d hd with h | rfl
    · exact hS.dne d (hoth d h).1
    · exact hS.dne f hfL

theorem two_old (w : World) (o p : Obj) : ((w.alloc o).alloc p).drew.heap[w.heap.size]? = some o := by
  show ((w.alloc o).alloc p).heap[w.heap.size]? = some o
  rw [Below.heap_alloc (w.alloc o) p w.heap.size (by simp), heap_alloc_new]
theorem two_new (w : World) (o p : Obj) : ((w.alloc o).alloc p).drew.heap[w.heap.size + 1]? = some p := by
  show ((w.alloc o).alloc p).heap[w.heap.size + 1]? = some p
  have := heap_alloc_new (w.alloc o) p
  rwa [World.size_alloc] at this
theorem two_below (w : World) (o p : Obj) : Below w.heap.size w ((w.alloc o).alloc p).drew := ((below_al w o).alloc (by simp) p).drew

set_option maxHeartbeats 2000000 in
set_option maxRecDepth 100000 in
theorem layIn_any (b : Nat) (x0 x1 lv : Value) (sz : Nat) (L : List Piece) (x i j : Nat) (src : Addr) (n c : Nat) (w : World) (f t : Piece) (l : List UInt8) (hS : Str w b x0 x1 lv L) (hI : Inv sz L) (hxl : x + n ≤ 1073741824)
    (hi : L.findIdx (fun d => decide ((x : Int) ≤ d.fin)) = i) (hj : L.findIdx (fun d => decide ((x : Int) + (n : Int) < d.org)) = j) (hij : i < j) (hf : L[i]? = some f) (ht : L[j - 1]? = some t)
    (hnl : n = l.length) (h0 : 0 < n) (hsrc : ∀ j v, (bcells l)[j]? = some v → w.cell? (src.add j) = some v) (hfx : f.org ≤ x) (hfe : x + n ≤ f.fin) :
    Calls Try.prog 36 #[.pointer (some ⟨b, 0, none⟩), .int .i64 x, .slice (some src) n c] w fun e w' => e = .returned (.tuple #[]) ∧ Str w' b x0 x1 lv (L.take i ++ [⟨f.org, f.blk, f.cap, splice f.bs (x - f.org) l⟩] ++ L.drop (i + 1)) ∧ Upd (fun k => k = f.blk) w w' := by
  have hlen := hI.len
  have hjn : j ≤ L.length := by rw [← hj]; exact List.findIdx_le_length
  obtain ⟨W0, hW0⟩ : ∃ W0, W0 = (w.alloc (.cells #[.int .i64 x] 2)).alloc (.cells #[.int .i64 ((x : Int) + (n : Int))] 2) := ⟨_, rfl⟩
  have hl2 : w.cell? ⟨b, 2, none⟩ = some lv := by rw [cell_of_row w b 2 _ _ _ hS.obj]; rfl
  obtain ⟨S1, S2, hB0, cx, cy⟩ := lay_S b lv sz L x ((x : Int) + (n : Int)) w hI hl2 hS.row W0 hW0
  rw [hi] at S1
  rw [hj] at S2
  have bx : w.heap.size < W0.heap.size := World.block_lt_of_cell? W0 _ cx
  have by' : w.heap.size + 1 < W0.heap.size := World.block_lt_of_cell? W0 _ cy
  have hbl : b < w.heap.size := World.block_lt_of_cell? w _ hl2
  have HS1 := aside S1
  have HS2 := aside S2
  have HB0 := aside hB0
  have HS := aside hS
  have CX := aside cx
  have CY := aside cy
  have HL2 := aside hl2
  have HF := aside hf
  have HBD : Aside (∀ d, d ∈ L → d.bs.length ≤ 4294967296) := fun d hd => (hI.bd d hd).2
  have HIN := aside hI
  have HSR := aside hsrc
  have HNL := aside hnl
  have HTT := aside ht
  clear S1 S2 hB0 hS cx cy hI hi hj hl2 hf ht hsrc hnl
  have hijz : ((i : Int) == (j : Int)) = false := by simp; omega
  have hnez : ¬ (i = j) := by omega
  go_enter Try.func36, Try.ntmps36
  go_wp2_with fail
  rw [← hW0]
  refine (HS1.out _ (Below.refl _ _)).mono ?_
  rintro e w1 ⟨rfl, hb1⟩
  go_wp2_with fail
  refine (HS2.out _ hb1).mono ?_
  rintro e w2 ⟨rfl, hb2⟩
  have cx2 : w2.cell? ⟨w.heap.size, 0, none⟩ = some (.int .i64 x) := ((below_tr hb1 hb2).cell bx).trans CX.out
  have cy2 : w2.cell? ⟨w.heap.size + 1, 0, none⟩ = some (.int .i64 ((x : Int) + (n : Int))) := ((below_tr hb1 hb2).cell by').trans CY.out
  have hw2 := below_tr HB0.out (below_tr hb1 hb2)
  have HB2 := aside hw2
  clear hb1 hb2 hW0
  obtain ⟨lg, lc, hlv, hf0, hf1⟩ := row_at (row_below HS.out.row hw2) (i := i) (by omega)
  obtain ⟨lg2, lc2, hlv2, ht0, ht1⟩ := row_at (row_below HS.out.row hw2) (i := j - 1) (by omega)
  rw [hlv] at hlv2
  simp only [Value.slice.injEq, Option.some.injEq, Addr.mk.injEq, true_and, and_true] at hlv2
  obtain ⟨rfl, rfl⟩ := hlv2
  have hc2 : w2.cell? ⟨b, 2, none⟩ = some (.slice (some ⟨lg, 0, none⟩) L.length lc) := by rw [← hlv]; exact (hw2.cell hbl).trans HL2.out
  have ef : L[i] = f := Option.some.inj ((List.getElem?_eq_getElem (by omega)).symm.trans HF.out)
  have et : L[j - 1] = t := Option.some.inj ((List.getElem?_eq_getElem (by omega)).symm.trans HTT.out)
  rw [ef] at hf0 hf1
  rw [et] at ht0 ht1
  unfold Piece.dv at hf1 ht1
  have hiz : (i : Int) < (L.length : Int) := by omega
  obtain ⟨jm, hjm⟩ : ∃ jm, jm = j - 1 := ⟨_, rfl⟩
  rw [← hjm] at ht0 ht1
  have hjn1 : (j : Int) - 1 = (jm : Int) := by omega
  have hjz : (jm : Int) < (L.length : Int) := by omega
  have hjw : IntKind.i64.wrap (jm : Int) = (jm : Int) := by rw [IntKind.wrap_i64]; omega
  have HJM := aside hjm
  clear hjm
  clear hw2 hlv ef et
  go_upto_region 6 with fail
  go_cut [9, 10] from 25 to 110 (fun p9 p10 wx => ∃ b9 b10 : Nat, p9 = .pointer (some ⟨b9, 0, none⟩) ∧ p10 = .pointer (some ⟨b10, 0, none⟩) ∧ b9 ≠ b10 ∧ w2.heap.size ≤ b9 ∧ w2.heap.size ≤ b10 ∧ wx.heap[b9]? = some (.cells #[.int .i64 f.org, .slice (some ⟨f.blk, 0, none⟩) f.bs.length f.cap] 56 (0, 0)) ∧ wx.heap[b10]? = some (.cells #[.int .i64 t.org, .slice (some ⟨t.blk, 0, none⟩) t.bs.length t.cap] 56 (0, 0)) ∧ Below w2.heap.size w2 wx)
  case first =>
    go_region_held2 (fun w' => w'.cell? ⟨b, 2, none⟩ = some (.slice (some ⟨lg, 0, none⟩) L.length lc) ∧ w'.cell? ⟨lg, i * 2, none⟩ = some (.int .i64 f.org) ∧ w'.cell? ⟨lg, i * 2 + 1, none⟩ = some (.slice (some ⟨f.blk, 0, none⟩) f.bs.length f.cap) ∧ w'.cell? ⟨lg, jm * 2, none⟩ = some (.int .i64 t.org) ∧ w'.cell? ⟨lg, jm * 2 + 1, none⟩ = some (.slice (some ⟨t.blk, 0, none⟩) t.bs.length t.cap)) (go_keep) (fail)
    all_goals
      go_wp2_with fail
      go_meet
      case rel =>
        first
          | exact ⟨w2.heap.size, w2.heap.size + 1, rfl, rfl, by omega, Nat.le_refl _, by omega, two_old w2 _ _, two_new w2 _ _, two_below w2 _ _⟩
          | exact ⟨w2.heap.size + 1, w2.heap.size, rfl, rfl, by omega, by omega, Nat.le_refl _, two_new w2 _ _, two_old w2 _ _, two_below w2 _ _⟩
  case rest =>
    obtain ⟨b9, b10, rfl, rfl, hne, h9, h10, hh9, hh10, hbc⟩ := hcut
    have d90 : wc.cell? ⟨b9, 0, none⟩ = some (.int .i64 f.org) := by rw [cell_of_row wc b9 0 _ _ _ hh9]; rfl
    have d91 : wc.cell? ⟨b9, 1, none⟩ = some (.slice (some ⟨f.blk, 0, none⟩) f.bs.length f.cap) := by rw [cell_of_row wc b9 1 _ _ _ hh9]; rfl
    have bx2 : w.heap.size < w2.heap.size := World.block_lt_of_cell? w2 _ cx2
    have by2 : w.heap.size + 1 < w2.heap.size := World.block_lt_of_cell? w2 _ cy2
    have dx : wc.cell? ⟨w.heap.size, 0, none⟩ = some (.int .i64 x) := (hbc.cell bx2).trans cx2
    have dy : wc.cell? ⟨w.heap.size + 1, 0, none⟩ = some (.int .i64 ((x : Int) + (n : Int))) := (hbc.cell by2).trans cy2
    have xx := fun d os => ext_cell dx d os
    have xy := fun d os => ext_cell dy d os
    have x90 := fun d os => ext_cell d90 d os
    have x91 := fun d os => ext_cell d91 d os
    have hfL : f ∈ L := List.mem_of_getElem? HF.out
    unfold Piece.fin at hfe
    have hfo : f.org ≤ 1073741824 := by omega
    have hfl : f.bs.length ≤ 4294967296 := HBD.out f hfL
    have g1 : decide ((f.org : Int) ≤ (x : Int)) = true := by simp; omega
    have g1b : decide (f.org ≤ x) = true := by simp; omega
    have g2 : decide ((x : Int) + (n : Int) ≤ (f.org : Int) + (f.bs.length : Int)) = true := by simp; omega
    have HWC := aside (below_tr HB2.out hbc)
    have HH9 := aside hh9
    clear hh9 hh10 hbc hf0 hf1 ht0 ht1 hc2
    go_wp2
    refine region_ext (by kernel_rfl) (by kernel_rfl) ?_
    repeat (any_goals (first | go_big_quiet_step ((go_at_call 41; exact calls_ext (to_any _ _ _ _ _ (by omega) (by omega) (by omega)))) | quiet_step ((go_at_call 41; exact calls_ext (to_any _ _ _ _ _ (by omega) (by omega) (by omega))))))
    refine wpQuiet_nil ?_
    intro wq hq
    have e90 : wq.cell? ⟨b9, 0, none⟩ = some (.int .i64 f.org) := (hq.cell (World.block_lt_of_cell? wc _ d90)).trans d90
    have e91 : wq.cell? ⟨b9, 1, none⟩ = some (.slice (some ⟨f.blk, 0, none⟩) f.bs.length f.cap) := (hq.cell (World.block_lt_of_cell? wc _ d91)).trans d91
    have ex : wq.cell? ⟨w.heap.size, 0, none⟩ = some (.int .i64 x) := (hq.cell (World.block_lt_of_cell? wc _ dx)).trans dx
    have hwq := below_tr HWC.out hq
    have hSq := HS.out.below hwq
    obtain ⟨o, ho⟩ : ∃ o, o = x - f.org := ⟨_, rfl⟩
    have hoz : (x : Int) - (f.org : Int) = (o : Int) := by omega
    have hnl := HNL.out
    rcases (hSq.data f hfL).2 with ⟨hbad, -⟩ | ⟨g', cap', cur, hgv, -, hgc, hg1, hg2, hg3, hg4⟩
    · simp [Piece.dv] at hbad
    · simp only [Piece.dv, Value.slice.injEq, Option.some.injEq, Addr.mk.injEq, true_and, and_true] at hgv
      obtain ⟨rfl, rfl⟩ := hgv
      have hgc2 : wq.heap[f.blk]? = some (.cells cur.toList.toArray 5 (0, 0)) := by simpa using hgc
      have hcs : cur.size = f.cap := by simpa using hg3
      have hcp : ∀ ty c1, (Builtin.copy_ #[22, 22] ty #[.slice (some ⟨f.blk, o, none⟩) (f.bs.length - o) c1, .slice (some src) n c]).run Try.prog wq = .ok (goInt ((bcells l).length : Nat)) (wq.setRow f.blk (splice cur.toList o (bcells l)).toArray) := fun ty c1 =>
        run_copy_bytes wq ty _ _ _ _ _ _ f.blk o cur.toList hgc2 (bcells l) (by rw [bcells_length]; omega) (fun _ => ⟨rfl, src, rfl, fun k v hk => (hwq.cell (World.block_lt_of_cell? w _ (HSR.out k v hk))).trans (HSR.out k v hk)⟩) (by rw [bcells_length]; simp; omega) (bcells_one _)
      have hstr := str_in hSq HF.out cur hgc hcs hg1 hg2 (by simpa using hg4) o l (by omega)
      have HCP := aside hcp
      have HST := aside hstr
      have HWQ := aside hwq
      have HO := aside ho
      have hcc : ¬ (f.cap = o) := by omega
      have hol : o ≤ f.bs.length := by omega
      unfold maxLen at hg2
      clear hcp hstr hwq hgc hgc2 hSq hg3 hg4 hcs ho hnl
      go_wp2_with ((with_reducible refine wpList_copy_to _ rfl _ _ 22 22 rfl (.slice (some ⟨f.blk, o, none⟩) (f.bs.length - o) (f.cap - o)) (.slice (some src) n c) ?_ ?_ (HCP.out _ _) ?_); rfl; rfl)
      refine bodyPost_ret (results_none rfl _ _ _) rfl ?_
      refine ⟨rfl, ?_, ?_⟩
      · rw [← HO.out]; exact HST.out
      · exact (Upd.of_below HWQ.out).trans upd_setRow (fun _ _ h => h)
end Go.Proofs.Ytkekaljcbmkomaa
