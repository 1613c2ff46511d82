/- (*Bytes).lay where the bytes come behind all stretches, and the object over any answer of Replace. -/
import Derived.Test.YtleenkdlnmoepaaReplaceEnd
namespace Go.Proofs.Ytleenkdlnmoepaa
open Go.RowKit
attribute [local simp] lcells_nil readB_length bcells_length
/-- The object at block b, its first two cells as they are, over its stretches. -/
structure Str (w : World) (b : Nat) (x0 x1 lv : Value) (L : List Piece) : Prop where
  obj : w.heap[b]? = some (.cells #[x0, x1, lv] 115 (0, 0))
  row : w.ownsRow 0 179 2 lv L.length (lcells L)
  data : ∀ d, d ∈ L → w.ownsRow 0 5 1 d.dv d.bs.length (bcells d.bs)
  lne : lv.ownBlock ≠ some b
  dne : ∀ d, d ∈ L → d.blk ≠ b ∧ lv.ownBlock ≠ some d.blk
  nd : (L.map fun d => d.blk).Nodup
def Foot (b : Nat) (lv : Value) (L : List Piece) (k : Nat) : Prop := k = b ∨ lv.ownBlock = some k ∨ ∃ d, d ∈ L ∧ d.blk = k

theorem Str.lv_lt {w : World} {b : Nat} {x0 x1 lv : Value} {L : List Piece} (h : Str w b x0 x1 lv L) {k : Nat} (hk : Foot b lv L k) : k < w.heap.size := by
  rcases hk with rfl | hk | ⟨d, hd, rfl⟩
  · exact (Array.getElem?_eq_some_iff.1 h.obj).1
  · exact (h.row.lt k hk).2
  · exact ((h.data d hd).lt d.blk rfl).2
theorem Str.kept {w w' : World} {b : Nat} {x0 x1 lv : Value} {L : List Piece} {F : Nat → Prop} (h : Str w b x0 x1 lv L) (hu : Upd F w w') (hF : ∀ k, Foot b lv L k → ¬ F k) : Str w' b x0 x1 lv L :=
  ⟨(hu.block b (h.lv_lt (.inl rfl)) (hF b (.inl rfl))).trans h.obj, hu.row h.row (fun k hk => hF k (.inr (.inl hk))), fun d hd => hu.row (h.data d hd) (fun k hk => hF k (by
    simp only [Piece.dv, Value.ownBlock, Option.some.injEq] at hk; exact .inr (.inr ⟨d, hd, hk⟩))), h.lne, h.dne, h.nd⟩
theorem Str.below {w w' : World} {b : Nat} {x0 x1 lv : Value} {L : List Piece} (h : Str w b x0 x1 lv L) (hb : Below w.heap.size w w') : Str w' b x0 x1 lv L :=
  h.kept (F := fun _ => False) (Upd.of_below hb) (fun _ _ h => h)
theorem lcells_one (L : List Piece) : ∀ u ∈ lcells L, u.oneCell' = true := by
  intro u hu
  obtain ⟨d, -, hd⟩ := List.mem_flatMap.1 hu
  simp only [List.mem_cons, List.not_mem_nil, or_false] at hd
  rcases hd with rfl | rfl <;> rfl
theorem findIdx_none {α : Type} (q : α → Bool) (L : List α) (h : ∀ d, d ∈ L → q d = false) : L.findIdx q = L.length := List.findIdx_eq_length.2 h

/-- (*Bytes).replace over any answer of Replace: the object stands over the new stretches. -/
theorem replaceStr (b : Nat) (i j : Int) (x0 x1 lv vv : Value) (L L' : List Piece) (w : World) (hS : Str w b x0 x1 lv L) (hdat : ∀ d, d ∈ L' → w.ownsRow 0 5 1 d.dv d.bs.length (bcells d.bs)) (hdne : ∀ d, d ∈ L' → d.blk ≠ b ∧ lv.ownBlock ≠ some d.blk)
    (hnd : (L'.map fun d => d.blk).Nodup) (hn : L'.length ≤ 4294967296)
    (hR : Calls Try.prog 57 #[lv, .int .i64 i, .int .i64 j, vv] w fun e w' => ∃ v', e = .returned v' ∧ w'.ownsRow 0 179 2 v' L'.length (lcells L') ∧ w.grownBy w' lv.ownBlock ∧ (v'.ownBlock = lv.ownBlock ∨ ∃ g, v'.ownBlock = some g ∧ w.heap.size ≤ g)) :
    Calls Try.prog 50 #[.pointer (some ⟨b, 0, none⟩), .int .i64 i, .int .i64 j, vv] w fun e w' => e = .returned (.tuple #[]) ∧ ∃ lv', Str w' b x0 x1 lv' L' ∧
      (lv'.ownBlock = lv.ownBlock ∨ ∃ g, lv'.ownBlock = some g ∧ w.heap.size ≤ g) ∧ Upd (fun k => k = b ∨ lv.ownBlock = some k) w w' := by
  refine (replaceM_of b i j x0 x1 lv vv L.length (lcells L) L'.length (lcells L') w hS.obj hS.lne hS.row hn (lcells_one _) hR).mono ?_
  rintro e w' ⟨rfl, lv', ho, hr, hw, hu⟩
  have hb : b < w.heap.size := (Array.getElem?_eq_some_iff.1 hS.obj).1
  refine ⟨rfl, lv', ⟨ho, hr, fun d hd => hu.row (hdat d hd) (fun k hk => ?_), ?_, fun d hd => ⟨(hdne d hd).1, ?_⟩, hnd⟩, hw, hu⟩
  · simp only [Piece.dv, Value.ownBlock, Option.some.injEq] at hk
    subst hk
    rintro (e1 | e1)
    · exact (hdne d hd).1 e1
    · exact (hdne d hd).2 e1
  · rcases hw with e1 | ⟨g, e1, hg⟩
    · rw [e1]; exact hS.lne
    · rw [e1]; intro e2; injection e2 with e2; omega
  · rcases hw with e1 | ⟨g, e1, hg⟩
    · rw [e1]; exact (hdne d hd).2
    · have := ((hdat d hd).lt d.blk rfl).2
      rw [e1]; intro e2; injection e2 with e2; omega

theorem layEnd_tail (b : Nat) (x0 x1 lv : Value) (L : List Piece) (x : Nat) (l : List UInt8) (g cap vb : Nat) (w : World) (hS : Str w b x0 x1 lv L) (hlen : L.length ≤ 4194304)
    (hrow : w.ownsRow 0 5 1 (.slice (some ⟨g, 0, none⟩) l.length cap) l.length (bcells l)) (hg : ¬ Foot b lv L g) (hvb : w.heap[vb]? = some (.cells #[.int .i64 x, .slice (some ⟨g, 0, none⟩) l.length cap] 179 (0, 0))) :
    Calls Try.prog 50 #[.pointer (some ⟨b, 0, none⟩), .int .i64 L.length, .int .i64 L.length, .slice (some ⟨vb, 0, none⟩) 1 1] w fun e w' => e = .returned (.tuple #[]) ∧ ∃ lv', Str w' b x0 x1 lv' (L ++ [⟨x, g, cap, l⟩]) ∧
      (lv'.ownBlock = lv.ownBlock ∨ ∃ k, lv'.ownBlock = some k ∧ w.heap.size ≤ k) ∧ Upd (fun k => k = b ∨ lv.ownBlock = some k) w w' := by
  refine replaceStr b L.length L.length x0 x1 lv _ L (L ++ [⟨x, g, cap, l⟩]) w hS ?_ ?_ ?_ (by simp; omega) ?_
  · intro d hd
    rcases List.mem_append.1 hd with hd | hd
    · exact hS.data d hd
    · rw [List.mem_singleton.1 hd]; exact hrow
  · intro d hd
    rcases List.mem_append.1 hd with hd | hd
    · exact hS.dne d hd
    · rw [List.mem_singleton.1 hd]; exact ⟨fun e => hg (.inl e), fun e => hg (.inr (.inl e))⟩
  · rw [List.map_append, List.nodup_append]
    refine ⟨hS.nd, by simp, ?_⟩
    intro a ha c hc e
    obtain ⟨d, hd, rfl⟩ := List.mem_map.1 ha
    simp only [List.map_cons, List.map_nil, List.mem_singleton] at hc
    exact hg (.inr (.inr ⟨d, hd, by rw [e, hc]⟩))
  · have h := replaceEnd_any lv L.length (lcells L) w hS.row (by omega) vb 1 1 [.int .i64 x, .slice (some ⟨g, 0, none⟩) l.length cap] (by omega) (by omega) rfl
      (fun j u hj => by rw [cell_of_row w vb j _ _ _ hvb]; simpa using hj) (by intro u hu; simp only [List.mem_cons, List.not_mem_nil, or_false] at hu; rcases hu with rfl | rfl <;> rfl)
    refine h.mono ?_
    rintro e w' ⟨v', rfl, ho, hgr, hw⟩
    refine ⟨v', rfl, ?_, hgr, hw⟩
    rw [lcells_append, List.length_append]
    exact ho

set_option maxHeartbeats 1000000 in
theorem layEnd_any (b : Nat) (x0 x1 lv : Value) (sz : Nat) (L : List Piece) (x : Nat) (src : Addr) (l : List UInt8) (c : Nat) (w : World) (hS : Str w b x0 x1 lv L) (hI : Inv sz L) (hx : ∀ d, d ∈ L → d.fin < x) (h0 : 0 < l.length) (hl : l.length ≤ 4194304) (hxl : x + l.length ≤ 1073741824)
    (hsrc : ∀ j v, (bcells l)[j]? = some v → w.cell? (src.add j) = some v) :
    Calls Try.prog 42 #[.pointer (some ⟨b, 0, none⟩), .int .i64 x, .slice (some src) l.length c] w fun e w' => e = .returned (.tuple #[]) ∧ ∃ lv' g cap, Str w' b x0 x1 lv' (L ++ [⟨x, g, cap, l⟩]) ∧ w.heap.size ≤ g ∧ (lv'.ownBlock = lv.ownBlock ∨ ∃ k, lv'.ownBlock = some k ∧ w.heap.size ≤ k) ∧ Upd (fun k => k = b ∨ lv.ownBlock = some k) w w' := by
  have hlen := hI.len
  obtain ⟨W0, hW0⟩ : ∃ W0, W0 = (w.alloc (.cells #[.int .i64 x] 2)).alloc (.cells #[.int .i64 ((x : Int) + (l.length : Int))] 2) := ⟨_, rfl⟩
  have hB0 : Below w.heap.size w W0 := by rw [hW0]; exact (below_al w _).alloc (by simp) _
  have cx : W0.cell? ⟨w.heap.size, 0, none⟩ = some (.int .i64 x) := by rw [hW0]; go_simp
  have cy : W0.cell? ⟨w.heap.size + 1, 0, none⟩ = some (.int .i64 ((x : Int) + (l.length : Int))) := by rw [hW0]; go_simp
  have bx : w.heap.size < W0.heap.size := World.block_lt_of_cell? W0 _ cx
  have by' : w.heap.size + 1 < W0.heap.size := World.block_lt_of_cell? W0 _ cy
  have e45 : ∀ args w, (callFunc 48 args).run Try.prog w = .ok (.enter 48 args) w := enters_of Try.func48 (by kernel_rfl) rfl
  have e46 : ∀ args w, (callFunc 49 args).run Try.prog w = .ok (.enter 49 args) w := enters_of Try.func49 (by kernel_rfl) rfl
  have hl2 : w.cell? ⟨b, 2, none⟩ = some lv := by rw [cell_of_row w b 2 _ _ _ hS.obj]; rfl
  have hbl : b < w.heap.size := World.block_lt_of_cell? w _ hl2
  have S1 : ∀ W, Below W0.heap.size W0 W → Calls Try.prog 47 #[.pointer (some ⟨b, 0, none⟩), .func (.func 48) #[] #[.pointer (some ⟨w.heap.size, 0, none⟩)]] W fun e w' => e = .returned (.int .i64 L.length) ∧ Below W.heap.size W w' := fun W hW => by
    have hwW := below_tr hB0 hW
    have hfi : L.findIdx (fun d => decide ((x : Int) ≤ d.fin)) = L.length := findIdx_none _ _ (fun d hd => by have := hx d hd; simp; omega)
    rw [← hfi]
    exact search_any 48 _ e45 b lv L (fun d => decide ((x : Int) ≤ d.fin)) W ((hwW.cell hbl).trans hl2) (row_below hS.row hwW) (by omega)
      (fun d hd V hV => lay1_any d.org (some ⟨d.blk, 0, none⟩) d.bs.length d.cap w.heap.size x V (by omega) (by have := (hI.bd d hd).1; omega) (hI.bd d hd).2 (((below_tr hW hV).cell bx).trans cx))
      (fun a c ha hc hac h => by have := (hI.so a c ha hc hac).2; simp at h ⊢; omega)
  have S2 : ∀ W, Below W0.heap.size W0 W → Calls Try.prog 47 #[.pointer (some ⟨b, 0, none⟩), .func (.func 49) #[] #[.pointer (some ⟨w.heap.size + 1, 0, none⟩)]] W fun e w' => e = .returned (.int .i64 L.length) ∧ Below W.heap.size W w' := fun W hW => by
    have hwW := below_tr hB0 hW
    have hfi : L.findIdx (fun d => decide ((x : Int) + (l.length : Int) < d.org)) = L.length := findIdx_none _ _ (fun d hd => by have := hx d hd; unfold Piece.fin at this; simp; omega)
    rw [← hfi]
    exact search_any 49 _ e46 b lv L (fun d => decide ((x : Int) + (l.length : Int) < d.org)) W ((hwW.cell hbl).trans hl2) (row_below hS.row hwW) (by omega)
      (fun d hd V hV => lay2_any d.org (some ⟨d.blk, 0, none⟩) d.bs.length d.cap (w.heap.size + 1) ((x : Int) + (l.length : Int)) V (((below_tr hW hV).cell by').trans cy))
      (fun a c ha hc hac h => by have := (hI.so a c ha hc hac).1; simp at h ⊢; omega)
  have HS1 := aside S1
  have HS2 := aside S2
  have HB0 := aside hB0
  have HS := aside hS
  have HSR := aside hsrc
  have CX := aside cx
  clear S1 S2 hB0 hS hsrc cx cy hx hI
  go_enter Try.func42, Try.ntmps42
  go_wp2_with fail
  rw [← hW0]
  refine (HS1.out _ (Below.refl _ _)).mono ?_
  rintro e w1 ⟨rfl, hb1⟩
  go_wp2_with fail
  refine (HS2.out _ hb1).mono ?_
  rintro e w2 ⟨rfl, hb2⟩
  have cx2 : w2.cell? ⟨w.heap.size, 0, none⟩ = some (.int .i64 x) := ((below_tr hb1 hb2).cell bx).trans CX.out
  have HB2 := aside (below_tr HB0.out (below_tr hb1 hb2))
  clear hb1 hb2 hW0
  have bx2 : w.heap.size < w2.heap.size := World.block_lt_of_cell? w2 _ cx2
  have hft : ∀ g, w2.heap.size ≤ g → ¬ Foot b lv L g := fun g hg hf => by have := HS.out.lv_lt hf; omega
  have HFT := aside hft
  clear hft
  go_wp2
  go_region_with (first
    | (go_at_call 51; refine (clone_any src l c _ h0 (by omega) ?_).mono ?_; (exact fun j v h => (HB2.out.cell (World.block_lt_of_cell? w _ (HSR.out j v h))).trans (HSR.out j v h)); rintro e w3 ⟨g, cap, rfl, hg3, ho3, hb3⟩; have cx3 : w3.cell? ⟨w.heap.size, 0, none⟩ = some (.int .i64 x) := (hb3.cell bx2).trans cx2; have HO3 := aside ho3; have HB3 := aside (below_tr HB2.out (below_tr (below_dr w2) hb3)); have HG3 : Aside (w2.heap.size ≤ g) := hg3; clear ho3 hb3 hg3)
    | (go_at_call 50; refine (layEnd_tail b x0 x1 lv L x l g cap w3.heap.size _ (HS.out.below (below_tr HB3.out (below_al w3 _))) hlen (row_below HO3.out (below_al w3 _)) (HFT.out g HG3.out) (heap_alloc_new w3 _)).mono ?_; rintro e w4 ⟨rfl, lv', hS4, hw4, hu4⟩))
  all_goals
    go_wp2
    refine bodyPost_ret (results_none rfl _ _ _) rfl ?_
    refine ⟨rfl, lv', g, cap, hS4, Nat.le_of_lt (Nat.lt_of_lt_of_le bx2 HG3.out), ?_, ?_⟩
    · rcases hw4 with e1 | ⟨k, e1, hk⟩
      · exact .inl e1
      · refine .inr ⟨k, e1, ?_⟩
        have := (below_tr HB3.out (below_al w3 (.cells #[.int .i64 x, .slice (some ⟨g, 0, none⟩) l.length cap] 179))).size
        exact Nat.le_trans this hk
    · exact (Upd.of_below (below_tr HB3.out (below_al w3 _))).trans hu4 (fun _ _ h => h)
end Go.Proofs.Ytleenkdlnmoepaa
