/- The kept blocks of a cache: what put, drop, hit and keep do, where few are kept. -/
import Derived.Test.YtppeiljpechenaaReplaceEnd
import Derived.Test.YtppeiljpechenaaMapLit
import Derived.Deep.RegionHeld3
namespace Go.Proofs.Ytppeiljpechenaa
open Go.RowKit Go.MapLit Go.ChangeMaps

abbrev pt (b : Nat) : Value := .pointer (some ⟨b, 0, none⟩)

/-- A cache of at most two blocks: its map, its newest and its oldest block, hits and misses. -/
def Cac (w : World) (c mb : Nat) (nw ol : Value) (h m : Nat) : Prop := w.heap[c]? = some (.cells #[.int .i64 2, .map (some mb), nw, ol, .int .i64 h, .int .i64 m] 76 (0, 0))
/-- A block: its number, its bytes, the newer and the older one. -/
def Blk (w : World) (b k : Nat) (dv nw ol : Value) : Prop := w.heap[b]? = some (.cells #[.int .i64 k, dv, nw, ol] 110 (0, 0))

theorem Cac.cells {w : World} {c mb : Nat} {nw ol : Value} {h m : Nat} (H : Cac w c mb nw ol h m) : w.cell? ⟨c, 0, none⟩ = some (.int .i64 2) ∧ w.cell? ⟨c, 1, none⟩ = some (.map (some mb)) ∧ w.cell? ⟨c, 2, none⟩ = some nw ∧ w.cell? ⟨c, 3, none⟩ = some ol ∧ w.cell? ⟨c, 4, none⟩ = some (.int .i64 h) ∧ w.cell? ⟨c, 5, none⟩ = some (.int .i64 m) := by
  refine ⟨?_, ?_, ?_, ?_, ?_, ?_⟩ <;> (rw [cell_of_row w c _ _ _ _ H]; rfl)
theorem Blk.cells {w : World} {b k : Nat} {dv nw ol : Value} (H : Blk w b k dv nw ol) : w.cell? ⟨b, 0, none⟩ = some (.int .i64 k) ∧ w.cell? ⟨b, 1, none⟩ = some dv ∧ w.cell? ⟨b, 2, none⟩ = some nw ∧ w.cell? ⟨b, 3, none⟩ = some ol := by
  refine ⟨?_, ?_, ?_, ?_⟩ <;> (rw [cell_of_row w b _ _ _ _ H]; rfl)


theorem set_same {w : World} {b i : Nat} {cs : Array Value} {T : TypeId} {v : Value} (h : w.heap[b]? = some (.cells cs T (0, 0))) : (w.setCell ⟨b, i, none⟩ v).heap[b]? = some (.cells (cs.setIfInBounds i v) T (0, 0)) := heap_setCell_same w b i _ _ _ h
theorem set_far {w : World} {b i k : Nat} {v : Value} {o : Option Obj} (h : w.heap[k]? = o) (n : ¬ k = b) : (w.setCell ⟨b, i, none⟩ v).heap[k]? = o := (Below.heap_setCell _ _ _ _ n).trans h
theorem Upd.block' {F : Nat → Prop} {w : World} {b : Nat} {o : Obj} (h : F b) : Upd F w (setBlock w b o) :=
  ⟨rfl, rfl, rfl, by simp [setBlock], fun k _ hn => by
    have : ¬ k = b := fun e => hn (e ▸ h)
    simp only [setBlock]
    rw [Array.getElem?_setIfInBounds_ne (fun e => this e.symm)]⟩
theorem blk_same {w : World} {b : Nat} {o o' : Obj} (h : w.heap[b]? = some o') : (setBlock w b o).heap[b]? = some o := by
  have := (Array.getElem?_eq_some_iff.1 h).1
  simp [setBlock, this]
theorem blk_far {w : World} {b k : Nat} {o : Obj} {r : Option Obj} (h : w.heap[k]? = r) (n : ¬ k = b) : (setBlock w b o).heap[k]? = r := by
  simp only [setBlock]
  rw [Array.getElem?_setIfInBounds_ne (fun e => n e.symm)]; exact h

theorem cell_far {w : World} {b k i : Nat} {o : Obj} (n : ¬ k = b) : (setBlock w b o).cell? ⟨k, i, none⟩ = w.cell? ⟨k, i, none⟩ := by
  simp only [World.cell?]
  rw [blk_far (r := w.heap[k]?) rfl n]

theorem zero74 (w : World) : (zeroValue 74).run Try.prog w = .ok (.pointer none) w := by kernel_rfl

set_option maxRecDepth 20000 in
set_option maxHeartbeats 1000000 in
theorem put_first (c mb b k : Nat) (dv nw ol ol' : Value) (h m : Nat) (es : Array MapEntry) (clock : Nat) (w : World) (hC : Cac w c mb (.pointer none) ol' h m) (hB : Blk w b k dv nw ol) (hM : w.heap[mb]? = some (.map es clock))
    (hk : (Lit.int .i64 k).wf = true) (hf : Instr.findNow (.int .i64) (.int .i64 k) es.toList 0 = some none) :
    Calls Try.prog 116 #[pt c, pt b] w fun e w' => e = .returned (.tuple #[]) ∧ Cac w' c mb (pt b) (pt b) h m ∧ Blk w' b k dv (.pointer none) (.pointer none) ∧ w'.heap[mb]? = some (.map (es.push ⟨.int .i64 k, pt b, clock⟩) (clock + 1)) ∧ Upd (fun j => j = b ∨ j = c ∨ j = mb) w w' := by
  have n1 : ¬ b = c := by rintro rfl; rw [Blk, hC] at hB; simp at hB
  have n1' : ¬ c = b := fun e => n1 e.symm
  have n2 : ¬ b = mb := by rintro rfl; rw [Blk, hM] at hB; simp at hB
  have n3 : ¬ c = mb := by rintro rfl; rw [Cac, hM] at hC; simp at hC
  obtain ⟨c0, c1, c2, c3, c4, c5⟩ := hC.cells
  obtain ⟨b0, b1, b2, b3⟩ := hB.cells
  have fc := fun o => frozen_of_row w c o _ _ hC
  have fb := fun o => frozen_of_row w b o _ _ hB
  have HC := aside hC
  have HB := aside hB
  have HM := aside hM
  have HF := aside hf
  have HK := aside hk
  clear c0 c4 c5 b1 hC hB hM hf hk
  go_enter Try.func116, Try.ntmps116
  go_wp2_with fail
  obtain ⟨W, hW⟩ : ∃ W, W = ((((w.setCell ⟨b, 2, none⟩ (.pointer none)).setCell ⟨b, 3, none⟩ (.pointer none)).setCell ⟨c, 3, none⟩ (pt b)).setCell ⟨c, 2, none⟩ (pt b)) := ⟨_, rfl⟩
  rw [← hW]
  have hC : Cac W c mb (pt b) (pt b) h m := by rw [hW]; exact set_same (set_same (set_far (set_far HC.out n1') n1'))
  have hB : Blk W b k dv (.pointer none) (.pointer none) := by rw [hW]; exact set_far (set_far (set_same (set_same HB.out)) n1) n1
  have hM : W.heap[mb]? = some (.map es clock) := by rw [hW]; exact set_far (set_far (set_far (set_far HM.out (fun e => n2 e.symm)) (fun e => n2 e.symm)) (fun e => n3 e.symm)) (fun e => n3 e.symm)
  have hU : Upd (fun j => j = b ∨ j = c ∨ j = mb) w W := by
    rw [hW]
    exact (((Upd.setCell (F := fun j => j = b ∨ j = c ∨ j = mb) (.inl rfl) _).trans (Upd.setCell (F := fun j => j = b ∨ j = c ∨ j = mb) (.inl rfl) _) (fun _ _ h => h)).trans (Upd.setCell (F := fun j => j = b ∨ j = c ∨ j = mb) (.inr (.inl rfl)) _) (fun _ _ h => h)).trans (Upd.setCell (F := fun j => j = b ∨ j = c ∨ j = mb) (.inr (.inl rfl)) _) (fun _ _ h => h)
  clear c1 c2 c3 b0 b2 b3 fc fb hW
  have c1 := hC.cells.2.1
  have b0 := hB.cells.1
  have hrun := store_new (w := W.drew) Try.underlying73 Try.underlying2 hM HK.out (pt b) HF.out
  have k1 := fun o => (cell_far (w := W.drew) (o := o) (i := 1) n3).trans c1
  have k2 := fun o => (cell_far (w := W.drew) (o := o) (i := 0) n2).trans b0
  have HC2 := aside hC
  have HB2 := aside hB
  have HM2 := aside hM
  have HU2 := aside hU
  clear hC hB hM hU
  go_region_held3 (fun w' => w'.cell? ⟨c, 1, none⟩ = some (.map (some mb)) ∧ w'.cell? ⟨b, 0, none⟩ = some (.int .i64 k)) (go_keep) (fail)
  go_wp2_with fail
  go_end0
  exact ⟨rfl, blk_far HC2.out n3, blk_far HB2.out n2, blk_same HM2.out, (HU2.out.trans (Upd.of_below (F := fun j => j = b ∨ j = c ∨ j = mb) (below_dr W)) (fun _ _ h => h)).trans (Upd.block' (F := fun j => j = b ∨ j = c ∨ j = mb) (.inr (.inr rfl))) (fun _ _ h => h)⟩

set_option maxRecDepth 20000 in
set_option maxHeartbeats 1000000 in
theorem put_next (c mb b k b' k' : Nat) (dv dv' nw ol nw' ol' olc : Value) (h m : Nat) (es : Array MapEntry) (clock : Nat) (w : World) (hC : Cac w c mb (pt b') olc h m) (hB : Blk w b k dv nw ol) (hD : Blk w b' k' dv' nw' ol') (hne : ¬ b = b') (hM : w.heap[mb]? = some (.map es clock))
    (hk : (Lit.int .i64 k).wf = true) (hf : Instr.findNow (.int .i64) (.int .i64 k) es.toList 0 = some none) :
    Calls Try.prog 116 #[pt c, pt b] w fun e w' => e = .returned (.tuple #[]) ∧ Cac w' c mb (pt b) olc h m ∧ Blk w' b k dv (.pointer none) (pt b') ∧ Blk w' b' k' dv' (pt b) ol' ∧ w'.heap[mb]? = some (.map (es.push ⟨.int .i64 k, pt b, clock⟩) (clock + 1)) ∧ Upd (fun j => j = b ∨ j = b' ∨ j = c ∨ j = mb) w w' := by
  have n1 : ¬ b = c := by rintro rfl; rw [Blk, hC] at hB; simp at hB
  have n1' : ¬ c = b := fun e => n1 e.symm
  have n2 : ¬ b = mb := by rintro rfl; rw [Blk, hM] at hB; simp at hB
  have n3 : ¬ c = mb := by rintro rfl; rw [Cac, hM] at hC; simp at hC
  have n4 : ¬ b' = c := by rintro rfl; rw [Blk, hC] at hD; simp at hD
  have n4' : ¬ c = b' := fun e => n4 e.symm
  have n5 : ¬ b' = mb := by rintro rfl; rw [Blk, hM] at hD; simp at hD
  have hne' : ¬ b' = b := fun e => hne e.symm
  obtain ⟨c0, c1, c2, c3, c4, c5⟩ := hC.cells
  obtain ⟨b0, b1, b2, b3⟩ := hB.cells
  obtain ⟨d0, d1, d2, d3⟩ := hD.cells
  have fc := fun o => frozen_of_row w c o _ _ hC
  have fb := fun o => frozen_of_row w b o _ _ hB
  have fd := fun o => frozen_of_row w b' o _ _ hD
  have HC := aside hC
  have HB := aside hB
  have HD := aside hD
  have HM := aside hM
  have HF := aside hf
  have HK := aside hk
  clear c0 c3 c4 c5 b1 d0 d1 d3 hC hB hD hM hf hk
  go_enter Try.func116, Try.ntmps116
  go_wp2_with fail
  obtain ⟨W, hW⟩ : ∃ W, W = ((((w.setCell ⟨b, 2, none⟩ (.pointer none)).setCell ⟨b, 3, none⟩ (pt b')).setCell ⟨b', 2, none⟩ (pt b)).setCell ⟨c, 2, none⟩ (pt b)) := ⟨_, rfl⟩
  rw [← hW]
  have hC : Cac W c mb (pt b) olc h m := by rw [hW]; exact set_same (set_far (set_far (set_far HC.out n1') n1') n4')
  have hB : Blk W b k dv (.pointer none) (pt b') := by rw [hW]; exact set_far (set_far (set_same (set_same HB.out)) hne) n1
  have hD : Blk W b' k' dv' (pt b) ol' := by rw [hW]; exact set_far (set_same (set_far (set_far HD.out hne') hne')) n4
  have hM : W.heap[mb]? = some (.map es clock) := by rw [hW]; exact set_far (set_far (set_far (set_far HM.out (fun e => n2 e.symm)) (fun e => n2 e.symm)) (fun e => n5 e.symm)) (fun e => n3 e.symm)
  have hU : Upd (fun j => j = b ∨ j = b' ∨ j = c ∨ j = mb) w W := by
    rw [hW]
    exact (((Upd.setCell (F := fun j => j = b ∨ j = b' ∨ j = c ∨ j = mb) (.inl rfl) _).trans (Upd.setCell (F := fun j => j = b ∨ j = b' ∨ j = c ∨ j = mb) (.inl rfl) _) (fun _ _ h => h)).trans (Upd.setCell (F := fun j => j = b ∨ j = b' ∨ j = c ∨ j = mb) (.inr (.inl rfl)) _) (fun _ _ h => h)).trans (Upd.setCell (F := fun j => j = b ∨ j = b' ∨ j = c ∨ j = mb) (.inr (.inr (.inl rfl))) _) (fun _ _ h => h)
  clear c1 c2 b0 b2 b3 d2 fc fb fd hW
  have c1 := hC.cells.2.1
  have b0 := hB.cells.1
  have hrun := store_new (w := W.drew) Try.underlying73 Try.underlying2 hM HK.out (pt b) HF.out
  have k1 := fun o => (cell_far (w := W.drew) (o := o) (i := 1) n3).trans c1
  have k2 := fun o => (cell_far (w := W.drew) (o := o) (i := 0) n2).trans b0
  have HC2 := aside hC
  have HB2 := aside hB
  have HD2 := aside hD
  have HM2 := aside hM
  have HU2 := aside hU
  clear hC hB hD hM hU
  go_region_held3 (fun w' => w'.cell? ⟨c, 1, none⟩ = some (.map (some mb)) ∧ w'.cell? ⟨b, 0, none⟩ = some (.int .i64 k)) (go_keep) (fail)
  go_wp2_with fail
  go_end0
  exact ⟨rfl, blk_far HC2.out n3, blk_far HB2.out n2, blk_far HD2.out n5, blk_same HM2.out, (HU2.out.trans (Upd.of_below (F := fun j => j = b ∨ j = b' ∨ j = c ∨ j = mb) (below_dr W)) (fun _ _ h => h)).trans (Upd.block' (F := fun j => j = b ∨ j = b' ∨ j = c ∨ j = mb) (.inr (.inr (.inr rfl)))) (fun _ _ h => h)⟩

set_option maxRecDepth 20000 in
set_option maxHeartbeats 1000000 in
theorem drop_only (c mb b k : Nat) (dv : Value) (h m : Nat) (es : Array MapEntry) (clock i : Nat) (v : Value) (w : World) (hC : Cac w c mb (pt b) (pt b) h m) (hB : Blk w b k dv (.pointer none) (.pointer none)) (hM : w.heap[mb]? = some (.map es clock))
    (hk : (Lit.int .i64 k).wf = true) (hf : Instr.findNow (.int .i64) (.int .i64 k) es.toList 0 = some (some (i, v))) :
    Calls Try.prog 113 #[pt c, pt b] w fun e w' => e = .returned (.tuple #[]) ∧ Cac w' c mb (.pointer none) (.pointer none) h m ∧ Blk w' b k dv (.pointer none) (.pointer none) ∧ w'.heap[mb]? = some (.map (es.eraseIdxIfInBounds i) clock) ∧ Upd (fun j => j = b ∨ j = c ∨ j = mb) w w' := by
  have n1 : ¬ b = c := by rintro rfl; rw [Blk, hC] at hB; simp at hB
  have n1' : ¬ c = b := fun e => n1 e.symm
  have n2 : ¬ b = mb := by rintro rfl; rw [Blk, hM] at hB; simp at hB
  have n3 : ¬ c = mb := by rintro rfl; rw [Cac, hM] at hC; simp at hC
  obtain ⟨c0, c1, c2, c3, c4, c5⟩ := hC.cells
  obtain ⟨b0, b1, b2, b3⟩ := hB.cells
  have fc := fun o => frozen_of_row w c o _ _ hC
  have HC := aside hC
  have HB := aside hB
  have HM := aside hM
  have HF := aside hf
  have HK := aside hk
  clear c0 c4 c5 b1 hC hB hM hf hk
  go_enter Try.func113, Try.ntmps113
  go_wp2_with fail
  obtain ⟨W, hW⟩ : ∃ W, W = ((w.setCell ⟨c, 2, none⟩ (.pointer none)).setCell ⟨c, 3, none⟩ (.pointer none)) := ⟨_, rfl⟩
  rw [← hW]
  have hC : Cac W c mb (.pointer none) (.pointer none) h m := by rw [hW]; exact set_same (set_same HC.out)
  have hB : Blk W b k dv (.pointer none) (.pointer none) := by rw [hW]; exact set_far (set_far HB.out n1) n1
  have hM : W.heap[mb]? = some (.map es clock) := by rw [hW]; exact set_far (set_far HM.out (fun e => n3 e.symm)) (fun e => n3 e.symm)
  have hU : Upd (fun j => j = b ∨ j = c ∨ j = mb) w W := by
    rw [hW]
    exact (Upd.setCell (F := fun j => j = b ∨ j = c ∨ j = mb) (.inr (.inl rfl)) _).trans (Upd.setCell (F := fun j => j = b ∨ j = c ∨ j = mb) (.inr (.inl rfl)) _) (fun _ _ h => h)
  clear c1 c2 c3 b0 b2 b3 fc hW
  have c1 := hC.cells.2.1
  have b0 := hB.cells.1
  have hrun := fun ty => delete_some (ty := ty) (w := W.drew) Try.underlying73 Try.underlying2 hM HK.out HF.out
  have k1 := fun o => (cell_far (w := W.drew) (o := o) (i := 1) n3).trans c1
  have k2 := fun o => (cell_far (w := W.drew) (o := o) (i := 0) n2).trans b0
  have HC2 := aside hC
  have HB2 := aside hB
  have HM2 := aside hM
  have HU2 := aside hU
  clear hC hB hM hU
  go_region_held3 (fun w' => w'.cell? ⟨c, 1, none⟩ = some (.map (some mb)) ∧ w'.cell? ⟨b, 0, none⟩ = some (.int .i64 k)) (go_keep) (fail)
  go_wp2_with fail
  go_end0
  exact ⟨rfl, blk_far HC2.out n3, blk_far HB2.out n2, blk_same HM2.out, (HU2.out.trans (Upd.of_below (F := fun j => j = b ∨ j = c ∨ j = mb) (below_dr W)) (fun _ _ h => h)).trans (Upd.block' (F := fun j => j = b ∨ j = c ∨ j = mb) (.inr (.inr rfl))) (fun _ _ h => h)⟩
end Go.Proofs.Ytppeiljpechenaa
