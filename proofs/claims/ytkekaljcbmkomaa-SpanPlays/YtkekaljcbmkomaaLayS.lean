/- What the searches of lay answer, and (*Bytes).replace with new stretches in the place of some. -/
import Derived.Test.YtkekaljcbmkomaaReplace
import Derived.Deep.DeepCutAuto
namespace Go.Proofs.Ytkekaljcbmkomaa
open Go.RowKit
attribute [local simp] lcells_nil readB_length bcells_length

theorem lay_S (b : Nat) (lv : Value) (sz : Nat) (L : List Piece) (x y : Int) (w : World) (hI : Inv sz L) (hl2 : w.cell? ⟨b, 2, none⟩ = some lv) (hrow : w.ownsRow 0 56 2 lv L.length (lcells L)) (W0 : World) (hW0 : W0 = (w.alloc (.cells #[.int .i64 x] 2)).alloc (.cells #[.int .i64 y] 2)) :
    (∀ W, Below W0.heap.size W0 W → Calls Try.prog 39 #[.pointer (some ⟨b, 0, none⟩), .func (.func 45) #[] #[.pointer (some ⟨w.heap.size, 0, none⟩)]] W fun e w' => e = .returned (.int .i64 (L.findIdx (fun d => decide (x ≤ d.fin)))) ∧ Below W.heap.size W w') ∧
    (∀ W, Below W0.heap.size W0 W → Calls Try.prog 39 #[.pointer (some ⟨b, 0, none⟩), .func (.func 46) #[] #[.pointer (some ⟨w.heap.size + 1, 0, none⟩)]] W fun e w' => e = .returned (.int .i64 (L.findIdx (fun d => decide (y < d.org)))) ∧ Below W.heap.size W w') ∧
    Below w.heap.size w W0 ∧ W0.cell? ⟨w.heap.size, 0, none⟩ = some (.int .i64 x) ∧ W0.cell? ⟨w.heap.size + 1, 0, none⟩ = some (.int .i64 y) := by
  have hlen := hI.len
  have hB0 : Below w.heap.size w W0 := by rw [hW0]; exact (below_al w _).alloc (by simp) _
  have cx : W0.cell? ⟨w.heap.size, 0, none⟩ = some (.int .i64 x) := by rw [hW0]; go_simp
  have cy : W0.cell? ⟨w.heap.size + 1, 0, none⟩ = some (.int .i64 y) := by rw [hW0]; go_simp
  have bx : w.heap.size < W0.heap.size := World.block_lt_of_cell? W0 _ cx
  have by' : w.heap.size + 1 < W0.heap.size := World.block_lt_of_cell? W0 _ cy
  have e45 : ∀ args w, (callFunc 45 args).run Try.prog w = .ok (.enter 45 args) w := enters_of Try.func45 (by kernel_rfl) rfl
  have e46 : ∀ args w, (callFunc 46 args).run Try.prog w = .ok (.enter 46 args) w := enters_of Try.func46 (by kernel_rfl) rfl
  have hbl : b < w.heap.size := World.block_lt_of_cell? w _ hl2
  refine ⟨fun W hW => ?_, fun W hW => ?_, hB0, cx, cy⟩
  · have hwW := below_tr hB0 hW
    exact search_any 45 _ e45 b lv L (fun d => decide (x ≤ d.fin)) W ((hwW.cell hbl).trans hl2) (row_below hrow hwW) (by omega)
      (fun d hd V hV => lay1_any d.org (some ⟨d.blk, 0, none⟩) d.bs.length d.cap w.heap.size x V (by omega) (by have := (hI.bd d hd).1; omega) (hI.bd d hd).2 (((below_tr hW hV).cell bx).trans cx))
      (fun a c ha hc hac h => by have := (hI.so a c ha hc hac).2; simp at h ⊢; omega)
  · have hwW := below_tr hB0 hW
    exact search_any 46 _ e46 b lv L (fun d => decide (y < d.org)) W ((hwW.cell hbl).trans hl2) (row_below hrow hwW) (by omega)
      (fun d hd V hV => lay2_any d.org (some ⟨d.blk, 0, none⟩) d.bs.length d.cap (w.heap.size + 1) y V (((below_tr hW hV).cell by').trans cy))
      (fun a c ha hc hac h => by have := (hI.so a c ha hc hac).1; simp at h ⊢; omega)

/-- (*Bytes).replace with the pieces N in the place of those from i up to j. -/
theorem replacePieces (b : Nat) (x0 x1 lv vv : Value) (L N : List Piece) (i j : Nat) (w : World) (hS : Str w b x0 x1 lv L) (hij : i ≤ j) (hj : j ≤ L.length) (hlen : L.length ≤ 4194304) (hN : N.length ≤ 2)
    (hv : w.ownsRow 0 56 2 vv N.length (lcells N)) (hv0 : N.length = 0 → vv = .slice none 0 0) (hvf : ∀ k, vv.ownBlock = some k → ¬ Foot b lv L k)
    (hrow : ∀ d, d ∈ N → w.ownsRow 0 5 1 d.dv d.bs.length (bcells d.bs)) (hb : ∀ d, d ∈ N → d.blk ≠ b ∧ lv.ownBlock ≠ some d.blk) (hN2 : (N.map fun d => d.blk).Nodup) (hd : ∀ d, d ∈ N → ∀ e, e ∈ L.take i ++ L.drop j → e.blk ≠ d.blk) :
    Calls Try.prog 47 #[.pointer (some ⟨b, 0, none⟩), .int .i64 i, .int .i64 j, vv] w fun e w' => e = .returned (.tuple #[]) ∧ ∃ lv', Str w' b x0 x1 lv' (L.take i ++ N ++ L.drop j) ∧
      (lv'.ownBlock = lv.ownBlock ∨ ∃ k, lv'.ownBlock = some k ∧ w.heap.size ≤ k) ∧ Upd (fun k => k = b ∨ lv.ownBlock = some k) w w' := by
  have hsub : ∀ d, d ∈ L.take i ++ L.drop j → d ∈ L := fun d hd => by
    rcases List.mem_append.1 hd with h | h
    · exact List.mem_of_mem_take h
    · exact List.mem_of_mem_drop h
  have hmem : ∀ d, d ∈ L.take i ++ N ++ L.drop j → d ∈ L.take i ++ L.drop j ∨ d ∈ N := fun d hd => by
    simp only [List.mem_append] at hd ⊢
    rcases hd with (h | h) | h
    · exact .inl (.inl h)
    · exact .inr h
    · exact .inl (.inr h)
  refine replaceStr b i j x0 x1 lv _ L (L.take i ++ N ++ L.drop j) w hS ?_ ?_ ?_ (by simp; omega) ?_
  · intro d hd
    rcases hmem d hd with h | h
    · exact hS.data d (hsub d h)
    · exact hrow d h
  · intro d hd
    rcases hmem d hd with h | h
    · exact hS.dne d (hsub d h)
    · exact hb d h
  · have hp : ((L.take i ++ N ++ L.drop j).map fun d => d.blk).Perm (((L.take i ++ L.drop j).map fun d => d.blk) ++ N.map fun d => d.blk) := by
      simp only [List.map_append, List.append_assoc]
      exact List.Perm.append_left _ List.perm_append_comm
    rw [hp.nodup_iff, List.nodup_append]
    refine ⟨?_, hN2, ?_⟩
    · have hsl : (L.take i ++ L.drop j).Sublist L := by
        have h1 : (L.drop j).Sublist (L.drop i) := by rw [show j = i + (j - i) by omega, ← List.drop_drop]; exact List.drop_sublist _ _
        have h2 := List.Sublist.append (List.Sublist.refl (L.take i)) h1
        rwa [List.take_append_drop] at h2
      exact List.Nodup.sublist (hsl.map _) hS.nd
    · intro a ha c hc e
      obtain ⟨d1, hd1, rfl⟩ := List.mem_map.1 ha
      obtain ⟨d2, hd2, rfl⟩ := List.mem_map.1 hc
      exact hd d2 hd2 d1 hd1 e
  · have h := replace_any lv L.length i j N.length (lcells L) vv (lcells N) w hS.row (lcells_one _) hij hj (by omega) (by omega) hv hv0 (fun k hk e => hvf k e (.inr (.inl hk))) (lcells_one _)
    refine h.mono ?_
    rintro e w' ⟨v', rfl, ho, hgr, hw⟩
    refine ⟨v', rfl, ?_, hgr, hw⟩
    rw [lcells_take, lcells_drop, ← lcells_append, ← lcells_append] at ho
    rw [show (L.take i ++ N ++ L.drop j).length = i + N.length + (L.length - j) by simp; omega]
    exact ho
end Go.Proofs.Ytkekaljcbmkomaa
