/- What stands behind lay where it joins stretches: the new one in the place of those that it meets. -/
import Derived.Test.YtkekaljcbmkomaaLayIn
import Derived.Test.YtkekaljcbmkomaaLay0
import Derived.Test.YtkekaljcbmkomaaKept
namespace Go.Proofs.Ytkekaljcbmkomaa
open Go.RowKit
attribute [local simp] lcells_nil readB_length bcells_length
theorem nd_ne {L : List Piece} (h : (L.map fun d => d.blk).Nodup) {i j : Nat} {f t : Piece} (hf : L[i]? = some f) (ht : L[j]? = some t) (hij : i ≠ j) : f.blk ≠ t.blk := by
  obtain ⟨hi, rfl⟩ := List.getElem?_eq_some_iff.1 hf
  obtain ⟨hj, rfl⟩ := List.getElem?_eq_some_iff.1 ht
  intro e
  have h2 := List.pairwise_iff_getElem.1 h
  rcases Nat.lt_or_gt_of_ne hij with hlt | hlt
  · exact h2 i j (by simpa using hi) (by simpa using hj) hlt (by simpa using e)
  · exact h2 j i (by simpa using hj) (by simpa using hi) hlt (by simpa using e.symm)
theorem kept_ne {L : List Piece} (h : (L.map fun d => d.blk).Nodup) {i j : Nat} {f : Piece} (hf : L[i]? = some f) (hij : i < j) {d : Piece} (hd : d ∈ L.take i ++ L.drop j) : d ∈ L ∧ d.blk ≠ f.blk := by
  rcases List.mem_append.1 hd with hd | hd
  · obtain ⟨k, hk, rfl⟩ := List.getElem_of_mem hd
    simp only [List.length_take] at hk
    rw [List.getElem_take]
    exact ⟨List.getElem_mem _, nd_ne h (i := k) (j := i) (List.getElem?_eq_getElem (by omega)) hf (by omega)⟩
  · obtain ⟨k, hk, rfl⟩ := List.getElem_of_mem hd
    simp only [List.length_drop] at hk
    rw [List.getElem_drop]
    exact ⟨List.getElem_mem _, nd_ne h (i := j + k) (j := i) (List.getElem?_eq_getElem (by omega)) hf (by omega)⟩

theorem merge_call (b b9 vb : Nat) (x0 x1 lv : Value) (L : List Piece) (i j o g6 cap6 : Nat) (f : Piece) (B : List UInt8) (wc W7 : World) (hSc : Str wc b x0 x1 lv L) (hf : L[i]? = some f) (hij : i < j) (hj : j ≤ L.length) (hlen : L.length ≤ 4194304)
    (hu : Upd (fun k => k = f.blk ∨ k = b9) wc W7) (hb9 : ¬ Foot b lv L b9) (hrow : W7.ownsRow 0 5 1 (.slice (some ⟨g6, 0, none⟩) B.length cap6) B.length (bcells B)) (hg6 : g6 = f.blk ∨ wc.heap.size ≤ g6)
    (hvb : W7.heap[vb]? = some (.cells #[.int .i64 o, .slice (some ⟨g6, 0, none⟩) B.length cap6] 56 (0, 0))) (hvbn : wc.heap.size ≤ vb) :
    Calls Try.prog 47 #[.pointer (some ⟨b, 0, none⟩), .int .i64 i, .int .i64 j, .slice (some ⟨vb, 0, none⟩) 1 1] W7 fun e w' => e = .returned (.tuple #[]) ∧ ∃ lv', Str w' b x0 x1 lv' (L.take i ++ [⟨o, g6, cap6, B⟩] ++ L.drop j) ∧
      (lv'.ownBlock = lv.ownBlock ∨ ∃ k, lv'.ownBlock = some k ∧ wc.heap.size ≤ k) ∧ Upd (fun k => Foot b lv L k ∨ k = b9) wc w' := by
  have hfL : f ∈ L := List.mem_of_getElem? hf
  have hfb := hSc.dne f hfL
  have hbl := hSc.lv_lt (.inl rfl)
  have hg6b : g6 ≠ b := by
    rcases hg6 with e | e
    · rw [e]; exact hfb.1
    · omega
  have hg6l : lv.ownBlock ≠ some g6 := by
    rcases hg6 with e | e
    · rw [e]; exact hfb.2
    · intro h; have := (hSc.row.lt g6 h).2; omega
  refine (replaceKept b x0 x1 lv (.slice (some ⟨vb, 0, none⟩) 1 1) L [⟨o, g6, cap6, B⟩] i j W7 ?_ ?_ hSc.lne ?_ ?_ hSc.nd (by omega) hj hlen (by simp) (own_one hvb) (by simp) ?_ ?_ ?_ (by simp) ?_).mono ?_
  · exact (hu.block b hbl (fun h => by rcases h with e | e; exact hfb.1 e.symm; exact hb9 (.inl e.symm))).trans hSc.obj
  · exact hu.row hSc.row (fun k hk h => by rcases h with e | e; exact hfb.2 (by rw [hk, e]); exact hb9 (.inr (.inl (by rw [hk, e]))))
  · intro d hd
    obtain ⟨h1, h2⟩ := kept_ne hSc.nd hf hij hd
    refine hu.row (hSc.data d h1) (fun k hk h => ?_)
    simp only [Piece.dv, Value.ownBlock, Option.some.injEq] at hk
    rcases h with e | e
    · exact h2 (by rw [hk, e])
    · exact hb9 (.inr (.inr ⟨d, h1, by rw [hk, e]⟩))
  · intro d hd
    exact hSc.dne d (kept_ne hSc.nd hf hij hd).1
  · intro k hk h
    simp only [Value.ownBlock, Option.some.injEq] at hk
    have := (hSc.row.lt k h).2
    omega
  · intro d hd
    rw [List.mem_singleton.1 hd]; exact hrow
  · intro d hd
    rw [List.mem_singleton.1 hd]; exact ⟨hg6b, hg6l⟩
  · intro d hd e he
    rw [List.mem_singleton.1 hd]
    obtain ⟨h1, h2⟩ := kept_ne hSc.nd hf hij he
    rcases hg6 with e1 | e1
    · simp only; rw [e1]; exact h2
    · have := hSc.lv_lt (.inr (.inr ⟨e, h1, rfl⟩))
      simp only; omega
  · rintro e w' ⟨rfl, lv', hS', hw, hu2⟩
    refine ⟨rfl, lv', hS', ?_, ?_⟩
    · rcases hw with e | ⟨k, e, hk⟩
      · exact .inl e
      · exact .inr ⟨k, e, Nat.le_trans hu.size hk⟩
    · refine (hu.mono (G := fun k => Foot b lv L k ∨ k = b9) (fun k _ h => ?_)).trans hu2 (fun k _ h => ?_)
      · rcases h with e | e
        · exact .inl (.inr (.inr ⟨f, hfL, e.symm⟩))
        · exact .inr e
      · rcases h with e | e
        · exact .inl (.inl e)
        · exact .inl (.inr (.inl e))
end Go.Proofs.Ytkekaljcbmkomaa
