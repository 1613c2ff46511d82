/- Going from stretch to stretch: what Next and Get tell there, in plain terms. -/
import Derived.Test.YtkekaljcbmkomaaTwo
namespace Go.Proofs.Ytkekaljcbmkomaa
open Go.RowKit

/-- The place behind the first k stretches. -/
def endAt (L : List Piece) : Nat → Nat
  | 0 => 0
  | k + 1 => ((L[k]?).map Piece.fin).getD 0
theorem endAt_succ {L : List Piece} {k : Nat} (h : k < L.length) : endAt L (k + 1) = L[k].fin := by
  simp [endAt, List.getElem?_eq_getElem h]
theorem endAt_le {sz : Nat} {L : List Piece} (hI : Inv sz L) {k : Nat} (h : k < L.length) : endAt L k ≤ L[k].org ∧ (0 < k → endAt L k < L[k].org) := by
  cases k with
  | zero => exact ⟨Nat.zero_le _, by omega⟩
  | succ k =>
    rw [endAt_succ (by omega)]
    have := hI.lt (i := k) (j := k + 1) (by omega) h (by omega)
    exact ⟨by omega, fun _ => by omega⟩
theorem endAt_ge {sz : Nat} {L : List Piece} (hI : Inv sz L) {k j : Nat} (hk : k ≤ L.length) (hj : j < k) : (L[j]'(by omega)).fin ≤ endAt L k := by
  cases k with
  | zero => omega
  | succ k =>
    rw [endAt_succ (by omega)]
    exact (hI.so j k (by omega) (by omega) (by omega)).2
theorem endAt_sz {sz : Nat} {L : List Piece} (hI : Inv sz L) {k : Nat} (hk : k ≤ L.length) : endAt L k ≤ sz := by
  cases k with
  | zero => exact Nat.zero_le _
  | succ k => rw [endAt_succ (by omega)]; exact hI.fin _ (List.getElem_mem _)
theorem next_at {sz : Nat} {L : List Piece} (hI : Inv sz L) {k : Nat} (h : k < L.length) : nextOf L sz (endAt L k) = (L[k].org, L[k].fin) := by
  have hle := endAt_le hI h
  have hn := hI.ne _ (List.getElem_mem h)
  have hi : L.findIdx (fun d => decide (((endAt L k : Nat) : Int) < d.fin)) = k := by
    refine findIdx_of _ L k (by omega) (fun t ht hlt => ?_) (fun t ht hge => ?_)
    · have := endAt_ge hI (k := k) (by omega) hlt
      exact decide_eq_false (by omega)
    · have := (hI.so k t h ht hge).2
      have h2 : L[k].org < L[k].fin := by unfold Piece.fin; omega
      exact decide_eq_true (by omega)
  rcases nextOf_idx L sz (endAt L k) with ⟨h1, -⟩ | ⟨h1, h2⟩
  · omega
  · rw [h2]
    simp only [hi]
    rw [Nat.max_eq_right hle.1]
theorem next_end {sz : Nat} {L : List Piece} (hI : Inv sz L) : nextOf L sz (endAt L L.length) = (sz, sz) := by
  rcases nextOf_idx L sz (endAt L L.length) with ⟨-, h1⟩ | ⟨h1, -⟩
  · exact h1
  · have h2 := findIdx_at (q := fun d : Piece => decide (((endAt L L.length : Nat) : Int) < d.fin)) h1
    have h3 := endAt_ge hI (k := L.length) (Nat.le_refl _) h1
    have h2 := of_decide_eq_true h2
    omega
theorem zero_between {sz : Nat} {L : List Piece} (hI : Inv sz L) {k : Nat} (h : k < L.length) {p : Nat} (h1 : endAt L k ≤ p) (h2 : p < L[k].org) : byteAt L p = 0 := by
  refine byteAt_of_not ?_
  rintro ⟨d, hd, h3, h4⟩
  obtain ⟨j, hj, rfl⟩ := List.getElem_of_mem hd
  rcases Nat.lt_or_ge j k with hlt | hge
  · have := endAt_ge hI (k := k) (by omega) hlt; omega
  · have := (hI.so k j h hj hge).1; omega
theorem zero_behind {sz : Nat} {L : List Piece} (hI : Inv sz L) {p : Nat} (h1 : endAt L L.length ≤ p) : byteAt L p = 0 := by
  refine byteAt_of_not ?_
  rintro ⟨d, hd, h3, h4⟩
  obtain ⟨j, hj, rfl⟩ := List.getElem_of_mem hd
  have := endAt_ge hI (k := L.length) (Nat.le_refl _) hj
  omega
theorem readB_zero {L : List Piece} {x m : Nat} (h : ∀ p, x ≤ p → p < x + m → byteAt L p = 0) : readB L x m = List.replicate m 0 := by
  apply List.ext_getElem
  · rw [readB_length, List.length_replicate]
  · intro i h1 h2
    rw [readB_length] at h1
    simp only [readB, List.getElem_map, List.getElem_range, List.getElem_replicate]
    exact h _ (by omega) (by omega)
theorem get_zeros {L : List Piece} {sz x n : Nat} (h : ∀ p, x ≤ p → p < x + n → byteAt L p = 0) : ∃ m, getL L sz x n = List.replicate m 0 ∧ m ≤ n := by
  unfold getL
  split
  · exact ⟨0, rfl, by omega⟩
  · simp only [Int.toNat_natCast]
    exact ⟨_, readB_zero (fun p h1 h2 => h p h1 (by omega)), by omega⟩
theorem held_take {L : List Piece} {k : Nat} (h : k < L.length) : heldOf (L.take (k + 1)) = heldOf (L.take k) + L[k].bs.length := by
  rw [List.take_succ_eq_append_getElem h, heldOf_append]; simp [heldOf]
theorem held_take_le (L : List Piece) (k : Nat) : heldOf (L.take k) ≤ heldOf L := by
  conv => rhs; rw [← List.take_append_drop k L, heldOf_append]
  omega
end Go.Proofs.Ytkekaljcbmkomaa
