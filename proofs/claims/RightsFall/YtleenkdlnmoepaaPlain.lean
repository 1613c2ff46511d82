/- The plain arithmetic of stretches: which of them lie between two places, how many bytes they have there. -/
import Derived.Test.YtleenkdlnmoepaaWithin
namespace Go.Proofs.Ytleenkdlnmoepaa
open Go.RowKit
/-- What holds of the stretches of an object: rising, none empty, no two of them touching, none behind the size; the bounds. -/
structure Inv (sz : Nat) (L : List Piece) : Prop where
  sep : L.Pairwise (fun a b => a.fin < b.org)
  ne : ∀ d, d ∈ L → 0 < d.bs.length
  fin : ∀ d, d ∈ L → d.fin ≤ sz
  size : sz ≤ 1073741824
  held : heldOf L ≤ 4194304

theorem heldOf_cons (d : Piece) (L : List Piece) : heldOf (d :: L) = d.bs.length + heldOf L := by simp [heldOf]
theorem heldOf_append (L M : List Piece) : heldOf (L ++ M) = heldOf L + heldOf M := by simp [heldOf]
theorem length_le_held {L : List Piece} (h : ∀ d, d ∈ L → 0 < d.bs.length) : L.length ≤ heldOf L := by
  induction L with
  | nil => simp
  | cons d L ih =>
    rw [heldOf_cons, List.length_cons]
    have := h d (by simp)
    have := ih (fun e he => h e (by simp [he]))
    omega
theorem mem_le_held {L : List Piece} {d : Piece} (h : d ∈ L) : d.bs.length ≤ heldOf L := by
  induction L with
  | nil => simp at h
  | cons e L ih =>
    rw [heldOf_cons]
    rcases List.mem_cons.1 h with rfl | h
    · omega
    · have := ih h; omega

theorem Inv.len {sz : Nat} {L : List Piece} (h : Inv sz L) : L.length ≤ 4194304 := Nat.le_trans (length_le_held h.ne) h.held
theorem Inv.bd {sz : Nat} {L : List Piece} (h : Inv sz L) : ∀ d, d ∈ L → d.org ≤ 4294967296 ∧ d.bs.length ≤ 4294967296 := fun d hd => by
  have h1 := h.fin d hd; have h2 := h.size; unfold Piece.fin at h1; omega
theorem Inv.lt {sz : Nat} {L : List Piece} (h : Inv sz L) {i j : Nat} (hi : i < L.length) (hj : j < L.length) (hij : i < j) : L[i].fin < L[j].org :=
  List.pairwise_iff_getElem.1 h.sep i j hi hj hij
theorem Inv.so {sz : Nat} {L : List Piece} (h : Inv sz L) : ∀ i j (hi : i < L.length) (hj : j < L.length), i ≤ j → L[i].org ≤ L[j].org ∧ L[i].fin ≤ L[j].fin := fun i j hi hj hij => by
  rcases Nat.lt_or_eq_of_le hij with hlt | rfl
  · have := h.lt hi hj hlt; unfold Piece.fin at *; omega
  · exact ⟨Nat.le_refl _, Nat.le_refl _⟩
theorem findIdx_lt {α : Type} {q : α → Bool} {L : List α} {t : Nat} (h : t < L.findIdx q) : ∃ ht : t < L.length, q L[t] = false := by
  have h2 : L.findIdx q ≤ L.length := List.findIdx_le_length
  refine ⟨by omega, ?_⟩
  have := List.not_of_lt_findIdx h
  simpa using this
theorem findIdx_at {α : Type} {q : α → Bool} {L : List α} (h : L.findIdx q < L.length) : q L[L.findIdx q] = true := List.findIdx_getElem
theorem findIdx_ge {α : Type} {q : α → Bool} {L : List α} (hm : ∀ i j (hi : i < L.length) (hj : j < L.length), i ≤ j → q L[i] = true → q L[j] = true) {t : Nat} (ht : t < L.length) (h : L.findIdx q ≤ t) : q L[t] = true :=
  hm (L.findIdx q) t (by omega) ht h (findIdx_at (by omega))
/-- The first stretch behind x is not behind the first one from y on. -/
theorem Inv.ij {sz : Nat} {L : List Piece} (h : Inv sz L) {x y : Nat} (hxy : x ≤ y) : L.findIdx (fun d => decide ((x : Int) < d.fin)) ≤ L.findIdx (fun d => decide ((y : Int) ≤ d.org)) := by
  apply Nat.le_of_not_lt
  intro hlt
  obtain ⟨ht, h1⟩ := findIdx_lt hlt
  have h2 := findIdx_at ht
  have h3 := h.ne _ (List.getElem_mem ht)
  have h1 := of_decide_eq_false h1
  have h2 := of_decide_eq_true h2
  unfold Piece.fin at h1
  omega

/-- How many bytes of a stretch lie from x up to y. -/
def ovl (x y : Nat) (d : Piece) : Nat := min y d.fin - max x d.org
def ovls (x y : Nat) (L : List Piece) : Nat := (L.map (ovl x y)).sum
theorem ovls_cons (x y : Nat) (d : Piece) (L : List Piece) : ovls x y (d :: L) = ovl x y d + ovls x y L := by simp [ovls]
theorem ovls_append (x y : Nat) (L M : List Piece) : ovls x y (L ++ M) = ovls x y L + ovls x y M := by simp [ovls]
theorem ovls_zero {x y : Nat} {L : List Piece} (h : ∀ d, d ∈ L → ovl x y d = 0) : ovls x y L = 0 := by
  induction L with
  | nil => rfl
  | cons d L ih => rw [ovls_cons, h d (by simp), ih (fun e he => h e (by simp [he]))]
theorem ovls_le (x y : Nat) (L : List Piece) : ovls x y L ≤ heldOf L := by
  induction L with
  | nil => simp [ovls]
  | cons d L ih => rw [ovls_cons, heldOf_cons]; unfold ovl Piece.fin; omega

/-- The stretches that have bytes from x up to y. -/
def mid (x y : Nat) (L : List Piece) : List Piece := (L.take (L.findIdx (fun d => decide ((y : Int) ≤ d.org)))).drop (L.findIdx (fun d => decide ((x : Int) < d.fin)))

theorem mid_mem {sz : Nat} {L : List Piece} (h : Inv sz L) {x y : Nat} {d : Piece} (hd : d ∈ mid x y L) : d ∈ L ∧ x < d.fin ∧ d.org < y := by
  obtain ⟨t, ht, rfl⟩ := List.getElem_of_mem hd
  have hle : L.findIdx (fun d => decide ((y : Int) ≤ d.org)) ≤ L.length := List.findIdx_le_length
  simp only [mid, List.length_drop, List.length_take] at ht
  simp only [mid, List.getElem_drop, List.getElem_take]
  obtain ⟨h1, h2⟩ := findIdx_lt (q := fun d : Piece => decide ((y : Int) ≤ d.org)) (L := L) (t := L.findIdx (fun d => decide ((x : Int) < d.fin)) + t) (by omega)
  have h3 := findIdx_ge (q := fun d : Piece => decide ((x : Int) < d.fin)) (L := L) (fun a c ha hc hac h' => by have := (h.so a c ha hc hac).2; simp at h' ⊢; omega) h1 (by omega)
  refine ⟨List.getElem_mem _, ?_, ?_⟩
  · have h3 := of_decide_eq_true h3; omega
  · have h2 := of_decide_eq_false h2; omega

theorem mid_split {sz : Nat} {L : List Piece} (h : Inv sz L) {x y : Nat} (hxy : x ≤ y) : ∃ A B, L = A ++ mid x y L ++ B ∧ (∀ d, d ∈ A → d.fin ≤ x) ∧ (∀ d, d ∈ B → y ≤ d.org) ∧ A.length = L.findIdx (fun d => decide ((x : Int) < d.fin)) := by
  have hij := h.ij hxy
  have hle : L.findIdx (fun d => decide ((y : Int) ≤ d.org)) ≤ L.length := List.findIdx_le_length
  refine ⟨L.take (L.findIdx (fun d => decide ((x : Int) < d.fin))), L.drop (L.findIdx (fun d => decide ((y : Int) ≤ d.org))), ?_, ?_, ?_, ?_⟩
  · have e : L.take (L.findIdx (fun d => decide ((x : Int) < d.fin))) = (L.take (L.findIdx (fun d => decide ((y : Int) ≤ d.org)))).take (L.findIdx (fun d => decide ((x : Int) < d.fin))) := by
      rw [List.take_take, Nat.min_eq_left hij]
    rw [e, mid, List.take_append_drop, List.take_append_drop]
  · intro d hd
    obtain ⟨t, ht, rfl⟩ := List.getElem_of_mem hd
    simp only [List.length_take] at ht
    obtain ⟨h1, h2⟩ := findIdx_lt (q := fun d : Piece => decide ((x : Int) < d.fin)) (L := L) (t := t) (by omega)
    simp only [List.getElem_take]
    have h2 := of_decide_eq_false h2; omega
  · intro d hd
    obtain ⟨t, ht, rfl⟩ := List.getElem_of_mem hd
    simp only [List.length_drop] at ht
    have h3 := findIdx_ge (q := fun d : Piece => decide ((y : Int) ≤ d.org)) (L := L) (fun a c ha hc hac h' => by have := (h.so a c ha hc hac).1; simp at h' ⊢; omega) (t := L.findIdx (fun d => decide ((y : Int) ≤ d.org)) + t) (by omega) (by omega)
    simp only [List.getElem_drop]
    have h3 := of_decide_eq_true h3; omega
  · rw [List.length_take]; omega

theorem ovls_mid {sz : Nat} {L : List Piece} (h : Inv sz L) {x y : Nat} (hxy : x ≤ y) : ovls x y (mid x y L) = ovls x y L := by
  obtain ⟨A, B, e, hA, hB, -⟩ := mid_split h hxy
  have e2 : ovls x y L = ovls x y (A ++ mid x y L ++ B) := by rw [← e]
  rw [e2, ovls_append, ovls_append, ovls_zero (L := A) (fun d hd => by have := hA d hd; unfold ovl; omega), ovls_zero (L := B) (fun d hd => by have := hB d hd; unfold ovl; omega)]
  omega
end Go.Proofs.Ytleenkdlnmoepaa
