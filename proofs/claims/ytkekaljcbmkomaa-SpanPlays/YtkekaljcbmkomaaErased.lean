/- What a hole leaves of the stretches, in plain terms. -/
import Derived.Test.YtkekaljcbmkomaaBytes
namespace Go.Proofs.Ytkekaljcbmkomaa
open Go.RowKit
/-- A place that was written. -/
def heldAt (L : List Piece) (p : Nat) : Prop := ∃ d, d ∈ L ∧ d.org ≤ p ∧ p < d.fin

theorem byteAt_mem {L : List Piece} (hs : L.Pairwise (fun a b => a.fin < b.org)) {d : Piece} (hd : d ∈ L) {p : Nat} (h1 : d.org ≤ p) (h2 : p < d.fin) : byteAt L p = d.bs.getD (p - d.org) 0 := by
  induction L with
  | nil => simp at hd
  | cons e L ih =>
    have hs' := List.pairwise_cons.1 hs
    unfold byteAt
    rcases List.mem_cons.1 hd with rfl | hd
    · rw [if_pos ⟨h1, h2⟩]
    · have := hs'.1 d hd
      rw [if_neg (by omega)]
      exact ih hs'.2 hd
theorem byteAt_of_not {L : List Piece} {p : Nat} (h : ¬ heldAt L p) : byteAt L p = 0 := byteAt_none (fun d hd hp => h ⟨d, hd, hp⟩)

/-- What stands where the bytes from x up to y are made a hole. -/
structure Erased (L L' : List Piece) (x y : Nat) : Prop where
  sep : L'.Pairwise (fun a b => a.fin < b.org)
  ne : ∀ d, d ∈ L' → 0 < d.bs.length
  inn : ∀ n, n ∈ L' → ∃ d, d ∈ L ∧ d.org ≤ n.org ∧ n.fin ≤ d.fin ∧ (x < y → n.fin ≤ x ∨ y ≤ n.org)
  held : heldOf L' + ovls x y L = heldOf L
  byte : ∀ p, byteAt L' p = if x ≤ p ∧ p < y then 0 else byteAt L p
  has : ∀ p, heldAt L' p ↔ heldAt L p ∧ ¬ (x ≤ p ∧ p < y)
  cnt : L'.length ≤ L.length + 1

theorem erased_of {A M B N : List Piece} {x y : Nat} (hsep : (A ++ M ++ B).Pairwise (fun a b => a.fin < b.org)) (hne : ∀ d, d ∈ A ++ M ++ B → 0 < d.bs.length) (hA : ∀ d, d ∈ A → d.fin ≤ x) (hB : ∀ d, d ∈ B → y ≤ d.org) (hxy : x < y)
    (hN : N.Pairwise (fun a b => a.fin < b.org)) (hNne : ∀ n, n ∈ N → 0 < n.bs.length)
    (hin : ∀ n, n ∈ N → ∃ d, d ∈ M ∧ d.org ≤ n.org ∧ n.fin ≤ d.fin ∧ (n.fin ≤ x ∨ y ≤ n.org) ∧ ∀ p, n.org ≤ p → p < n.fin → n.bs.getD (p - n.org) 0 = d.bs.getD (p - d.org) 0)
    (hcov : ∀ d, d ∈ M → ∀ p, d.org ≤ p → p < d.fin → ¬ (x ≤ p ∧ p < y) → ∃ n, n ∈ N ∧ n.org ≤ p ∧ p < n.fin) (hheld : heldOf N + ovls x y M = heldOf M) (hcnt : N.length ≤ M.length + 1) : Erased (A ++ M ++ B) (A ++ N ++ B) x y := by
  have hs := hsep
  rw [List.pairwise_append, List.pairwise_append] at hs
  obtain ⟨⟨hAA, hMM, hAM⟩, hBB, hAMB⟩ := hs
  have hsep' : (A ++ N ++ B).Pairwise (fun a b => a.fin < b.org) := by
    rw [List.pairwise_append, List.pairwise_append]
    refine ⟨⟨hAA, hN, fun a ha n hn => ?_⟩, hBB, fun a ha c hc => ?_⟩
    · obtain ⟨d, hd, h1, -⟩ := hin n hn
      have := hAM a ha d hd; omega
    · rcases List.mem_append.1 ha with ha | ha
      · exact hAMB a (by simp [ha]) c hc
      · obtain ⟨d, hd, -, h2, -⟩ := hin a ha
        have := hAMB d (by simp [hd]) c hc; omega
  have hinn : ∀ n, n ∈ A ++ N ++ B → ∃ d, d ∈ A ++ M ++ B ∧ d.org ≤ n.org ∧ n.fin ≤ d.fin ∧ (n.fin ≤ x ∨ y ≤ n.org) ∧ ∀ p, n.org ≤ p → p < n.fin → n.bs.getD (p - n.org) 0 = d.bs.getD (p - d.org) 0 := by
    intro n hn
    simp only [List.mem_append] at hn
    rcases hn with (hn | hn) | hn
    · exact ⟨n, by simp [hn], Nat.le_refl _, Nat.le_refl _, .inl (hA n hn), fun _ _ _ => rfl⟩
    · obtain ⟨d, hd, h1, h2, h3, h4⟩ := hin n hn
      exact ⟨d, by simp [hd], h1, h2, h3, h4⟩
    · exact ⟨n, by simp [hn], Nat.le_refl _, Nat.le_refl _, .inr (hB n hn), fun _ _ _ => rfl⟩
  have hcv : ∀ d, d ∈ A ++ M ++ B → ∀ p, d.org ≤ p → p < d.fin → ¬ (x ≤ p ∧ p < y) → ∃ n, n ∈ A ++ N ++ B ∧ n.org ≤ p ∧ p < n.fin := by
    intro d hd p h1 h2 h3
    simp only [List.mem_append] at hd
    rcases hd with (hd | hd) | hd
    · exact ⟨d, by simp [hd], h1, h2⟩
    · obtain ⟨n, hn, h4, h5⟩ := hcov d hd p h1 h2 h3
      exact ⟨n, by simp [hn], h4, h5⟩
    · exact ⟨d, by simp [hd], h1, h2⟩
  have hhas : ∀ p, heldAt (A ++ N ++ B) p ↔ heldAt (A ++ M ++ B) p ∧ ¬ (x ≤ p ∧ p < y) := by
    intro p
    constructor
    · rintro ⟨n, hn, h1, h2⟩
      obtain ⟨d, hd, h3, h4, h5, -⟩ := hinn n hn
      exact ⟨⟨d, hd, by omega, by omega⟩, by omega⟩
    · rintro ⟨⟨d, hd, h1, h2⟩, h3⟩
      obtain ⟨n, hn, h4⟩ := hcv d hd p h1 h2 h3
      exact ⟨n, hn, h4⟩
  refine ⟨hsep', ?_, fun n hn => ?_, ?_, fun p => ?_, hhas, by simp only [List.length_append]; omega⟩
  · intro d hd
    simp only [List.mem_append] at hd
    rcases hd with (hd | hd) | hd
    · exact hne d (by simp [hd])
    · exact hNne d hd
    · exact hne d (by simp [hd])
  · obtain ⟨d, hd, h1, h2, h3, -⟩ := hinn n hn
    exact ⟨d, hd, h1, h2, fun _ => h3⟩
  · rw [heldOf_append, heldOf_append, heldOf_append, heldOf_append, ovls_append, ovls_append, ovls_zero (L := A) (fun d hd => by have := hA d hd; unfold ovl; omega), ovls_zero (L := B) (fun d hd => by have := hB d hd; unfold ovl; omega)]
    omega
  · by_cases hp : x ≤ p ∧ p < y
    · rw [if_pos hp]
      exact byteAt_of_not (fun h => ((hhas p).1 h).2 hp)
    · rw [if_neg hp]
      by_cases hh : heldAt (A ++ N ++ B) p
      · obtain ⟨n, hn, h1, h2⟩ := hh
        obtain ⟨d, hd, h3, h4, -, h6⟩ := hinn n hn
        rw [byteAt_mem hsep' hn h1 h2, byteAt_mem hsep hd (by omega) (by omega)]
        exact h6 p h1 h2
      · rw [byteAt_of_not hh, byteAt_of_not (fun h => hh ((hhas p).2 ⟨h, hp⟩))]

theorem sum_zero {α : Type} (f : α → Nat) {L : List α} (h : ∀ d, d ∈ L → f d = 0) : (L.map f).sum = 0 := by
  induction L with
  | nil => rfl
  | cons d L ih => rw [List.map_cons, List.sum_cons, h d (by simp), ih (fun e he => h e (by simp [he]))]
theorem held_parts {x y : Nat} (hxy : x < y) {M : List Piece} (h : ∀ d, d ∈ M → x < d.fin ∧ d.org < y) : heldOf M = ovls x y M + (M.map fun d => x - d.org).sum + (M.map fun d => d.fin - y).sum := by
  induction M with
  | nil => rfl
  | cons d M ih =>
    rw [heldOf_cons, ovls_cons, List.map_cons, List.map_cons, List.sum_cons, List.sum_cons, ih (fun e he => h e (by simp [he]))]
    have := h d (by simp)
    unfold ovl Piece.fin at *
    omega

def leftN (x : Nat) (f : Piece) (g c : Nat) : List Piece := if f.org < x then [⟨f.org, g, c, f.bs.take (x - f.org)⟩] else []
def rightN (y : Nat) (t : Piece) (g c : Nat) : List Piece := if y < t.fin then [⟨y, g, c, t.bs.drop (y - t.org)⟩] else []

theorem erased_parts {sz : Nat} {L : List Piece} (h : Inv sz L) {x y i j : Nat} (hxy : x < y) (hi : L.findIdx (fun d => decide ((x : Int) < d.fin)) = i) (hj : L.findIdx (fun d => decide ((y : Int) ≤ d.org)) = j) (hij : i < j) {f t : Piece} (hf : L[i]? = some f) (ht : L[j - 1]? = some t) (gl cl gr cr : Nat) :
    Erased L (L.take i ++ (leftN x f gl cl ++ rightN y t gr cr) ++ L.drop j) x y := by
  have hjl : j ≤ L.length := by rw [← hj]; exact List.findIdx_le_length
  obtain ⟨A, B, e, hA, hB, hAl⟩ := mid_split h (x := x) (y := y) (by omega)
  have hM : ∀ d, d ∈ mid x y L → x < d.fin ∧ d.org < y := fun d hd => (mid_mem h hd).2
  have hml : mid x y L = (L.take j).drop i := by rw [mid, hi, hj]
  have hM1 : ∃ M1, mid x y L = f :: M1 := by
    obtain ⟨hl, rfl⟩ := List.getElem?_eq_some_iff.1 hf
    refine ⟨(L.take j).drop (i + 1), ?_⟩
    rw [hml, List.drop_eq_getElem_cons (by rw [List.length_take]; omega), List.getElem_take]
  have hM2 : ∃ M2, mid x y L = M2 ++ [t] := by
    obtain ⟨hl, rfl⟩ := List.getElem?_eq_some_iff.1 ht
    refine ⟨(L.take (j - 1)).drop i, ?_⟩
    rw [hml]
    have e1 : L.take j = L.take (j - 1) ++ [L[j - 1]] := by
      have := List.take_append_getElem (l := L) (i := j - 1) hl
      rw [this]; congr 1; omega
    rw [e1, List.drop_append_of_le_length (by rw [List.length_take]; omega)]
  have eA : L.take i = A := by
    have : A.length = i := by rw [hAl, hi]
    conv => lhs; rw [e]
    rw [List.append_assoc, ← this, List.take_left]
  have eB : L.drop j = B := by
    have hlen : (A ++ mid x y L).length = j := by
      rw [List.length_append, hAl, hi, hml, List.length_drop, List.length_take]; omega
    conv => lhs; rw [e]
    rw [← hlen, List.drop_left]
  rw [eA, eB]
  have hsep := h.sep
  have hne := h.ne
  generalize hMM : mid x y L = M at *
  obtain ⟨M1, hM1⟩ := hM1
  obtain ⟨M2, hM2⟩ := hM2
  rw [e] at hsep hne ⊢
  have hs := hsep
  rw [List.pairwise_append, List.pairwise_append] at hs
  have hsM := hs.1.2.1
  have hfM : f ∈ M := by rw [hM1]; simp
  have htM : t ∈ M := by rw [hM2]; simp
  have hf1 : ∀ d, d ∈ M1 → f.fin < d.org := by rw [hM1] at hsM; exact (List.pairwise_cons.1 hsM).1
  have ht1 : ∀ d, d ∈ M2 → d.fin < t.org := by
    rw [hM2, List.pairwise_append] at hsM
    exact fun d hd => hsM.2.2 d hd t (by simp)
  have hfx := hM f hfM
  have hty := hM t htM
  have hft : f.org ≤ t.org ∧ f.fin ≤ t.fin := by
    have h2 : f ∈ M2 ++ [t] := by rw [← hM2]; exact hfM
    rcases List.mem_append.1 h2 with h2 | h2
    · have := ht1 f h2; unfold Piece.fin at *; omega
    · rw [List.mem_singleton.1 h2]; omega
  have hfn := hne f (by simp [hfM])
  have htn := hne t (by simp [htM])
  have hleft : ∀ n, n ∈ leftN x f gl cl → n.org = f.org ∧ f.org < x ∧ n.bs = f.bs.take (x - f.org) ∧ n.bs.length = x - f.org := by
    intro n hn
    unfold leftN at hn
    split at hn
    · rw [List.mem_singleton.1 hn]
      refine ⟨rfl, by assumption, rfl, ?_⟩
      unfold Piece.fin at hfx
      simp only [List.length_take]; omega
    · simp at hn
  have hright : ∀ n, n ∈ rightN y t gr cr → n.org = y ∧ y < t.fin ∧ n.bs = t.bs.drop (y - t.org) ∧ n.bs.length = t.fin - y := by
    intro n hn
    unfold rightN at hn
    split at hn
    · rw [List.mem_singleton.1 hn]
      refine ⟨rfl, by assumption, rfl, ?_⟩
      simp only [List.length_drop]; unfold Piece.fin at *; omega
    · simp at hn
  have hhl : heldOf (leftN x f gl cl) = x - f.org := by
    unfold leftN
    split
    · unfold Piece.fin at hfx
      simp only [heldOf, List.map_cons, List.map_nil, List.sum_cons, List.sum_nil, List.length_take]; omega
    · simp only [heldOf, List.map_nil, List.sum_nil]; omega
  have hhr : heldOf (rightN y t gr cr) = t.fin - y := by
    unfold rightN
    split
    · simp only [heldOf, List.map_cons, List.map_nil, List.sum_cons, List.sum_nil, List.length_drop]; unfold Piece.fin at *; omega
    · simp only [heldOf, List.map_nil, List.sum_nil]; omega
  refine erased_of hsep hne hA hB hxy ?_ ?_ ?_ ?_ ?_ (by
    have e1 : (leftN x f gl cl).length ≤ 1 := by unfold leftN; split <;> simp
    have e2 : (rightN y t gr cr).length ≤ 1 := by unfold rightN; split <;> simp
    rw [List.length_append, hM1, List.length_cons]; omega)
  · rw [List.pairwise_append]
    refine ⟨?_, ?_, fun a ha c hc => ?_⟩
    · unfold leftN; split <;> simp
    · unfold rightN; split <;> simp
    · obtain ⟨h1, h2, -, h3⟩ := hleft a ha
      obtain ⟨h4, -⟩ := hright c hc
      unfold Piece.fin; omega
  · intro n hn
    rcases List.mem_append.1 hn with hn | hn
    · have := hleft n hn; omega
    · have := hright n hn; omega
  · intro n hn
    rcases List.mem_append.1 hn with hn | hn
    · obtain ⟨h1, h2, h3, h4⟩ := hleft n hn
      refine ⟨f, hfM, by omega, by unfold Piece.fin at *; omega, .inl (by unfold Piece.fin; omega), fun p hp1 hp2 => ?_⟩
      unfold Piece.fin at hp2
      rw [h3, h1, List.getD_eq_getElem?_getD, List.getD_eq_getElem?_getD, List.getElem?_take, if_pos (by omega)]
    · obtain ⟨h1, h2, h3, h4⟩ := hright n hn
      refine ⟨t, htM, by omega, by unfold Piece.fin at *; omega, .inr (by omega), fun p hp1 hp2 => ?_⟩
      rw [h3, h1, List.getD_eq_getElem?_getD, List.getD_eq_getElem?_getD, List.getElem?_drop]
      congr 2; omega
  · intro d hd p h1 h2 h3
    rcases Nat.lt_or_ge p x with hpx | hpx
    · have hdf : d = f := by
        rw [hM1] at hd
        rcases List.mem_cons.1 hd with e1 | e1
        · exact e1
        · have := hf1 d e1; omega
      rw [hdf] at h1 h2
      refine ⟨⟨f.org, gl, cl, f.bs.take (x - f.org)⟩, ?_, h1, ?_⟩
      · apply List.mem_append_left; unfold leftN; rw [if_pos (by omega)]; simp
      · unfold Piece.fin at *; simp only [List.length_take]; omega
    · have hdt : d = t := by
        rw [hM2] at hd
        rcases List.mem_append.1 hd with e1 | e1
        · have := ht1 d e1; omega
        · exact List.mem_singleton.1 e1
      rw [hdt] at h1 h2
      refine ⟨⟨y, gr, cr, t.bs.drop (y - t.org)⟩, ?_, by simp only; omega, ?_⟩
      · apply List.mem_append_right; unfold rightN; rw [if_pos (by omega)]; simp
      · unfold Piece.fin at *; simp only [List.length_drop]; omega
  · rw [heldOf_append, hhl, hhr, held_parts hxy hM]
    have e1 : (M.map fun d => x - d.org).sum = x - f.org := by
      rw [hM1, List.map_cons, List.sum_cons, sum_zero _ (fun d hd => by have := hf1 d hd; omega)]; omega
    have e2 : (M.map fun d => d.fin - y).sum = t.fin - y := by
      rw [hM2, List.map_append, List.sum_append, sum_zero (L := M2) _ (fun d hd => by have := ht1 d hd; omega)]; simp
    rw [e1, e2]; omega

theorem erased_same {sz : Nat} {L : List Piece} (h : Inv sz L) {x y i j : Nat} (hxy : x < y) (hi : L.findIdx (fun d => decide ((x : Int) < d.fin)) = i) (hj : L.findIdx (fun d => decide ((y : Int) ≤ d.org)) = j) (hij : i = j) : Erased L (L.take i ++ [] ++ L.drop j) x y := by
  obtain ⟨A, B, e, hA, hB, hAl⟩ := mid_split h (x := x) (y := y) (by omega)
  have hml : mid x y L = [] := by rw [mid, hi, hj, hij]; simp
  rw [hml] at e
  have e2 : L.take i ++ [] ++ L.drop j = A ++ [] ++ B := by rw [← e, ← hij]; simp
  rw [e2]
  have hsep := h.sep
  have hne := h.ne
  rw [e] at hsep hne
  have := erased_of (N := []) hsep hne hA hB hxy (by simp) (by simp) (by simp) (by simp) rfl (by simp)
  rw [← e] at this ⊢
  exact this
end Go.Proofs.Ytkekaljcbmkomaa
