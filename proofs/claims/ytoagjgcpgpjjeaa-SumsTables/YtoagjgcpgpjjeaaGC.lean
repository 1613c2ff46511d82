/- Merged: Erased, Laid, RowLaws, Insert, ReplaceA, ReplaceB, Replace, LayS, Lay0, LayIn, Kept, Merge. -/
import Derived.Test.YtoagjgcpgpjjeaaGA
import Derived.Laws.CopyOwn
import Derived.Lib.AppendZerosOnto
import Derived.Lib.Overlaps
import Derived.Deep.DeepCutAuto
import Derived.Deep.RegionHeld2
namespace Go.Proofs.Ytoagjgcpgpjjeaa
open Go.RowKit
/-- A place that was written. -/
def heldAt (L : List Piece) (p : Nat) : Prop := ∃ d, d ∈ L ∧ d.org ≤ p ∧ p < d.fin

theorem byteAt_mem {L : List Piece} (hs : L.Pairwise (fun a b => a.fin < b.org)) {d : Piece} (hd : d ∈ L) {p : Nat} (h1 : d.org ≤ p) (h2 : p < d.fin) : byteAt L p = d.bs.getD (p - d.org) 0 := by
  induction L with
  | nil => simp at hd
  | cons e L ih =>
    have hs' := List.pairwise_cons.1 hs
    unfold byteAt
    rcases List.mem_cons.1 hd with rfl | hd
    · rw [if_pos ⟨h1, h2⟩]
    · have := hs'.1 d hd
      rw [if_neg (by omega)]
      exact ih hs'.2 hd
theorem byteAt_of_not {L : List Piece} {p : Nat} (h : ¬ heldAt L p) : byteAt L p = 0 := byteAt_none (fun d hd hp => h ⟨d, hd, hp⟩)

/-- What stands where the bytes from x up to y are made a hole. -/
structure Erased (L L' : List Piece) (x y : Nat) : Prop where
  sep : L'.Pairwise (fun a b => a.fin < b.org)
  ne : ∀ d, d ∈ L' → 0 < d.bs.length
  inn : ∀ n, n ∈ L' → ∃ d, d ∈ L ∧ d.org ≤ n.org ∧ n.fin ≤ d.fin ∧ (x < y → n.fin ≤ x ∨ y ≤ n.org)
  held : heldOf L' + ovls x y L = heldOf L
  byte : ∀ p, byteAt L' p = if x ≤ p ∧ p < y then 0 else byteAt L p
  has : ∀ p, heldAt L' p ↔ heldAt L p ∧ ¬ (x ≤ p ∧ p < y)
  cnt : L'.length ≤ L.length + 1

theorem erased_of {A M B N : List Piece} {x y : Nat} (hsep : (A ++ M ++ B).Pairwise (fun a b => a.fin < b.org)) (hne : ∀ d, d ∈ A ++ M ++ B → 0 < d.bs.length) (hA : ∀ d, d ∈ A → d.fin ≤ x) (hB : ∀ d, d ∈ B → y ≤ d.org) (hxy : x < y)
    (hN : N.Pairwise (fun a b => a.fin < b.org)) (hNne : ∀ n, n ∈ N → 0 < n.bs.length)
    (hin : ∀ n, n ∈ N → ∃ d, d ∈ M ∧ d.org ≤ n.org ∧ n.fin ≤ d.fin ∧ (n.fin ≤ x ∨ y ≤ n.org) ∧ ∀ p, n.org ≤ p → p < n.fin → n.bs.getD (p - n.org) 0 = d.bs.getD (p - d.org) 0)
    (hcov : ∀ d, d ∈ M → ∀ p, d.org ≤ p → p < d.fin → ¬ (x ≤ p ∧ p < y) → ∃ n, n ∈ N ∧ n.org ≤ p ∧ p < n.fin) (hheld : heldOf N + ovls x y M = heldOf M) (hcnt : N.length ≤ M.length + 1) : Erased (A ++ M ++ B) (A ++ N ++ B) x y := by
  have hs := hsep
  rw [List.pairwise_append, List.pairwise_append] at hs
  obtain ⟨⟨hAA, hMM, hAM⟩, hBB, hAMB⟩ := hs
  have hsep' : (A ++ N ++ B).Pairwise (fun a b => a.fin < b.org) := by
    rw [List.pairwise_append, List.pairwise_append]
    refine ⟨⟨hAA, hN, fun a ha n hn => ?_⟩, hBB, fun a ha c hc => ?_⟩
    · obtain ⟨d, hd, h1, -⟩ := hin n hn
      have := hAM a ha d hd; omega
    · rcases List.mem_append.1 ha with ha | ha
      · exact hAMB a (by simp [ha]) c hc
      · obtain ⟨d, hd, -, h2, -⟩ := hin a ha
        have := hAMB d (by simp [hd]) c hc; omega
  have hinn : ∀ n, n ∈ A ++ N ++ B → ∃ d, d ∈ A ++ M ++ B ∧ d.org ≤ n.org ∧ n.fin ≤ d.fin ∧ (n.fin ≤ x ∨ y ≤ n.org) ∧ ∀ p, n.org ≤ p → p < n.fin → n.bs.getD (p - n.org) 0 = d.bs.getD (p - d.org) 0 := by
    intro n hn
    simp only [List.mem_append] at hn
    rcases hn with (hn | hn) | hn
    · exact ⟨n, by simp [hn], Nat.le_refl _, Nat.le_refl _, .inl (hA n hn), fun _ _ _ => rfl⟩
    · obtain ⟨d, hd, h1, h2, h3, h4⟩ := hin n hn
      exact ⟨d, by simp [hd], h1, h2, h3, h4⟩
    · exact ⟨n, by simp [hn], Nat.le_refl _, Nat.le_refl _, .inr (hB n hn), fun _ _ _ => rfl⟩
  have hcv : ∀ d, d ∈ A ++ M ++ B → ∀ p, d.org ≤ p → p < d.fin → ¬ (x ≤ p ∧ p < y) → ∃ n, n ∈ A ++ N ++ B ∧ n.org ≤ p ∧ p < n.fin := by
    intro d hd p h1 h2 h3
    simp only [List.mem_append] at hd
    rcases hd with (hd | hd) | hd
    · exact ⟨d, by simp [hd], h1, h2⟩
    · obtain ⟨n, hn, h4, h5⟩ := hcov d hd p h1 h2 h3
      exact ⟨n, by simp [hn], h4, h5⟩
    · exact ⟨d, by simp [hd], h1, h2⟩
  have hhas : ∀ p, heldAt (A ++ N ++ B) p ↔ heldAt (A ++ M ++ B) p ∧ ¬ (x ≤ p ∧ p < y) := by
    intro p
    constructor
    · rintro ⟨n, hn, h1, h2⟩
      obtain ⟨d, hd, h3, h4, h5, -⟩ := hinn n hn
      exact ⟨⟨d, hd, by omega, by omega⟩, by omega⟩
    · rintro ⟨⟨d, hd, h1, h2⟩, h3⟩
      obtain ⟨n, hn, h4⟩ := hcv d hd p h1 h2 h3
      exact ⟨n, hn, h4⟩
  refine ⟨hsep', ?_, fun n hn => ?_, ?_, fun p => ?_, hhas, by simp only [List.length_append]; omega⟩
  · intro d hd
    simp only [List.mem_append] at hd
    rcases hd with (hd | hd) | hd
    · exact hne d (by simp [hd])
    · exact hNne d hd
    · exact hne d (by simp [hd])
  · obtain ⟨d, hd, h1, h2, h3, -⟩ := hinn n hn
    exact ⟨d, hd, h1, h2, fun _ => h3⟩
  · rw [heldOf_append, heldOf_append, heldOf_append, heldOf_append, ovls_append, ovls_append, ovls_zero (L := A) (fun d hd => by have := hA d hd; unfold ovl; omega), ovls_zero (L := B) (fun d hd => by have := hB d hd; unfold ovl; omega)]
    omega
  · by_cases hp : x ≤ p ∧ p < y
    · rw [if_pos hp]
      exact byteAt_of_not (fun h => ((hhas p).1 h).2 hp)
    · rw [if_neg hp]
      by_cases hh : heldAt (A ++ N ++ B) p
      · obtain ⟨n, hn, h1, h2⟩ := hh
        obtain ⟨d, hd, h3, h4, -, h6⟩ := hinn n hn
        rw [byteAt_mem hsep' hn h1 h2, byteAt_mem hsep hd (by omega) (by omega)]
        exact h6 p h1 h2
      · rw [byteAt_of_not hh, byteAt_of_not (fun h => hh ((hhas p).2 ⟨h, hp⟩))]

theorem sum_zero {α : Type} (f : α → Nat) {L : List α} (h : ∀ d, d ∈ L → f d = 0) : (L.map f).sum = 0 := by
  induction L with
  | nil => rfl
  | cons d L ih => rw [List.map_cons, List.sum_cons, h d (by simp), ih (fun e he => h e (by simp [he]))]
theorem held_parts {x y : Nat} (hxy : x < y) {M : List Piece} (h : ∀ d, d ∈ M → x < d.fin ∧ d.org < y) : heldOf M = ovls x y M + (M.map fun d => x - d.org).sum + (M.map fun d => d.fin - y).sum := by
  induction M with
  | nil => rfl
  | cons d M ih =>
    rw [heldOf_cons, ovls_cons, List.map_cons, List.map_cons, List.sum_cons, List.sum_cons, ih (fun e he => h e (by simp [he]))]
    have := h d (by simp)
    unfold ovl Piece.fin at *
    omega

def leftN (x : Nat) (f : Piece) (g c : Nat) : List Piece := if f.org < x then [⟨f.org, g, c, f.bs.take (x - f.org)⟩] else []
def rightN (y : Nat) (t : Piece) (g c : Nat) : List Piece := if y < t.fin then [⟨y, g, c, t.bs.drop (y - t.org)⟩] else []

theorem erased_parts {sz : Nat} {L : List Piece} (h : Inv sz L) {x y i j : Nat} (hxy : x < y) (hi : L.findIdx (fun d => decide ((x : Int) < d.fin)) = i) (hj : L.findIdx (fun d => decide ((y : Int) ≤ d.org)) = j) (hij : i < j) {f t : Piece} (hf : L[i]? = some f) (ht : L[j - 1]? = some t) (gl cl gr cr : Nat) :
    Erased L (L.take i ++ (leftN x f gl cl ++ rightN y t gr cr) ++ L.drop j) x y := by
  have hjl : j ≤ L.length := by rw [← hj]; exact List.findIdx_le_length
  obtain ⟨A, B, e, hA, hB, hAl⟩ := mid_split h (x := x) (y := y) (by omega)
  have hM : ∀ d, d ∈ mid x y L → x < d.fin ∧ d.org < y := fun d hd => (mid_mem h hd).2
  have hml : mid x y L = (L.take j).drop i := by rw [mid, hi, hj]
  have hM1 : ∃ M1, mid x y L = f :: M1 := by
    obtain ⟨hl, rfl⟩ := List.getElem?_eq_some_iff.1 hf
    refine ⟨(L.take j).drop (i + 1), ?_⟩
    rw [hml, List.drop_eq_getElem_cons (by rw [List.length_take]; omega), List.getElem_take]
  have hM2 : ∃ M2, mid x y L = M2 ++ [t] := by
    obtain ⟨hl, rfl⟩ := List.getElem?_eq_some_iff.1 ht
    refine ⟨(L.take (j - 1)).drop i, ?_⟩
    rw [hml]
    have e1 : L.take j = L.take (j - 1) ++ [L[j - 1]] := by
      have := List.take_append_getElem (l := L) (i := j - 1) hl
      rw [this]; congr 1; omega
    rw [e1, List.drop_append_of_le_length (by rw [List.length_take]; omega)]
  have eA : L.take i = A := by
    have : A.length = i := by rw [hAl, hi]
    conv => lhs; rw [e]
    rw [List.append_assoc, ← this, List.take_left]
  have eB : L.drop j = B := by
    have hlen : (A ++ mid x y L).length = j := by
      rw [List.length_append, hAl, hi, hml, List.length_drop, List.length_take]; omega
    conv => lhs; rw [e]
    rw [← hlen, List.drop_left]
  rw [eA, eB]
  have hsep := h.sep
  have hne := h.ne
  generalize hMM : mid x y L = M at *
  obtain ⟨M1, hM1⟩ := hM1
  obtain ⟨M2, hM2⟩ := hM2
  rw [e] at hsep hne ⊢
  have hs := hsep
  rw [List.pairwise_append, List.pairwise_append] at hs
  have hsM := hs.1.2.1
  have hfM : f ∈ M := by rw [hM1]; simp
  have htM : t ∈ M := by rw [hM2]; simp
  have hf1 : ∀ d, d ∈ M1 → f.fin < d.org := by rw [hM1] at hsM; exact (List.pairwise_cons.1 hsM).1
  have ht1 : ∀ d, d ∈ M2 → d.fin < t.org := by
    rw [hM2, List.pairwise_append] at hsM
    exact fun d hd => hsM.2.2 d hd t (by simp)
  have hfx := hM f hfM
  have hty := hM t htM
  have hft : f.org ≤ t.org ∧ f.fin ≤ t.fin := by
    have h2 : f ∈ M2 ++ [t] := by rw [← hM2]; exact hfM
    rcases List.mem_append.1 h2 with h2 | h2
    · have := ht1 f h2; unfold Piece.fin at *; omega
    · rw [List.mem_singleton.1 h2]; omega
  have hfn := hne f (by simp [hfM])
  have htn := hne t (by simp [htM])
  have hleft : ∀ n, n ∈ leftN x f gl cl → n.org = f.org ∧ f.org < x ∧ n.bs = f.bs.take (x - f.org) ∧ n.bs.length = x - f.org := by
    intro n hn
    unfold leftN at hn
    split at hn
    · rw [List.mem_singleton.1 hn]
      refine ⟨rfl, by assumption, rfl, ?_⟩
      unfold Piece.fin at hfx
      simp only [List.length_take]; omega
    · simp at hn
  have hright : ∀ n, n ∈ rightN y t gr cr → n.org = y ∧ y < t.fin ∧ n.bs = t.bs.drop (y - t.org) ∧ n.bs.length = t.fin - y := by
    intro n hn
    unfold rightN at hn
    split at hn
    · rw [List.mem_singleton.1 hn]
      refine ⟨rfl, by assumption, rfl, ?_⟩
      simp only [List.length_drop]; unfold Piece.fin at *; omega
    · simp at hn
  have hhl : heldOf (leftN x f gl cl) = x - f.org := by
    unfold leftN
    split
    · unfold Piece.fin at hfx
      simp only [heldOf, List.map_cons, List.map_nil, List.sum_cons, List.sum_nil, List.length_take]; omega
    · simp only [heldOf, List.map_nil, List.sum_nil]; omega
  have hhr : heldOf (rightN y t gr cr) = t.fin - y := by
    unfold rightN
    split
    · simp only [heldOf, List.map_cons, List.map_nil, List.sum_cons, List.sum_nil, List.length_drop]; unfold Piece.fin at *; omega
    · simp only [heldOf, List.map_nil, List.sum_nil]; omega
  refine erased_of hsep hne hA hB hxy ?_ ?_ ?_ ?_ ?_ (by
    have e1 : (leftN x f gl cl).length ≤ 1 := by unfold leftN; split <;> simp
    have e2 : (rightN y t gr cr).length ≤ 1 := by unfold rightN; split <;> simp
    rw [List.length_append, hM1, List.length_cons]; omega)
  · rw [List.pairwise_append]
    refine ⟨?_, ?_, fun a ha c hc => ?_⟩
    · unfold leftN; split <;> simp
    · unfold rightN; split <;> simp
    · obtain ⟨h1, h2, -, h3⟩ := hleft a ha
      obtain ⟨h4, -⟩ := hright c hc
      unfold Piece.fin; omega
  · intro n hn
    rcases List.mem_append.1 hn with hn | hn
    · have := hleft n hn; omega
    · have := hright n hn; omega
  · intro n hn
    rcases List.mem_append.1 hn with hn | hn
    · obtain ⟨h1, h2, h3, h4⟩ := hleft n hn
      refine ⟨f, hfM, by omega, by unfold Piece.fin at *; omega, .inl (by unfold Piece.fin; omega), fun p hp1 hp2 => ?_⟩
      unfold Piece.fin at hp2
      rw [h3, h1, List.getD_eq_getElem?_getD, List.getD_eq_getElem?_getD, List.getElem?_take, if_pos (by omega)]
    · obtain ⟨h1, h2, h3, h4⟩ := hright n hn
      refine ⟨t, htM, by omega, by unfold Piece.fin at *; omega, .inr (by omega), fun p hp1 hp2 => ?_⟩
      rw [h3, h1, List.getD_eq_getElem?_getD, List.getD_eq_getElem?_getD, List.getElem?_drop]
      congr 2; omega
  · intro d hd p h1 h2 h3
    rcases Nat.lt_or_ge p x with hpx | hpx
    · have hdf : d = f := by
        rw [hM1] at hd
        rcases List.mem_cons.1 hd with e1 | e1
        · exact e1
        · have := hf1 d e1; omega
      rw [hdf] at h1 h2
      refine ⟨⟨f.org, gl, cl, f.bs.take (x - f.org)⟩, ?_, h1, ?_⟩
      · apply List.mem_append_left; unfold leftN; rw [if_pos (by omega)]; simp
      · unfold Piece.fin at *; simp only [List.length_take]; omega
    · have hdt : d = t := by
        rw [hM2] at hd
        rcases List.mem_append.1 hd with e1 | e1
        · have := ht1 d e1; omega
        · exact List.mem_singleton.1 e1
      rw [hdt] at h1 h2
      refine ⟨⟨y, gr, cr, t.bs.drop (y - t.org)⟩, ?_, by simp only; omega, ?_⟩
      · apply List.mem_append_right; unfold rightN; rw [if_pos (by omega)]; simp
      · unfold Piece.fin at *; simp only [List.length_drop]; omega
  · rw [heldOf_append, hhl, hhr, held_parts hxy hM]
    have e1 : (M.map fun d => x - d.org).sum = x - f.org := by
      rw [hM1, List.map_cons, List.sum_cons, sum_zero _ (fun d hd => by have := hf1 d hd; omega)]; omega
    have e2 : (M.map fun d => d.fin - y).sum = t.fin - y := by
      rw [hM2, List.map_append, List.sum_append, sum_zero (L := M2) _ (fun d hd => by have := ht1 d hd; omega)]; simp
    rw [e1, e2]; omega

theorem erased_same {sz : Nat} {L : List Piece} (h : Inv sz L) {x y i j : Nat} (hxy : x < y) (hi : L.findIdx (fun d => decide ((x : Int) < d.fin)) = i) (hj : L.findIdx (fun d => decide ((y : Int) ≤ d.org)) = j) (hij : i = j) : Erased L (L.take i ++ [] ++ L.drop j) x y := by
  obtain ⟨A, B, e, hA, hB, hAl⟩ := mid_split h (x := x) (y := y) (by omega)
  have hml : mid x y L = [] := by rw [mid, hi, hj, hij]; simp
  rw [hml] at e
  have e2 : L.take i ++ [] ++ L.drop j = A ++ [] ++ B := by rw [← e, ← hij]; simp
  rw [e2]
  have hsep := h.sep
  have hne := h.ne
  rw [e] at hsep hne
  have := erased_of (N := []) hsep hne hA hB hxy (by simp) (by simp) (by simp) (by simp) rfl (by simp)
  rw [← e] at this ⊢
  exact this
end Go.Proofs.Ytoagjgcpgpjjeaa

namespace Go.Proofs.Ytoagjgcpgpjjeaa
open Go.RowKit

/-- What stands where the bytes l are laid at x. -/
structure Laid (L L' : List Piece) (x : Nat) (l : List UInt8) : Prop where
  sep : L'.Pairwise (fun a b => a.fin < b.org)
  ne : ∀ d, d ∈ L' → 0 < d.bs.length
  fin : ∀ n, n ∈ L' → n.fin ≤ x + l.length ∨ ∃ d, d ∈ L ∧ n.fin ≤ d.fin
  held : heldOf L' + ovls x (x + l.length) L = heldOf L + l.length
  byte : ∀ p, byteAt L' p = if x ≤ p ∧ p < x + l.length then l.getD (p - x) 0 else byteAt L p
  has : ∀ p, heldAt L' p ↔ heldAt L p ∨ (x ≤ p ∧ p < x + l.length)
  cnt : L'.length ≤ L.length + 1

theorem laid_of {A M B : List Piece} {n : Piece} {x : Nat} {l : List UInt8} (hsep : (A ++ M ++ B).Pairwise (fun a b => a.fin < b.org)) (hne : ∀ d, d ∈ A ++ M ++ B → 0 < d.bs.length)
    (hA : ∀ d, d ∈ A → d.fin < x) (hB : ∀ d, d ∈ B → x + l.length < d.org) (hl : 0 < l.length)
    (hno : n.org ≤ x ∧ (n.org = x ∨ ∃ d, d ∈ M ∧ n.org = d.org)) (hnf : x + l.length ≤ n.fin ∧ (n.fin = x + l.length ∨ ∃ d, d ∈ M ∧ n.fin = d.fin))
    (hcov : ∀ d, d ∈ M → n.org ≤ d.org ∧ d.fin ≤ n.fin) (hin : ∀ p, n.org ≤ p → p < n.fin → (x ≤ p ∧ p < x + l.length) ∨ heldAt M p)
    (hbyte : ∀ p, n.org ≤ p → p < n.fin → n.bs.getD (p - n.org) 0 = if x ≤ p ∧ p < x + l.length then l.getD (p - x) 0 else byteAt M p)
    (hheld : n.bs.length + ovls x (x + l.length) M = heldOf M + l.length) : Laid (A ++ M ++ B) (A ++ [n] ++ B) x l := by
  have hs := hsep
  rw [List.pairwise_append, List.pairwise_append] at hs
  obtain ⟨⟨hAA, hMM, hAM⟩, hBB, hAMB⟩ := hs
  have hAn : ∀ a, a ∈ A → a.fin < n.org := by
    intro a ha
    rcases hno.2 with e | ⟨d, hd, e⟩
    · have := hA a ha; omega
    · have := hAM a ha d hd; omega
  have hnB : ∀ c, c ∈ B → n.fin < c.org := by
    intro c hc
    rcases hnf.2 with e | ⟨d, hd, e⟩
    · have := hB c hc; omega
    · have := hAMB d (by simp [hd]) c hc; omega
  have hsep' : (A ++ [n] ++ B).Pairwise (fun a b => a.fin < b.org) := by
    rw [List.pairwise_append, List.pairwise_append]
    refine ⟨⟨hAA, by simp, fun a ha m hm => ?_⟩, hBB, fun a ha c hc => ?_⟩
    · rw [List.mem_singleton.1 hm]; exact hAn a ha
    · rcases List.mem_append.1 ha with ha | ha
      · exact hAMB a (by simp [ha]) c hc
      · rw [List.mem_singleton.1 ha]; exact hnB c hc
  have hnn : n ∈ A ++ [n] ++ B := by simp
  have hhas : ∀ p, heldAt (A ++ [n] ++ B) p ↔ heldAt (A ++ M ++ B) p ∨ (x ≤ p ∧ p < x + l.length) := by
    intro p
    constructor
    · rintro ⟨d, hd, h1, h2⟩
      simp only [List.mem_append, List.mem_singleton] at hd
      rcases hd with (hd | rfl) | hd
      · exact .inl ⟨d, by simp [hd], h1, h2⟩
      · rcases hin p h1 h2 with h | ⟨e, he, h3⟩
        · exact .inr h
        · exact .inl ⟨e, by simp [he], h3⟩
      · exact .inl ⟨d, by simp [hd], h1, h2⟩
    · rintro (⟨d, hd, h1, h2⟩ | h)
      · simp only [List.mem_append] at hd
        rcases hd with (hd | hd) | hd
        · exact ⟨d, by simp [hd], h1, h2⟩
        · have := hcov d hd; exact ⟨n, hnn, by omega, by omega⟩
        · exact ⟨d, by simp [hd], h1, h2⟩
      · exact ⟨n, hnn, by omega, by omega⟩
  refine ⟨hsep', ?_, ?_, ?_, fun p => ?_, hhas, by simp only [List.length_append, List.length_singleton]; omega⟩
  · intro d hd
    simp only [List.mem_append, List.mem_singleton] at hd
    rcases hd with (hd | rfl) | hd
    · exact hne d (by simp [hd])
    · unfold Piece.fin at hnf; omega
    · exact hne d (by simp [hd])
  · intro d hd
    simp only [List.mem_append, List.mem_singleton] at hd
    rcases hd with (hd | rfl) | hd
    · exact .inr ⟨d, by simp [hd], Nat.le_refl _⟩
    · rcases hnf.2 with e | ⟨c, hc, e⟩
      · exact .inl (by omega)
      · exact .inr ⟨c, by simp [hc], by omega⟩
    · exact .inr ⟨d, by simp [hd], Nat.le_refl _⟩
  · rw [heldOf_append, heldOf_append, heldOf_append, heldOf_append, ovls_append, ovls_append, ovls_zero (L := A) (fun d hd => by have := hA d hd; unfold ovl; omega), ovls_zero (L := B) (fun d hd => by have := hB d hd; unfold ovl; omega)]
    have : heldOf [n] = n.bs.length := by simp [heldOf]
    omega
  · by_cases hp : n.org ≤ p ∧ p < n.fin
    · rw [byteAt_mem hsep' hnn hp.1 hp.2, hbyte p hp.1 hp.2]
      split
      · rfl
      · rename_i hx
        rw [List.append_assoc, byteAt_append_right (A := A) (fun d hd h => by have := hAn d hd; omega), byteAt_append_left (B := B) (fun d hd h => by have := hnB d hd; omega)]
    · rw [if_neg (by omega)]
      by_cases hh : heldAt (A ++ [n] ++ B) p
      · obtain ⟨d, hd, h1, h2⟩ := hh
        have hd' := hd
        simp only [List.mem_append, List.mem_singleton] at hd
        rcases hd with (hd | rfl) | hd
        · rw [byteAt_mem hsep' hd' h1 h2, byteAt_mem hsep (d := d) (by simp [hd]) h1 h2]
        · omega
        · rw [byteAt_mem hsep' hd' h1 h2, byteAt_mem hsep (d := d) (by simp [hd]) h1 h2]
      · rw [byteAt_of_not hh, byteAt_of_not (fun h => hh ((hhas p).2 (.inl h)))]

theorem held_touch {x y : Nat} (hxy : x < y) {M : List Piece} (h : ∀ d, d ∈ M → x ≤ d.fin ∧ d.org ≤ y) : heldOf M = ovls x y M + (M.map fun d => x - d.org).sum + (M.map fun d => d.fin - y).sum := by
  induction M with
  | nil => rfl
  | cons d M ih =>
    rw [heldOf_cons, ovls_cons, List.map_cons, List.map_cons, List.sum_cons, List.sum_cons, ih (fun e he => h e (by simp [he]))]
    have := h d (by simp)
    unfold ovl Piece.fin at *
    omega

theorem getD_app3 (a b c : List UInt8) (k : Nat) : (a ++ b ++ c).getD k 0 = if k < a.length then a.getD k 0 else if k < a.length + b.length then b.getD (k - a.length) 0 else c.getD (k - a.length - b.length) 0 := by
  simp only [List.getD_eq_getElem?_getD]
  rw [List.append_assoc, List.getElem?_append]
  split
  · rfl
  · rw [List.getElem?_append]
    split
    · rw [if_pos (by omega)]
    · rw [if_neg (by omega)]

/-- Where no stretch touches what is laid. -/
theorem laid_alone {sz : Nat} {L : List Piece} (h : Inv sz L) {x k : Nat} {l : List UInt8} (hl : 0 < l.length) (hi : L.findIdx (fun d => decide ((x : Int) ≤ d.fin)) = k) (hj : L.findIdx (fun d => decide ((x : Int) + (l.length : Int) < d.org)) = k) (g c : Nat) :
    Laid L (L.take k ++ [⟨x, g, c, l⟩] ++ L.drop k) x l := by
  have hA : ∀ d, d ∈ L.take k → d.fin < x := fun d hd => by
    obtain ⟨t, ht, rfl⟩ := List.getElem_of_mem hd
    rw [List.length_take] at ht
    obtain ⟨_, h1⟩ := findIdx_lt (q := fun d : Piece => decide ((x : Int) ≤ d.fin)) (L := L) (t := t) (by rw [hi]; omega)
    have := of_decide_eq_false h1
    rw [List.getElem_take]; omega
  have hB : ∀ d, d ∈ L.drop k → x + l.length < d.org := fun d hd => by
    obtain ⟨t, ht, rfl⟩ := List.getElem_of_mem hd
    rw [List.length_drop] at ht
    have h1 := findIdx_ge (q := fun d : Piece => decide ((x : Int) + (l.length : Int) < d.org)) (L := L) (fun i j hi hj hij hq => by
      have := (h.so i j hi hj hij).1
      have hq := of_decide_eq_true hq
      exact decide_eq_true (by omega)) (t := k + t) (by omega) (by rw [hj]; omega)
    have := of_decide_eq_true h1
    rw [List.getElem_drop]; omega
  have e : L = L.take k ++ [] ++ L.drop k := by simp
  have hsep := h.sep
  have hne := h.ne
  rw [e] at hsep hne
  have := laid_of (n := ⟨x, g, c, l⟩) (M := []) hsep hne hA hB hl ⟨Nat.le_refl _, .inl rfl⟩ ⟨Nat.le_refl _, .inl rfl⟩ (by simp) (fun p h1 h2 => .inl ⟨h1, h2⟩) (fun p h1 h2 => by rw [if_pos ⟨h1, h2⟩]) (by simp [ovls, heldOf])
  rw [← e] at this
  exact this

/-- Where it touches the stretches from the i-th up to the j-th. -/
theorem laid_touch {sz : Nat} {L : List Piece} (h : Inv sz L) {x i j : Nat} {l : List UInt8} (hl : 0 < l.length) (hi : L.findIdx (fun d => decide ((x : Int) ≤ d.fin)) = i) (hj : L.findIdx (fun d => decide ((x : Int) + (l.length : Int) < d.org)) = j) (hij : i < j) {f t : Piece} (hf : L[i]? = some f) (ht : L[j - 1]? = some t) (g c : Nat) :
    Laid L (L.take i ++ [⟨min f.org x, g, c, f.bs.take (x - f.org) ++ l ++ t.bs.drop (min (x + l.length) t.fin - t.org)⟩] ++ L.drop j) x l := by
  have hjl : j ≤ L.length := by rw [← hj]; exact List.findIdx_le_length
  have hA : ∀ d, d ∈ L.take i → d.fin < x := fun d hd => by
    obtain ⟨t, ht, rfl⟩ := List.getElem_of_mem hd
    rw [List.length_take] at ht
    obtain ⟨_, h1⟩ := findIdx_lt (q := fun d : Piece => decide ((x : Int) ≤ d.fin)) (L := L) (t := t) (by rw [hi]; omega)
    have := of_decide_eq_false h1
    rw [List.getElem_take]; omega
  have hB : ∀ d, d ∈ L.drop j → x + l.length < d.org := fun d hd => by
    obtain ⟨t, ht, rfl⟩ := List.getElem_of_mem hd
    rw [List.length_drop] at ht
    have h1 := findIdx_ge (q := fun d : Piece => decide ((x : Int) + (l.length : Int) < d.org)) (L := L) (fun i j hi hj hij hq => by
      have := (h.so i j hi hj hij).1
      have hq := of_decide_eq_true hq
      exact decide_eq_true (by omega)) (t := j + t) (by omega) (by rw [hj]; omega)
    have := of_decide_eq_true h1
    rw [List.getElem_drop]; omega
  have hM : ∀ d, d ∈ (L.take j).drop i → x ≤ d.fin ∧ d.org ≤ x + l.length := fun d hd => by
    obtain ⟨t, ht, rfl⟩ := List.getElem_of_mem hd
    rw [List.length_drop, List.length_take] at ht
    have h1 := findIdx_ge (q := fun d : Piece => decide ((x : Int) ≤ d.fin)) (L := L) (fun i j hi hj hij hq => by
      have := (h.so i j hi hj hij).2
      have hq := of_decide_eq_true hq
      exact decide_eq_true (by omega)) (t := i + t) (by omega) (by rw [hi]; omega)
    obtain ⟨_, h2⟩ := findIdx_lt (q := fun d : Piece => decide ((x : Int) + (l.length : Int) < d.org)) (L := L) (t := i + t) (by rw [hj]; omega)
    have h1 := of_decide_eq_true h1
    have h2 := of_decide_eq_false h2
    rw [List.getElem_drop, List.getElem_take]
    constructor
    · omega
    · omega
  have e : L = L.take i ++ (L.take j).drop i ++ L.drop j := by
    conv => lhs; rw [← List.take_append_drop j L]
    congr 1
    conv => lhs; rw [← List.take_append_drop i (L.take j)]
    rw [List.take_take, Nat.min_eq_left (by omega)]
  have hM1 : ∃ M1, (L.take j).drop i = f :: M1 := by
    obtain ⟨hl, rfl⟩ := List.getElem?_eq_some_iff.1 hf
    refine ⟨(L.take j).drop (i + 1), ?_⟩
    rw [List.drop_eq_getElem_cons (by rw [List.length_take]; omega), List.getElem_take]
  have hM2 : ∃ M2, (L.take j).drop i = M2 ++ [t] := by
    obtain ⟨hl, rfl⟩ := List.getElem?_eq_some_iff.1 ht
    refine ⟨(L.take (j - 1)).drop i, ?_⟩
    have e1 : L.take j = L.take (j - 1) ++ [L[j - 1]] := by
      have := List.take_append_getElem (l := L) (i := j - 1) hl
      rw [this]; congr 1; omega
    rw [e1, List.drop_append_of_le_length (by rw [List.length_take]; omega)]
  have hsep := h.sep
  have hne := h.ne
  rw [e] at hsep hne
  have key : Laid (L.take i ++ (L.take j).drop i ++ L.drop j) (L.take i ++ [⟨min f.org x, g, c, f.bs.take (x - f.org) ++ l ++ t.bs.drop (min (x + l.length) t.fin - t.org)⟩] ++ L.drop j) x l := by
    clear e
    generalize L.take i = A at *
    generalize L.drop j = B at *
    generalize (L.take j).drop i = M at *
    obtain ⟨M1, hM1⟩ := hM1
    obtain ⟨M2, hM2⟩ := hM2
    have hs := hsep
    rw [List.pairwise_append, List.pairwise_append] at hs
    have hsM := hs.1.2.1
    have hfM : f ∈ M := by rw [hM1]; simp
    have htM : t ∈ M := by rw [hM2]; simp
    have hf1 : ∀ d, d ∈ M1 → f.fin < d.org := by rw [hM1] at hsM; exact (List.pairwise_cons.1 hsM).1
    have ht1 : ∀ d, d ∈ M2 → d.fin < t.org := by
      rw [hM2, List.pairwise_append] at hsM
      exact fun d hd => hsM.2.2 d hd t (by simp)
    have hfx := hM f hfM
    have hty := hM t htM
    have hfle : ∀ d, d ∈ M → f.org ≤ d.org := by
      intro d hd
      rw [hM1] at hd
      rcases List.mem_cons.1 hd with rfl | hd
      · omega
      · have := hf1 d hd; unfold Piece.fin at this; omega
    have htle : ∀ d, d ∈ M → d.fin ≤ t.fin := by
      intro d hd
      rw [hM2] at hd
      rcases List.mem_append.1 hd with hd | hd
      · have := ht1 d hd; unfold Piece.fin at *; omega
      · rw [List.mem_singleton.1 hd]; omega
    have lpre : (f.bs.take (x - f.org)).length = x - f.org := by rw [List.length_take]; unfold Piece.fin at hfx; omega
    have lsuf : (t.bs.drop (min (x + l.length) t.fin - t.org)).length = t.fin - (x + l.length) := by rw [List.length_drop]; unfold Piece.fin at *; omega
    have lall : (f.bs.take (x - f.org) ++ l ++ t.bs.drop (min (x + l.length) t.fin - t.org)).length = (x - f.org) + l.length + (t.fin - (x + l.length)) := by rw [List.length_append, List.length_append, lpre, lsuf]
    have nfin : (⟨min f.org x, g, c, f.bs.take (x - f.org) ++ l ++ t.bs.drop (min (x + l.length) t.fin - t.org)⟩ : Piece).fin = max (x + l.length) t.fin := by
      show min f.org x + (f.bs.take (x - f.org) ++ l ++ t.bs.drop (min (x + l.length) t.fin - t.org)).length = _
      rw [lall]; omega
    refine laid_of hsep hne hA hB hl ⟨?_, ?_⟩ ⟨?_, ?_⟩ ?_ ?_ ?_ ?_
    · show min f.org x ≤ x; omega
    · rcases Nat.lt_or_ge f.org x with hlt | hge
      · exact .inr ⟨f, hfM, by show min f.org x = f.org; omega⟩
      · exact .inl (by show min f.org x = x; omega)
    · rw [nfin]; omega
    · rw [nfin]
      rcases Nat.lt_or_ge (x + l.length) t.fin with hlt | hge
      · exact .inr ⟨t, htM, by omega⟩
      · exact .inl (by omega)
    · intro d hd
      rw [nfin]
      have h1 := hfle d hd; have h2 := htle d hd
      refine ⟨?_, by omega⟩
      show min f.org x ≤ d.org; omega
    · intro p h1 h2
      rw [nfin] at h2
      replace h1 : min f.org x ≤ p := h1
      rcases Nat.lt_or_ge p x with hp | hp
      · exact .inr ⟨f, hfM, by omega, by omega⟩
      · rcases Nat.lt_or_ge p (x + l.length) with hq | hq
        · exact .inl ⟨hp, hq⟩
        · exact .inr ⟨t, htM, by omega, by omega⟩
    · intro p h1 h2
      rw [nfin] at h2
      replace h1 : min f.org x ≤ p := h1
      show (f.bs.take (x - f.org) ++ l ++ t.bs.drop (min (x + l.length) t.fin - t.org)).getD (p - min f.org x) 0 = _
      rw [getD_app3, lpre]
      rcases Nat.lt_or_ge p x with hp | hp
      · rw [if_pos (by omega), if_neg (by omega), byteAt_mem hsM hfM (by omega) (by omega), show p - min f.org x = p - f.org by omega]
        simp only [List.getD_eq_getElem?_getD]
        rw [List.getElem?_take, if_pos (by omega)]
      · rw [if_neg (by omega)]
        rcases Nat.lt_or_ge p (x + l.length) with hq | hq
        · rw [if_pos (by omega), if_pos ⟨hp, hq⟩]
          congr 1; omega
        · rw [if_neg (by omega), if_neg (by omega), byteAt_mem hsM htM (by omega) (by omega)]
          simp only [List.getD_eq_getElem?_getD]
          rw [List.getElem?_drop]
          congr 2; omega
    · show (f.bs.take (x - f.org) ++ l ++ t.bs.drop (min (x + l.length) t.fin - t.org)).length + _ = _
      rw [lall, held_touch (x := x) (y := x + l.length) (by omega) hM]
      have e1 : (M.map fun d => x - d.org).sum = x - f.org := by
        rw [hM1, List.map_cons, List.sum_cons, sum_zero _ (fun d hd => by have := hf1 d hd; omega)]; omega
      have e2 : (M.map fun d => d.fin - (x + l.length)).sum = t.fin - (x + l.length) := by
        rw [hM2, List.map_append, List.sum_append, sum_zero (L := M2) _ (fun d hd => by have := ht1 d hd; omega)]; simp
      rw [e1, e2]; omega
  rw [← e] at key
  exact key
end Go.Proofs.Ytoagjgcpgpjjeaa

namespace Go.Proofs.Ytoagjgcpgpjjeaa
open Go.RowKit
attribute [local simp] lcells_nil readB_length bcells_length
theorem sz56 : (Try.prog.info? 126).map (·.size) = some 2 := by kernel_rfl

/-- copy(d, s) of stretches into a row that is known whole. -/
theorem run_copy2 (W : World) (ty : TypeId) (dp sp : Option Addr) (dLen dCap sLen sCap : Nat) (g off : Nat) (cur : List Value) (hg : W.heap[g]? = some (.cells cur.toArray 126 (0, 0))) (cs : List Value) (hn : cs.length = min sLen dLen * 2)
    (hpos : 0 < cs.length → dp = some ⟨g, off, none⟩ ∧ ∃ ad, sp = some ad ∧ ∀ j v, cs[j]? = some v → W.cell? (ad.add j) = some v) (hfit : off + cs.length ≤ cur.length) (h1 : ∀ v ∈ cs, v.oneCell' = true) :
    (Builtin.copy_ #[100, 100] ty #[.slice dp dLen dCap, .slice sp sLen sCap]).run Try.prog W = .ok (goInt (min sLen dLen : Nat)) (W.setRow g (splice cur off cs).toArray) := by
  obtain ⟨i, hi, -, hs, -⟩ := info_parts info56
  by_cases h0 : cs.length = 0
  · obtain rfl : cs = [] := List.eq_nil_of_length_eq_zero h0
    have hm : Nat.min sLen dLen = 0 := by have h2 : min sLen dLen * 2 = 0 := hn.symm; show min sLen dLen = 0; omega
    rw [show (splice cur off []).toArray = cur.toArray by simp [splice], setRow_same hg, show min sLen dLen = 0 from hm]
    cases sp <;> cases dp <;> simp [Builtin.copy_, run_underlying Try.underlying100, Builtin.lenOf, Builtin.firstCells, sizeOf, typeInfo, hi, hm, storeCells, loadCells, loadCellsFrom]
  · obtain ⟨rfl, ad, rfl, hsrc⟩ := hpos (by omega)
    have hl := run_firstCells_some (P := Try.prog) W 2 (min sLen dLen) ad sLen sCap cs hn hsrc
    have hst := run_storeCells_at Try.prog g off 126 cs 0 cur.toArray W hg (by simpa using hfit) h1
    simp only [Nat.add_zero] at hst
    rw [show (splice cur off cs).toArray = (cur.toArray.toList.take off ++ cs ++ cur.toArray.toList.drop (off + cs.length)).toArray by simp [splice]]
    rw [show min sLen dLen = Nat.min sLen dLen from rfl] at hl ⊢
    simp [Builtin.copy_, run_underlying Try.underlying100, Builtin.lenOf, sizeOf, typeInfo, hi, hs, hl, hst]

def zc (n : Nat) : List Value := (Builtin.zeroCells #[.int .i64 0, .slice none 0 0] n).toList
theorem zc_length (n : Nat) : (zc n).length = n * 2 := by simp [zc, size_zeroCells]
theorem zc_one (n : Nat) : ∀ v ∈ zc n, v.oneCell' = true := by
  intro v hv
  simp only [zc, Builtin.zeroCells, Array.toList_map, List.mem_map] at hv
  obtain ⟨i, -, rfl⟩ := hv
  have hlt : i % (#[Value.int .i64 0, .slice none 0 0] : Array Value).size < 2 := Nat.mod_lt _ (by decide)
  generalize i % (#[Value.int .i64 0, .slice none 0 0] : Array Value).size = k at hlt ⊢
  match k, hlt with
  | 0, _ => rfl
  | 1, _ => rfl

/-- clear(d) of stretches in a row that is known whole. -/
theorem run_clear2 (W : World) (ty : TypeId) (dp : Option Addr) (n c g off : Nat) (cur : List Value) (hg : W.heap[g]? = some (.cells cur.toArray 126 (0, 0))) (hpos : 0 < n → dp = some ⟨g, off, none⟩) (hfit : off + n * 2 ≤ cur.length) :
    (Builtin.clear_ #[100] ty #[.slice dp n c]).run Try.prog W = .ok (.tuple #[]) (W.setRow g (splice cur off (zc n)).toArray) := by
  obtain ⟨i, hi, hz, hs, -⟩ := info_parts info56
  by_cases h0 : n = 0
  · subst h0
    rw [show (splice cur off (zc 0)).toArray = cur.toArray by simp [splice, zc, Builtin.zeroCells], setRow_same hg]
    cases dp <;> simp [Builtin.clear_, run_underlying Try.underlying100]
  · obtain rfl := hpos (by omega)
    have hst := run_storeCells_at Try.prog g off 126 (zc n) 0 cur.toArray W hg (by rw [zc_length]; simpa using hfit) (zc_one n)
    simp only [Nat.add_zero] at hst
    rw [show (splice cur off (zc n)).toArray = (cur.toArray.toList.take off ++ zc n ++ cur.toArray.toList.drop (off + (zc n).length)).toArray by simp [splice]]
    have hz2 : (Builtin.zeroCells (Value.agg #[.int .i64 0, .slice none 0 0]).cells n).toList = zc n := rfl
    obtain ⟨k, rfl⟩ : ∃ k, n = k + 1 := ⟨n - 1, by omega⟩
    simp [Builtin.clear_, run_underlying Try.underlying100, zeroValue, typeInfo, hi, hz, hz2, hst]

theorem wpList_copy_to {P : Program} (w : World) {ops : Array Oper} {rest : List Oper} {o : Oper} {a : Act} {Q : Exit → Act → World → Prop} (hgd : o.guard = none) (d x : Operand) (dT sT : TypeId)
    (ho : o.op = .call { callee := .builtin .copy, args := #[d, x], argTypes := #[dT, sT] }) (v u : Value) (hd : a.eval d = v) (hx : a.eval x = u) {v' : Value} {w' : World}
    (hr : (Builtin.copy_ #[dT, sT] o.type #[v, u]).run P w = .ok v' w') (h : wpList P ops Q rest (a.put o.dst v') w') : wpList P ops Q (o :: rest) a w := by
  refine wpList_plain hgd fun K hK => ?_
  unfold Oper.wp execOp
  simp only [ho, resolve, invoke, builtin, Sem.run_bind, Sem.run_pure, Result.andThen_ok, List.map_toArray, List.map_cons, List.map_nil, hd, hx, hr]
  exact hK _ _ h
theorem wpList_clear_to {P : Program} (w : World) {ops : Array Oper} {rest : List Oper} {o : Oper} {a : Act} {Q : Exit → Act → World → Prop} (hgd : o.guard = none) (d : Operand) (dT : TypeId)
    (ho : o.op = .call { callee := .builtin .clear, args := #[d], argTypes := #[dT] }) (v : Value) (hd : a.eval d = v) {v' : Value} {w' : World}
    (hr : (Builtin.clear_ #[dT] o.type #[v]).run P w = .ok v' w') (h : wpList P ops Q rest (a.put o.dst v') w') : wpList P ops Q (o :: rest) a w := by
  refine wpList_plain hgd fun K hK => ?_
  unfold Oper.wp execOp
  simp only [ho, resolve, invoke, builtin, Sem.run_bind, Sem.run_pure, Result.andThen_ok, List.map_toArray, List.map_cons, List.map_nil, hd, hr]
  exact hK _ _ h
theorem wpList_append_to {P : Program} (w : World) {ops : Array Oper} {rest : List Oper} {o : Oper} {a : Act} {Q : Exit → Act → World → Prop} (hgd : o.guard = none) (d x : Operand) (dT sT : TypeId)
    (ho : o.op = .call { callee := .builtin .append, args := #[d, x], argTypes := #[dT, sT] }) (v u : Value) (hd : a.eval d = v) (hx : a.eval x = u) {v' : Value} {w' : World}
    (hr : (Builtin.append_ #[dT, sT] o.type #[v, u]).run P w = .ok v' w') (h : wpList P ops Q rest (a.put o.dst v') w') : wpList P ops Q (o :: rest) a w := by
  refine wpList_plain hgd fun K hK => ?_
  unfold Oper.wp execOp
  simp only [ho, resolve, invoke, builtin, Sem.run_bind, Sem.run_pure, Result.andThen_ok, List.map_toArray, List.map_cons, List.map_nil, hd, hx, hr]
  exact hK _ _ h

theorem own_of_row {w : World} {g cap n : Nat} {cur xs : List Value} (h : w.heap[g]? = some (.cells cur.toArray 126 (0, 0))) (hl : cur.length = cap * 2) (hn : n ≤ cap) (hc : cap ≤ maxLen) (hx : cur.take (n * 2) = xs) : w.ownsRow 0 126 2 (.slice (some ⟨g, 0, none⟩) n cap) n xs :=
  ⟨by rw [← hx, List.length_take]; omega, .inr ⟨g, cap, cur.toArray, rfl, Nat.zero_le _, h, hn, hc, by simpa using hl, by simpa using hx⟩⟩
theorem row_cells {w : World} {g : Nat} {cur : List Value} {T : TypeId} {fr : Nat × Nat} (h : w.heap[g]? = some (.cells cur.toArray T fr)) (o : Nat) {cs : List Value} (hs : ∀ j v, cs[j]? = some v → cur[o + j]? = some v) : ∀ j v, cs[j]? = some v → w.cell? ((⟨g, o, none⟩ : Addr).add j) = some v := fun j v hj => by
  rw [Addr.add_lit, cell_of_row w g (o + j) _ _ _ h]; simpa using hs j v hj
theorem own_cells {w : World} {v : Value} {m : Nat} {vs : List Value} (h : w.ownsRow 0 126 2 v m vs) (hm : 0 < m) : ∃ vb vc cur, v = .slice (some ⟨vb, 0, none⟩) m vc ∧ w.heap[vb]? = some (.cells cur 126 (0, 0)) ∧ m * 2 ≤ cur.size ∧ ∀ j u, vs[j]? = some u → w.cell? ((⟨vb, 0, none⟩ : Addr).add j) = some u := by
  rcases h.2 with ⟨-, h0⟩ | ⟨g, cap, cur, rfl, -, hg, h1, -, h2, -⟩
  · omega
  · exact ⟨g, cap, cur, rfl, hg, by rw [h2]; omega, h.cells (g := g) rfl⟩
theorem ins_list {α : Type} (cur vs : List α) (i n m cap : Nat) (hc : cur.length = cap * 2) (hin : i ≤ n) (hnc : n + m ≤ cap) (hv : vs.length = m * 2) :
    (splice (splice cur ((i + m) * 2) ((cur.drop (i * 2)).take ((n - i) * 2))) (i * 2) vs).take ((n + m) * 2) = cur.take (i * 2) ++ vs ++ (cur.take (n * 2)).drop (i * 2) := by
  have e1 : ((cur.drop (i * 2)).take ((n - i) * 2)).length = (n - i) * 2 := by rw [List.length_take, List.length_drop]; omega
  have e2 : (cur.take (n * 2)).drop (i * 2) = (cur.drop (i * 2)).take ((n - i) * 2) := by rw [List.drop_take]; congr 1; omega
  rw [e2]
  generalize (cur.drop (i * 2)).take ((n - i) * 2) = mid at *
  simp only [splice]
  rw [e1, hv]
  have e3 : List.take (i * 2) (List.take ((i + m) * 2) cur ++ (mid ++ List.drop ((i + m) * 2 + (n - i) * 2) cur)) = cur.take (i * 2) := by
    rw [List.take_append_of_le_length (by rw [List.length_take]; omega), List.take_take]; congr 1; omega
  have e4 : List.drop (i * 2 + m * 2) (List.take ((i + m) * 2) cur ++ (mid ++ List.drop ((i + m) * 2 + (n - i) * 2) cur)) = mid ++ List.drop ((i + m) * 2 + (n - i) * 2) cur := by
    rw [List.drop_append_of_le_length (by rw [List.length_take]; omega), List.drop_of_length_le (by rw [List.length_take]; omega), List.nil_append]
  rw [e3, e4]
  have e5 : (cur.take (i * 2) ++ (vs ++ mid)).length = (n + m) * 2 := by simp only [List.length_append, List.length_take, hv, e1]; omega
  rw [← List.append_assoc vs, ← List.append_assoc (cur.take (i * 2)), ← e5, List.take_left, List.append_assoc]
end Go.Proofs.Ytoagjgcpgpjjeaa

namespace Go.Proofs.Ytoagjgcpgpjjeaa
open Go.RowKit
attribute [local simp] lcells_nil readB_length bcells_length
theorem run_ov (w : World) (vb g o m vc lb cb : Nat) (vcur cur : Array Value) (hvb : w.heap[vb]? = some (.cells vcur 126 (0, 0))) (hg : w.heap[g]? = some (.cells cur 126 (0, 0))) (hne : vb ≠ g) (hc : cur.size ≠ 0) :
    (callFunc 79 #[.slice (some ⟨vb, 0, none⟩) m vc, .slice (some ⟨g, o, none⟩) lb cb]).run Try.prog w = .ok (.value (.bool false)) w := by
  have hz : ∀ w, (Go.sizeOf 126).run Try.prog w = .ok 2 w := fun w => by
    obtain ⟨i, hi, -, hs, -⟩ := info_parts info56
    simp [Go.sizeOf, typeInfo, hi, hs]
  rw [run_callFunc_extern Try.func79 (by kernel_rfl) (by kernel_rfl) (by kernel_rfl) (e := Extern.SlicesOverlaps.overlaps #[100, 100] #[4]) (by kernel_rfl),
    Lib.run_overlaps_apart w 100 4 126 Try.underlying100 2 hz ⟨vb, 0, none⟩ ⟨g, o, none⟩ m vc lb cb hne 126 126 vcur.size cur.size (by simp [World.shape?, hvb]) (by simp [World.shape?, hg]) hc (frozen_of_row w vb 0 _ _ hvb) (frozen_of_row w vb _ _ _ hvb)]
  rfl

theorem td_mem {α : Type} {l : List α} {i n : Nat} {v : α} (h : v ∈ (l.drop (i * 2)).take ((n - i) * 2)) (hin : i ≤ n) : v ∈ l.take (n * 2) := by
  have e : (l.take (n * 2)).drop (i * 2) = (l.drop (i * 2)).take ((n - i) * 2) := by rw [List.drop_take]; congr 1; omega
  rw [← e] at h
  exact List.mem_of_mem_drop h
theorem td_get {α : Type} {l : List α} {o k j : Nat} {v : α} (h : ((l.drop o).take k)[j]? = some v) : l[o + j]? = some v := by
  rw [List.getElem?_take] at h
  split at h
  · rwa [List.getElem?_drop] at h
  · cases h

set_option maxHeartbeats 1000000 in
set_option maxRecDepth 100000 in
theorem insertRoom_any (g cap n i m : Nat) (cur : List Value) (vv : Value) (vs : List Value) (w : World) (hg : w.heap[g]? = some (.cells cur.toArray 126 (0, 0))) (hcur : cur.length = cap * 2) (hcap : cap ≤ maxLen) (h1 : ∀ u ∈ cur.take (n * 2), u.oneCell' = true)
    (hi : i < n) (hm : 0 < m) (hroom : n + m ≤ cap) (hv : w.ownsRow 0 126 2 vv m vs) (hvg : vv.ownBlock ≠ some g) (h1v : ∀ u ∈ vs, u.oneCell' = true) :
    Calls Try.prog 78 #[.slice (some ⟨g, 0, none⟩) n cap, .int .i64 i, vv] w fun e w' => e = .returned (.slice (some ⟨g, 0, none⟩) (n + m) cap) ∧ w'.ownsRow 0 126 2 (.slice (some ⟨g, 0, none⟩) (n + m) cap) (n + m) (cur.take (i * 2) ++ vs ++ (cur.take (n * 2)).drop (i * 2)) ∧ w.grownBy w' (some g) := by
  obtain ⟨vb, vc, vcur, rfl, hvb, hvl, hvs⟩ := own_cells hv hm
  have hne : vb ≠ g := fun e => hvg (by rw [e]; rfl)
  have hvlen : vs.length = m * 2 := hv.1
  have hbg : g < w.heap.size := (Array.getElem?_eq_some_iff.1 hg).1
  have hbv : vb < w.heap.size := (Array.getElem?_eq_some_iff.1 hvb).1
  have hov := fun lb cb => run_ov w vb g ((i + m) * 2) m vc lb cb vcur cur.toArray hvb hg hne (by rw [List.size_toArray]; omega)
  have hlen1 : ((cur.drop (i * 2)).take ((n - i) * 2)).length = (n - i) * 2 := by rw [List.length_take, List.length_drop]; omega
  have hcp1 : ∀ ty c1 c2, (Builtin.copy_ #[100, 100] ty #[.slice (some ⟨g, (i + m) * 2, none⟩) (n + m - (i + m)) c1, .slice (some ⟨g, i * 2, none⟩) (n + m - i) c2]).run Try.prog w.drew = .ok (goInt (min (n + m - i) (n + m - (i + m)) : Nat)) (w.drew.setRow g (splice cur ((i + m) * 2) ((cur.drop (i * 2)).take ((n - i) * 2))).toArray) := fun ty c1 c2 =>
    run_copy2 w.drew ty _ _ _ _ _ _ g ((i + m) * 2) cur hg _ (by rw [hlen1]; omega) (fun _ => ⟨rfl, _, rfl, row_cells hg (i * 2) (fun j v hj => td_get hj)⟩) (by rw [hlen1]; omega) (fun v hv => h1 v (td_mem hv (by omega)))
  have hl2 : (splice cur ((i + m) * 2) ((cur.drop (i * 2)).take ((n - i) * 2))).length = cap * 2 := by rw [length_splice _ _ _ (by rw [hlen1]; omega), hcur]
  have hfin := ins_list cur vs i n m cap hcur (by omega) hroom hvlen
  generalize splice cur ((i + m) * 2) ((cur.drop (i * 2)).take ((n - i) * 2)) = cur1 at *
  have hcp2 : ∀ ty c1, (Builtin.copy_ #[100, 100] ty #[.slice (some ⟨g, i * 2, none⟩) (n + m - i) c1, .slice (some ⟨vb, 0, none⟩) m vc]).run Try.prog (w.drew.setRow g cur1.toArray) = .ok (goInt (min m (n + m - i) : Nat)) ((w.drew.setRow g cur1.toArray).setRow g (splice cur1 (i * 2) vs).toArray) := fun ty c1 =>
    run_copy2 _ ty _ _ _ _ _ _ g (i * 2) cur1 (setRow_heap w.drew g cur.toArray _ _ _ hg) vs (by rw [hvlen]; omega) (fun _ => ⟨rfl, _, rfl, fun j v hj => (cell_setRow_far (by rw [Addr.add_lit]; exact hne)).trans (hvs j v hj)⟩) (by rw [hl2, hvlen]; omega) h1v
  have hend : ((w.drew.setRow g cur1.toArray).setRow g (splice cur1 (i * 2) vs).toArray).ownsRow 0 126 2 (.slice (some ⟨g, 0, none⟩) (n + m) cap) (n + m) (cur.take (i * 2) ++ vs ++ (cur.take (n * 2)).drop (i * 2)) :=
    own_of_row (setRow_heap _ g cur1.toArray _ _ _ (setRow_heap w.drew g cur.toArray _ _ _ hg)) (by rw [length_splice _ _ _ (by rw [hl2, hvlen]; omega), hl2]) hroom hcap hfin
  have hgr : w.grownBy ((w.drew.setRow g cur1.toArray).setRow g (splice cur1 (i * 2) vs).toArray) (some g) := ⟨rfl, rfl, rfl, by simp [World.setRow], fun k _ hk => by rw [setRow_other _ g k _ (fun e => hk (by rw [e])), setRow_other _ g k _ (fun e => hk (by rw [e]))]; rfl⟩
  have HE := aside hend
  have HG := aside hgr
  have HC1 := aside hcp1
  have HC2 := aside hcp2
  have HOV := aside hov
  have hm0 : ((m : Int) == 0) = false := by simp; omega
  have hmz : ¬ (m = 0) := by omega
  have hin0 : ((i : Int) == (n : Int)) = false := by simp; omega
  have hinz : ¬ (i = n) := by omega
  have hw1 : IntKind.i64.wrap ((i : Int) + (m : Int)) = ((i + m : Nat) : Int) := by unfold maxLen at hcap; rw [IntKind.wrap_i64]; omega
  have hb1 : (0 : Int) ≤ (i : Int) + (m : Int) := by omega
  have htn : ((i : Int) + (m : Int)).toNat = i + m := by omega
  have hb3 : (i : Int) ≤ (n : Int) + (m : Int) := by omega
  have hc1 : ¬ (cap = i) := by omega
  have hc2 : ¬ (cap = i + m) := by omega
  have hc3 : i + m ≤ n + m := by omega
  have hc4 : i ≤ n + m := by omega
  have hc5 : i ≤ n := by omega
  have hiz : (i : Int) ≤ (n : Int) := by omega
  unfold maxLen at hcap
  clear hend hgr hcp1 hcp2 hov hg h1 hv hvg h1v hvb hvs hfin hl2 hlen1 hvl hvlen hcur
  go_enter Try.func78, Try.ntmps78
  go_wp2_with (simp only [HOV.out])
  go_region_law (refine step_copy_to rfl _ _ 100 100 rfl _ _ (by simp [Act.eval, Act.put]; rfl) (by simp [Act.eval, Act.put]; rfl) (HC1.out _ _ _) ?_)
  go_wp2_with ((with_reducible refine wpList_copy_to _ rfl _ _ 100 100 rfl (.slice (some ⟨g, i * 2, none⟩) (n + m - i) (cap - i)) (.slice (some ⟨vb, 0, none⟩) m vc) ?_ ?_ (HC2.out _ _) ?_); rfl; rfl)
  all_goals
    go_ret
    exact ⟨rfl, HE.out, HG.out⟩
theorem tk_get {α : Type} {l : List α} {k j : Nat} {v : α} (h : (l.take k)[j]? = some v) : l[0 + j]? = some v := by
  rw [List.getElem?_take] at h
  split at h
  · rwa [Nat.zero_add]
  · cases h
/-- append(s[:i], make(S, k)...) where there is no room: a new row. -/
theorem append_zeros (w : World) (g cap i k : Nat) (cur : List Value) (hg : w.heap[g]? = some (.cells cur.toArray 126 (0, 0))) (hcur : cur.length = cap * 2) (hi : i ≤ cap) (hk : 0 < k) (hno : cap < i + k) (hbig : i + k ≤ 8589934592) :
    ∃ cap' W1 rest, (∀ ty, (Builtin.append_ #[100, 3] ty #[.slice (some ⟨g, 0, none⟩) i cap, .int .i64 (k : Int)]).run Try.prog w = .ok (.slice (some ⟨w.heap.size, 0, none⟩) (i + k) cap') W1) ∧ W1.heap[w.heap.size]? = some (.cells (cur.take (i * 2) ++ rest).toArray 126 (0, 0)) ∧ (cur.take (i * 2) ++ rest).length = cap' * 2 ∧ i + k ≤ cap' ∧ cap' ≤ maxLen ∧ Below w.heap.size w W1 := by
  obtain ⟨ti, hi6, hz, hs, hb⟩ := info_parts info56
  have hold : (Builtin.firstCells ti.size i (.slice (some ⟨g, 0, none⟩) i cap)).run Try.prog w.drew = .ok (cur.take (i * 2)).toArray w.drew := by
    rw [hs]
    exact run_firstCells_some w.drew 2 i ⟨g, 0, none⟩ i cap (cur.take (i * 2)) (by rw [List.length_take]; omega) (row_cells (w := w.drew) hg 0 (fun j v hj => tk_get hj))
  have hge := grownCap_ge w (i + k) cap 126
  have hcm := grownCap_le_maxLen w (i + k) cap 126 (by unfold maxLen; omega)
  have hrun := fun ty => Lib.run_append_grow_zeros w 100 3 ty 126 ti _ .i64 .i64 Try.underlying100 Try.underlying3 hi6 hz (some ⟨g, 0, none⟩) i cap (cur.take (i * 2)) hold k hk (by rw [hs]; decide) hno (by omega) (by rw [hb]; omega) (by rw [hb]; exact growslice_fits hno (by omega))
  generalize grownCap w (i + k) cap 126 = cap' at *
  refine ⟨cap', _, (Builtin.zeroCells (Value.agg #[.int .i64 0, .slice none 0 0]).cells k).toList ++ (Builtin.zeroCells (Value.agg #[.int .i64 0, .slice none 0 0]).cells (cap' - (i + k))).toList, hrun, ?_, ?_, hge, hcm, below_tr (below_dr w) (below_al w.drew _)⟩
  · rw [show w.heap.size = w.drew.heap.size from rfl, heap_alloc_new]
    simp
  · have e : (Value.agg #[.int .i64 0, .slice none 0 0]).cells.size = 2 := rfl
    simp only [List.length_append, List.length_take, Array.length_toList, size_zeroCells, e]; omega

theorem grow_list {α : Type} (cur rest vs : List α) (i n m cap : Nat) (hc : cur.length = cap * 2) (hin : i ≤ n) (hn : n ≤ cap) (hv : vs.length = m * 2) :
    (splice (splice (cur.take (i * 2) ++ rest) (i * 2) vs) ((i + m) * 2) ((cur.drop (i * 2)).take ((n - i) * 2))).take ((n + m) * 2) = cur.take (i * 2) ++ vs ++ (cur.take (n * 2)).drop (i * 2) := by
  have e1 : ((cur.drop (i * 2)).take ((n - i) * 2)).length = (n - i) * 2 := by rw [List.length_take, List.length_drop]; omega
  have e2 : (cur.take (n * 2)).drop (i * 2) = (cur.drop (i * 2)).take ((n - i) * 2) := by rw [List.drop_take]; congr 1; omega
  rw [e2]
  generalize (cur.drop (i * 2)).take ((n - i) * 2) = mid at *
  have ea : (cur.take (i * 2)).length = i * 2 := by rw [List.length_take]; omega
  generalize cur.take (i * 2) = A at *
  simp only [splice]
  rw [hv, e1]
  have e3 : List.take (i * 2) (A ++ rest) = A := by rw [← ea, List.take_left]
  rw [e3]
  have e4 : List.take ((i + m) * 2) (A ++ (vs ++ List.drop (i * 2 + m * 2) (A ++ rest))) = A ++ vs := by
    have : (A ++ vs).length = (i + m) * 2 := by rw [List.length_append, ea, hv]; omega
    rw [← List.append_assoc, ← this, List.take_left]
  rw [e4]
  have e5 : (A ++ vs ++ mid).length = (n + m) * 2 := by simp only [List.length_append, ea, hv, e1]; omega
  rw [← List.append_assoc (A ++ vs), ← e5, List.take_left]

set_option maxHeartbeats 1000000 in
set_option maxRecDepth 100000 in
theorem insertGrow_any (g cap n i m : Nat) (cur : List Value) (vv : Value) (vs : List Value) (w : World) (hg : w.heap[g]? = some (.cells cur.toArray 126 (0, 0))) (hcur : cur.length = cap * 2) (h1 : ∀ u ∈ cur.take (n * 2), u.oneCell' = true) (hnc : n ≤ cap) (hnb : n ≤ 4294967296) (hmb : m ≤ 4294967296)
    (hi : i < n) (hm : 0 < m) (hroom : cap < n + m) (hv : w.ownsRow 0 126 2 vv m vs) (h1v : ∀ u ∈ vs, u.oneCell' = true) :
    Calls Try.prog 78 #[.slice (some ⟨g, 0, none⟩) n cap, .int .i64 i, vv] w fun e w' => ∃ cap', e = .returned (.slice (some ⟨w.heap.size, 0, none⟩) (n + m) cap') ∧ w'.ownsRow 0 126 2 (.slice (some ⟨w.heap.size, 0, none⟩) (n + m) cap') (n + m) (cur.take (i * 2) ++ vs ++ (cur.take (n * 2)).drop (i * 2)) ∧ Below w.heap.size w w' := by
  obtain ⟨vb, vc, vcur, rfl, hvb, hvl, hvs⟩ := own_cells hv hm
  have hvlen : vs.length = m * 2 := hv.1
  have hbg : g < w.heap.size := (Array.getElem?_eq_some_iff.1 hg).1
  have hbv : vb < w.heap.size := (Array.getElem?_eq_some_iff.1 hvb).1
  obtain ⟨cap', W1, rest, hap, hr1, hl1, hc1', hcm, hB1⟩ := append_zeros w g cap i (n + m - i) cur hg hcur (by omega) (by omega) (by omega) (by omega)
  rw [show i + (n + m - i) = n + m by omega] at hap hc1'
  have hap2 : ∀ ty, (Builtin.append_ #[100, 3] ty #[.slice (some ⟨g, 0, none⟩) i cap, .int .i64 ((n : Int) + (m : Int) - (i : Int))]).run Try.prog w = .ok (.slice (some ⟨w.heap.size, 0, none⟩) (n + m) cap') W1 := fun ty => by
    rw [show (n : Int) + (m : Int) - (i : Int) = ((n + m - i : Nat) : Int) by omega]; exact hap ty
  have hfin := grow_list cur rest vs i n m cap hcur (by omega) hnc hvlen
  generalize hc0 : cur.take (i * 2) ++ rest = cur0 at *
  have hlen1 : ((cur.drop (i * 2)).take ((n - i) * 2)).length = (n - i) * 2 := by rw [List.length_take, List.length_drop]; omega
  have hcp1 : ∀ ty c1, (Builtin.copy_ #[100, 100] ty #[.slice (some ⟨w.heap.size, i * 2, none⟩) (n + m - i) c1, .slice (some ⟨vb, 0, none⟩) m vc]).run Try.prog W1 = .ok (goInt (min m (n + m - i) : Nat)) (W1.setRow w.heap.size (splice cur0 (i * 2) vs).toArray) := fun ty c1 =>
    run_copy2 W1 ty _ _ _ _ _ _ w.heap.size (i * 2) cur0 hr1 vs (by rw [hvlen]; omega) (fun _ => ⟨rfl, _, rfl, fun j v hj => (hB1.cell (by rw [Addr.add_lit]; exact hbv)).trans (hvs j v hj)⟩) (by rw [hl1, hvlen]; omega) h1v
  have hl2 : (splice cur0 (i * 2) vs).length = cap' * 2 := by rw [length_splice _ _ _ (by rw [hl1, hvlen]; omega), hl1]
  generalize splice cur0 (i * 2) vs = cur1 at *
  have hW2 : Below w.heap.size w (W1.setRow w.heap.size cur1.toArray) := below_setRow_new hB1 (Nat.le_refl _) _
  have hr2 : (W1.setRow w.heap.size cur1.toArray).heap[w.heap.size]? = some (.cells cur1.toArray 126 (0, 0)) := setRow_heap W1 _ cur0.toArray _ _ _ hr1
  generalize W1.setRow w.heap.size cur1.toArray = W2 at *
  have hcp2 : ∀ ty c1 c2, (Builtin.copy_ #[100, 100] ty #[.slice (some ⟨w.heap.size, (i + m) * 2, none⟩) (n + m - (i + m)) c1, .slice (some ⟨g, i * 2, none⟩) (n - i) c2]).run Try.prog W2.drew = .ok (goInt (min (n - i) (n + m - (i + m)) : Nat)) (W2.drew.setRow w.heap.size (splice cur1 ((i + m) * 2) ((cur.drop (i * 2)).take ((n - i) * 2))).toArray) := fun ty c1 c2 =>
    run_copy2 W2.drew ty _ _ _ _ _ _ w.heap.size ((i + m) * 2) cur1 hr2 _ (by rw [hlen1]; omega) (fun _ => ⟨rfl, _, rfl, row_cells (w := W2.drew) ((hW2.block g hbg).trans hg) (i * 2) (fun j v hj => td_get hj)⟩) (by rw [hlen1, hl2]; omega) (fun v hv => h1 v (td_mem hv (by omega)))
  have hend : (W2.drew.setRow w.heap.size (splice cur1 ((i + m) * 2) ((cur.drop (i * 2)).take ((n - i) * 2))).toArray).ownsRow 0 126 2 (.slice (some ⟨w.heap.size, 0, none⟩) (n + m) cap') (n + m) (cur.take (i * 2) ++ vs ++ (cur.take (n * 2)).drop (i * 2)) :=
    own_of_row (setRow_heap W2.drew _ cur1.toArray _ _ _ hr2) (by rw [length_splice _ _ _ (by rw [hl2, hlen1]; omega), hl2]) hc1' hcm hfin
  have hgr : Below w.heap.size w (W2.drew.setRow w.heap.size (splice cur1 ((i + m) * 2) ((cur.drop (i * 2)).take ((n - i) * 2))).toArray) := below_setRow_new hW2.drew (Nat.le_refl _) _
  generalize splice cur1 ((i + m) * 2) ((cur.drop (i * 2)).take ((n - i) * 2)) = cur2 at *
  have HE := aside hend
  have HG := aside hgr
  have HA := aside hap2
  have HC1 := aside hcp1
  have HC2 := aside hcp2
  have hm0 : ((m : Int) == 0) = false := by simp; omega
  have hmz : ¬ (m = 0) := by omega
  have hin0 : ((i : Int) == (n : Int)) = false := by simp; omega
  have hinz : ¬ (i = n) := by omega
  have hw1 : IntKind.i64.wrap ((i : Int) + (m : Int)) = ((i + m : Nat) : Int) := by rw [IntKind.wrap_i64]; omega
  have hb1 : (0 : Int) ≤ (i : Int) + (m : Int) := by omega
  have htn : ((i : Int) + (m : Int)).toNat = i + m := by omega
  have hb3 : (i : Int) ≤ (n : Int) + (m : Int) := by omega
  have hc1 : ¬ (cap = i) := by omega
  have hc2 : ¬ (cap' = i + m) := by omega
  have hc3 : ¬ (cap' = i) := by omega
  have hc4 : i ≤ n + m := by omega
  have hc5 : i ≤ n := by omega
  have hc6 : i ≤ cap := by omega
  have hiz : (i : Int) ≤ (n : Int) := by omega
  unfold maxLen at hcm
  clear hend hgr hap hap2 hcp1 hcp2 hg h1 hv h1v hvb hvs hfin hl2 hlen1 hvl hvlen hcur hr1 hr2 hl1 hB1 hW2 hc0
  go_enter Try.func78, Try.ntmps78
  go_wp2_with (first
    | ((with_reducible refine wpList_append_to _ rfl _ _ 100 3 rfl (.slice (some ⟨g, 0, none⟩) i cap) (.int .i64 ((n : Int) + (m : Int) - (i : Int))) ?_ ?_ (HA.out _) ?_); rfl; rfl)
    | ((with_reducible refine wpList_copy_to _ rfl _ _ 100 100 rfl (.slice (some ⟨w.heap.size, i * 2, none⟩) (n + m - i) (cap' - i)) (.slice (some ⟨vb, 0, none⟩) m vc) ?_ ?_ (HC1.out _ _) ?_); rfl; rfl))
  go_region_law (refine step_copy_to rfl _ _ 100 100 rfl _ _ (by simp [Act.eval, Act.put]; rfl) (by simp [Act.eval, Act.put]; rfl) (HC2.out _ _ _) ?_)
  go_wp2
  go_ret
  exact ⟨cap', rfl, HE.out, HG.out⟩

set_option maxHeartbeats 400000 in
set_option maxRecDepth 100000 in
theorem insertNone_any (lv : Value) (n i : Nat) (xs : List Value) (w : World) (hown : w.ownsRow 0 126 2 lv n xs) (hi : i ≤ n) :
    Calls Try.prog 78 #[lv, .int .i64 i, .slice none 0 0] w fun e w' => e = .returned lv ∧ w' = w := by
  obtain ⟨a, cap, rfl, hc1, hc2⟩ := row_form hown
  unfold maxLen at hc2
  have hiz : (i : Int) ≤ (n : Int) := by omega
  clear hown
  go_enter Try.func78, Try.ntmps78
  go_wp2
  all_goals go_ret
  all_goals exact ⟨rfl, rfl⟩

/-- slices.Insert of stretches, whole. -/
theorem insert_any (lv : Value) (n i m : Nat) (xs : List Value) (vv : Value) (vs : List Value) (w : World) (hown : w.ownsRow 0 126 2 lv n xs) (h1 : ∀ u ∈ xs, u.oneCell' = true) (hi : i ≤ n) (hnb : n ≤ 4294967296) (hmb : m ≤ 4294967296)
    (hv : w.ownsRow 0 126 2 vv m vs) (hv0 : m = 0 → vv = .slice none 0 0) (hvg : ∀ k, lv.ownBlock = some k → vv.ownBlock ≠ some k) (h1v : ∀ u ∈ vs, u.oneCell' = true) :
    Calls Try.prog 78 #[lv, .int .i64 i, vv] w fun e w' => ∃ v', e = .returned v' ∧ w'.ownsRow 0 126 2 v' (n + m) (xs.take (i * 2) ++ vs ++ xs.drop (i * 2)) ∧ w.grownBy w' lv.ownBlock ∧ (v'.ownBlock = lv.ownBlock ∨ ∃ k, v'.ownBlock = some k ∧ w.heap.size ≤ k) := by
  by_cases hm : m = 0
  · subst hm
    obtain rfl := hv0 rfl
    obtain rfl : vs = [] := List.eq_nil_of_length_eq_zero (by simpa using hv.1)
    refine (insertNone_any lv n i xs w hown hi).mono ?_
    rintro e w' ⟨rfl, rfl⟩
    exact ⟨lv, rfl, by simpa using hown, World.grownBy.refl _ _, .inl rfl⟩
  · by_cases hin : i = n
    · subst hin
      obtain ⟨vb, vc, vcur, rfl, -, -, hvs⟩ := own_cells hv (by omega)
      have e1 : xs.take (i * 2) = xs := List.take_of_length_le (by rw [hown.1]; exact Nat.le_refl _)
      have e2 : xs.drop (i * 2) = [] := List.drop_of_length_le (by rw [hown.1]; exact Nat.le_refl _)
      refine (insertEnd_any lv i xs w hown hnb vb m vc vs (by omega) hmb hv.1 (fun j u hj => by have := hvs j u hj; rwa [Addr.add_lit, Nat.zero_add] at this) h1v).mono ?_
      rintro e w' ⟨v', rfl, ho, hg, hw⟩
      refine ⟨v', rfl, by rw [e1, e2, List.append_nil]; exact ho, hg, ?_⟩
      rcases hw with ⟨e, -⟩ | ⟨e, -⟩
      · exact .inl e
      · exact .inr ⟨_, e, Nat.le_refl _⟩
    · rcases hown.2 with ⟨-, h0⟩ | ⟨g, cap, cur, rfl, -, hg, hnc, hcm, hcs, htake⟩
      · omega
      · have hg2 : w.heap[g]? = some (.cells cur.toList.toArray 126 (0, 0)) := by simpa using hg
        by_cases hroom : n + m ≤ cap
        · refine (insertRoom_any g cap n i m cur.toList vv vs w hg2 (by simpa using hcs) hcm (by rw [htake]; exact h1) (by omega) (by omega) hroom hv (hvg g rfl) h1v).mono ?_
          rintro e w' ⟨rfl, ho, hgr⟩
          refine ⟨_, rfl, ?_, hgr, .inl rfl⟩
          rw [htake, show cur.toList.take (i * 2) = xs.take (i * 2) by rw [← htake, List.take_take]; congr 1; omega] at ho
          exact ho
        · refine (insertGrow_any g cap n i m cur.toList vv vs w hg2 (by simpa using hcs) (by rw [htake]; exact h1) hnc hnb hmb (by omega) (by omega) (by omega) hv h1v).mono ?_
          rintro e w' ⟨cap', rfl, ho, hb⟩
          refine ⟨_, rfl, ?_, ⟨hb.os, hb.tape, hb.output, hb.size, fun k hk _ => hb.block k hk⟩, .inr ⟨_, rfl, Nat.le_refl _⟩⟩
          rw [htake, show cur.toList.take (i * 2) = xs.take (i * 2) by rw [← htake, List.take_take]; congr 1; omega] at ho
          exact ho
end Go.Proofs.Ytoagjgcpgpjjeaa

namespace Go.Proofs.Ytoagjgcpgpjjeaa
open Go.RowKit
attribute [local simp] lcells_nil readB_length bcells_length
theorem splice_take {α : Type} (l c : List α) (off k : Nat) (hk : k ≤ off) (ho : off ≤ l.length) : (splice l off c).take k = l.take k := by
  unfold splice
  rw [List.take_append_of_le_length (by rw [List.length_take]; omega), List.take_take]; congr 1; omega
theorem splice_take_in {α : Type} (l c : List α) (off k : Nat) (hk : k = off + c.length) (ho : off ≤ l.length) : (splice l off c).take k = l.take off ++ c := by
  subst hk
  unfold splice
  have e : (l.take off ++ c).length = off + c.length := by rw [List.length_append, List.length_take]; omega
  rw [← List.append_assoc, ← e, List.take_left]
theorem splice_drop {α : Type} (l c : List α) (off k : Nat) (hk : off + c.length ≤ k) (ho : off ≤ l.length) : (splice l off c).drop k = l.drop k := by
  unfold splice
  have e : (l.take off ++ c).length = off + c.length := by rw [List.length_append, List.length_take]; omega
  rw [← List.append_assoc, List.drop_append, List.drop_of_length_le (by rw [e]; exact hk), List.nil_append, List.drop_drop, e]
  congr 1; omega
theorem mid_eq {α : Type} (l : List α) (j n : Nat) (h : j ≤ n) : (l.take (n * 2)).drop (j * 2) = (l.drop (j * 2)).take ((n - j) * 2) := by rw [List.drop_take]; congr 1; omega

/-- append(s[:i], v...) where there is room. -/
theorem append_inplace (w : World) (g cap i m : Nat) (cur : List Value) (vv : Value) (vs : List Value) (hg : w.heap[g]? = some (.cells cur.toArray 126 (0, 0))) (hcur : cur.length = cap * 2) (hroom : i + m ≤ cap) (hv : w.ownsRow 0 126 2 vv m vs) (hv0 : m = 0 → vv = .slice none 0 0) (h1v : ∀ u ∈ vs, u.oneCell' = true) :
    ∀ ty, (Builtin.append_ #[100, 100] ty #[.slice (some ⟨g, 0, none⟩) i cap, vv]).run Try.prog w = .ok (.slice (some ⟨g, 0, none⟩) (i + m) cap) (w.setRow g (splice cur (i * 2) vs).toArray) := by
  intro ty
  obtain ⟨ti, hi6, hz, hs, hb⟩ := info_parts info56
  by_cases hm : m = 0
  · subst hm
    obtain rfl := hv0 rfl
    obtain rfl : vs = [] := List.eq_nil_of_length_eq_zero (by simpa using hv.1)
    rw [show (splice cur (i * 2) []).toArray = cur.toArray by simp [splice], setRow_same hg]
    have hnc : i ≤ cap := by omega
    simp [Builtin.append_, run_underlying Try.underlying100, sizeOf, typeInfo, hi6, Builtin.lenOf, Builtin.firstCells, hnc, storeCells]
  · obtain ⟨vb, vc, vcur, rfl, -, -, hvs⟩ := own_cells hv (by omega)
    have hvl := hv.1
    have h := run_append_room (P := Try.prog) w 100 ty 126 ti Try.underlying100 hi6 g i cap cur.toArray hg ⟨vb, 0, none⟩ m vc vs (by rw [hs]; exact hvl) hvs h1v hroom (by rw [hs, hvl]; simp; omega)
    rw [h, hs]
    simp [splice]

set_option maxHeartbeats 1000000 in
set_option maxRecDepth 100000 in
theorem replaceTail_any (g cap n i m : Nat) (cur : List Value) (vv : Value) (vs : List Value) (w : World) (hg : w.heap[g]? = some (.cells cur.toArray 126 (0, 0))) (hcur : cur.length = cap * 2) (hcap : cap ≤ maxLen) (hnc : n ≤ cap)
    (hi : i < n) (hroom : i + m ≤ cap) (hv : w.ownsRow 0 126 2 vv m vs) (hv0 : m = 0 → vv = .slice none 0 0) (h1v : ∀ u ∈ vs, u.oneCell' = true) :
    Calls Try.prog 77 #[.slice (some ⟨g, 0, none⟩) n cap, .int .i64 i, .int .i64 n, vv] w fun e w' => e = .returned (.slice (some ⟨g, 0, none⟩) (i + m) cap) ∧ w'.ownsRow 0 126 2 (.slice (some ⟨g, 0, none⟩) (i + m) cap) (i + m) (cur.take (i * 2) ++ vs) ∧ w.grownBy w' (some g) := by
  have hvl := hv.1
  have hap := append_inplace w g cap i m cur vv vs hg hcur hroom hv hv0 h1v
  obtain ⟨va, vc, hvf, -, -⟩ := row_form hv
  have hl1 : (splice cur (i * 2) vs).length = cap * 2 := by rw [length_splice _ _ _ (by rw [hvl]; omega), hcur]
  have ht1 : (splice cur (i * 2) vs).take ((i + m) * 2) = cur.take (i * 2) ++ vs := splice_take_in cur vs (i * 2) _ (by rw [hvl]; omega) (by omega)
  generalize splice cur (i * 2) vs = cur1 at *
  have hr1 : (w.setRow g cur1.toArray).heap[g]? = some (.cells cur1.toArray 126 (0, 0)) := setRow_heap w g cur.toArray _ _ _ hg
  have hgr1 : w.grownBy (w.setRow g cur1.toArray) (some g) := ⟨rfl, rfl, rfl, by simp [World.setRow], fun k _ hk => setRow_other _ g k _ (fun e => hk (by rw [e]))⟩
  have hW1 : ∀ c, ∃ W1, W1 = w.setRow g c := fun c => ⟨_, rfl⟩
  obtain ⟨W1, hW1⟩ := hW1 cur1.toArray
  rw [← hW1] at hap hr1 hgr1
  clear hW1
  have hn1 : ¬ (n = i) := by omega
  have hne : ((i : Int) == (n : Int)) = false := by simp; omega
  have hiz : (i : Int) ≤ (n : Int) := by omega
  have hicz : i ≤ cap := by omega
  subst hvf
  have HA := aside hap
  have hc2 : ¬ (cap = i) := by omega
  by_cases hclr : i + m < n
  · have hcl : ∀ ty c, (Builtin.clear_ #[100] ty #[.slice (some ⟨g, (i + m) * 2, none⟩) (n - (i + m)) c]).run Try.prog W1 = .ok (.tuple #[]) (W1.setRow g (splice cur1 ((i + m) * 2) (zc (n - (i + m)))).toArray) := fun ty c => run_clear2 W1 ty _ _ c g ((i + m) * 2) cur1 hr1 (fun _ => rfl) (by rw [hl1]; omega)
    have hend : (W1.setRow g (splice cur1 ((i + m) * 2) (zc (n - (i + m)))).toArray).ownsRow 0 126 2 (.slice (some ⟨g, 0, none⟩) (i + m) cap) (i + m) (cur.take (i * 2) ++ vs) :=
      own_of_row (setRow_heap W1 g cur1.toArray _ _ _ hr1) (by rw [length_splice _ _ _ (by rw [zc_length, hl1]; omega), hl1]) hroom hcap (by rw [splice_take _ _ _ _ (Nat.le_refl _) (by omega), ht1])
    have hgr : w.grownBy (W1.setRow g (splice cur1 ((i + m) * 2) (zc (n - (i + m)))).toArray) (some g) := ⟨hgr1.os, hgr1.tape, hgr1.output, Nat.le_trans hgr1.size (by simp [World.setRow]), fun k hk hn => (setRow_other _ g k _ (fun e => hn (by rw [e]))).trans (hgr1.block k hk hn)⟩
    have HE := aside hend
    have HG := aside hgr
    have HC := aside hcl
    have hcz : (i : Int) + (m : Int) < (n : Int) := by omega
    have hc3 : ¬ (cap = i + m) := by omega
    unfold maxLen at hcap
    clear hend hgr hcl hap hg hv hv0 h1v hcur hl1 ht1 hr1 hgr1 hvl
    go_enter Try.func77, Try.ntmps77
    go_wp2_with (first
      | ((with_reducible refine wpList_append_to _ rfl _ _ 100 100 rfl (.slice (some ⟨g, 0, none⟩) i cap) (.slice va m vc) ?_ ?_ (HA.out _) ?_); rfl; rfl)
      | ((with_reducible refine wpList_clear_to _ rfl _ 100 rfl (.slice (some ⟨g, (i + m) * 2, none⟩) (n - (i + m)) (cap - (i + m))) ?_ (HC.out _ _) ?_); rfl))
    go_ret
    exact ⟨rfl, HE.out, HG.out⟩
  · have hend : W1.ownsRow 0 126 2 (.slice (some ⟨g, 0, none⟩) (i + m) cap) (i + m) (cur.take (i * 2) ++ vs) := own_of_row hr1 hl1 hroom hcap ht1
    have HE := aside hend
    have HG := aside hgr1
    have hcz : ¬ ((i : Int) + (m : Int) < (n : Int)) := by omega
    unfold maxLen at hcap
    clear hend hap hg hv hv0 h1v hcur hl1 ht1 hr1 hgr1 hvl
    go_enter Try.func77, Try.ntmps77
    go_wp2_with (first
      | ((with_reducible refine wpList_append_to _ rfl _ _ 100 100 rfl (.slice (some ⟨g, 0, none⟩) i cap) (.slice va m vc) ?_ ?_ (HA.out _) ?_); rfl; rfl))
    go_ret
    exact ⟨rfl, HE.out, HG.out⟩

set_option maxHeartbeats 1000000 in
set_option maxRecDepth 100000 in
theorem replaceTailGrow_any (g cap n i m : Nat) (xs : List Value) (vv : Value) (vs : List Value) (w : World) (hown : w.ownsRow 0 126 2 (.slice (some ⟨g, 0, none⟩) i cap) i xs) (hnc : n ≤ cap) (hnb : n ≤ 4294967296) (hmb : m ≤ 4294967296)
    (hi : i < n) (hroom : cap < i + m) (hv : w.ownsRow 0 126 2 vv m vs) (h1v : ∀ u ∈ vs, u.oneCell' = true) :
    Calls Try.prog 77 #[.slice (some ⟨g, 0, none⟩) n cap, .int .i64 i, .int .i64 n, vv] w fun e w' => ∃ v', e = .returned v' ∧ w'.ownsRow 0 126 2 v' (i + m) (xs ++ vs) ∧ w.grownBy w' (some g) ∧ (v'.ownBlock = some g ∨ ∃ k, v'.ownBlock = some k ∧ w.heap.size ≤ k) := by
  obtain ⟨vb, vc, vcur, rfl, -, -, hvs⟩ := own_cells hv (by omega)
  have h63 : i + m ≤ maxLen := by unfold maxLen; omega
  have hby : (i + m) * 32 ≤ 140737488355328 := by omega
  have hvl := hv.1
  have HO := aside hown
  have HVS := aside hvs
  have H63 := aside h63
  have HL := aside hvl
  have H1 := aside h1v
  have hm : 0 < m := by omega
  have hn1 : ¬ (n = i) := by omega
  have hne : ((i : Int) == (n : Int)) = false := by simp; omega
  have hiz : (i : Int) ≤ (n : Int) := by omega
  have hicz : i ≤ cap := by omega
  have hc2 : ¬ (cap = i) := by omega
  have hcap : cap ≤ 9223372036854775807 := by obtain ⟨_, _, e, -, h⟩ := row_form hown; simp only [Value.slice.injEq] at e; unfold maxLen at h; omega
  have hcz : ¬ ((i : Int) + (m : Int) < (n : Int)) := by omega
  clear hown hvs h63 hvl h1v hv
  go_enter Try.func77, Try.ntmps77
  go_wp2_with (at_builtin; refine wpList_append_where _ rfl _ _ 100 rfl 126 (.agg #[.int .i64 0, .slice none 0 0]) 2 32 Try.underlying100 info56 rfl (by decide) (.slice (some ⟨g, 0, none⟩) i cap) i xs rfl HO.out ⟨vb, 0, none⟩ m vc vs rfl HL.out HVS.out H1.out H63.out hby hm ?_; intro v' w' ho hg hwh; obtain ⟨va, vcc, hvf, -, -⟩ := row_form ho; have HO1 := aside ho; have HG1 := aside hg; have HW1 := aside hwh; clear ho hg hwh; subst hvf)
  all_goals
    go_ret
    refine ⟨_, rfl, HO1.out, HG1.out, ?_⟩
    rcases HW1.out with ⟨e, -⟩ | ⟨e, -⟩
    · exact .inl e
    · exact .inr ⟨_, e, Nat.le_refl _⟩

theorem shrink_list {α : Type} (cur vs zs : List α) (i j n m cap : Nat) (hc : cur.length = cap * 2) (hjn : j ≤ n) (hn : n ≤ cap) (hmj : i + m ≤ j) (hv : vs.length = m * 2) :
    (splice (splice (splice cur (i * 2) vs) ((i + m) * 2) ((cur.drop (j * 2)).take ((n - j) * 2))) ((i + m + (n - j)) * 2) zs).take ((i + m + (n - j)) * 2) = cur.take (i * 2) ++ vs ++ (cur.take (n * 2)).drop (j * 2) := by
  have e1 : ((cur.drop (j * 2)).take ((n - j) * 2)).length = (n - j) * 2 := by rw [List.length_take, List.length_drop]; omega
  have l1 : (splice cur (i * 2) vs).length = cap * 2 := by rw [length_splice _ _ _ (by rw [hv]; omega), hc]
  have l2 : (splice (splice cur (i * 2) vs) ((i + m) * 2) ((cur.drop (j * 2)).take ((n - j) * 2))).length = cap * 2 := by rw [length_splice _ _ _ (by rw [e1, l1]; omega), l1]
  rw [splice_take _ _ _ _ (Nat.le_refl _) (by rw [l2]; omega), splice_take_in _ _ _ _ (by rw [e1]; omega) (by rw [l1]; omega), splice_take_in _ _ _ _ (by rw [hv]; omega) (by rw [hc]; omega), mid_eq _ _ _ hjn]

set_option maxHeartbeats 2000000 in
set_option maxRecDepth 100000 in
theorem replaceShrink_any (g cap n i j m : Nat) (cur : List Value) (vv : Value) (vs : List Value) (w : World) (hg : w.heap[g]? = some (.cells cur.toArray 126 (0, 0))) (hcur : cur.length = cap * 2) (hcap : cap ≤ maxLen) (hnc : n ≤ cap) (h1 : ∀ u ∈ cur.take (n * 2), u.oneCell' = true)
    (hij : i < j) (hjn : j < n) (hmj : i + m ≤ j) (hv : w.ownsRow 0 126 2 vv m vs) (hvg : vv.ownBlock ≠ some g) (h1v : ∀ u ∈ vs, u.oneCell' = true) :
    Calls Try.prog 77 #[.slice (some ⟨g, 0, none⟩) n cap, .int .i64 i, .int .i64 j, vv] w fun e w' => e = .returned (.slice (some ⟨g, 0, none⟩) (i + m + (n - j)) cap) ∧ w'.ownsRow 0 126 2 (.slice (some ⟨g, 0, none⟩) (i + m + (n - j)) cap) (i + m + (n - j)) (cur.take (i * 2) ++ vs ++ (cur.take (n * 2)).drop (j * 2)) ∧ w.grownBy w' (some g) := by
  have hvl := hv.1
  obtain ⟨va, vc, hvf, -, -⟩ := row_form hv
  have hfin := shrink_list cur vs (zc (n - (i + m + (n - j)))) i j n m cap hcur (by omega) hnc hmj hvl
  have hl1 : (splice cur (i * 2) vs).length = cap * 2 := by rw [length_splice _ _ _ (by rw [hvl]; omega), hcur]
  have hd1 : ∀ k v, ((cur.drop (j * 2)).take ((n - j) * 2))[k]? = some v → (splice cur (i * 2) vs)[j * 2 + k]? = some v := fun k v hk => by
    have h2 := td_get hk
    rw [← List.getElem?_drop] at h2 ⊢
    rw [splice_drop _ _ _ _ (by rw [hvl]; omega) (by rw [hcur]; omega)]; exact h2
  have hlm : ((cur.drop (j * 2)).take ((n - j) * 2)).length = (n - j) * 2 := by rw [List.length_take, List.length_drop]; omega
  have hm1 : ∀ v ∈ (cur.drop (j * 2)).take ((n - j) * 2), v.oneCell' = true := fun v hv => h1 v (td_mem hv (by omega))
  have hpos : 0 < m → ∃ ad, va = some ad ∧ ad.block ≠ g ∧ ∀ W, Below w.heap.size w W → ∀ k u, vs[k]? = some u → W.cell? (ad.add k) = some u := fun hm => by
    obtain ⟨vb, vc', vcur, e, hvb, -, hvs⟩ := own_cells hv hm
    rw [hvf] at e
    simp only [Value.slice.injEq, true_and] at e
    obtain ⟨rfl, rfl⟩ := e
    refine ⟨_, rfl, fun e => hvg (by rw [hvf, ← e]; rfl), fun W hW k u hk => ?_⟩
    exact (hW.cell (World.block_lt_of_cell? w _ (hvs k u hk))).trans (hvs k u hk)
  have hbg : g < w.heap.size := (Array.getElem?_eq_some_iff.1 hg).1
  obtain ⟨tot, htot⟩ : ∃ tot, tot = i + m + (n - j) := ⟨_, rfl⟩
  rw [← htot] at hfin ⊢
  have hcp1 : ∀ W, Below w.heap.size w W → ∀ ty c1, (Builtin.copy_ #[100, 100] ty #[.slice (some ⟨g, i * 2, none⟩) (tot - i) c1, .slice va m vc]).run Try.prog W = .ok (goInt (min m (tot - i) : Nat)) (W.setRow g (splice cur (i * 2) vs).toArray) := fun W hW ty c1 =>
    run_copy2 W ty _ _ _ _ _ _ g (i * 2) cur ((hW.block g hbg).trans hg) vs (by rw [hvl]; omega) (fun h0 => by obtain ⟨ad, e, -, h⟩ := hpos (by rw [hvl] at h0; omega); exact ⟨rfl, ad, e, h W hW⟩) (by rw [hvl]; omega) h1v
  clear hpos
  have hr1 : ∀ W, Below w.heap.size w W → (W.setRow g (splice cur (i * 2) vs).toArray).heap[g]? = some (.cells (splice cur (i * 2) vs).toArray 126 (0, 0)) := fun W hW => setRow_heap W g cur.toArray _ _ _ ((hW.block g hbg).trans hg)
  generalize splice cur (i * 2) vs = cur1 at *
  have hl2 : (splice cur1 ((i + m) * 2) ((cur.drop (j * 2)).take ((n - j) * 2))).length = cap * 2 := by rw [length_splice _ _ _ (by rw [hlm]; omega), hl1]
  have hcp2 : ∀ W : World, W.heap[g]? = some (.cells cur1.toArray 126 (0, 0)) → ∀ ty c1 c2, (Builtin.copy_ #[100, 100] ty #[.slice (some ⟨g, (i + m) * 2, none⟩) (tot - (i + m)) c1, .slice (some ⟨g, j * 2, none⟩) (n - j) c2]).run Try.prog W = .ok (goInt (min (n - j) (tot - (i + m)) : Nat)) (W.setRow g (splice cur1 ((i + m) * 2) ((cur.drop (j * 2)).take ((n - j) * 2))).toArray) := fun W hW ty c1 c2 =>
    run_copy2 W ty _ _ _ _ _ _ g ((i + m) * 2) cur1 hW _ (by rw [hlm]; omega) (fun _ => ⟨rfl, _, rfl, row_cells hW (j * 2) hd1⟩) (by rw [hlm, hl1]; omega) hm1
  generalize splice cur1 ((i + m) * 2) ((cur.drop (j * 2)).take ((n - j) * 2)) = cur2 at *
  have hcl : ∀ W : World, W.heap[g]? = some (.cells cur2.toArray 126 (0, 0)) → ∀ ty dp c, (dp = some ⟨g, tot * 2, none⟩ ∨ n - tot = 0) → (Builtin.clear_ #[100] ty #[.slice dp (n - tot) c]).run Try.prog W = .ok (.tuple #[]) (W.setRow g (splice cur2 (tot * 2) (zc (n - tot))).toArray) := fun W hW ty dp c hdp =>
    run_clear2 W ty _ _ c g (tot * 2) cur2 hW (fun h0 => by rcases hdp with e | e; exact e; omega) (by rw [hl2]; omega)
  have hl3 : (splice cur2 (tot * 2) (zc (n - tot))).length = cap * 2 := by rw [length_splice _ _ _ (by rw [zc_length, hl2]; omega), hl2]
  generalize splice cur2 (tot * 2) (zc (n - tot)) = cur3 at *
  have hend : ∀ (W : World) (c : Array Value), W.heap[g]? = some (.cells c 126 (0, 0)) → (W.setRow g cur3.toArray).ownsRow 0 126 2 (.slice (some ⟨g, 0, none⟩) tot cap) tot (cur.take (i * 2) ++ vs ++ (cur.take (n * 2)).drop (j * 2)) := fun W c hW => own_of_row (setRow_heap W g c _ _ _ hW) hl3 (by omega) hcap hfin
  have HE := aside hend
  have HR1 := aside hr1
  have HC1 := aside hcp1
  have HC2 := aside hcp2
  have HCL := aside hcl
  have HT := aside htot
  have t1 : i + m ≤ tot := by omega
  have t1z : (i : Int) + (m : Int) ≤ (tot : Int) := by omega
  have t2 : tot ≤ n := by omega
  have t3 : i < tot := by omega
  have t4 : ¬ (cap = i + m) := by omega
  have t5 : ¬ (cap = i) := by omega
  have t6 : ¬ (cap = j) := by omega
  have t7 : ¬ (n = j) := by omega
  have t8 : (n : Int) - (j : Int) = ((n - j : Nat) : Int) := by omega
  have t9 : (i : Int) + (m : Int) + ((n - j : Nat) : Int) = (tot : Int) := by omega
  have t9b : (i : Int) + (m : Int) + ((n : Int) - (j : Int)) = (tot : Int) := by omega
  have hne : ((i : Int) == (j : Int)) = false := by simp; omega
  have hne2 : ((j : Int) == (n : Int)) = false := by simp; omega
  have hnez : ¬ (i = j) := by omega
  have hnez2 : ¬ (j = n) := by omega
  have hw1 : IntKind.i64.wrap ((i : Int) + (m : Int)) = ((i + m : Nat) : Int) := by unfold maxLen at hcap; rw [IntKind.wrap_i64]; omega
  have hb1 : (0 : Int) ≤ (i : Int) + (m : Int) := by omega
  have htn : ((i : Int) + (m : Int)).toNat = i + m := by omega
  have hjz : (j : Int) ≤ (n : Int) := by omega
  subst hvf
  unfold maxLen at hcap
  clear hend hr1 hcp1 hcp2 hcl htot hg h1 hv hvg h1v hl1 hl2 hl3 hd1 hlm hm1 hfin hvl hcur
  go_enter Try.func77, Try.ntmps77
  go_wp2
  refine region_ext (by kernel_rfl) (by kernel_rfl) ?_
  repeat (any_goals (first | go_big_quiet_step ((fail)) | quiet_step ((fail))))
  refine wpQuiet_nil ?_
  intro wq hq
  go_wp2_with ((with_reducible refine wpList_copy_to _ rfl _ _ 100 100 rfl (.slice (some ⟨g, i * 2, none⟩) (tot - i) (cap - i)) (.slice va m vc) ?_ ?_ (HC1.out wq hq _ _) ?_); rfl; rfl)
  go_region_law (refine step_copy_to rfl _ _ 100 100 rfl _ _ (by simp [Act.eval, Act.put]; rfl) (by simp [Act.eval, Act.put]; rfl) (HC2.out (wq.setRow g cur1.toArray).drew (HR1.out wq hq) _ _ _) ?_)
  have hr2 := aside (setRow_heap (wq.setRow g cur1.toArray).drew g _ cur2.toArray _ _ (HR1.out wq hq))
  have hgr : wq.grownBy ((wq.setRow g cur1.toArray).drew.setRow g cur2.toArray) (some g) := ⟨rfl, rfl, rfl, by simp [World.setRow], fun k _ hk => by rw [setRow_other _ g k _ (fun e => hk (by rw [e]))]; exact setRow_other _ g k _ (fun e => hk (by rw [e]))⟩
  have HGR := aside hgr
  clear hgr
  generalize (wq.setRow g cur1.toArray).drew.setRow g cur2.toArray = W2 at *
  by_cases hct : cap = tot
  · have h0 : n - tot = 0 := by omega
    have HH0 := aside h0
    clear h0
    go_wp2_with (first
      | ((with_reducible refine wpList_clear_to _ rfl _ 100 rfl (.slice (some ⟨g, 0, none⟩) (n - tot) (tot - tot)) ?_ (HCL.out W2 hr2.out _ (some ⟨g, 0, none⟩) (tot - tot) (.inr HH0.out)) ?_); rfl)
      | ((with_reducible refine wpList_clear_to _ rfl _ 100 rfl (.slice (some ⟨g, 0, none⟩) (n - tot) 0) ?_ (HCL.out W2 hr2.out _ (some ⟨g, 0, none⟩) 0 (.inr HH0.out)) ?_); rfl)
      | ((with_reducible refine wpList_clear_to _ rfl _ 100 rfl (.slice (some ⟨g, 0, none⟩) (n - tot) (cap - tot)) ?_ (HCL.out W2 hr2.out _ (some ⟨g, 0, none⟩) (cap - tot) (.inr HH0.out)) ?_); rfl))
    go_ret
    rw [← hct] at HE ⊢
    refine ⟨rfl, HE.out _ _ hr2.out, ?_⟩
    have h1 := HGR.out
    exact ⟨h1.os.trans hq.os, h1.tape.trans hq.tape, h1.output.trans hq.output, Nat.le_trans hq.size (Nat.le_trans h1.size (by simp [World.setRow])), fun k hk hn => (setRow_other _ g k _ (fun e => hn (by rw [e]))).trans ((h1.block k (Nat.lt_of_lt_of_le hk hq.size) hn).trans (hq.block k hk))⟩
  · go_wp2_with ((with_reducible refine wpList_clear_to _ rfl _ 100 rfl (.slice (some ⟨g, tot * 2, none⟩) (n - tot) (cap - tot)) ?_ (HCL.out W2 hr2.out _ (some ⟨g, tot * 2, none⟩) (cap - tot) (.inl rfl)) ?_); rfl)
    go_ret
    refine ⟨rfl, HE.out _ _ hr2.out, ?_⟩
    have h1 := HGR.out
    exact ⟨h1.os.trans hq.os, h1.tape.trans hq.tape, h1.output.trans hq.output, Nat.le_trans hq.size (Nat.le_trans h1.size (by simp [World.setRow])), fun k hk hn => (setRow_other _ g k _ (fun e => hn (by rw [e]))).trans ((h1.block k (Nat.lt_of_lt_of_le hk hq.size) hn).trans (hq.block k hk))⟩
end Go.Proofs.Ytoagjgcpgpjjeaa

namespace Go.Proofs.Ytoagjgcpgpjjeaa
open Go.RowKit
attribute [local simp] lcells_nil readB_length bcells_length
theorem run_ov2 (w : World) (vb g o m vc lb cb : Nat) (vcur cur : Array Value) (hvb : w.heap[vb]? = some (.cells vcur 126 (0, 0))) (hg : w.heap[g]? = some (.cells cur 126 (0, 0))) (hne : g ≠ vb) (hc : vcur.size ≠ 0) :
    (callFunc 79 #[.slice (some ⟨g, o, none⟩) lb cb, .slice (some ⟨vb, 0, none⟩) m vc]).run Try.prog w = .ok (.value (.bool false)) w := by
  have hz : ∀ w, (Go.sizeOf 126).run Try.prog w = .ok 2 w := fun w => by
    obtain ⟨i, hi, -, hs, -⟩ := info_parts info56
    simp [Go.sizeOf, typeInfo, hi, hs]
  rw [run_callFunc_extern Try.func79 (by kernel_rfl) (by kernel_rfl) (by kernel_rfl) (e := Extern.SlicesOverlaps.overlaps #[100, 100] #[4]) (by kernel_rfl),
    Lib.run_overlaps_apart w 100 4 126 Try.underlying100 2 hz ⟨g, o, none⟩ ⟨vb, 0, none⟩ lb cb m vc hne 126 126 cur.size vcur.size (by simp [World.shape?, hg]) (by simp [World.shape?, hvb]) hc (frozen_of_row w g o _ _ hg) (frozen_of_row w g _ _ _ hg)]
  rfl

theorem expand_list {α : Type} (cur vs : List α) (i j n m cap : Nat) (hc : cur.length = cap * 2) (hjn : j ≤ n) (hnc : n ≤ cap) (hroom : i + m + (n - j) ≤ cap) (hv : vs.length = m * 2) :
    (splice (splice cur ((i + m) * 2) ((cur.drop (j * 2)).take ((n - j) * 2))) (i * 2) vs).take ((i + m + (n - j)) * 2) = cur.take (i * 2) ++ vs ++ (cur.take (n * 2)).drop (j * 2) := by
  have e1 : ((cur.drop (j * 2)).take ((n - j) * 2)).length = (n - j) * 2 := by rw [List.length_take, List.length_drop]; omega
  rw [mid_eq _ _ _ hjn]
  generalize (cur.drop (j * 2)).take ((n - j) * 2) = mid at *
  have l1 : (splice cur ((i + m) * 2) mid).length = cap * 2 := by rw [length_splice _ _ _ (by rw [e1]; omega), hc]
  have e2 : (splice cur ((i + m) * 2) mid).take ((i + m + (n - j)) * 2) = cur.take ((i + m) * 2) ++ mid := splice_take_in _ _ _ _ (by rw [e1]; omega) (by rw [hc]; omega)
  have e3 : (splice (splice cur ((i + m) * 2) mid) (i * 2) vs) = (splice cur ((i + m) * 2) mid).take (i * 2) ++ (vs ++ (splice cur ((i + m) * 2) mid).drop ((i + m) * 2)) := by
    conv => lhs; unfold splice
    rw [hv, show i * 2 + m * 2 = (i + m) * 2 by omega]
    rfl
  rw [e3, splice_take _ _ _ _ (by omega) (by rw [hc]; omega)]
  have e4 : (splice cur ((i + m) * 2) mid).drop ((i + m) * 2) = mid ++ cur.drop ((i + m) * 2 + mid.length) := by
    unfold splice
    rw [List.drop_append_of_le_length (by rw [List.length_take]; omega), List.drop_of_length_le (by rw [List.length_take]; omega), List.nil_append]
  rw [e4]
  have e5 : (cur.take (i * 2) ++ (vs ++ mid)).length = (i + m + (n - j)) * 2 := by simp only [List.length_append, List.length_take, hv, e1]; omega
  rw [← List.append_assoc vs, ← List.append_assoc (cur.take (i * 2)), ← e5, List.take_left, List.append_assoc]

set_option maxHeartbeats 2000000 in
set_option maxRecDepth 100000 in
theorem replaceExpand_any (g cap n i j m : Nat) (cur : List Value) (vv : Value) (vs : List Value) (w : World) (hg : w.heap[g]? = some (.cells cur.toArray 126 (0, 0))) (hcur : cur.length = cap * 2) (hcap : cap ≤ maxLen) (hnc : n ≤ cap) (h1 : ∀ u ∈ cur.take (n * 2), u.oneCell' = true)
    (hij : i < j) (hjn : j < n) (hmj : j < i + m) (hroom : i + m + (n - j) ≤ cap) (hv : w.ownsRow 0 126 2 vv m vs) (hvg : vv.ownBlock ≠ some g) (h1v : ∀ u ∈ vs, u.oneCell' = true) :
    Calls Try.prog 77 #[.slice (some ⟨g, 0, none⟩) n cap, .int .i64 i, .int .i64 j, vv] w fun e w' => e = .returned (.slice (some ⟨g, 0, none⟩) (i + m + (n - j)) cap) ∧ w'.ownsRow 0 126 2 (.slice (some ⟨g, 0, none⟩) (i + m + (n - j)) cap) (i + m + (n - j)) (cur.take (i * 2) ++ vs ++ (cur.take (n * 2)).drop (j * 2)) ∧ w.grownBy w' (some g) := by
  have hvl := hv.1
  obtain ⟨vb, vc, vcur, rfl, hvb, hvl2, hvs⟩ := own_cells hv (by omega)
  have hne : g ≠ vb := fun e => hvg (by rw [← e]; rfl)
  have hbg : g < w.heap.size := (Array.getElem?_eq_some_iff.1 hg).1
  have hbv : vb < w.heap.size := (Array.getElem?_eq_some_iff.1 hvb).1
  have hfin := expand_list cur vs i j n m cap hcur (by omega) hnc hroom hvl
  have hlm : ((cur.drop (j * 2)).take ((n - j) * 2)).length = (n - j) * 2 := by rw [List.length_take, List.length_drop]; omega
  have hm1 : ∀ v ∈ (cur.drop (j * 2)).take ((n - j) * 2), v.oneCell' = true := fun v hv => h1 v (td_mem hv (by omega))
  obtain ⟨tot, htot⟩ : ∃ tot, tot = i + m + (n - j) := ⟨_, rfl⟩
  rw [← htot] at hfin hroom ⊢
  have hov : ∀ W, Below w.heap.size w W → ∀ lb cb, (callFunc 79 #[.slice (some ⟨g, (i + m) * 2, none⟩) lb cb, .slice (some ⟨vb, 0, none⟩) m vc]).run Try.prog W = .ok (.value (.bool false)) W := fun W hW lb cb => run_ov2 W vb g ((i + m) * 2) m vc lb cb vcur cur.toArray ((hW.block vb hbv).trans hvb) ((hW.block g hbg).trans hg) hne (by omega)
  have hcp1 : ∀ W, Below w.heap.size w W → ∀ ty c1 c2, (Builtin.copy_ #[100, 100] ty #[.slice (some ⟨g, (i + m) * 2, none⟩) (tot - (i + m)) c1, .slice (some ⟨g, j * 2, none⟩) (n - j) c2]).run Try.prog W = .ok (goInt (min (n - j) (tot - (i + m)) : Nat)) (W.setRow g (splice cur ((i + m) * 2) ((cur.drop (j * 2)).take ((n - j) * 2))).toArray) := fun W hW ty c1 c2 =>
    run_copy2 W ty _ _ _ _ _ _ g ((i + m) * 2) cur ((hW.block g hbg).trans hg) _ (by rw [hlm]; omega) (fun _ => ⟨rfl, _, rfl, row_cells ((hW.block g hbg).trans hg) (j * 2) (fun k v hk => td_get hk)⟩) (by rw [hlm]; omega) hm1
  have hl1 : (splice cur ((i + m) * 2) ((cur.drop (j * 2)).take ((n - j) * 2))).length = cap * 2 := by rw [length_splice _ _ _ (by rw [hlm]; omega), hcur]
  generalize splice cur ((i + m) * 2) ((cur.drop (j * 2)).take ((n - j) * 2)) = cur1 at *
  have hr1 : ∀ W, Below w.heap.size w W → (W.setRow g cur1.toArray).heap[g]? = some (.cells cur1.toArray 126 (0, 0)) := fun W hW => setRow_heap W g cur.toArray _ _ _ ((hW.block g hbg).trans hg)
  have hcp2 : ∀ W, Below w.heap.size w W → ∀ ty c1, (Builtin.copy_ #[100, 100] ty #[.slice (some ⟨g, i * 2, none⟩) (tot - i) c1, .slice (some ⟨vb, 0, none⟩) m vc]).run Try.prog (W.setRow g cur1.toArray) = .ok (goInt (min m (tot - i) : Nat)) ((W.setRow g cur1.toArray).setRow g (splice cur1 (i * 2) vs).toArray) := fun W hW ty c1 =>
    run_copy2 _ ty _ _ _ _ _ _ g (i * 2) cur1 (hr1 W hW) vs (by rw [hvl]; omega) (fun _ => ⟨rfl, _, rfl, fun k v hk => (cell_setRow_far (by rw [Addr.add_lit]; exact fun e => hne e.symm)).trans ((hW.cell (by rw [Addr.add_lit]; exact hbv)).trans (hvs k v hk))⟩) (by rw [hl1, hvl]; omega) h1v
  have hl2 : (splice cur1 (i * 2) vs).length = cap * 2 := by rw [length_splice _ _ _ (by rw [hl1, hvl]; omega), hl1]
  generalize splice cur1 (i * 2) vs = cur2 at *
  have hend : ∀ W, Below w.heap.size w W → ((W.setRow g cur1.toArray).setRow g cur2.toArray).ownsRow 0 126 2 (.slice (some ⟨g, 0, none⟩) tot cap) tot (cur.take (i * 2) ++ vs ++ (cur.take (n * 2)).drop (j * 2)) := fun W hW => own_of_row (setRow_heap _ g cur1.toArray _ _ _ (hr1 W hW)) hl2 hroom hcap hfin
  have HE := aside hend
  have HR1 := aside hr1
  have HC1 := aside hcp1
  have HC2 := aside hcp2
  have HOV := aside hov
  have HT := aside htot
  have t1 : i + m ≤ tot := by omega
  have t1z : (i : Int) + (m : Int) ≤ (tot : Int) := by omega
  have t2z : ¬ ((i : Int) + (m : Int) ≤ (j : Int)) := by omega
  have t3 : i < tot := by omega
  have t4 : ¬ (cap = i + m) := by omega
  have t5 : ¬ (cap = i) := by omega
  have t6 : ¬ (cap = j) := by omega
  have t7 : ¬ (n = j) := by omega
  have t9 : (i : Int) + (m : Int) + ((n - j : Nat) : Int) = (tot : Int) := by omega
  have t9b : (i : Int) + (m : Int) + ((n : Int) - (j : Int)) = (tot : Int) := by omega
  have hne1 : ((i : Int) == (j : Int)) = false := by simp; omega
  have hne2 : ((j : Int) == (n : Int)) = false := by simp; omega
  have hnez : ¬ (i = j) := by omega
  have hnez2 : ¬ (j = n) := by omega
  have hw1 : IntKind.i64.wrap ((i : Int) + (m : Int)) = ((i + m : Nat) : Int) := by unfold maxLen at hcap; rw [IntKind.wrap_i64]; omega
  have hb1 : (0 : Int) ≤ (i : Int) + (m : Int) := by omega
  have htn : ((i : Int) + (m : Int)).toNat = i + m := by omega
  have hjz : (j : Int) ≤ (n : Int) := by omega
  unfold maxLen at hcap
  clear hend hr1 hcp1 hcp2 hov htot hg h1 hv hvg h1v hl1 hl2 hlm hm1 hfin hvl hcur hvs hvb hvl2
  go_enter Try.func77, Try.ntmps77
  go_wp2
  refine region_ext (by kernel_rfl) (by kernel_rfl) ?_
  repeat (any_goals (first | go_big_quiet_step ((fail)) | quiet_step ((fail))))
  refine wpQuiet_nil ?_
  intro wq hq
  have hov2 := HOV.out wq hq
  have HO2 := aside hov2
  clear hov2
  go_wp2_with (simp only [HO2.out])
  go_region_law (refine step_copy_to rfl _ _ 100 100 rfl _ _ (by simp [Act.eval, Act.put]; rfl) (by simp [Act.eval, Act.put]; rfl) (HC1.out wq.drew hq.drew _ _ _) ?_)
  go_wp2_with ((with_reducible refine wpList_copy_to _ rfl _ _ 100 100 rfl (.slice (some ⟨g, i * 2, none⟩) (tot - i) (cap - i)) (.slice (some ⟨vb, 0, none⟩) m vc) ?_ ?_ (HC2.out wq.drew hq.drew _ _) ?_); rfl; rfl)
  go_ret
  refine ⟨rfl, HE.out wq.drew hq.drew, ?_⟩
  exact ⟨hq.os, hq.tape, hq.output, Nat.le_trans hq.size (by simp [World.setRow]), fun k hk hn => (setRow_other _ g k _ (fun e => hn (by rw [e]))).trans ((setRow_other _ g k _ (fun e => hn (by rw [e]))).trans (hq.block k hk))⟩
end Go.Proofs.Ytoagjgcpgpjjeaa

namespace Go.Proofs.Ytoagjgcpgpjjeaa
open Go.RowKit
attribute [local simp] lcells_nil readB_length bcells_length
theorem growrep_list {α : Type} (cur rest vs : List α) (i j n m cap : Nat) (hc : cur.length = cap * 2) (hin : i ≤ n) (hjn : j ≤ n) (hn : n ≤ cap) (hv : vs.length = m * 2) :
    (splice (splice (cur.take (i * 2) ++ rest) (i * 2) vs) ((i + m) * 2) ((cur.drop (j * 2)).take ((n - j) * 2))).take ((i + m + (n - j)) * 2) = cur.take (i * 2) ++ vs ++ (cur.take (n * 2)).drop (j * 2) := by
  have e1 : ((cur.drop (j * 2)).take ((n - j) * 2)).length = (n - j) * 2 := by rw [List.length_take, List.length_drop]; omega
  rw [mid_eq _ _ _ hjn]
  generalize (cur.drop (j * 2)).take ((n - j) * 2) = mid at *
  have ea : (cur.take (i * 2)).length = i * 2 := by rw [List.length_take]; omega
  generalize cur.take (i * 2) = A at *
  simp only [splice]
  rw [hv, e1]
  have e3 : List.take (i * 2) (A ++ rest) = A := by rw [← ea, List.take_left]
  rw [e3]
  have e4 : List.take ((i + m) * 2) (A ++ (vs ++ List.drop (i * 2 + m * 2) (A ++ rest))) = A ++ vs := by
    have : (A ++ vs).length = (i + m) * 2 := by rw [List.length_append, ea, hv]; omega
    rw [← List.append_assoc, ← this, List.take_left]
  rw [e4]
  have e5 : (A ++ vs ++ mid).length = (i + m + (n - j)) * 2 := by simp only [List.length_append, ea, hv, e1]; omega
  rw [← List.append_assoc (A ++ vs), ← e5, List.take_left]

set_option maxHeartbeats 2000000 in
set_option maxRecDepth 100000 in
theorem replaceGrow_any (g cap n i j m : Nat) (cur : List Value) (vv : Value) (vs : List Value) (w : World) (hg : w.heap[g]? = some (.cells cur.toArray 126 (0, 0))) (hcur : cur.length = cap * 2) (hcap : cap ≤ maxLen) (hnc : n ≤ cap) (h1 : ∀ u ∈ cur.take (n * 2), u.oneCell' = true) (hnb : n ≤ 4294967296) (hmb : m ≤ 4294967296)
    (hij : i < j) (hjn : j < n) (hroom : cap < i + m + (n - j)) (hv : w.ownsRow 0 126 2 vv m vs) (h1v : ∀ u ∈ vs, u.oneCell' = true) :
    Calls Try.prog 77 #[.slice (some ⟨g, 0, none⟩) n cap, .int .i64 i, .int .i64 j, vv] w fun e w' => ∃ v', e = .returned v' ∧ w'.ownsRow 0 126 2 v' (i + m + (n - j)) (cur.take (i * 2) ++ vs ++ (cur.take (n * 2)).drop (j * 2)) ∧ Below w.heap.size w w' ∧ ∃ k, v'.ownBlock = some k ∧ w.heap.size ≤ k := by
  have hvl := hv.1
  obtain ⟨vb, vc, vcur, rfl, hvb, hvl2, hvs⟩ := own_cells hv (by omega)
  have hbg : g < w.heap.size := (Array.getElem?_eq_some_iff.1 hg).1
  have hbv : vb < w.heap.size := (Array.getElem?_eq_some_iff.1 hvb).1
  have hlm : ((cur.drop (j * 2)).take ((n - j) * 2)).length = (n - j) * 2 := by rw [List.length_take, List.length_drop]; omega
  have hm1 : ∀ v ∈ (cur.drop (j * 2)).take ((n - j) * 2), v.oneCell' = true := fun v hv => h1 v (td_mem hv (by omega))
  obtain ⟨tot, htot⟩ : ∃ tot, tot = i + m + (n - j) := ⟨_, rfl⟩
  have hap : ∀ W, Below w.heap.size w W → ∃ cap' W1 rest, (∀ ty, (Builtin.append_ #[100, 3] ty #[.slice (some ⟨g, 0, none⟩) i cap, .int .i64 ((tot : Int) - (i : Int))]).run Try.prog W = .ok (.slice (some ⟨W.heap.size, 0, none⟩) tot cap') W1) ∧ W1.heap[W.heap.size]? = some (.cells (cur.take (i * 2) ++ rest).toArray 126 (0, 0)) ∧ (cur.take (i * 2) ++ rest).length = cap' * 2 ∧ tot ≤ cap' ∧ cap' ≤ maxLen ∧ Below W.heap.size W W1 := fun W hW => by
    obtain ⟨cap', W1, rest, h, h2, h3, h4, h5, h6⟩ := append_zeros W g cap i (tot - i) cur ((hW.block g hbg).trans hg) hcur (by omega) (by omega) (by omega) (by omega)
    rw [show i + (tot - i) = tot by omega] at h h4
    exact ⟨cap', W1, rest, fun ty => by rw [show (tot : Int) - (i : Int) = ((tot - i : Nat) : Int) by omega]; exact h ty, h2, h3, h4, h5, h6⟩
  have hfin := fun rest => growrep_list cur rest vs i j n m cap hcur (by omega) (by omega) hnc hvl
  rw [← htot] at hfin hroom ⊢
  have hcp1 : ∀ (W1 : World) (G cap' : Nat) (cur0 : List Value), Below w.heap.size w W1 → W1.heap[G]? = some (.cells cur0.toArray 126 (0, 0)) → cur0.length = cap' * 2 → tot ≤ cap' → ∀ ty c1, (Builtin.copy_ #[100, 100] ty #[.slice (some ⟨G, i * 2, none⟩) (tot - i) c1, .slice (some ⟨vb, 0, none⟩) m vc]).run Try.prog W1 = .ok (goInt (min m (tot - i) : Nat)) (W1.setRow G (splice cur0 (i * 2) vs).toArray) := fun W1 G cap' cur0 hB hr hl ht ty c1 =>
    run_copy2 W1 ty _ _ _ _ _ _ G (i * 2) cur0 hr vs (by rw [hvl]; omega) (fun _ => ⟨rfl, _, rfl, fun k v hk => (hB.cell (by rw [Addr.add_lit]; exact hbv)).trans (hvs k v hk)⟩) (by rw [hl, hvl]; omega) h1v
  have hcp2 : ∀ (W2 : World) (G cap' : Nat) (cur1 : List Value), Below w.heap.size w W2 → W2.heap[G]? = some (.cells cur1.toArray 126 (0, 0)) → cur1.length = cap' * 2 → tot ≤ cap' → ∀ ty c1 c2, (Builtin.copy_ #[100, 100] ty #[.slice (some ⟨G, (i + m) * 2, none⟩) (tot - (i + m)) c1, .slice (some ⟨g, j * 2, none⟩) (n - j) c2]).run Try.prog W2 = .ok (goInt (min (n - j) (tot - (i + m)) : Nat)) (W2.setRow G (splice cur1 ((i + m) * 2) ((cur.drop (j * 2)).take ((n - j) * 2))).toArray) := fun W2 G cap' cur1 hB hr hl ht ty c1 c2 =>
    run_copy2 W2 ty _ _ _ _ _ _ G ((i + m) * 2) cur1 hr _ (by rw [hlm]; omega) (fun _ => ⟨rfl, _, rfl, row_cells ((hB.block g hbg).trans hg) (j * 2) (fun k v hk => td_get hk)⟩) (by rw [hlm, hl]; omega) hm1
  have HA := aside hap
  have HF := aside hfin
  have HC1 := aside hcp1
  have HC2 := aside hcp2
  have HVL := aside hvl
  have HLM := aside hlm
  have HT := aside htot
  have t1 : i + m ≤ tot := by omega
  have t1z : (i : Int) + (m : Int) ≤ (tot : Int) := by omega
  have t3 : i < tot := by omega
  have t5 : ¬ (cap = i) := by omega
  have t6 : ¬ (cap = j) := by omega
  have t7 : ¬ (n = j) := by omega
  have t8 : i ≤ cap := by omega
  have t9 : (i : Int) + (m : Int) + ((n - j : Nat) : Int) = (tot : Int) := by omega
  have t9b : (i : Int) + (m : Int) + ((n : Int) - (j : Int)) = (tot : Int) := by omega
  have t10 : tot ≤ 8589934592 := by omega
  have t11 : i + m < tot := by omega
  have hne1 : ((i : Int) == (j : Int)) = false := by simp; omega
  have hne2 : ((j : Int) == (n : Int)) = false := by simp; omega
  have hnez : ¬ (i = j) := by omega
  have hnez2 : ¬ (j = n) := by omega
  have hw1 : IntKind.i64.wrap ((i : Int) + (m : Int)) = ((i + m : Nat) : Int) := by rw [IntKind.wrap_i64]; omega
  have hb1 : (0 : Int) ≤ (i : Int) + (m : Int) := by omega
  have htn : ((i : Int) + (m : Int)).toNat = i + m := by omega
  have hjz : (j : Int) ≤ (n : Int) := by omega
  unfold maxLen at hcap
  clear hap hfin hcp1 hcp2 htot hg h1 hv h1v hlm hm1 hvl hcur hvs hvb hvl2
  go_enter Try.func77, Try.ntmps77
  go_wp2
  refine region_ext (by kernel_rfl) (by kernel_rfl) ?_
  repeat (any_goals (first | go_big_quiet_step ((fail)) | quiet_step ((fail))))
  refine wpQuiet_nil ?_
  intro wq hq
  obtain ⟨cap', W1, rest, hap, hr1, hl1, hc1, hcm, hB1⟩ := HA.out wq hq
  have hwW1 : Below w.heap.size w W1 := below_tr hq hB1
  have hfin := HF.out rest
  generalize cur.take (i * 2) ++ rest = cur0 at *
  have hcp1 := HC1.out W1 wq.heap.size cap' cur0 hwW1 hr1 hl1 hc1
  have hl2 : (splice cur0 (i * 2) vs).length = cap' * 2 := by rw [length_splice _ _ _ (by rw [hl1, HVL.out]; omega), hl1]
  generalize splice cur0 (i * 2) vs = cur1 at *
  have hr2 : (W1.setRow wq.heap.size cur1.toArray).heap[wq.heap.size]? = some (.cells cur1.toArray 126 (0, 0)) := setRow_heap W1 _ cur0.toArray _ _ _ hr1
  have hwW2 : Below w.heap.size w (W1.setRow wq.heap.size cur1.toArray) := below_setRow_new hwW1 hq.size _
  have hcp2 := HC2.out (W1.setRow wq.heap.size cur1.toArray).drew wq.heap.size cap' cur1 hwW2.drew hr2 hl2 hc1
  have hend : ((W1.setRow wq.heap.size cur1.toArray).drew.setRow wq.heap.size (splice cur1 ((i + m) * 2) ((cur.drop (j * 2)).take ((n - j) * 2))).toArray).ownsRow 0 126 2 (.slice (some ⟨wq.heap.size, 0, none⟩) tot cap') tot (cur.take (i * 2) ++ vs ++ (cur.take (n * 2)).drop (j * 2)) :=
    own_of_row (setRow_heap _ _ cur1.toArray _ _ _ hr2) (by rw [length_splice _ _ _ (by rw [hl2, HLM.out]; omega), hl2]) hc1 hcm hfin
  have hbe : Below w.heap.size w ((W1.setRow wq.heap.size cur1.toArray).drew.setRow wq.heap.size (splice cur1 ((i + m) * 2) ((cur.drop (j * 2)).take ((n - j) * 2))).toArray) := below_setRow_new hwW2.drew hq.size _
  have HAP := aside hap
  have HP1 := aside hcp1
  have HP2 := aside hcp2
  have HE := aside hend
  have HB := aside hbe
  have t12 : ¬ (cap' = i) := by omega
  have t13 : ¬ (cap' = i + m) := by omega
  unfold maxLen at hcm
  clear hap hcp1 hcp2 hend hbe hfin hr1 hr2 hl1 hl2 hwW1 hwW2 hB1
  go_wp2_with (first
    | ((with_reducible refine wpList_append_to _ rfl _ _ 100 3 rfl (.slice (some ⟨g, 0, none⟩) i cap) (.int .i64 ((tot : Int) - (i : Int))) ?_ ?_ (HAP.out _) ?_); rfl; rfl)
    | ((with_reducible refine wpList_copy_to _ rfl _ _ 100 100 rfl (.slice (some ⟨wq.heap.size, i * 2, none⟩) (tot - i) (cap' - i)) (.slice (some ⟨vb, 0, none⟩) m vc) ?_ ?_ (HP1.out _ _) ?_); rfl; rfl))
  go_region_law (refine step_copy_to rfl _ _ 100 100 rfl _ _ (by simp [Act.eval, Act.put]; rfl) (by simp [Act.eval, Act.put]; rfl) (HP2.out _ _ _) ?_)
  go_wp2
  go_ret
  exact ⟨_, rfl, HE.out, HB.out, _, rfl, hq.size⟩

set_option maxHeartbeats 400000 in
set_option maxRecDepth 100000 in
theorem replaceSame_any (lv : Value) (n i m : Nat) (xs : List Value) (vv : Value) (vs : List Value) (w : World) (hown : w.ownsRow 0 126 2 lv n xs) (h1 : ∀ u ∈ xs, u.oneCell' = true) (hi : i ≤ n) (hnb : n ≤ 4294967296) (hmb : m ≤ 4294967296)
    (hv : w.ownsRow 0 126 2 vv m vs) (hv0 : m = 0 → vv = .slice none 0 0) (hvg : ∀ k, lv.ownBlock = some k → vv.ownBlock ≠ some k) (h1v : ∀ u ∈ vs, u.oneCell' = true) :
    Calls Try.prog 77 #[lv, .int .i64 i, .int .i64 i, vv] w fun e w' => ∃ v', e = .returned v' ∧ w'.ownsRow 0 126 2 v' (n + m) (xs.take (i * 2) ++ vs ++ xs.drop (i * 2)) ∧ w.grownBy w' lv.ownBlock ∧ (v'.ownBlock = lv.ownBlock ∨ ∃ k, v'.ownBlock = some k ∧ w.heap.size ≤ k) := by
  have HI := aside (insert_any lv n i m xs vv vs w hown h1 hi hnb hmb hv hv0 hvg h1v)
  obtain ⟨a, cap, hlv, hc1, hc2⟩ := row_form hown
  obtain ⟨va, vcap, hvf, -, -⟩ := row_form hv
  obtain ⟨ob, hob⟩ : ∃ ob, ob = lv.ownBlock := ⟨_, rfl⟩
  rw [← hob]
  have HOB := aside hob
  have HV := aside hlv
  have HVF := aside hvf
  have hiz : (i : Int) ≤ (n : Int) := by omega
  have hicz : (i : Int) ≤ (cap : Int) := by omega
  clear hown h1 h1v hob hv hv0 hvg
  unfold maxLen at hc2
  go_enter Try.func77, Try.ntmps77
  rw [hlv, hvf]
  clear hlv hvf
  go_wp2_with (go_at_call 78; rw [← HV.out, ← HVF.out]; refine HI.out.mono ?_; rintro e w1 ⟨v1, rfl, ho1, hg1, hw1⟩)
  all_goals go_ret
  all_goals
    rw [← HOB.out] at hg1 hw1
    rw [List.append_assoc] at ho1
    exact ⟨_, rfl, ho1, hg1, hw1⟩

/-- slices.Replace of stretches, whole. -/
theorem replace_any (lv : Value) (n i j m : Nat) (xs : List Value) (vv : Value) (vs : List Value) (w : World) (hown : w.ownsRow 0 126 2 lv n xs) (h1 : ∀ u ∈ xs, u.oneCell' = true) (hij : i ≤ j) (hjn : j ≤ n) (hnb : n ≤ 4294967296) (hmb : m ≤ 4294967296)
    (hv : w.ownsRow 0 126 2 vv m vs) (hv0 : m = 0 → vv = .slice none 0 0) (hvg : ∀ k, lv.ownBlock = some k → vv.ownBlock ≠ some k) (h1v : ∀ u ∈ vs, u.oneCell' = true) :
    Calls Try.prog 77 #[lv, .int .i64 i, .int .i64 j, vv] w fun e w' => ∃ v', e = .returned v' ∧ w'.ownsRow 0 126 2 v' (i + m + (n - j)) (xs.take (i * 2) ++ vs ++ xs.drop (j * 2)) ∧ w.grownBy w' lv.ownBlock ∧ (v'.ownBlock = lv.ownBlock ∨ ∃ k, v'.ownBlock = some k ∧ w.heap.size ≤ k) := by
  rcases Nat.lt_or_eq_of_le hij with hlt | rfl
  · rcases hown.2 with ⟨-, h0⟩ | ⟨g, cap, cur, rfl, -, hg, hnc, hcm, hcs, htake⟩
    · omega
    · have hg2 : w.heap[g]? = some (.cells cur.toList.toArray 126 (0, 0)) := by simpa using hg
      have hcl : cur.toList.length = cap * 2 := by simpa using hcs
      have e1 : cur.toList.take (i * 2) = xs.take (i * 2) := by rw [← htake, List.take_take]; congr 1; omega
      rcases Nat.lt_or_eq_of_le hjn with hjlt | rfl
      · have fin : ∀ w' : World, w'.ownsRow 0 126 2 (.slice (some ⟨g, 0, none⟩) (i + m + (n - j)) cap) (i + m + (n - j)) (cur.toList.take (i * 2) ++ vs ++ (cur.toList.take (n * 2)).drop (j * 2)) → w'.ownsRow 0 126 2 (.slice (some ⟨g, 0, none⟩) (i + m + (n - j)) cap) (i + m + (n - j)) (xs.take (i * 2) ++ vs ++ xs.drop (j * 2)) := fun w' h => by rw [htake, e1] at h; exact h
        by_cases hs : i + m ≤ j
        · refine (replaceShrink_any g cap n i j m cur.toList vv vs w hg2 hcl hcm hnc (by rw [htake]; exact h1) hlt hjlt hs hv (hvg g rfl) h1v).mono ?_
          rintro e w' ⟨rfl, ho, hgr⟩
          exact ⟨_, rfl, fin w' ho, hgr, .inl rfl⟩
        · by_cases hroom : i + m + (n - j) ≤ cap
          · refine (replaceExpand_any g cap n i j m cur.toList vv vs w hg2 hcl hcm hnc (by rw [htake]; exact h1) hlt hjlt (by omega) hroom hv (hvg g rfl) h1v).mono ?_
            rintro e w' ⟨rfl, ho, hgr⟩
            exact ⟨_, rfl, fin w' ho, hgr, .inl rfl⟩
          · refine (replaceGrow_any g cap n i j m cur.toList vv vs w hg2 hcl hcm hnc (by rw [htake]; exact h1) hnb hmb hlt hjlt (by omega) hv h1v).mono ?_
            rintro e w' ⟨v', rfl, ho, hb, hk⟩
            rw [htake, e1] at ho
            exact ⟨_, rfl, ho, ⟨hb.os, hb.tape, hb.output, hb.size, fun k hk _ => hb.block k hk⟩, .inr hk⟩
      · have e2 : xs.drop (j * 2) = [] := List.drop_of_length_le (by rw [hown.1]; exact Nat.le_refl _)
        rw [e2, List.append_nil, Nat.sub_self, Nat.add_zero]
        by_cases hroom : i + m ≤ cap
        · refine (replaceTail_any g cap j i m cur.toList vv vs w hg2 hcl hcm hnc hlt hroom hv hv0 h1v).mono ?_
          rintro e w' ⟨rfl, ho, hgr⟩
          rw [e1] at ho
          exact ⟨_, rfl, ho, hgr, .inl rfl⟩
        · refine (replaceTailGrow_any g cap j i m (xs.take (i * 2)) vv vs w (own_of_row hg2 hcl (by omega) hcm e1) hnc hnb hmb hlt (by omega) hv h1v).mono ?_
          rintro e w' ⟨v', rfl, ho, hgr, hk⟩
          exact ⟨_, rfl, ho, hgr, hk⟩
  · refine (replaceSame_any lv n i m xs vv vs w hown h1 hjn hnb hmb hv hv0 hvg h1v).mono ?_
    rintro e w' ⟨v', rfl, ho, hgr, hk⟩
    refine ⟨v', rfl, ?_, hgr, hk⟩
    rw [show i + m + (n - i) = n + m by omega]
    exact ho
end Go.Proofs.Ytoagjgcpgpjjeaa

namespace Go.Proofs.Ytoagjgcpgpjjeaa
open Go.RowKit
attribute [local simp] lcells_nil readB_length bcells_length

theorem lay_S (b : Nat) (lv : Value) (sz : Nat) (L : List Piece) (x y : Int) (w : World) (hI : Inv sz L) (hl2 : w.cell? ⟨b, 2, none⟩ = some lv) (hrow : w.ownsRow 0 126 2 lv L.length (lcells L)) (W0 : World) (hW0 : W0 = (w.alloc (.cells #[.int .i64 x] 2)).alloc (.cells #[.int .i64 y] 2)) :
    (∀ W, Below W0.heap.size W0 W → Calls Try.prog 62 #[.pointer (some ⟨b, 0, none⟩), .func (.func 63) #[] #[.pointer (some ⟨w.heap.size, 0, none⟩)]] W fun e w' => e = .returned (.int .i64 (L.findIdx (fun d => decide (x ≤ d.fin)))) ∧ Below W.heap.size W w') ∧
    (∀ W, Below W0.heap.size W0 W → Calls Try.prog 62 #[.pointer (some ⟨b, 0, none⟩), .func (.func 64) #[] #[.pointer (some ⟨w.heap.size + 1, 0, none⟩)]] W fun e w' => e = .returned (.int .i64 (L.findIdx (fun d => decide (y < d.org)))) ∧ Below W.heap.size W w') ∧
    Below w.heap.size w W0 ∧ W0.cell? ⟨w.heap.size, 0, none⟩ = some (.int .i64 x) ∧ W0.cell? ⟨w.heap.size + 1, 0, none⟩ = some (.int .i64 y) := by
  have hlen := hI.len
  have hB0 : Below w.heap.size w W0 := by rw [hW0]; exact (below_al w _).alloc (by simp) _
  have cx : W0.cell? ⟨w.heap.size, 0, none⟩ = some (.int .i64 x) := by rw [hW0]; go_simp
  have cy : W0.cell? ⟨w.heap.size + 1, 0, none⟩ = some (.int .i64 y) := by rw [hW0]; go_simp
  have bx : w.heap.size < W0.heap.size := World.block_lt_of_cell? W0 _ cx
  have by' : w.heap.size + 1 < W0.heap.size := World.block_lt_of_cell? W0 _ cy
  have e45 : ∀ args w, (callFunc 63 args).run Try.prog w = .ok (.enter 63 args) w := enters_of Try.func63 (by kernel_rfl) rfl
  have e46 : ∀ args w, (callFunc 64 args).run Try.prog w = .ok (.enter 64 args) w := enters_of Try.func64 (by kernel_rfl) rfl
  have hbl : b < w.heap.size := World.block_lt_of_cell? w _ hl2
  refine ⟨fun W hW => ?_, fun W hW => ?_, hB0, cx, cy⟩
  · have hwW := below_tr hB0 hW
    exact search_any 63 _ e45 b lv L (fun d => decide (x ≤ d.fin)) W ((hwW.cell hbl).trans hl2) (row_below hrow hwW) (by omega)
      (fun d hd V hV => lay1_any d.org (some ⟨d.blk, 0, none⟩) d.bs.length d.cap w.heap.size x V (by omega) (by have := (hI.bd d hd).1; omega) (hI.bd d hd).2 (((below_tr hW hV).cell bx).trans cx))
      (fun a c ha hc hac h => by have := (hI.so a c ha hc hac).2; simp at h ⊢; omega)
  · have hwW := below_tr hB0 hW
    exact search_any 64 _ e46 b lv L (fun d => decide (y < d.org)) W ((hwW.cell hbl).trans hl2) (row_below hrow hwW) (by omega)
      (fun d hd V hV => lay2_any d.org (some ⟨d.blk, 0, none⟩) d.bs.length d.cap (w.heap.size + 1) y V (((below_tr hW hV).cell by').trans cy))
      (fun a c ha hc hac h => by have := (hI.so a c ha hc hac).1; simp at h ⊢; omega)

/-- (*Bytes).replace with the pieces N in the place of those from i up to j. -/
theorem replacePieces (b : Nat) (x0 x1 lv vv : Value) (L N : List Piece) (i j : Nat) (w : World) (hS : Str w b x0 x1 lv L) (hij : i ≤ j) (hj : j ≤ L.length) (hlen : L.length ≤ 4194304) (hN : N.length ≤ 2)
    (hv : w.ownsRow 0 126 2 vv N.length (lcells N)) (hv0 : N.length = 0 → vv = .slice none 0 0) (hvf : ∀ k, vv.ownBlock = some k → ¬ Foot b lv L k)
    (hrow : ∀ d, d ∈ N → w.ownsRow 0 5 1 d.dv d.bs.length (bcells d.bs)) (hb : ∀ d, d ∈ N → d.blk ≠ b ∧ lv.ownBlock ≠ some d.blk) (hN2 : (N.map fun d => d.blk).Nodup) (hd : ∀ d, d ∈ N → ∀ e, e ∈ L.take i ++ L.drop j → e.blk ≠ d.blk) :
    Calls Try.prog 65 #[.pointer (some ⟨b, 0, none⟩), .int .i64 i, .int .i64 j, vv] w fun e w' => e = .returned (.tuple #[]) ∧ ∃ lv', Str w' b x0 x1 lv' (L.take i ++ N ++ L.drop j) ∧
      (lv'.ownBlock = lv.ownBlock ∨ ∃ k, lv'.ownBlock = some k ∧ w.heap.size ≤ k) ∧ Upd (fun k => k = b ∨ lv.ownBlock = some k) w w' := by
  have hsub : ∀ d, d ∈ L.take i ++ L.drop j → d ∈ L := fun d hd => by
    rcases List.mem_append.1 hd with h | h
    · exact List.mem_of_mem_take h
    · exact List.mem_of_mem_drop h
  have hmem : ∀ d, d ∈ L.take i ++ N ++ L.drop j → d ∈ L.take i ++ L.drop j ∨ d ∈ N := fun d hd => by
    simp only [List.mem_append] at hd ⊢
    rcases hd with (h | h) | h
    · exact .inl (.inl h)
    · exact .inr h
    · exact .inl (.inr h)
  refine replaceStr b i j x0 x1 lv _ L (L.take i ++ N ++ L.drop j) w hS ?_ ?_ ?_ (by simp; omega) ?_
  · intro d hd
    rcases hmem d hd with h | h
    · exact hS.data d (hsub d h)
    · exact hrow d h
  · intro d hd
    rcases hmem d hd with h | h
    · exact hS.dne d (hsub d h)
    · exact hb d h
  · have hp : ((L.take i ++ N ++ L.drop j).map fun d => d.blk).Perm (((L.take i ++ L.drop j).map fun d => d.blk) ++ N.map fun d => d.blk) := by
      simp only [List.map_append, List.append_assoc]
      exact List.Perm.append_left _ List.perm_append_comm
    rw [hp.nodup_iff, List.nodup_append]
    refine ⟨?_, hN2, ?_⟩
    · have hsl : (L.take i ++ L.drop j).Sublist L := by
        have h1 : (L.drop j).Sublist (L.drop i) := by rw [show j = i + (j - i) by omega, ← List.drop_drop]; exact List.drop_sublist _ _
        have h2 := List.Sublist.append (List.Sublist.refl (L.take i)) h1
        rwa [List.take_append_drop] at h2
      exact List.Nodup.sublist (hsl.map _) hS.nd
    · intro a ha c hc e
      obtain ⟨d1, hd1, rfl⟩ := List.mem_map.1 ha
      obtain ⟨d2, hd2, rfl⟩ := List.mem_map.1 hc
      exact hd d2 hd2 d1 hd1 e
  · have h := replace_any lv L.length i j N.length (lcells L) vv (lcells N) w hS.row (lcells_one _) hij hj (by omega) (by omega) hv hv0 (fun k hk e => hvf k e (.inr (.inl hk))) (lcells_one _)
    refine h.mono ?_
    rintro e w' ⟨v', rfl, ho, hgr, hw⟩
    refine ⟨v', rfl, ?_, hgr, hw⟩
    rw [lcells_take, lcells_drop, ← lcells_append, ← lcells_append] at ho
    rw [show (L.take i ++ N ++ L.drop j).length = i + N.length + (L.length - j) by simp; omega]
    exact ho
end Go.Proofs.Ytoagjgcpgpjjeaa

namespace Go.Proofs.Ytoagjgcpgpjjeaa
open Go.RowKit
attribute [local simp] lcells_nil readB_length bcells_length
theorem own_one {w : World} {vb x : Nat} {g cap n : Nat} (h : w.heap[vb]? = some (.cells #[.int .i64 x, .slice (some ⟨g, 0, none⟩) n cap] 126 (0, 0))) : w.ownsRow 0 126 2 (.slice (some ⟨vb, 0, none⟩) 1 1) 1 [.int .i64 x, .slice (some ⟨g, 0, none⟩) n cap] :=
  ⟨rfl, .inr ⟨vb, 1, _, rfl, Nat.zero_le _, h, Nat.le_refl _, by decide, rfl, rfl⟩⟩

set_option maxHeartbeats 1000000 in
theorem lay0_any (b : Nat) (x0 x1 lv : Value) (sz : Nat) (L : List Piece) (x k : Nat) (src : Addr) (l : List UInt8) (c : Nat) (w : World) (hS : Str w b x0 x1 lv L) (hI : Inv sz L) (h0 : 0 < l.length) (hl : l.length ≤ 4194304) (hxl : x + l.length ≤ 1073741824)
    (hk1 : L.findIdx (fun d => decide ((x : Int) ≤ d.fin)) = k) (hk2 : L.findIdx (fun d => decide ((x : Int) + (l.length : Int) < d.org)) = k)
    (hsrc : ∀ j v, (bcells l)[j]? = some v → w.cell? (src.add j) = some v) :
    Calls Try.prog 44 #[.pointer (some ⟨b, 0, none⟩), .int .i64 x, .slice (some src) l.length c] w fun e w' => e = .returned (.tuple #[]) ∧ ∃ lv' g cap, Str w' b x0 x1 lv' (L.take k ++ [⟨x, g, cap, l⟩] ++ L.drop k) ∧ w.heap.size ≤ g ∧ (lv'.ownBlock = lv.ownBlock ∨ ∃ k, lv'.ownBlock = some k ∧ w.heap.size ≤ k) ∧ Upd (fun k => k = b ∨ lv.ownBlock = some k) w w' := by
  have hlen := hI.len
  have hkn : k ≤ L.length := by rw [← hk1]; exact List.findIdx_le_length
  obtain ⟨W0, hW0⟩ : ∃ W0, W0 = (w.alloc (.cells #[.int .i64 x] 2)).alloc (.cells #[.int .i64 ((x : Int) + (l.length : Int))] 2) := ⟨_, rfl⟩
  have hl2 : w.cell? ⟨b, 2, none⟩ = some lv := by rw [cell_of_row w b 2 _ _ _ hS.obj]; rfl
  obtain ⟨S1, S2, hB0, cx, -⟩ := lay_S b lv sz L x ((x : Int) + (l.length : Int)) w hI hl2 hS.row W0 hW0
  rw [hk1] at S1
  rw [hk2] at S2
  have bx : w.heap.size < W0.heap.size := World.block_lt_of_cell? W0 _ cx
  have HS1 := aside S1
  have HS2 := aside S2
  have HB0 := aside hB0
  have HS := aside hS
  have HSR := aside hsrc
  have CX := aside cx
  clear S1 S2 hB0 hS hsrc cx hI hk1 hk2
  go_enter Try.func44, Try.ntmps44
  go_wp2_with fail
  rw [← hW0]
  refine (HS1.out _ (Below.refl _ _)).mono ?_
  rintro e w1 ⟨rfl, hb1⟩
  go_wp2_with fail
  refine (HS2.out _ hb1).mono ?_
  rintro e w2 ⟨rfl, hb2⟩
  have cx2 : w2.cell? ⟨w.heap.size, 0, none⟩ = some (.int .i64 x) := ((below_tr hb1 hb2).cell bx).trans CX.out
  have HB2 := aside (below_tr HB0.out (below_tr hb1 hb2))
  clear hb1 hb2 hW0
  have bx2 : w.heap.size < w2.heap.size := World.block_lt_of_cell? w2 _ cx2
  have hft : ∀ g, w2.heap.size ≤ g → ¬ Foot b lv L g := fun g hg hf => by have := HS.out.lv_lt hf; omega
  have HFT := aside hft
  clear hft
  have tail : ∀ (w3 : World) (g cap : Nat), Below w.heap.size w w3 → w3.ownsRow 0 5 1 (.slice (some ⟨g, 0, none⟩) l.length cap) l.length (bcells l) → w2.heap.size ≤ g → w2.heap.size ≤ w3.heap.size →
      Calls Try.prog 65 #[.pointer (some ⟨b, 0, none⟩), .int .i64 k, .int .i64 k, .slice (some ⟨w3.heap.size, 0, none⟩) 1 1] (w3.alloc (.cells #[.int .i64 x, .slice (some ⟨g, 0, none⟩) l.length cap] 126)) fun e w' => e = .returned (.tuple #[]) ∧ ∃ lv', Str w' b x0 x1 lv' (L.take k ++ [⟨x, g, cap, l⟩] ++ L.drop k) ∧ (lv'.ownBlock = lv.ownBlock ∨ ∃ j, lv'.ownBlock = some j ∧ w3.heap.size + 1 ≤ j) ∧ Upd (fun k => k = b ∨ lv.ownBlock = some k) (w3.alloc (.cells #[.int .i64 x, .slice (some ⟨g, 0, none⟩) l.length cap] 126)) w' := fun w3 g cap hb3 ho3 hg3 hs3 => by
    have hfg : ¬ Foot b lv L g := HFT.out g hg3
    have h := replacePieces b x0 x1 lv (.slice (some ⟨w3.heap.size, 0, none⟩) 1 1) L [⟨x, g, cap, l⟩] k k (w3.alloc (.cells #[.int .i64 x, .slice (some ⟨g, 0, none⟩) l.length cap] 126)) (HS.out.below (below_tr hb3 (below_al w3 _))) (Nat.le_refl _) hkn hlen (by simp)
      (own_one (heap_alloc_new w3 _)) (by simp) (fun j hj => by simp only [Value.ownBlock, Option.some.injEq] at hj; exact HFT.out j (by omega))
      (fun d hd => by rw [List.mem_singleton.1 hd]; exact row_below ho3 (below_al w3 _)) (fun d hd => by rw [List.mem_singleton.1 hd]; exact ⟨fun e => hfg (.inl e), fun e => hfg (.inr (.inl e))⟩) (by simp)
      (fun d hd e he => by
        rw [List.mem_singleton.1 hd]
        intro e1
        rw [List.take_append_drop] at he
        exact hfg (.inr (.inr ⟨e, he, e1⟩)))
    simpa using h
  have HTL := aside tail
  clear tail
  go_wp2
  go_region_with (first
    | (go_at_call 66; refine (clone_any src l c _ h0 (by omega) ?_).mono ?_; (exact fun j v h => (HB2.out.cell (World.block_lt_of_cell? w _ (HSR.out j v h))).trans (HSR.out j v h)); rintro e w3 ⟨g, cap, rfl, hg3, ho3, hb3⟩; have cx3 : w3.cell? ⟨w.heap.size, 0, none⟩ = some (.int .i64 x) := (hb3.cell bx2).trans cx2; have HO3 := aside ho3; have HB3 := aside (below_tr HB2.out (below_tr (below_dr w2) hb3)); have HG3 : Aside (w2.heap.size ≤ g) := hg3; have HS3 : Aside (w2.heap.size ≤ w3.heap.size) := hb3.size; clear ho3 hb3 hg3)
    | (go_at_call 65; refine (HTL.out w3 g cap HB3.out HO3.out HG3.out HS3.out).mono ?_; rintro e w4 ⟨rfl, lv', hS4, hw4, hu4⟩))
  all_goals
    go_wp2
    refine bodyPost_ret (results_none rfl _ _ _) rfl ?_
    refine ⟨rfl, lv', g, cap, hS4, Nat.le_of_lt (Nat.lt_of_lt_of_le bx2 HG3.out), ?_, ?_⟩
    · rcases hw4 with e1 | ⟨j, e1, hj⟩
      · exact .inl e1
      · exact .inr ⟨j, e1, by have := HB3.out.size; omega⟩
    · exact (Upd.of_below (below_tr HB3.out (below_al w3 _))).trans hu4 (fun _ _ h => h)
end Go.Proofs.Ytoagjgcpgpjjeaa

namespace Go.Proofs.Ytoagjgcpgpjjeaa
open Go.RowKit
attribute [local simp] lcells_nil readB_length bcells_length
theorem splice_take_out {α : Type} (l c : List α) (off k : Nat) (h : off + c.length ≤ k) (hk : k ≤ l.length) : (splice l off c).take k = splice (l.take k) off c := by
  have e0 : l.drop (off + c.length) = (l.drop (off + c.length)).take (k - (off + c.length)) ++ l.drop k := by
    have := List.take_append_drop (k - (off + c.length)) (l.drop (off + c.length))
    rw [List.drop_drop, show off + c.length + (k - (off + c.length)) = k by omega] at this
    exact this.symm
  have e : splice l off c = splice (l.take k) off c ++ l.drop k := by
    simp only [splice, List.append_assoc]
    rw [List.take_take, Nat.min_eq_left (by omega), List.drop_take, ← e0]
  have hl : (splice (l.take k) off c).length = k := by rw [length_splice _ _ _ (by rw [List.length_take]; omega), List.length_take]; omega
  rw [e]
  exact List.take_left' hl

theorem L_split {α : Type} {L : List α} {i : Nat} {f : α} (h : L[i]? = some f) : L = L.take i ++ [f] ++ L.drop (i + 1) := by
  obtain ⟨hi, rfl⟩ := List.getElem?_eq_some_iff.1 h
  rw [List.append_assoc, List.singleton_append, List.getElem_cons_drop, List.take_append_drop]

theorem upd_setRow {w : World} {g : Nat} {cs : Array Value} : Upd (fun k => k = g) w (w.setRow g cs) := ⟨rfl, rfl, rfl, by simp [World.setRow], fun k _ hn => setRow_other _ g k _ hn⟩

/-- The bytes of one stretch are written over in place. -/
theorem str_in {w : World} {b : Nat} {x0 x1 lv : Value} {L : List Piece} {i : Nat} {f : Piece} (hS : Str w b x0 x1 lv L) (hf : L[i]? = some f) (cur : Array Value) (hc : w.heap[f.blk]? = some (.cells cur 5 (0, 0))) (hcs : cur.size = f.cap) (hcl : f.bs.length ≤ f.cap) (hcm : f.cap ≤ maxLen) (ht : cur.toList.take f.bs.length = bcells f.bs)
    (o : Nat) (l : List UInt8) (ho : o + l.length ≤ f.bs.length) : Str (w.setRow f.blk (splice cur.toList o (bcells l)).toArray) b x0 x1 lv (L.take i ++ [⟨f.org, f.blk, f.cap, splice f.bs o l⟩] ++ L.drop (i + 1)) := by
  have hL := L_split hf
  have hfL : f ∈ L := List.mem_of_getElem? hf
  have hu := upd_setRow (w := w) (g := f.blk) (cs := (splice cur.toList o (bcells l)).toArray)
  have hll : (splice f.bs o l).length = f.bs.length := length_splice _ _ _ ho
  have hlc : lcells (L.take i ++ [⟨f.org, f.blk, f.cap, splice f.bs o l⟩] ++ L.drop (i + 1)) = lcells L := by
    conv => rhs; rw [hL]
    simp only [lcells_append]
    congr 2
    simp only [lcells, List.flatMap_cons, List.flatMap_nil, Piece.dv, hll]
  have hlen : (L.take i ++ [(⟨f.org, f.blk, f.cap, splice f.bs o l⟩ : Piece)] ++ L.drop (i + 1)).length = L.length := by
    conv => rhs; rw [hL]
    simp
  have hnd := hS.nd
  rw [hL] at hnd
  have hnd2 : ((L.take i ++ [(⟨f.org, f.blk, f.cap, splice f.bs o l⟩ : Piece)] ++ L.drop (i + 1)).map fun d => d.blk).Nodup := by simpa using hnd
  have hoth : ∀ d, d ∈ L.take i ++ L.drop (i + 1) → d ∈ L ∧ d.blk ≠ f.blk := fun d hd => by
    have h1 : d ∈ L := by rw [hL]; simp only [List.mem_append] at hd ⊢; rcases hd with h | h; exact .inl (.inl h); exact .inr h
    refine ⟨h1, fun e => ?_⟩
    simp only [List.map_append, List.map_cons, List.append_assoc, List.singleton_append] at hnd
    have hp := (List.perm_middle (a := f.blk) (l₁ := (L.take i).map fun d => d.blk) (l₂ := (L.drop (i + 1)).map fun d => d.blk)).nodup_iff.1 hnd
    have hn := (List.nodup_cons.1 hp).1
    apply hn
    rw [← List.map_append, ← e]
    exact List.mem_map_of_mem hd
  have hmem : ∀ d, d ∈ L.take i ++ [⟨f.org, f.blk, f.cap, splice f.bs o l⟩] ++ L.drop (i + 1) → d ∈ L.take i ++ L.drop (i + 1) ∨ d = ⟨f.org, f.blk, f.cap, splice f.bs o l⟩ := fun d hd => by
    simp only [List.mem_append, List.mem_singleton] at hd ⊢
    rcases hd with (h | h) | h
    · exact .inl (.inl h)
    · exact .inr h
    · exact .inl (.inr h)
  refine ⟨?_, ?_, ?_, hS.lne, ?_, hnd2⟩
  · rw [setRow_other _ _ _ _ (fun e => (hS.dne f hfL).1 e.symm)]; exact hS.obj
  · rw [hlc, hlen]
    exact hu.row hS.row (fun k hk e => (hS.dne f hfL).2 (by rw [hk, e]))
  · intro d hd
    rcases hmem d hd with h | rfl
    · refine hu.row (hS.data d (hoth d h).1) (fun k hk e => (hoth d h).2 ?_)
      simp only [Piece.dv, Value.ownBlock, Option.some.injEq] at hk
      rw [hk, e]
    · refine ⟨by simp, .inr ⟨f.blk, f.cap, _, rfl, Nat.zero_le _, setRow_heap w _ _ _ _ _ hc, by simpa [hll] using hcl, hcm, ?_, ?_⟩⟩
      · simp only [List.size_toArray, Nat.mul_one]
        rw [length_splice _ _ _ (by rw [bcells_length]; simp; omega)]
        simpa using hcs
      · simp only [Nat.mul_one, hll]
        have e1 := splice_take_out cur.toList (bcells l) o f.bs.length (by rw [bcells_length]; exact ho) (by simp; omega)
        rw [e1, ht, bcells_splice]
  · intro d hd
    rcases hmem d hd with h | rfl
    · exact hS.dne d (hoth d h).1
    · exact hS.dne f hfL

theorem two_old (w : World) (o p : Obj) : ((w.alloc o).alloc p).drew.heap[w.heap.size]? = some o := by
  show ((w.alloc o).alloc p).heap[w.heap.size]? = some o
  rw [Below.heap_alloc (w.alloc o) p w.heap.size (by simp), heap_alloc_new]
theorem two_new (w : World) (o p : Obj) : ((w.alloc o).alloc p).drew.heap[w.heap.size + 1]? = some p := by
  show ((w.alloc o).alloc p).heap[w.heap.size + 1]? = some p
  have := heap_alloc_new (w.alloc o) p
  rwa [World.size_alloc] at this
theorem two_below (w : World) (o p : Obj) : Below w.heap.size w ((w.alloc o).alloc p).drew := ((below_al w o).alloc (by simp) p).drew

set_option maxHeartbeats 2000000 in
set_option maxRecDepth 100000 in
theorem layIn_any (b : Nat) (x0 x1 lv : Value) (sz : Nat) (L : List Piece) (x i j : Nat) (src : Addr) (n c : Nat) (w : World) (f t : Piece) (l : List UInt8) (hS : Str w b x0 x1 lv L) (hI : Inv sz L) (hxl : x + n ≤ 1073741824)
    (hi : L.findIdx (fun d => decide ((x : Int) ≤ d.fin)) = i) (hj : L.findIdx (fun d => decide ((x : Int) + (n : Int) < d.org)) = j) (hij : i < j) (hf : L[i]? = some f) (ht : L[j - 1]? = some t)
    (hnl : n = l.length) (h0 : 0 < n) (hsrc : ∀ j v, (bcells l)[j]? = some v → w.cell? (src.add j) = some v) (hfx : f.org ≤ x) (hfe : x + n ≤ f.fin) :
    Calls Try.prog 44 #[.pointer (some ⟨b, 0, none⟩), .int .i64 x, .slice (some src) n c] w fun e w' => e = .returned (.tuple #[]) ∧ Str w' b x0 x1 lv (L.take i ++ [⟨f.org, f.blk, f.cap, splice f.bs (x - f.org) l⟩] ++ L.drop (i + 1)) ∧ Upd (fun k => k = f.blk) w w' := by
  have hlen := hI.len
  have hjn : j ≤ L.length := by rw [← hj]; exact List.findIdx_le_length
  obtain ⟨W0, hW0⟩ : ∃ W0, W0 = (w.alloc (.cells #[.int .i64 x] 2)).alloc (.cells #[.int .i64 ((x : Int) + (n : Int))] 2) := ⟨_, rfl⟩
  have hl2 : w.cell? ⟨b, 2, none⟩ = some lv := by rw [cell_of_row w b 2 _ _ _ hS.obj]; rfl
  obtain ⟨S1, S2, hB0, cx, cy⟩ := lay_S b lv sz L x ((x : Int) + (n : Int)) w hI hl2 hS.row W0 hW0
  rw [hi] at S1
  rw [hj] at S2
  have bx : w.heap.size < W0.heap.size := World.block_lt_of_cell? W0 _ cx
  have by' : w.heap.size + 1 < W0.heap.size := World.block_lt_of_cell? W0 _ cy
  have hbl : b < w.heap.size := World.block_lt_of_cell? w _ hl2
  have HS1 := aside S1
  have HS2 := aside S2
  have HB0 := aside hB0
  have HS := aside hS
  have CX := aside cx
  have CY := aside cy
  have HL2 := aside hl2
  have HF := aside hf
  have HBD : Aside (∀ d, d ∈ L → d.bs.length ≤ 4294967296) := fun d hd => (hI.bd d hd).2
  have HIN := aside hI
  have HSR := aside hsrc
  have HNL := aside hnl
  have HTT := aside ht
  clear S1 S2 hB0 hS cx cy hI hi hj hl2 hf ht hsrc hnl
  have hijz : ((i : Int) == (j : Int)) = false := by simp; omega
  have hnez : ¬ (i = j) := by omega
  go_enter Try.func44, Try.ntmps44
  go_wp2_with fail
  rw [← hW0]
  refine (HS1.out _ (Below.refl _ _)).mono ?_
  rintro e w1 ⟨rfl, hb1⟩
  go_wp2_with fail
  refine (HS2.out _ hb1).mono ?_
  rintro e w2 ⟨rfl, hb2⟩
  have cx2 : w2.cell? ⟨w.heap.size, 0, none⟩ = some (.int .i64 x) := ((below_tr hb1 hb2).cell bx).trans CX.out
  have cy2 : w2.cell? ⟨w.heap.size + 1, 0, none⟩ = some (.int .i64 ((x : Int) + (n : Int))) := ((below_tr hb1 hb2).cell by').trans CY.out
  have hw2 := below_tr HB0.out (below_tr hb1 hb2)
  have HB2 := aside hw2
  clear hb1 hb2 hW0
  obtain ⟨lg, lc, hlv, hf0, hf1⟩ := row_at (row_below HS.out.row hw2) (i := i) (by omega)
  obtain ⟨lg2, lc2, hlv2, ht0, ht1⟩ := row_at (row_below HS.out.row hw2) (i := j - 1) (by omega)
  rw [hlv] at hlv2
  simp only [Value.slice.injEq, Option.some.injEq, Addr.mk.injEq, true_and, and_true] at hlv2
  obtain ⟨rfl, rfl⟩ := hlv2
  have hc2 : w2.cell? ⟨b, 2, none⟩ = some (.slice (some ⟨lg, 0, none⟩) L.length lc) := by rw [← hlv]; exact (hw2.cell hbl).trans HL2.out
  have ef : L[i] = f := Option.some.inj ((List.getElem?_eq_getElem (by omega)).symm.trans HF.out)
  have et : L[j - 1] = t := Option.some.inj ((List.getElem?_eq_getElem (by omega)).symm.trans HTT.out)
  rw [ef] at hf0 hf1
  rw [et] at ht0 ht1
  unfold Piece.dv at hf1 ht1
  have hiz : (i : Int) < (L.length : Int) := by omega
  obtain ⟨jm, hjm⟩ : ∃ jm, jm = j - 1 := ⟨_, rfl⟩
  rw [← hjm] at ht0 ht1
  have hjn1 : (j : Int) - 1 = (jm : Int) := by omega
  have hjz : (jm : Int) < (L.length : Int) := by omega
  have hjw : IntKind.i64.wrap (jm : Int) = (jm : Int) := by rw [IntKind.wrap_i64]; omega
  have HJM := aside hjm
  clear hjm
  clear hw2 hlv ef et
  go_upto_region 6 with fail
  go_cut [9, 10] from 25 to 110 (fun p9 p10 wx => ∃ b9 b10 : Nat, p9 = .pointer (some ⟨b9, 0, none⟩) ∧ p10 = .pointer (some ⟨b10, 0, none⟩) ∧ b9 ≠ b10 ∧ w2.heap.size ≤ b9 ∧ w2.heap.size ≤ b10 ∧ wx.heap[b9]? = some (.cells #[.int .i64 f.org, .slice (some ⟨f.blk, 0, none⟩) f.bs.length f.cap] 126 (0, 0)) ∧ wx.heap[b10]? = some (.cells #[.int .i64 t.org, .slice (some ⟨t.blk, 0, none⟩) t.bs.length t.cap] 126 (0, 0)) ∧ Below w2.heap.size w2 wx)
  case first =>
    go_region_held2 (fun w' => w'.cell? ⟨b, 2, none⟩ = some (.slice (some ⟨lg, 0, none⟩) L.length lc) ∧ w'.cell? ⟨lg, i * 2, none⟩ = some (.int .i64 f.org) ∧ w'.cell? ⟨lg, i * 2 + 1, none⟩ = some (.slice (some ⟨f.blk, 0, none⟩) f.bs.length f.cap) ∧ w'.cell? ⟨lg, jm * 2, none⟩ = some (.int .i64 t.org) ∧ w'.cell? ⟨lg, jm * 2 + 1, none⟩ = some (.slice (some ⟨t.blk, 0, none⟩) t.bs.length t.cap)) (go_keep) (fail)
    all_goals
      go_wp2_with fail
      go_meet
      case rel =>
        first
          | exact ⟨w2.heap.size, w2.heap.size + 1, rfl, rfl, by omega, Nat.le_refl _, by omega, two_old w2 _ _, two_new w2 _ _, two_below w2 _ _⟩
          | exact ⟨w2.heap.size + 1, w2.heap.size, rfl, rfl, by omega, by omega, Nat.le_refl _, two_new w2 _ _, two_old w2 _ _, two_below w2 _ _⟩
  case rest =>
    obtain ⟨b9, b10, rfl, rfl, hne, h9, h10, hh9, hh10, hbc⟩ := hcut
    have d90 : wc.cell? ⟨b9, 0, none⟩ = some (.int .i64 f.org) := by rw [cell_of_row wc b9 0 _ _ _ hh9]; rfl
    have d91 : wc.cell? ⟨b9, 1, none⟩ = some (.slice (some ⟨f.blk, 0, none⟩) f.bs.length f.cap) := by rw [cell_of_row wc b9 1 _ _ _ hh9]; rfl
    have bx2 : w.heap.size < w2.heap.size := World.block_lt_of_cell? w2 _ cx2
    have by2 : w.heap.size + 1 < w2.heap.size := World.block_lt_of_cell? w2 _ cy2
    have dx : wc.cell? ⟨w.heap.size, 0, none⟩ = some (.int .i64 x) := (hbc.cell bx2).trans cx2
    have dy : wc.cell? ⟨w.heap.size + 1, 0, none⟩ = some (.int .i64 ((x : Int) + (n : Int))) := (hbc.cell by2).trans cy2
    have xx := fun d os => ext_cell dx d os
    have xy := fun d os => ext_cell dy d os
    have x90 := fun d os => ext_cell d90 d os
    have x91 := fun d os => ext_cell d91 d os
    have hfL : f ∈ L := List.mem_of_getElem? HF.out
    unfold Piece.fin at hfe
    have hfo : f.org ≤ 1073741824 := by omega
    have hfl : f.bs.length ≤ 4294967296 := HBD.out f hfL
    have g1 : decide ((f.org : Int) ≤ (x : Int)) = true := by simp; omega
    have g1b : decide (f.org ≤ x) = true := by simp; omega
    have g2 : decide ((x : Int) + (n : Int) ≤ (f.org : Int) + (f.bs.length : Int)) = true := by simp; omega
    have HWC := aside (below_tr HB2.out hbc)
    have HH9 := aside hh9
    clear hh9 hh10 hbc hf0 hf1 ht0 ht1 hc2
    go_wp2
    refine region_ext (by kernel_rfl) (by kernel_rfl) ?_
    repeat (any_goals (first | go_big_quiet_step ((go_at_call 61; exact calls_ext (to_any _ _ _ _ _ (by omega) (by omega) (by omega)))) | quiet_step ((go_at_call 61; exact calls_ext (to_any _ _ _ _ _ (by omega) (by omega) (by omega))))))
    refine wpQuiet_nil ?_
    intro wq hq
    have e90 : wq.cell? ⟨b9, 0, none⟩ = some (.int .i64 f.org) := (hq.cell (World.block_lt_of_cell? wc _ d90)).trans d90
    have e91 : wq.cell? ⟨b9, 1, none⟩ = some (.slice (some ⟨f.blk, 0, none⟩) f.bs.length f.cap) := (hq.cell (World.block_lt_of_cell? wc _ d91)).trans d91
    have ex : wq.cell? ⟨w.heap.size, 0, none⟩ = some (.int .i64 x) := (hq.cell (World.block_lt_of_cell? wc _ dx)).trans dx
    have hwq := below_tr HWC.out hq
    have hSq := HS.out.below hwq
    obtain ⟨o, ho⟩ : ∃ o, o = x - f.org := ⟨_, rfl⟩
    have hoz : (x : Int) - (f.org : Int) = (o : Int) := by omega
    have hnl := HNL.out
    rcases (hSq.data f hfL).2 with ⟨hbad, -⟩ | ⟨g', cap', cur, hgv, -, hgc, hg1, hg2, hg3, hg4⟩
    · simp [Piece.dv] at hbad
    · simp only [Piece.dv, Value.slice.injEq, Option.some.injEq, Addr.mk.injEq, true_and, and_true] at hgv
      obtain ⟨rfl, rfl⟩ := hgv
      have hgc2 : wq.heap[f.blk]? = some (.cells cur.toList.toArray 5 (0, 0)) := by simpa using hgc
      have hcs : cur.size = f.cap := by simpa using hg3
      have hcp : ∀ ty c1, (Builtin.copy_ #[22, 22] ty #[.slice (some ⟨f.blk, o, none⟩) (f.bs.length - o) c1, .slice (some src) n c]).run Try.prog wq = .ok (goInt ((bcells l).length : Nat)) (wq.setRow f.blk (splice cur.toList o (bcells l)).toArray) := fun ty c1 =>
        run_copy_bytes wq ty _ _ _ _ _ _ f.blk o cur.toList hgc2 (bcells l) (by rw [bcells_length]; omega) (fun _ => ⟨rfl, src, rfl, fun k v hk => (hwq.cell (World.block_lt_of_cell? w _ (HSR.out k v hk))).trans (HSR.out k v hk)⟩) (by rw [bcells_length]; simp; omega) (bcells_one _)
      have hstr := str_in hSq HF.out cur hgc hcs hg1 hg2 (by simpa using hg4) o l (by omega)
      have HCP := aside hcp
      have HST := aside hstr
      have HWQ := aside hwq
      have HO := aside ho
      have hcc : ¬ (f.cap = o) := by omega
      have hol : o ≤ f.bs.length := by omega
      unfold maxLen at hg2
      clear hcp hstr hwq hgc hgc2 hSq hg3 hg4 hcs ho hnl
      go_wp2_with ((with_reducible refine wpList_copy_to _ rfl _ _ 22 22 rfl (.slice (some ⟨f.blk, o, none⟩) (f.bs.length - o) (f.cap - o)) (.slice (some src) n c) ?_ ?_ (HCP.out _ _) ?_); rfl; rfl)
      refine bodyPost_ret (results_none rfl _ _ _) rfl ?_
      refine ⟨rfl, ?_, ?_⟩
      · rw [← HO.out]; exact HST.out
      · exact (Upd.of_below HWQ.out).trans upd_setRow (fun _ _ h => h)
end Go.Proofs.Ytoagjgcpgpjjeaa

namespace Go.Proofs.Ytoagjgcpgpjjeaa
open Go.RowKit
attribute [local simp] lcells_nil readB_length bcells_length
/-- (*Bytes).replace with the pieces N in the place of those from i up to j; of the old pieces only those that stay are asked for. -/
theorem replaceKept (b : Nat) (x0 x1 lv vv : Value) (L N : List Piece) (i j : Nat) (w : World) (hobj : w.heap[b]? = some (.cells #[x0, x1, lv] 102 (0, 0))) (hlr : w.ownsRow 0 126 2 lv L.length (lcells L)) (hlne : lv.ownBlock ≠ some b)
    (hkd : ∀ d, d ∈ L.take i ++ L.drop j → w.ownsRow 0 5 1 d.dv d.bs.length (bcells d.bs)) (hkb : ∀ d, d ∈ L.take i ++ L.drop j → d.blk ≠ b ∧ lv.ownBlock ≠ some d.blk) (hnd : (L.map fun d => d.blk).Nodup)
    (hij : i ≤ j) (hj : j ≤ L.length) (hlen : L.length ≤ 4194304) (hN : N.length ≤ 2)
    (hv : w.ownsRow 0 126 2 vv N.length (lcells N)) (hv0 : N.length = 0 → vv = .slice none 0 0) (hvf : ∀ k, vv.ownBlock = some k → lv.ownBlock ≠ some k)
    (hrow : ∀ d, d ∈ N → w.ownsRow 0 5 1 d.dv d.bs.length (bcells d.bs)) (hb : ∀ d, d ∈ N → d.blk ≠ b ∧ lv.ownBlock ≠ some d.blk) (hN2 : (N.map fun d => d.blk).Nodup) (hd : ∀ d, d ∈ N → ∀ e, e ∈ L.take i ++ L.drop j → e.blk ≠ d.blk) :
    Calls Try.prog 65 #[.pointer (some ⟨b, 0, none⟩), .int .i64 i, .int .i64 j, vv] w fun e w' => e = .returned (.tuple #[]) ∧ ∃ lv', Str w' b x0 x1 lv' (L.take i ++ N ++ L.drop j) ∧
      (lv'.ownBlock = lv.ownBlock ∨ ∃ k, lv'.ownBlock = some k ∧ w.heap.size ≤ k) ∧ Upd (fun k => k = b ∨ lv.ownBlock = some k) w w' := by
  have hmem : ∀ d, d ∈ L.take i ++ N ++ L.drop j → d ∈ L.take i ++ L.drop j ∨ d ∈ N := fun d hd => by
    simp only [List.mem_append] at hd ⊢
    rcases hd with (h | h) | h
    · exact .inl (.inl h)
    · exact .inr h
    · exact .inl (.inr h)
  have hdat : ∀ d, d ∈ L.take i ++ N ++ L.drop j → w.ownsRow 0 5 1 d.dv d.bs.length (bcells d.bs) := fun d hd => by
    rcases hmem d hd with h | h
    · exact hkd d h
    · exact hrow d h
  have hdne : ∀ d, d ∈ L.take i ++ N ++ L.drop j → d.blk ≠ b ∧ lv.ownBlock ≠ some d.blk := fun d hd => by
    rcases hmem d hd with h | h
    · exact hkb d h
    · exact hb d h
  have hnd2 : ((L.take i ++ N ++ L.drop j).map fun d => d.blk).Nodup := by
    have hp : ((L.take i ++ N ++ L.drop j).map fun d => d.blk).Perm (((L.take i ++ L.drop j).map fun d => d.blk) ++ N.map fun d => d.blk) := by
      simp only [List.map_append, List.append_assoc]
      exact List.Perm.append_left _ List.perm_append_comm
    rw [hp.nodup_iff, List.nodup_append]
    refine ⟨?_, hN2, ?_⟩
    · have hsl : (L.take i ++ L.drop j).Sublist L := by
        have h1 : (L.drop j).Sublist (L.drop i) := by rw [show j = i + (j - i) by omega, ← List.drop_drop]; exact List.drop_sublist _ _
        have h2 := List.Sublist.append (List.Sublist.refl (L.take i)) h1
        rwa [List.take_append_drop] at h2
      exact List.Nodup.sublist (hsl.map _) hnd
    · intro a ha c hc e
      obtain ⟨d1, hd1, rfl⟩ := List.mem_map.1 ha
      obtain ⟨d2, hd2, rfl⟩ := List.mem_map.1 hc
      exact hd d2 hd2 d1 hd1 e
  have hR : Calls Try.prog 77 #[lv, .int .i64 i, .int .i64 j, vv] w fun e w' => ∃ v', e = .returned v' ∧ w'.ownsRow 0 126 2 v' (L.take i ++ N ++ L.drop j).length (lcells (L.take i ++ N ++ L.drop j)) ∧ w.grownBy w' lv.ownBlock ∧ (v'.ownBlock = lv.ownBlock ∨ ∃ g, v'.ownBlock = some g ∧ w.heap.size ≤ g) := by
    have h := replace_any lv L.length i j N.length (lcells L) vv (lcells N) w hlr (lcells_one _) hij hj (by omega) (by omega) hv hv0 (fun k hk e => hvf k e hk) (lcells_one _)
    refine h.mono ?_
    rintro e w' ⟨v', rfl, ho, hgr, hw⟩
    refine ⟨v', rfl, ?_, hgr, hw⟩
    rw [lcells_take, lcells_drop, ← lcells_append, ← lcells_append] at ho
    rw [show (L.take i ++ N ++ L.drop j).length = i + N.length + (L.length - j) by simp; omega]
    exact ho
  refine (replaceM_of b i j x0 x1 lv vv L.length (lcells L) _ (lcells (L.take i ++ N ++ L.drop j)) w hobj hlne hlr (by simp; omega) (lcells_one _) hR).mono ?_
  rintro e w' ⟨rfl, lv', ho, hr, hw, hu⟩
  have hbl : b < w.heap.size := (Array.getElem?_eq_some_iff.1 hobj).1
  refine ⟨rfl, lv', ⟨ho, hr, fun d hd => hu.row (hdat d hd) (fun k hk => ?_), ?_, fun d hd => ⟨(hdne d hd).1, ?_⟩, hnd2⟩, hw, hu⟩
  · simp only [Piece.dv, Value.ownBlock, Option.some.injEq] at hk
    subst hk
    rintro (e1 | e1)
    · exact (hdne d hd).1 e1
    · exact (hdne d hd).2 e1
  · rcases hw with e1 | ⟨g, e1, hg⟩
    · rw [e1]; exact hlne
    · rw [e1]; intro e2; injection e2 with e2; omega
  · rcases hw with e1 | ⟨g, e1, hg⟩
    · rw [e1]; exact (hdne d hd).2
    · have := ((hdat d hd).lt d.blk rfl).2
      rw [e1]; intro e2; injection e2 with e2; omega

/-- append onto a row of bytes that is there (also of none). -/
theorem wpList_append_bytes (w : World) {ops : Array Oper} {rest : List Oper} {o : Oper} {a : Act} {Q : Exit → Act → World → Prop} (hgd : o.guard = none) (s x : Operand)
    (ho : o.op = .call { callee := .builtin .append, args := #[s, x], argTypes := #[22, 22] }) (g cap n : Nat) (P : List UInt8) (hs : a.eval s = .slice (some ⟨g, 0, none⟩) n cap) (hn : n = P.length) (hown : w.ownsRow 0 5 1 (.slice (some ⟨g, 0, none⟩) n cap) n (bcells P))
    (sa : Option Addr) (m c : Nat) (T : List UInt8) (hx : a.eval x = .slice sa m c) (hm : m = T.length) (hnews : 0 < m → ∃ ad, sa = some ad ∧ ∀ j u, (bcells T)[j]? = some u → w.cell? (ad.add j) = some u) (hsz : n + m ≤ 8589934592)
    (h : ∀ g' cap' w', w'.ownsRow 0 5 1 (.slice (some ⟨g', 0, none⟩) (n + m) cap') (n + m) (bcells (P ++ T)) → w.grownBy w' (some g) → (g' = g ∨ w.heap.size ≤ g') → wpList Try.prog ops Q rest (a.put o.dst (.slice (some ⟨g', 0, none⟩) (n + m) cap')) w') : wpList Try.prog ops Q (o :: rest) a w := by
  subst hm
  by_cases h0 : T.length = 0
  · obtain rfl : T = [] := List.eq_nil_of_length_eq_zero h0
    obtain ⟨i, hi, hz, hs5, hb⟩ := info_parts info5
    have hnc : n ≤ cap := by obtain ⟨_, _, e, h, -⟩ := row_form hown; simp only [Value.slice.injEq] at e; omega
    have hr : (Builtin.append_ #[22, 22] o.type #[.slice (some ⟨g, 0, none⟩) n cap, .slice sa 0 c]).run Try.prog w = .ok (.slice (some ⟨g, 0, none⟩) n cap) w := by
      cases sa <;> simp [Builtin.append_, run_underlying Try.underlying22, sizeOf, typeInfo, hi, Builtin.lenOf, Builtin.firstCells, hnc, storeCells, loadCells, loadCellsFrom]
    refine wpList_append_to w hgd s x 22 22 ho _ _ hs hx hr ?_
    have := h g cap w (by simpa using hown) (World.grownBy.refl _ _) (.inl rfl)
    simpa using this
  · obtain ⟨ad, rfl, hc⟩ := hnews (by omega)
    refine wpList_append_where w hgd s x 22 ho 5 (.int .u8 0) 1 1 Try.underlying22 info5 rfl (by decide) _ n (bcells P) hs hown ad T.length c (bcells T) hx (by simp) hc (bcells_one _) (by unfold maxLen; omega) (by omega) (by omega) ?_
    intro v' w' ho' hg hw
    rcases ho'.2 with ⟨-, hz⟩ | ⟨g', cap', cur, rfl, r⟩
    · omega
    · have e : bcells P ++ bcells T = bcells (P ++ T) := by simp [bcells]
      rw [e] at ho'
      refine h g' cap' w' ho' hg ?_
      rcases hw with ⟨e1, -⟩ | ⟨e1, -⟩
      · simp only [Value.ownBlock, Option.some.injEq] at e1; exact .inl e1
      · simp only [Value.ownBlock, Option.some.injEq] at e1; exact .inr (by omega)
end Go.Proofs.Ytoagjgcpgpjjeaa

namespace Go.Proofs.Ytoagjgcpgpjjeaa
open Go.RowKit
attribute [local simp] lcells_nil readB_length bcells_length
theorem nd_ne {L : List Piece} (h : (L.map fun d => d.blk).Nodup) {i j : Nat} {f t : Piece} (hf : L[i]? = some f) (ht : L[j]? = some t) (hij : i ≠ j) : f.blk ≠ t.blk := by
  obtain ⟨hi, rfl⟩ := List.getElem?_eq_some_iff.1 hf
  obtain ⟨hj, rfl⟩ := List.getElem?_eq_some_iff.1 ht
  intro e
  have h2 := List.pairwise_iff_getElem.1 h
  rcases Nat.lt_or_gt_of_ne hij with hlt | hlt
  · exact h2 i j (by simpa using hi) (by simpa using hj) hlt (by simpa using e)
  · exact h2 j i (by simpa using hj) (by simpa using hi) hlt (by simpa using e.symm)
theorem kept_ne {L : List Piece} (h : (L.map fun d => d.blk).Nodup) {i j : Nat} {f : Piece} (hf : L[i]? = some f) (hij : i < j) {d : Piece} (hd : d ∈ L.take i ++ L.drop j) : d ∈ L ∧ d.blk ≠ f.blk := by
  rcases List.mem_append.1 hd with hd | hd
  · obtain ⟨k, hk, rfl⟩ := List.getElem_of_mem hd
    simp only [List.length_take] at hk
    rw [List.getElem_take]
    exact ⟨List.getElem_mem _, nd_ne h (i := k) (j := i) (List.getElem?_eq_getElem (by omega)) hf (by omega)⟩
  · obtain ⟨k, hk, rfl⟩ := List.getElem_of_mem hd
    simp only [List.length_drop] at hk
    rw [List.getElem_drop]
    exact ⟨List.getElem_mem _, nd_ne h (i := j + k) (j := i) (List.getElem?_eq_getElem (by omega)) hf (by omega)⟩

theorem merge_call (b b9 vb : Nat) (x0 x1 lv : Value) (L : List Piece) (i j o g6 cap6 : Nat) (f : Piece) (B : List UInt8) (wc W7 : World) (hSc : Str wc b x0 x1 lv L) (hf : L[i]? = some f) (hij : i < j) (hj : j ≤ L.length) (hlen : L.length ≤ 4194304)
    (hu : Upd (fun k => k = f.blk ∨ k = b9) wc W7) (hb9 : ¬ Foot b lv L b9) (hrow : W7.ownsRow 0 5 1 (.slice (some ⟨g6, 0, none⟩) B.length cap6) B.length (bcells B)) (hg6 : g6 = f.blk ∨ wc.heap.size ≤ g6)
    (hvb : W7.heap[vb]? = some (.cells #[.int .i64 o, .slice (some ⟨g6, 0, none⟩) B.length cap6] 126 (0, 0))) (hvbn : wc.heap.size ≤ vb) :
    Calls Try.prog 65 #[.pointer (some ⟨b, 0, none⟩), .int .i64 i, .int .i64 j, .slice (some ⟨vb, 0, none⟩) 1 1] W7 fun e w' => e = .returned (.tuple #[]) ∧ ∃ lv', Str w' b x0 x1 lv' (L.take i ++ [⟨o, g6, cap6, B⟩] ++ L.drop j) ∧
      (lv'.ownBlock = lv.ownBlock ∨ ∃ k, lv'.ownBlock = some k ∧ wc.heap.size ≤ k) ∧ Upd (fun k => Foot b lv L k ∨ k = b9) wc w' := by
  have hfL : f ∈ L := List.mem_of_getElem? hf
  have hfb := hSc.dne f hfL
  have hbl := hSc.lv_lt (.inl rfl)
  have hg6b : g6 ≠ b := by
    rcases hg6 with e | e
    · rw [e]; exact hfb.1
    · omega
  have hg6l : lv.ownBlock ≠ some g6 := by
    rcases hg6 with e | e
    · rw [e]; exact hfb.2
    · intro h; have := (hSc.row.lt g6 h).2; omega
  refine (replaceKept b x0 x1 lv (.slice (some ⟨vb, 0, none⟩) 1 1) L [⟨o, g6, cap6, B⟩] i j W7 ?_ ?_ hSc.lne ?_ ?_ hSc.nd (by omega) hj hlen (by simp) (own_one hvb) (by simp) ?_ ?_ ?_ (by simp) ?_).mono ?_
  · exact (hu.block b hbl (fun h => by rcases h with e | e; exact hfb.1 e.symm; exact hb9 (.inl e.symm))).trans hSc.obj
  · exact hu.row hSc.row (fun k hk h => by rcases h with e | e; exact hfb.2 (by rw [hk, e]); exact hb9 (.inr (.inl (by rw [hk, e]))))
  · intro d hd
    obtain ⟨h1, h2⟩ := kept_ne hSc.nd hf hij hd
    refine hu.row (hSc.data d h1) (fun k hk h => ?_)
    simp only [Piece.dv, Value.ownBlock, Option.some.injEq] at hk
    rcases h with e | e
    · exact h2 (by rw [hk, e])
    · exact hb9 (.inr (.inr ⟨d, h1, by rw [hk, e]⟩))
  · intro d hd
    exact hSc.dne d (kept_ne hSc.nd hf hij hd).1
  · intro k hk h
    simp only [Value.ownBlock, Option.some.injEq] at hk
    have := (hSc.row.lt k h).2
    omega
  · intro d hd
    rw [List.mem_singleton.1 hd]; exact hrow
  · intro d hd
    rw [List.mem_singleton.1 hd]; exact ⟨hg6b, hg6l⟩
  · intro d hd e he
    rw [List.mem_singleton.1 hd]
    obtain ⟨h1, h2⟩ := kept_ne hSc.nd hf hij he
    rcases hg6 with e1 | e1
    · simp only; rw [e1]; exact h2
    · have := hSc.lv_lt (.inr (.inr ⟨e, h1, rfl⟩))
      simp only; omega
  · rintro e w' ⟨rfl, lv', hS', hw, hu2⟩
    refine ⟨rfl, lv', hS', ?_, ?_⟩
    · rcases hw with e | ⟨k, e, hk⟩
      · exact .inl e
      · exact .inr ⟨k, e, Nat.le_trans hu.size hk⟩
    · refine (hu.mono (G := fun k => Foot b lv L k ∨ k = b9) (fun k _ h => ?_)).trans hu2 (fun k _ h => ?_)
      · rcases h with e | e
        · exact .inl (.inr (.inr ⟨f, hfL, e.symm⟩))
        · exact .inr e
      · rcases h with e | e
        · exact .inl (.inl e)
        · exact .inl (.inr (.inl e))
end Go.Proofs.Ytoagjgcpgpjjeaa
