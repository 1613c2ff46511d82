/- What bytes that are laid leave of the stretches, in plain terms. -/
import Derived.Test.YtkekaljcbmkomaaErased
import Derived.Laws.CopyOwn
namespace Go.Proofs.Ytkekaljcbmkomaa
open Go.RowKit

/-- What stands where the bytes l are laid at x. -/
structure Laid (L L' : List Piece) (x : Nat) (l : List UInt8) : Prop where
  sep : L'.Pairwise (fun a b => a.fin < b.org)
  ne : ∀ d, d ∈ L' → 0 < d.bs.length
  fin : ∀ n, n ∈ L' → n.fin ≤ x + l.length ∨ ∃ d, d ∈ L ∧ n.fin ≤ d.fin
  held : heldOf L' + ovls x (x + l.length) L = heldOf L + l.length
  byte : ∀ p, byteAt L' p = if x ≤ p ∧ p < x + l.length then l.getD (p - x) 0 else byteAt L p
  has : ∀ p, heldAt L' p ↔ heldAt L p ∨ (x ≤ p ∧ p < x + l.length)
  cnt : L'.length ≤ L.length + 1

theorem laid_of {A M B : List Piece} {n : Piece} {x : Nat} {l : List UInt8} (hsep : (A ++ M ++ B).Pairwise (fun a b => a.fin < b.org)) (hne : ∀ d, d ∈ A ++ M ++ B → 0 < d.bs.length)
    (hA : ∀ d, d ∈ A → d.fin < x) (hB : ∀ d, d ∈ B → x + l.length < d.org) (hl : 0 < l.length)
    (hno : n.org ≤ x ∧ (n.org = x ∨ ∃ d, d ∈ M ∧ n.org = d.org)) (hnf : x + l.length ≤ n.fin ∧ (n.fin = x + l.length ∨ ∃ d, d ∈ M ∧ n.fin = d.fin))
    (hcov : ∀ d, d ∈ M → n.org ≤ d.org ∧ d.fin ≤ n.fin) (hin : ∀ p, n.org ≤ p → p < n.fin → (x ≤ p ∧ p < x + l.length) ∨ heldAt M p)
    (hbyte : ∀ p, n.org ≤ p → p < n.fin → n.bs.getD (p - n.org) 0 = if x ≤ p ∧ p < x + l.length then l.getD (p - x) 0 else byteAt M p)
    (hheld : n.bs.length + ovls x (x + l.length) M = heldOf M + l.length) : Laid (A ++ M ++ B) (A ++ [n] ++ B) x l := by
  have hs := hsep
  rw [List.pairwise_append, List.pairwise_append] at hs
  obtain ⟨⟨hAA, hMM, hAM⟩, hBB, hAMB⟩ := hs
  have hAn : ∀ a, a ∈ A → a.fin < n.org := by
    intro a ha
    rcases hno.2 with e | ⟨d, hd, e⟩
    · have := hA a ha; omega
    · have := hAM a ha d hd; omega
  have hnB : ∀ c, c ∈ B → n.fin < c.org := by
    intro c hc
    rcases hnf.2 with e | ⟨d, hd, e⟩
    · have := hB c hc; omega
    · have := hAMB d (by simp [hd]) c hc; omega
  have hsep' : (A ++ [n] ++ B).Pairwise (fun a b => a.fin < b.org) := by
    rw [List.pairwise_append, List.pairwise_append]
    refine ⟨⟨hAA, by simp, fun a ha m hm => ?_⟩, hBB, fun a ha c hc => ?_⟩
    · rw [List.mem_singleton.1 hm]; exact hAn a ha
    · rcases List.mem_append.1 ha with ha | ha
      · exact hAMB a (by simp [ha]) c hc
      · rw [List.mem_singleton.1 ha]; exact hnB c hc
  have hnn : n ∈ A ++ [n] ++ B := by simp
  have hhas : ∀ p, heldAt (A ++ [n] ++ B) p ↔ heldAt (A ++ M ++ B) p ∨ (x ≤ p ∧ p < x + l.length) := by
    intro p
    constructor
    · rintro ⟨d, hd, h1, h2⟩
      simp only [List.mem_append, List.mem_singleton] at hd
      rcases hd with (hd | rfl) | hd
      · exact .inl ⟨d, by simp [hd], h1, h2⟩
      · rcases hin p h1 h2 with h | ⟨e, he, h3⟩
        · exact .inr h
        · exact .inl ⟨e, by simp [he], h3⟩
      · exact .inl ⟨d, by simp [hd], h1, h2⟩
    · rintro (⟨d, hd, h1, h2⟩ | h)
      · simp only [List.mem_append] at hd
        rcases hd with (hd | hd) | hd
        · exact ⟨d, by simp [hd], h1, h2⟩
        · have := hcov d hd; exact ⟨n, hnn, by omega, by omega⟩
        · exact ⟨d, by simp [hd], h1, h2⟩
      · exact ⟨n, hnn, by omega, by omega⟩
  refine ⟨hsep', ?_, ?_, ?_, fun p => ?_, hhas, by simp only [List.length_append, List.length_singleton]; omega⟩
  · intro d hd
    simp only [List.mem_append, List.mem_singleton] at hd
    rcases hd with (hd | rfl) | hd
    · exact hne d (by simp [hd])
    · unfold Piece.fin at hnf; omega
    · exact hne d (by simp [hd])
  · intro d hd
    simp only [List.mem_append, List.mem_singleton] at hd
    rcases hd with (hd | rfl) | hd
    · exact .inr ⟨d, by simp [hd], Nat.le_refl _⟩
    · rcases hnf.2 with e | ⟨c, hc, e⟩
      · exact .inl (by omega)
      · exact .inr ⟨c, by simp [hc], by omega⟩
    · exact .inr ⟨d, by simp [hd], Nat.le_refl _⟩
  · rw [heldOf_append, heldOf_append, heldOf_append, heldOf_append, ovls_append, ovls_append, ovls_zero (L := A) (fun d hd => by have := hA d hd; unfold ovl; omega), ovls_zero (L := B) (fun d hd => by have := hB d hd; unfold ovl; omega)]
    have : heldOf [n] = n.bs.length := by simp [heldOf]
    omega
  · by_cases hp : n.org ≤ p ∧ p < n.fin
    · rw [byteAt_mem hsep' hnn hp.1 hp.2, hbyte p hp.1 hp.2]
      split
      · rfl
      · rename_i hx
        rw [List.append_assoc, byteAt_append_right (A := A) (fun d hd h => by have := hAn d hd; omega), byteAt_append_left (B := B) (fun d hd h => by have := hnB d hd; omega)]
    · rw [if_neg (by omega)]
      by_cases hh : heldAt (A ++ [n] ++ B) p
      · obtain ⟨d, hd, h1, h2⟩ := hh
        have hd' := hd
        simp only [List.mem_append, List.mem_singleton] at hd
        rcases hd with (hd | rfl) | hd
        · rw [byteAt_mem hsep' hd' h1 h2, byteAt_mem hsep (d := d) (by simp [hd]) h1 h2]
        · omega
        · rw [byteAt_mem hsep' hd' h1 h2, byteAt_mem hsep (d := d) (by simp [hd]) h1 h2]
      · rw [byteAt_of_not hh, byteAt_of_not (fun h => hh ((hhas p).2 (.inl h)))]

theorem held_touch {x y : Nat} (hxy : x < y) {M : List Piece} (h : ∀ d, d ∈ M → x ≤ d.fin ∧ d.org ≤ y) : heldOf M = ovls x y M + (M.map fun d => x - d.org).sum + (M.map fun d => d.fin - y).sum := by
  induction M with
  | nil => rfl
  | cons d M ih =>
    rw [heldOf_cons, ovls_cons, List.map_cons, List.map_cons, List.sum_cons, List.sum_cons, ih (fun e he => h e (by simp [he]))]
    have := h d (by simp)
    unfold ovl Piece.fin at *
    omega

theorem getD_app3 (a b c : List UInt8) (k : Nat) : (a ++ b ++ c).getD k 0 = if k < a.length then a.getD k 0 else if k < a.length + b.length then b.getD (k - a.length) 0 else c.getD (k - a.length - b.length) 0 := by
  simp only [List.getD_eq_getElem?_getD]
  rw [List.append_assoc, List.getElem?_append]
  split
  · rfl
  · rw [List.getElem?_append]
    split
    · rw [if_pos (by omega)]
    · rw [if_neg (by omega)]

/-- Where no stretch touches what is laid. -/
theorem laid_alone {sz : Nat} {L : List Piece} (h : Inv sz L) {x k : Nat} {l : List UInt8} (hl : 0 < l.length) (hi : L.findIdx (fun d => decide ((x : Int) ≤ d.fin)) = k) (hj : L.findIdx (fun d => decide ((x : Int) + (l.length : Int) < d.org)) = k) (g c : Nat) :
    Laid L (L.take k ++ [⟨x, g, c, l⟩] ++ L.drop k) x l := by
  have hA : ∀ d, d ∈ L.take k → d.fin < x := fun d hd => by
    obtain ⟨t, ht, rfl⟩ := List.getElem_of_mem hd
    rw [List.length_take] at ht
    obtain ⟨_, h1⟩ := findIdx_lt (q := fun d : Piece => decide ((x : Int) ≤ d.fin)) (L := L) (t := t) (by rw [hi]; omega)
    have := of_decide_eq_false h1
    rw [List.getElem_take]; omega
  have hB : ∀ d, d ∈ L.drop k → x + l.length < d.org := fun d hd => by
    obtain ⟨t, ht, rfl⟩ := List.getElem_of_mem hd
    rw [List.length_drop] at ht
    have h1 := findIdx_ge (q := fun d : Piece => decide ((x : Int) + (l.length : Int) < d.org)) (L := L) (fun i j hi hj hij hq => by
      have := (h.so i j hi hj hij).1
      have hq := of_decide_eq_true hq
      exact decide_eq_true (by omega)) (t := k + t) (by omega) (by rw [hj]; omega)
    have := of_decide_eq_true h1
    rw [List.getElem_drop]; omega
  have e : L = L.take k ++ [] ++ L.drop k := by simp
  have hsep := h.sep
  have hne := h.ne
  rw [e] at hsep hne
  have := laid_of (n := ⟨x, g, c, l⟩) (M := []) hsep hne hA hB hl ⟨Nat.le_refl _, .inl rfl⟩ ⟨Nat.le_refl _, .inl rfl⟩ (by simp) (fun p h1 h2 => .inl ⟨h1, h2⟩) (fun p h1 h2 => by rw [if_pos ⟨h1, h2⟩]) (by simp [ovls, heldOf])
  rw [← e] at this
  exact this

/-- Where it touches the stretches from the i-th up to the j-th. -/
theorem laid_touch {sz : Nat} {L : List Piece} (h : Inv sz L) {x i j : Nat} {l : List UInt8} (hl : 0 < l.length) (hi : L.findIdx (fun d => decide ((x : Int) ≤ d.fin)) = i) (hj : L.findIdx (fun d => decide ((x : Int) + (l.length : Int) < d.org)) = j) (hij : i < j) {f t : Piece} (hf : L[i]? = some f) (ht : L[j - 1]? = some t) (g c : Nat) :
    Laid L (L.take i ++ [⟨min f.org x, g, c, f.bs.take (x - f.org) ++ l ++ t.bs.drop (min (x + l.length) t.fin - t.org)⟩] ++ L.drop j) x l := by
  have hjl : j ≤ L.length := by rw [← hj]; exact List.findIdx_le_length
  have hA : ∀ d, d ∈ L.take i → d.fin < x := fun d hd => by
    obtain ⟨t, ht, rfl⟩ := List.getElem_of_mem hd
    rw [List.length_take] at ht
    obtain ⟨_, h1⟩ := findIdx_lt (q := fun d : Piece => decide ((x : Int) ≤ d.fin)) (L := L) (t := t) (by rw [hi]; omega)
    have := of_decide_eq_false h1
    rw [List.getElem_take]; omega
  have hB : ∀ d, d ∈ L.drop j → x + l.length < d.org := fun d hd => by
    obtain ⟨t, ht, rfl⟩ := List.getElem_of_mem hd
    rw [List.length_drop] at ht
    have h1 := findIdx_ge (q := fun d : Piece => decide ((x : Int) + (l.length : Int) < d.org)) (L := L) (fun i j hi hj hij hq => by
      have := (h.so i j hi hj hij).1
      have hq := of_decide_eq_true hq
      exact decide_eq_true (by omega)) (t := j + t) (by omega) (by rw [hj]; omega)
    have := of_decide_eq_true h1
    rw [List.getElem_drop]; omega
  have hM : ∀ d, d ∈ (L.take j).drop i → x ≤ d.fin ∧ d.org ≤ x + l.length := fun d hd => by
    obtain ⟨t, ht, rfl⟩ := List.getElem_of_mem hd
    rw [List.length_drop, List.length_take] at ht
    have h1 := findIdx_ge (q := fun d : Piece => decide ((x : Int) ≤ d.fin)) (L := L) (fun i j hi hj hij hq => by
      have := (h.so i j hi hj hij).2
      have hq := of_decide_eq_true hq
      exact decide_eq_true (by omega)) (t := i + t) (by omega) (by rw [hi]; omega)
    obtain ⟨_, h2⟩ := findIdx_lt (q := fun d : Piece => decide ((x : Int) + (l.length : Int) < d.org)) (L := L) (t := i + t) (by rw [hj]; omega)
    have h1 := of_decide_eq_true h1
    have h2 := of_decide_eq_false h2
    rw [List.getElem_drop, List.getElem_take]
    constructor
    · omega
    · omega
  have e : L = L.take i ++ (L.take j).drop i ++ L.drop j := by
    conv => lhs; rw [← List.take_append_drop j L]
    congr 1
    conv => lhs; rw [← List.take_append_drop i (L.take j)]
    rw [List.take_take, Nat.min_eq_left (by omega)]
  have hM1 : ∃ M1, (L.take j).drop i = f :: M1 := by
    obtain ⟨hl, rfl⟩ := List.getElem?_eq_some_iff.1 hf
    refine ⟨(L.take j).drop (i + 1), ?_⟩
    rw [List.drop_eq_getElem_cons (by rw [List.length_take]; omega), List.getElem_take]
  have hM2 : ∃ M2, (L.take j).drop i = M2 ++ [t] := by
    obtain ⟨hl, rfl⟩ := List.getElem?_eq_some_iff.1 ht
    refine ⟨(L.take (j - 1)).drop i, ?_⟩
    have e1 : L.take j = L.take (j - 1) ++ [L[j - 1]] := by
      have := List.take_append_getElem (l := L) (i := j - 1) hl
      rw [this]; congr 1; omega
    rw [e1, List.drop_append_of_le_length (by rw [List.length_take]; omega)]
  have hsep := h.sep
  have hne := h.ne
  rw [e] at hsep hne
  have key : Laid (L.take i ++ (L.take j).drop i ++ L.drop j) (L.take i ++ [⟨min f.org x, g, c, f.bs.take (x - f.org) ++ l ++ t.bs.drop (min (x + l.length) t.fin - t.org)⟩] ++ L.drop j) x l := by
    clear e
    generalize L.take i = A at *
    generalize L.drop j = B at *
    generalize (L.take j).drop i = M at *
    obtain ⟨M1, hM1⟩ := hM1
    obtain ⟨M2, hM2⟩ := hM2
    have hs := hsep
    rw [List.pairwise_append, List.pairwise_append] at hs
    have hsM := hs.1.2.1
    have hfM : f ∈ M := by rw [hM1]; simp
    have htM : t ∈ M := by rw [hM2]; simp
    have hf1 : ∀ d, d ∈ M1 → f.fin < d.org := by rw [hM1] at hsM; exact (List.pairwise_cons.1 hsM).1
    have ht1 : ∀ d, d ∈ M2 → d.fin < t.org := by
      rw [hM2, List.pairwise_append] at hsM
      exact fun d hd => hsM.2.2 d hd t (by simp)
    have hfx := hM f hfM
    have hty := hM t htM
    have hfle : ∀ d, d ∈ M → f.org ≤ d.org := by
      intro d hd
      rw [hM1] at hd
      rcases List.mem_cons.1 hd with rfl | hd
      · omega
      · have := hf1 d hd; unfold Piece.fin at this; omega
    have htle : ∀ d, d ∈ M → d.fin ≤ t.fin := by
      intro d hd
      rw [hM2] at hd
      rcases List.mem_append.1 hd with hd | hd
      · have := ht1 d hd; unfold Piece.fin at *; omega
      · rw [List.mem_singleton.1 hd]; omega
    have lpre : (f.bs.take (x - f.org)).length = x - f.org := by rw [List.length_take]; unfold Piece.fin at hfx; omega
    have lsuf : (t.bs.drop (min (x + l.length) t.fin - t.org)).length = t.fin - (x + l.length) := by rw [List.length_drop]; unfold Piece.fin at *; omega
    have lall : (f.bs.take (x - f.org) ++ l ++ t.bs.drop (min (x + l.length) t.fin - t.org)).length = (x - f.org) + l.length + (t.fin - (x + l.length)) := by rw [List.length_append, List.length_append, lpre, lsuf]
    have nfin : (⟨min f.org x, g, c, f.bs.take (x - f.org) ++ l ++ t.bs.drop (min (x + l.length) t.fin - t.org)⟩ : Piece).fin = max (x + l.length) t.fin := by
      show min f.org x + (f.bs.take (x - f.org) ++ l ++ t.bs.drop (min (x + l.length) t.fin - t.org)).length = _
      rw [lall]; omega
    refine laid_of hsep hne hA hB hl ⟨?_, ?_⟩ ⟨?_, ?_⟩ ?_ ?_ ?_ ?_
    · show min f.org x ≤ x; omega
    · rcases Nat.lt_or_ge f.org x with hlt | hge
      · exact .inr ⟨f, hfM, by show min f.org x = f.org; omega⟩
      · exact .inl (by show min f.org x = x; omega)
    · rw [nfin]; omega
    · rw [nfin]
      rcases Nat.lt_or_ge (x + l.length) t.fin with hlt | hge
      · exact .inr ⟨t, htM, by omega⟩
      · exact .inl (by omega)
    · intro d hd
      rw [nfin]
      have h1 := hfle d hd; have h2 := htle d hd
      refine ⟨?_, by omega⟩
      show min f.org x ≤ d.org; omega
    · intro p h1 h2
      rw [nfin] at h2
      replace h1 : min f.org x ≤ p := h1
      rcases Nat.lt_or_ge p x with hp | hp
      · exact .inr ⟨f, hfM, by omega, by omega⟩
      · rcases Nat.lt_or_ge p (x + l.length) with hq | hq
        · exact .inl ⟨hp, hq⟩
        · exact .inr ⟨t, htM, by omega, by omega⟩
    · intro p h1 h2
      rw [nfin] at h2
      replace h1 : min f.org x ≤ p := h1
      show (f.bs.take (x - f.org) ++ l ++ t.bs.drop (min (x + l.length) t.fin - t.org)).getD (p - min f.org x) 0 = _
      rw [getD_app3, lpre]
      rcases Nat.lt_or_ge p x with hp | hp
      · rw [if_pos (by omega), if_neg (by omega), byteAt_mem hsM hfM (by omega) (by omega), show p - min f.org x = p - f.org by omega]
        simp only [List.getD_eq_getElem?_getD]
        rw [List.getElem?_take, if_pos (by omega)]
      · rw [if_neg (by omega)]
        rcases Nat.lt_or_ge p (x + l.length) with hq | hq
        · rw [if_pos (by omega), if_pos ⟨hp, hq⟩]
          congr 1; omega
        · rw [if_neg (by omega), if_neg (by omega), byteAt_mem hsM htM (by omega) (by omega)]
          simp only [List.getD_eq_getElem?_getD]
          rw [List.getElem?_drop]
          congr 2; omega
    · show (f.bs.take (x - f.org) ++ l ++ t.bs.drop (min (x + l.length) t.fin - t.org)).length + _ = _
      rw [lall, held_touch (x := x) (y := x + l.length) (by omega) hM]
      have e1 : (M.map fun d => x - d.org).sum = x - f.org := by
        rw [hM1, List.map_cons, List.sum_cons, sum_zero _ (fun d hd => by have := hf1 d hd; omega)]; omega
      have e2 : (M.map fun d => d.fin - (x + l.length)).sum = t.fin - (x + l.length) := by
        rw [hM2, List.map_append, List.sum_append, sum_zero (L := M2) _ (fun d hd => by have := ht1 d hd; omega)]; simp
      rw [e1, e2]; omega
  rw [← e] at key
  exact key
end Go.Proofs.Ytkekaljcbmkomaa
