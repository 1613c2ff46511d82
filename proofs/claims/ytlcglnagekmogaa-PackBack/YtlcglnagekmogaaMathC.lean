/- Packing: full runs one by one; the search for the longest match; a match laid down in blocks. -/
import Derived.Test.YtlcglnagekmogaaMathB
namespace Go.Proofs.Ytlcglnagekmogaa

theorem runs_full {l : List UInt8} (h : 128 ≤ l.length) : runs l = UInt8.ofNat 127 :: l.take 128 ++ runs (l.drop 128) := by
  have hn : l ≠ [] := fun h0 => by rw [h0] at h; simp at h
  rw [runs_cons hn, show min 128 l.length - 1 = 127 by omega]
theorem runs_short {l : List UInt8} (hn : l ≠ []) (h : l.length ≤ 128) : runs l = UInt8.ofNat (l.length - 1) :: l := by
  rw [runs_cons hn, show min 128 l.length - 1 = l.length - 1 by omega, List.take_of_length_le h, List.drop_of_length_le h, runs_nil, List.append_nil]

/-- A run that is full is laid down ahead of what follows. -/
theorem pks_full (b : List UInt8) : ∀ (m f p : Nat), b.length - p = m → f + 128 ≤ p → p ≤ b.length → pks b f p = UInt8.ofNat 127 :: (b.drop f).take 128 ++ pks b (f + 128) p := by
  intro m
  induction m using Nat.strongRecOn with
  | _ m ih =>
    intro f p hm hf hp
    by_cases h : p < b.length
    · rw [pks_eq, if_pos h]
      conv => rhs; rw [pks_eq, if_pos h]
      by_cases h0 : (mtc b p).1 = 0
      · rw [if_pos h0, if_pos h0]
        exact ih (b.length - (p + 1)) (by omega) f (p + 1) rfl (by omega) (by omega)
      · rw [if_neg h0, if_neg h0]
        have e : runs ((b.drop f).take (p - f)) = UInt8.ofNat 127 :: (b.drop f).take 128 ++ runs ((b.drop (f + 128)).take (p - (f + 128))) := by
          rw [runs_full (by rw [List.length_take, List.length_drop]; omega), List.take_take, Nat.min_eq_left (by omega), List.drop_take, List.drop_drop]
          rw [show p - f - 128 = p - (f + 128) by omega]
        rw [e, List.append_assoc]
    · rw [pks_eq, if_neg h]
      conv => rhs; rw [pks_eq, if_neg h]
      rw [runs_full (by rw [List.length_drop]; omega), List.drop_drop]
theorem pks_on {b : List UInt8} {f p : Nat} (h : p < b.length) (h0 : (mtc b p).1 = 0) : pks b f p = pks b f (p + 1) := by
  rw [pks_eq, if_pos h, if_pos h0]
theorem pks_match {b : List UInt8} {f p : Nat} (h : p < b.length) (h0 : (mtc b p).1 ≠ 0) : pks b f p = runs ((b.drop f).take (p - f)) ++ (UInt8.ofNat ((mtc b p).1 + 125) :: UInt8.ofNat (mtc b p).2 :: pks b (p + (mtc b p).1) (p + (mtc b p).1)) := by
  rw [pks_eq, if_pos h, if_neg h0]
theorem pks_end {b : List UInt8} {f p : Nat} (h : ¬ p < b.length) : pks b f p = runs (b.drop f) := by
  rw [pks_eq, if_neg h]

/-- The search as it goes: how long the best is, 2 where there is none, and how far back. -/
def srch (b : List UInt8) (p most D : Nat) : Nat × Nat := if (best b p most D).1 = 0 then (2, 0) else best b p most D
theorem best_zero (b : List UInt8) (p most : Nat) : ∀ D, (best b p most D).1 = 0 → best b p most D = (0, 0)
  | 0, _ => rfl
  | D + 1, h => by
    unfold best at h ⊢
    split
    · rename_i h1; rw [if_pos h1] at h; exact absurd h (by have := h1.1; simp only; omega)
    · rename_i h1; rw [if_neg h1] at h; exact best_zero b p most D h
theorem srch_zero (b : List UInt8) (p most : Nat) : srch b p most 0 = (2, 0) := rfl
theorem srch_ge (b : List UInt8) (p most D : Nat) : 2 ≤ (srch b p most D).1 ∧ ((srch b p most D).1 ≤ most ∨ (srch b p most D).1 = 2) ∧ (srch b p most D).2 ≤ D := by
  unfold srch
  rcases best_ok b p most D with h | ⟨h1, h2, h3, h4, h5⟩
  · rw [if_pos h]; exact ⟨Nat.le_refl _, .inr rfl, Nat.zero_le _⟩
  · rw [if_neg (by omega)]; exact ⟨by omega, .inl h2, h4⟩
/-- One that is longer. -/
theorem srch_hit {b : List UInt8} {p most D : Nat} (h : (srch b p most D).1 < pre (same b p (D + 1)) most) : srch b p most (D + 1) = (pre (same b p (D + 1)) most, D + 1) := by
  have hb : best b p most (D + 1) = (pre (same b p (D + 1)) most, D + 1) := by
    unfold srch at h
    have h2 := (srch_ge b p most D).1
    conv => lhs; unfold best
    rw [if_pos]
    split at h
    · rename_i h0; exact ⟨by simp only at h; omega, by rw [h0]; simp only at h; omega⟩
    · rename_i h0
      rcases best_ok b p most D with h1 | ⟨h1, -⟩
      · exact absurd h1 h0
      · exact ⟨by omega, h⟩
  unfold srch
  rw [hb, if_neg]
  simp only
  omega
theorem srch_miss {b : List UInt8} {p most D : Nat} (h : ¬ (srch b p most D).1 < pre (same b p (D + 1)) most) : srch b p most (D + 1) = srch b p most D := by
  have hb : best b p most (D + 1) = best b p most D := by
    conv => lhs; unfold best
    rw [if_neg]
    rintro ⟨h1, h2⟩
    apply h
    unfold srch
    split
    · simp only; omega
    · exact h2
  unfold srch
  rw [hb]
/-- None is longer than all that is left. -/
theorem srch_most {b : List UInt8} {p most : Nat} : ∀ {D E : Nat}, D ≤ E → ¬ (srch b p most D).1 < most → srch b p most E = srch b p most D := by
  intro D E hE
  induction E with
  | zero => intro _; obtain rfl : D = 0 := by omega
            rfl
  | succ E ih =>
    intro h
    by_cases hD : D = E + 1
    · rw [hD]
    · have e := ih (by omega) h
      rw [srch_miss (by rw [e]; have := pre_le (same b p (E + 1)) most; omega), e]
theorem srch_mtc {b : List UInt8} {p : Nat} (h : (srch b p (min 130 (b.length - p)) (min 255 p)).2 = 0) : mtc b p = (0, 0) := by
  unfold srch at h
  unfold mtc
  split at h
  · rename_i h0; exact best_zero _ _ _ _ h0
  · rename_i h0
    rcases best_ok b p (min 130 (b.length - p)) (min 255 p) with h1 | ⟨-, -, h3, -⟩
    · exact absurd h1 h0
    · omega
theorem srch_mtc' {b : List UInt8} {p : Nat} (h : (srch b p (min 130 (b.length - p)) (min 255 p)).2 ≠ 0) : mtc b p = srch b p (min 130 (b.length - p)) (min 255 p) := by
  unfold srch at h ⊢
  unfold mtc
  split at h
  · exact absurd rfl h
  · rename_i h0; rw [if_neg h0]

/-- What a match leaves: what was told stays, each byte behind it is the one d places ahead of it. -/
theorem cpy_getD (d : Nat) : ∀ (k : Nat) (out : List UInt8), 1 ≤ d → d ≤ out.length → (∀ p, p < out.length → (cpy d k out).getD p 0 = out.getD p 0) ∧ (∀ p, out.length ≤ p → p < out.length + k → (cpy d k out).getD p 0 = (cpy d k out).getD (p - d) 0)
  | 0, out, _, _ => ⟨fun p _ => rfl, fun p h1 h2 => by omega⟩
  | k + 1, out, h1, h2 => by
    have ih := cpy_getD d k (out ++ [out.getD (out.length - d) 0]) h1 (by rw [List.length_append]; omega)
    rw [List.length_append, List.length_singleton] at ih
    have ea : ∀ p, p < out.length → (cpy d (k + 1) out).getD p 0 = out.getD p 0 := fun p hp => by
      rw [cpy, ih.1 p (by omega), List.getD_eq_getElem?_getD, List.getElem?_append_left hp, ← List.getD_eq_getElem?_getD]
    refine ⟨ea, fun p hp1 hp2 => ?_⟩
    by_cases hp : p = out.length
    · subst hp
      rw [ea (out.length - d) (by omega), cpy, ih.1 _ (by omega), List.getD_eq_getElem?_getD, List.getElem?_append_right (Nat.le_refl _), Nat.sub_self]
      rfl
    · rw [cpy]; exact ih.2 p (by omega) (by omega)
/-- All bytes from the one that the match begins with go round. -/
theorem cpy_round {d k : Nat} {out : List UInt8} (h1 : 1 ≤ d) (h2 : d ≤ out.length) : ∀ (q i : Nat), i + q * d < d + k → (cpy d k out).getD (out.length - d + i + q * d) 0 = (cpy d k out).getD (out.length - d + i) 0
  | 0, i, _ => by rw [Nat.zero_mul, Nat.add_zero]
  | q + 1, i, h => by
    have e : (q + 1) * d = q * d + d := by rw [Nat.add_mul, Nat.one_mul]
    rw [(cpy_getD d k out h1 h2).2 _ (by omega) (by omega), show out.length - d + i + (q + 1) * d - d = out.length - d + i + q * d by omega]
    exact cpy_round h1 h2 q i (by omega)
theorem cpy_add (d : Nat) : ∀ (j k : Nat) (out : List UInt8), cpy d (j + k) out = cpy d k (cpy d j out)
  | 0, k, out => by rw [Nat.zero_add]; rfl
  | j + 1, k, out => by rw [show j + 1 + k = (j + k) + 1 by omega, cpy, cpy, cpy_add d j k]
/-- A block of them at once. -/
theorem cpy_block {d j t : Nat} {out : List UInt8} (h1 : 1 ≤ d) (h2 : d ≤ out.length) (hj : ∃ q, j = q * d) (ht : t ≤ d + j) : cpy d (j + t) out = cpy d j out ++ ((cpy d j out).drop (out.length - d)).take t := by
  obtain ⟨q, rfl⟩ := hj
  have hl1 := cpy_length d (q * d + t) out
  have hl2 := cpy_length d (q * d) out
  have hg : ∀ p, p < out.length + q * d → (cpy d (q * d + t) out).getD p 0 = (cpy d (q * d) out).getD p 0 := fun p hp => by
    rw [cpy_add]
    exact (cpy_getD d t (cpy d (q * d) out) h1 (by omega)).1 p (by omega)
  have hgd : ∀ {l : List UInt8} {i : Nat} (h : i < l.length), l[i] = l.getD i 0 := fun {l i} h => by rw [List.getD_eq_getElem?_getD, List.getElem?_eq_getElem h]; rfl
  apply List.ext_getElem
  · rw [hl1, List.length_append, List.length_take, List.length_drop, hl2]; omega
  · intro i hi1 hi2
    rw [hl1] at hi1
    by_cases hi : i < out.length + q * d
    · rw [List.getElem_append_left (by omega), hgd, hgd, hg i hi]
    · rw [List.getElem_append_right (by omega), List.getElem_take, List.getElem_drop, hgd, hgd, hl2]
      have e := cpy_round (d := d) (k := q * d + t) h1 h2 (q + 1) (i - (out.length + q * d)) (by rw [Nat.add_mul, Nat.one_mul]; omega)
      rw [Nat.add_mul, Nat.one_mul] at e
      rw [show i = out.length - d + (i - (out.length + q * d)) + (q * d + d) by omega, e, hg _ (by omega)]
      congr 1
      omega
end Go.Proofs.Ytlcglnagekmogaa
