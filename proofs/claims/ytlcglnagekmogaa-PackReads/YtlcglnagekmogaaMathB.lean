/- Packing as the document tells it: there and back, and not many bytes more. -/
import Derived.Test.YtlcglnagekmogaaMathA
namespace Go.Proofs.Ytlcglnagekmogaa

/-- How many of the first m hold, one behind the other. -/
def pre (f : Nat → Bool) : Nat → Nat
  | 0 => 0
  | m + 1 => if pre f m = m ∧ f m = true then m + 1 else pre f m
theorem pre_le (f : Nat → Bool) : ∀ m, pre f m ≤ m
  | 0 => Nat.le_refl _
  | m + 1 => by
    have := pre_le f m
    unfold pre
    split <;> omega
theorem pre_all (f : Nat → Bool) : ∀ m i, i < pre f m → f i = true
  | 0, i, h => by simp [pre] at h
  | m + 1, i, h => by
    have ih := pre_all f m i
    unfold pre at h
    split at h
    · rename_i h1
      by_cases hi : i < m
      · exact ih (by omega)
      · obtain rfl : i = m := by omega
        exact h1.2
    · exact ih h
theorem pre_end (f : Nat → Bool) : ∀ m, pre f m < m → f (pre f m) = false
  | 0, h => by omega
  | m + 1, h => by
    have hle := pre_le f m
    unfold pre at h ⊢
    split at h
    · omega
    · rename_i h1
      rw [if_neg h1]
      by_cases hm : pre f m = m
      · rw [hm]
        cases hf : f m with
        | false => rfl
        | true => exact absurd ⟨hm, hf⟩ h1
      · exact pre_end f m (by omega)
/-- It is told by these two. -/
theorem pre_unique {f : Nat → Bool} {m k : Nat} (h1 : k ≤ m) (h2 : ∀ i, i < k → f i = true) (h3 : k < m → f k = false) : pre f m = k := by
  have a := pre_le f m
  rcases Nat.lt_trichotomy (pre f m) k with h | h | h
  · have := pre_end f m (by omega)
    rw [h2 _ h] at this
    cases this
  · exact h
  · have := pre_all f m k h
    rw [h3 (by omega)] at this
    cases this

/-- Does byte i of a match at p, d back, stand there? -/
def same (b : List UInt8) (p d i : Nat) : Bool := b.getD (p + i) 0 == b.getD (p + i - d) 0
/-- The longest match of up to D back, of several the nearest. -/
def best (b : List UInt8) (p most : Nat) : Nat → Nat × Nat
  | 0 => (0, 0)
  | D + 1 => if 3 ≤ pre (same b p (D + 1)) most ∧ (best b p most D).1 < pre (same b p (D + 1)) most then (pre (same b p (D + 1)) most, D + 1) else best b p most D
def mtc (b : List UInt8) (p : Nat) : Nat × Nat := best b p (min 130 (b.length - p)) (min 255 p)
theorem best_ok (b : List UInt8) (p most : Nat) : ∀ D, (best b p most D).1 = 0 ∨ (3 ≤ (best b p most D).1 ∧ (best b p most D).1 ≤ most ∧ 1 ≤ (best b p most D).2 ∧ (best b p most D).2 ≤ D ∧ ∀ i, i < (best b p most D).1 → same b p (best b p most D).2 i = true)
  | 0 => .inl rfl
  | D + 1 => by
    unfold best
    split
    · rename_i h
      exact .inr ⟨h.1, pre_le _ _, by simp, by simp, fun i hi => pre_all _ _ i hi⟩
    · rcases best_ok b p most D with h | ⟨h1, h2, h3, h4, h5⟩
      · exact .inl h
      · exact .inr ⟨h1, h2, h3, by omega, h5⟩
theorem mtc_ok (b : List UInt8) (p : Nat) : (mtc b p).1 = 0 ∨ (3 ≤ (mtc b p).1 ∧ (mtc b p).1 ≤ 130 ∧ p + (mtc b p).1 ≤ b.length ∧ 1 ≤ (mtc b p).2 ∧ (mtc b p).2 ≤ 255 ∧ (mtc b p).2 ≤ p ∧ ∀ i, i < (mtc b p).1 → same b p (mtc b p).2 i = true) := by
  unfold mtc
  rcases best_ok b p (min 130 (b.length - p)) (min 255 p) with h | ⟨h1, h2, h3, h4, h5⟩
  · exact .inl h
  · exact .inr ⟨h1, by omega, by omega, h3, by omega, by omega, h5⟩

/-- Bytes as runs of at most 128, so many of them at most. -/
def runsF : Nat → List UInt8 → List UInt8
  | 0, _ => []
  | k + 1, l => if l = [] then [] else UInt8.ofNat (min 128 l.length - 1) :: l.take 128 ++ runsF k (l.drop 128)
theorem runsF_fuel : ∀ (k k' : Nat) (l : List UInt8), l.length < k → l.length < k' → runsF k l = runsF k' l := by
  intro k
  induction k with
  | zero => intro k' l h1 _; omega
  | succ k ih =>
    intro k' l h1 h2
    cases k' with
    | zero => omega
    | succ k' =>
      show (if l = [] then [] else _) = (if l = [] then [] else _)
      by_cases hl : l = []
      · rw [if_pos hl, if_pos hl]
      · have := List.length_pos_iff.2 hl
        rw [if_neg hl, if_neg hl, ih k' (l.drop 128) (by rw [List.length_drop]; omega) (by rw [List.length_drop]; omega)]
/-- Bytes as runs of at most 128. -/
def runs (l : List UInt8) : List UInt8 := runsF (l.length + 1) l
theorem runs_nil : runs [] = [] := rfl
theorem runs_cons {l : List UInt8} (h : l ≠ []) : runs l = UInt8.ofNat (min 128 l.length - 1) :: l.take 128 ++ runs (l.drop 128) := by
  have := List.length_pos_iff.2 h
  show (if l = [] then [] else _) = _
  rw [if_neg h]
  unfold runs
  rw [runsF_fuel l.length ((l.drop 128).length + 1) _ (by rw [List.length_drop]; omega) (Nat.lt_succ_self _)]
theorem runs_length : ∀ (l : List UInt8), (runs l).length = l.length + (l.length + 127) / 128 := by
  intro l
  induction h : l.length using Nat.strongRecOn generalizing l with
  | _ m ih =>
    by_cases hl : l = []
    · subst hl
      rw [runs_nil]
      simp at h
      subst h
      rfl
    · have hp := List.length_pos_iff.2 hl
      rw [runs_cons hl]
      have := ih (l.drop 128).length (by rw [List.length_drop]; omega) (l.drop 128) rfl
      simp only [List.cons_append, List.length_cons, List.length_append, List.length_take, this, List.length_drop]
      omega

theorem unpk_runs {n : Nat} : ∀ (l : List UInt8) {out rest : List UInt8}, out.length + l.length ≤ n → unpk n out (runs l ++ rest) = unpk n (out ++ l) rest := by
  intro l
  induction h : l.length using Nat.strongRecOn generalizing l with
  | _ m ih =>
    intro out rest hn
    by_cases hl : l = []
    · subst hl
      rw [runs_nil, List.nil_append, List.append_nil]
    · have hp := List.length_pos_iff.2 hl
      have hc : (UInt8.ofNat (min 128 l.length - 1)).toNat = min 128 l.length - 1 := by
        rw [UInt8.toNat_ofNat']; omega
      rw [runs_cons hl, List.cons_append, List.cons_append, List.append_assoc, unpk_run _ _ _ _ (by rw [hc]; omega), hc]
      have e : min 128 l.length - 1 + 1 = (l.take 128).length := by rw [List.length_take]; omega
      rw [e, List.take_left, List.drop_left]
      have hlt : (l.take 128).length = min 128 l.length := List.length_take
      rw [if_neg (by simp only [List.length_append, hlt]; omega)]
      rw [ih (l.drop 128).length (by rw [List.length_drop]; omega) (l.drop 128) rfl (by simp only [List.length_append, List.length_drop, hlt]; omega), List.append_assoc, List.take_append_drop]

/-- The pieces from place p on, so many steps at most; the bytes from f to p came to a run. -/
def pksF (b : List UInt8) : Nat → Nat → Nat → List UInt8
  | 0, f, _ => runs (b.drop f)
  | k + 1, f, p =>
    if p < b.length then
      if (mtc b p).1 = 0 then pksF b k f (p + 1)
      else runs ((b.drop f).take (p - f)) ++ (UInt8.ofNat ((mtc b p).1 + 125) :: UInt8.ofNat (mtc b p).2 :: pksF b k (p + (mtc b p).1) (p + (mtc b p).1))
    else runs (b.drop f)
theorem pksF_fuel (b : List UInt8) : ∀ (k k' f p : Nat), b.length - p < k → b.length - p < k' → pksF b k f p = pksF b k' f p := by
  intro k
  induction k with
  | zero => intro k' f p h1 _; omega
  | succ k ih =>
    intro k' f p h1 h2
    cases k' with
    | zero => omega
    | succ k' =>
      show (if p < b.length then _ else _) = (if p < b.length then _ else _)
      by_cases h : p < b.length
      · rw [if_pos h, if_pos h]
        by_cases h0 : (mtc b p).1 = 0
        · rw [if_pos h0, if_pos h0, ih k' f (p + 1) (by omega) (by omega)]
        · rw [if_neg h0, if_neg h0, ih k' _ (p + (mtc b p).1) (by omega) (by omega)]
      · rw [if_neg h, if_neg h]
/-- The pieces from place p on; the bytes from f to p came to a run. -/
def pks (b : List UInt8) (f p : Nat) : List UInt8 := pksF b (b.length - p + 1) f p
theorem pks_eq (b : List UInt8) (f p : Nat) : pks b f p =
    if p < b.length then
      if (mtc b p).1 = 0 then pks b f (p + 1)
      else runs ((b.drop f).take (p - f)) ++ (UInt8.ofNat ((mtc b p).1 + 125) :: UInt8.ofNat (mtc b p).2 :: pks b (p + (mtc b p).1) (p + (mtc b p).1))
    else runs (b.drop f) := by
  show (if p < b.length then _ else _) = _
  by_cases h : p < b.length
  · rw [if_pos h, if_pos h]
    unfold pks
    by_cases h0 : (mtc b p).1 = 0
    · rw [if_pos h0, if_pos h0, pksF_fuel b (b.length - p) (b.length - (p + 1) + 1) f (p + 1) (by omega) (by omega)]
    · rw [if_neg h0, if_neg h0, pksF_fuel b (b.length - p) (b.length - (p + (mtc b p).1) + 1) _ (p + (mtc b p).1) (by omega) (by omega)]
  · rw [if_neg h, if_neg h]

theorem cpy_match (b : List UInt8) (d : Nat) (hd : 1 ≤ d) : ∀ (k p : Nat), d ≤ p → p + k ≤ b.length → (∀ i, i < k → same b p d i = true) → cpy d k (b.take p) = b.take (p + k)
  | 0, p, _, _, _ => rfl
  | k + 1, p, h1, h2, h3 => by
    have e0 := h3 0 (by omega)
    unfold same at e0
    rw [Nat.add_zero] at e0
    have e1 : b.getD p 0 = b.getD (p - d) 0 := by simpa using e0
    have hb : b[p]? = some (b.getD p 0) := by rw [List.getD_eq_getElem?_getD, List.getElem?_eq_getElem (by omega)]; rfl
    have hl : (b.take p).length = p := by rw [List.length_take]; omega
    have e2 : (b.take p).getD ((b.take p).length - d) 0 = b.getD p 0 := by
      rw [hl, e1, List.getD_eq_getElem?_getD, List.getD_eq_getElem?_getD, List.getElem?_take, if_pos (by omega)]
    have e3 : b.take p ++ [(b.take p).getD ((b.take p).length - d) 0] = b.take (p + 1) := by
      rw [e2, List.take_add_one, hb]; rfl
    rw [cpy, e3, cpy_match b d hd k (p + 1) (by omega) (by omega) (fun i hi => ?_)]
    · congr 1; omega
    · have := h3 (i + 1) (by omega)
      unfold same at this ⊢
      rw [show p + (i + 1) = p + 1 + i by omega] at this
      exact this

theorem unpk_pks (b : List UInt8) : ∀ (m f p : Nat), b.length - p = m → f ≤ p → p ≤ b.length → unpk b.length (b.take f) (pks b f p) = some b := by
  intro m
  induction m using Nat.strongRecOn with
  | _ m ih =>
    intro f p hm hf hp
    rw [pks_eq]
    by_cases h : p < b.length
    · rw [if_pos h]
      by_cases h0 : (mtc b p).1 = 0
      · rw [if_pos h0]
        exact ih (b.length - (p + 1)) (by omega) f (p + 1) rfl (by omega) (by omega)
      · rw [if_neg h0]
        rcases mtc_ok b p with h1 | ⟨h1, h2, h3, h4, h5, h6, h7⟩
        · exact absurd h1 h0
        · generalize (mtc b p).1 = k at *
          generalize (mtc b p).2 = d at *
          have hl : ((b.drop f).take (p - f)).length = p - f := by rw [List.length_take, List.length_drop]; omega
          have hf' : (b.take f).length = f := by rw [List.length_take]; omega
          rw [unpk_runs _ (by omega)]
          have e1 : b.take f ++ (b.drop f).take (p - f) = b.take p := by
            have := List.take_add (l := b) (i := f) (j := p - f)
            rw [show f + (p - f) = p by omega] at this
            exact this.symm
          have hp' : (b.take p).length = p := by rw [List.length_take]; omega
          have hc : (UInt8.ofNat (k + 125)).toNat = k + 125 := by rw [UInt8.toNat_ofNat']; omega
          have hd' : (UInt8.ofNat d).toNat = d := by rw [UInt8.toNat_ofNat']; omega
          rw [e1, unpk_mat _ _ _ _ _ (by rw [hc]; omega), hc, hd', hp', if_neg (by omega), show k + 125 - 125 = k by omega, cpy_match b d h4 k p h6 h3 h7]
          exact ih (b.length - (p + k)) (by omega) (p + k) (p + k) rfl (Nat.le_refl _) h3
    · rw [if_neg h]
      have hf' : (b.take f).length = f := by rw [List.length_take]; omega
      have := unpk_runs (n := b.length) (b.drop f) (out := b.take f) (rest := []) (by rw [List.length_drop]; omega)
      rw [List.append_nil, List.take_append_drop, unpk_nil, if_pos rfl] at this
      exact this

theorem pks_length (b : List UInt8) : ∀ (m f p : Nat), b.length - p = m → f ≤ p → p ≤ b.length → 128 * (pks b f p).length ≤ 129 * (b.length - f) + 127 := by
  intro m
  induction m using Nat.strongRecOn with
  | _ m ih =>
    intro f p hm hf hp
    rw [pks_eq]
    by_cases h : p < b.length
    · rw [if_pos h]
      by_cases h0 : (mtc b p).1 = 0
      · rw [if_pos h0]
        exact ih (b.length - (p + 1)) (by omega) f (p + 1) rfl (by omega) (by omega)
      · rw [if_neg h0]
        rcases mtc_ok b p with h1 | ⟨h1, h2, h3, h4, h5, h6, h7⟩
        · exact absurd h1 h0
        · have hl : ((b.drop f).take (p - f)).length = p - f := by rw [List.length_take, List.length_drop]; omega
          have := ih (b.length - (p + (mtc b p).1)) (by omega) (p + (mtc b p).1) (p + (mtc b p).1) rfl (Nat.le_refl _) h3
          simp only [List.length_append, List.length_cons, runs_length, hl]
          omega
    · rw [if_neg h, runs_length, List.length_drop]
      omega

/-- What Pack tells of bytes that are not too many. -/
def pck (b : List UInt8) : List UInt8 := [UInt8.ofNat (b.length / 16777216), UInt8.ofNat (b.length / 65536), UInt8.ofNat (b.length / 256), UInt8.ofNat b.length] ++ pks b 0 0
theorem hd_pck {b : List UInt8} (h : b.length ≤ 65536) : hd (pck b) = b.length := by
  unfold hd pck
  simp only [List.cons_append, List.nil_append, List.getD_cons_zero, List.getD_cons_succ, UInt8.toNat_ofNat']
  omega
/-- There and back. -/
theorem unp_pck {b : List UInt8} (h : b.length ≤ 65536) : unp (pck b) = .ok b := by
  unfold unp
  have hl : (pck b).length = 4 + (pks b 0 0).length := by unfold pck; simp; omega
  rw [if_neg (by omega), hd_pck h, if_neg (by omega)]
  have e : (pck b).drop 4 = pks b 0 0 := rfl
  have := unpk_pks b b.length 0 0 (by omega) (Nat.le_refl _) (Nat.zero_le _)
  rw [List.take_zero] at this
  rw [e, this]
theorem pck_length (b : List UInt8) : (pck b).length ≤ 4 + b.length + (b.length + 127) / 128 := by
  have := pks_length b b.length 0 0 (by omega) (Nat.le_refl _) (Nat.zero_le _)
  have hl : (pck b).length = 4 + (pks b 0 0).length := by unfold pck; simp; omega
  omega
end Go.Proofs.Ytlcglnagekmogaa
