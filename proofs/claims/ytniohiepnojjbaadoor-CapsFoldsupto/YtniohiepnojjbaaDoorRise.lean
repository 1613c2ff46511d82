/- Who can more below never can less above: of the table, of Over, of Stack. -/
import Derived.Test.YtniohiepnojjbaaDoorRef
namespace Go.Proofs.YtniohiepnojjbaaDoor
open Go.RowKit

theorem lessN_iff (a b : Nat) : lessN a b = true ↔ ∀ j, a.testBit j = true → b.testBit j = true := by
  unfold lessN
  rw [beq_iff_eq]
  constructor
  · intro h j hj
    rw [← h, Nat.testBit_and] at hj
    simp at hj
    exact hj.2
  · intro h
    apply Nat.eq_of_testBit_eq
    intro j
    rw [Nat.testBit_and]
    cases ha : a.testBit j
    · rfl
    · rw [h j ha]; rfl

/-- One list of sets stands below another, place by place. -/
def Under (l h : List Nat) : Prop := l.length = h.length ∧ ∀ (i x y : Nat), l[i]? = some x → h[i]? = some y → lessN x y = true

theorem under_all {l h : List Nat} (hu : Under l h) (j : Nat) (hl : l.all (fun x => x &&& 2 ^ j != 0) = true) : h.all (fun x => x &&& 2 ^ j != 0) = true := by
  rw [List.all_eq_true] at hl ⊢
  intro y hy
  obtain ⟨i, hi, rfl⟩ := List.getElem_of_mem hy
  have hil : i < l.length := by rw [hu.1]; exact hi
  have h1 := hl l[i] (List.getElem_mem hil)
  have h2 := hu.2 i _ _ (List.getElem?_eq_getElem hil) (List.getElem?_eq_getElem hi)
  rw [and_pow] at h1 ⊢
  exact (lessN_iff _ _).1 h2 j h1

theorem under_shared {l h : List Nat} (hu : Under l h) (j : Nat) (hj : j < 4) : (sharedN l &&& 2 ^ j != 0) = true → (sharedN h &&& 2 ^ j != 0) = true := by
  rw [shared_bit l j hj, shared_bit h j hj]
  exact under_all hu j

theorem under_getD {l h : List Nat} (hu : Under l h) (i j : Nat) : (l.getD i 0 &&& 2 ^ j != 0) = true → (h.getD i 0 &&& 2 ^ j != 0) = true := by
  rw [and_pow, and_pow]
  by_cases hi : i < l.length
  · have hih : i < h.length := by rw [← hu.1]; exact hi
    have h2 := hu.2 i _ _ (List.getElem?_eq_getElem hi) (List.getElem?_eq_getElem hih)
    simp only [List.getD, List.getElem?_eq_getElem hi, List.getElem?_eq_getElem hih, Option.getD_some]
    exact (lessN_iff _ _).1 h2 j
  · simp [List.getD, List.getElem?_eq_none (by omega : l.length ≤ i)]

theorem or_rise : ∀ a1 a2 a3 a4 b1 b2 b3 b4 : Bool, (a1 = true → b1 = true) → (a2 = true → b2 = true) → (a3 = true → b3 = true) → (a4 = true → b4 = true) →
    lessN ((if a1 then 1 else 0) ||| (if a2 then 2 else 0) ||| (if a3 then 4 else 0) ||| (if a4 then 8 else 0)) ((if b1 then 1 else 0) ||| (if b2 then 2 else 0) ||| (if b3 then 4 else 0) ||| (if b4 then 8 else 0)) = true := by decide

/-- The table rises. -/
theorem table_rise (k : Nat) {l h : List Nat} (hu : Under l h) : lessN (tableN k l) (tableN k h) = true := by
  have s0 := under_shared hu 0 (by decide)
  have s1 := under_shared hu 1 (by decide)
  have s2 := under_shared hu 2 (by decide)
  have s3 := under_shared hu 3 (by decide)
  have g11 := under_getD hu 1 1
  have g01 := under_getD hu 0 1
  have g02 := under_getD hu 0 2
  simp only [Nat.reducePow] at s0 s1 s2 s3 g11 g01 g02
  have hj : jlog l = true → jlog h = true := by
    unfold jlog; rw [Bool.and_eq_true, Bool.and_eq_true]; exact fun ⟨p, q⟩ => ⟨s0 p, g11 q⟩
  apply or_rise
  · unfold cellW; split
    · exact id
    · split
      · exact hj
      · exact s0
  · unfold cellC; split
    · exact id
    · split
      · rw [Bool.and_eq_true, Bool.and_eq_true]; exact fun ⟨p, q⟩ => ⟨s0 p, s1 q⟩
      · split
        · rw [Bool.and_eq_true, Bool.and_eq_true]; exact fun ⟨p, q⟩ => ⟨hj p, g01 q⟩
        · exact s1
  · unfold cellH; split
    · exact id
    · split
      · exact g02
      · exact s2
  · unfold cellS; split
    · exact id
    · split
      · rw [Bool.or_eq_true, Bool.or_eq_true]; exact fun p => p.elim (fun p => .inl (s3 p)) (fun p => .inr (s0 p))
      · split
        · exact hj
        · exact s3

theorem over_rise (k : Int) {l h : List Nat} (hu : Under l h) (h1 : (overN k l).2 = 0) (h2 : (overN k h).2 = 0) : lessN (overN k l).1 (overN k h).1 = true := by
  unfold overN at *
  cases f1 : fitsN k l <;> cases f2 : fitsN k h <;> simp [f1, f2] at h1 h2 ⊢
  exact table_rise _ hu

theorem below_under (k a b : Nat) (h : lessN a b = true) : Under (belowN k a) (belowN k b) := by
  unfold belowN
  split
  · refine ⟨rfl, fun i x y hx hy => ?_⟩
    match i, hx, hy with
    | 0, hx, hy => simp at hx hy; subst hx; subst hy; exact h
    | i + 1, hx, hy => simp at hx
  · refine ⟨rfl, fun i x y hx hy => ?_⟩
    match i, hx, hy with
    | 0, hx, hy => simp at hx hy; subst hx; subst hy; exact h
    | 1, hx, hy => simp at hx hy; subst hx; subst hy; decide
    | i + 2, hx, hy => simp at hx

theorem go_rise (ks : List Int) : ∀ (a b y : Nat), lessN a b = true → stackGo ks b = some y → ∃ x, stackGo ks a = some x ∧ lessN x y = true := by
  induction ks with
  | nil => intro a b y h hy; simp only [stackGo, Option.some.injEq] at hy ⊢; subst hy; exact ⟨a, rfl, h⟩
  | cons k r ih =>
    intro a b y h hy
    unfold stackGo at hy ⊢
    split at hy
    · rename_i hk
      rw [if_pos hk]
      exact ih _ _ y (table_rise _ (below_under _ a b h)) hy
    · cases hy

theorem lessN_le {a b : Nat} (h : lessN a b = true) : a ≤ b := by
  unfold lessN at h; rw [beq_iff_eq] at h; rw [← h]; exact Nat.and_le_right

/-- Stack rises in the leaf. -/
theorem stack_rise (ks : List Int) (a b : Nat) (h : lessN a b = true) (hb : (stackN ks b).2 = 0) : (stackN ks a).2 = 0 ∧ lessN (stackN ks a).1 (stackN ks b).1 = true := by
  unfold stackN at *
  by_cases h32 : 32 < ks.length
  · rw [if_pos h32] at hb; simp at hb
  · rw [if_neg h32] at hb ⊢
    by_cases h15 : 15 < b
    · rw [if_pos h15] at hb; simp at hb
    · have := lessN_le h
      rw [if_neg h15] at hb ⊢
      rw [if_neg h32, if_neg (by omega)]
      cases hg : stackGo ks b with
      | none => rw [hg] at hb; simp at hb
      | some y =>
        obtain ⟨x, hx, hl⟩ := go_rise ks a b y h hg
        rw [hx]; exact ⟨rfl, hl⟩

theorem allN_mem {c x : Nat} (h : x ∈ allN c) : lessN x c = true ∧ x < 16 := by
  unfold allN at h
  split at h
  · cases h
  · unfold subsN at h
    rw [List.mem_filter] at h
    have := lessN_le h.2
    exact ⟨h.2, by omega⟩
theorem allN_len (c : Nat) : (allN c).length ≤ 16 := by
  unfold allN; split
  · simp
  · exact Nat.le_trans (subsN_len _ _) (by omega)
end Go.Proofs.YtniohiepnojjbaaDoor
