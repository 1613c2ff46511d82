/- Texts there and back, in plain terms. -/
import Derived.Test.YtniohiepnojjbabDoorParse
namespace Go.Proofs.YtniohiepnojjbabDoor
open Go.RowKit

theorem parse_text : ∀ a, a < 16 → parseL (textL a) = (a, none) := by decide

/-- A text out of its words. -/
def unspl : List UInt8 → List (List UInt8) → List UInt8
  | t, [] => t
  | t, u :: r => t ++ 32 :: unspl u r

theorem unspl_spl (l : List UInt8) : unspl (spl l).1 (spl l).2 = l := by
  induction l with
  | nil => rfl
  | cons b r ih =>
    rw [spl]
    split
    · rename_i hb
      subst hb
      simp only [unspl, List.nil_append]
      rw [ih]
    · simp only
      have : ∀ (t : List UInt8) (q : List (List UInt8)), unspl (b :: t) q = b :: unspl t q := by
        intro t q; cases q <;> rfl
      rw [this, ih]

abbrev lWrite : List UInt8 := [119, 114, 105, 116, 101]
abbrev lCut : List UInt8 := [99, 117, 116]
abbrev lHoles : List UInt8 := [104, 111, 108, 101, 115]
abbrev lSync : List UInt8 := [115, 121, 110, 99]

theorem bitW_cases (t : List UInt8) : bitW t = 0 ∨ (bitW t = 1 ∧ t = lWrite) ∨ (bitW t = 2 ∧ t = lCut) ∨ (bitW t = 4 ∧ t = lHoles) ∨ (bitW t = 8 ∧ t = lSync) := by
  have inj : ∀ l : List UInt8, (⟨t.toArray⟩ : ByteArray) = ⟨l.toArray⟩ → t = l := fun l h => by
    have := congrArg (fun b : ByteArray => b.data.toList) h
    simpa using this
  unfold bitW bitN
  split
  · rename_i h; exact .inr (.inl ⟨rfl, inj _ h⟩)
  · split
    · rename_i h; exact .inr (.inr (.inl ⟨rfl, inj _ h⟩))
    · split
      · rename_i h; exact .inr (.inr (.inr (.inl ⟨rfl, inj _ h⟩)))
      · split
        · rename_i h; exact .inr (.inr (.inr (.inr ⟨rfl, inj _ h⟩)))
        · exact .inl rfl

/-- Behind a closed text nothing is taken. -/
theorem closed_none (r : List (List UInt8)) (p can : Nat) (t : List UInt8) (hp : p ≠ 0) : (parseW r p can true t).2 ≠ none := by
  cases r <;> simp [parseW, hp]

/-- The words that may follow a set whose greatest bit is below 2 ^ k, and what they make. -/
theorem follow (r : List (List UInt8)) : ∀ (p can x : Nat) (t : List UInt8), p ≠ 0 → can < 16 → parseW r p can false t = (x, none) →
    can < bitW t ∧ (r = [] ∧ x = can ||| bitW t ∨ ∃ u q, r = u :: q ∧ parseW q (p + t.length + 1) (can ||| bitW t) false u = (x, none)) := by
  intro p can x t hp hc h
  cases r with
  | nil =>
    simp only [parseW, hp, false_and, if_false] at h
    split at h
    · rename_i hb; simp at h; exact ⟨hb.1, .inl ⟨rfl, h.symm⟩⟩
    · simp at h
  | cons u q =>
    simp only [parseW, hp, false_and, if_false] at h
    split at h
    · rename_i hb; exact ⟨hb.1, .inr ⟨u, q, rfl, h⟩⟩
    · simp at h

theorem first_word (r : List (List UInt8)) (x : Nat) (t : List UInt8) (hr : t ≠ lRead) (h : parseW r 0 0 false t = (x, none)) :
    0 < bitW t ∧ (r = [] ∧ x = 0 ||| bitW t ∨ ∃ u q, r = u :: q ∧ parseW q (0 + t.length + 1) (0 ||| bitW t) false u = (x, none)) := by
  cases r with
  | nil =>
    simp only [parseW, hr, and_false, if_false] at h
    split at h
    · rename_i hb; simp only [Prod.mk.injEq, and_true] at h; exact ⟨hb.1, .inl ⟨rfl, h.symm⟩⟩
    · simp at h
  | cons u q =>
    simp only [parseW, hr, and_false, if_false] at h
    split at h
    · rename_i hb; exact ⟨hb.1, .inr ⟨u, q, rfl, h⟩⟩
    · simp at h

set_option maxRecDepth 10000 in
theorem back_words (r : List (List UInt8)) (x : Nat) (t : List UInt8) (h : parseW r 0 0 false t = (x, none)) : x < 16 ∧ textL x = unspl t r := by
  by_cases hr : t = lRead
  · subst hr
    cases r with
    | nil => simp [parseW] at h; subst h; exact ⟨by decide, by decide⟩
    | cons u q =>
      have h2 : parseW q (0 + lRead.length + 1) 0 true u = (x, none) := by simpa [parseW] using h
      exact absurd (congrArg (·.2) h2) (closed_none q _ 0 u (by decide))
  · obtain ⟨g0, k0⟩ := first_word r x t hr h
    rcases bitW_cases t with b0 | ⟨b0, e0⟩ | ⟨b0, e0⟩ | ⟨b0, e0⟩ | ⟨b0, e0⟩
    · rw [b0] at g0; exact absurd g0 (by decide)
    · rw [b0] at k0
      rcases k0 with ⟨r0, x0⟩ | ⟨u0, q0, r0, h0⟩
      · subst e0; subst r0; replace x0 : x = 1 := x0; subst x0; exact ⟨by decide, by decide⟩
      · subst e0; subst r0
        obtain ⟨g1, k1⟩ := follow q0 _ 1 x u0 (by omega) (by decide) h0
        rcases bitW_cases u0 with b1 | ⟨b1, e1⟩ | ⟨b1, e1⟩ | ⟨b1, e1⟩ | ⟨b1, e1⟩
        · rw [b1] at g1; exact absurd g1 (by decide)
        · rw [b1] at g1; exact absurd g1 (by decide)
        · rw [b1] at k1
          rcases k1 with ⟨r1, x1⟩ | ⟨u1, q1, r1, h1⟩
          · subst e1; subst r1; replace x1 : x = 3 := x1; subst x1; exact ⟨by decide, by decide⟩
          · subst e1; subst r1
            obtain ⟨g2, k2⟩ := follow q1 _ 3 x u1 (by omega) (by decide) h1
            rcases bitW_cases u1 with b2 | ⟨b2, e2⟩ | ⟨b2, e2⟩ | ⟨b2, e2⟩ | ⟨b2, e2⟩
            · rw [b2] at g2; exact absurd g2 (by decide)
            · rw [b2] at g2; exact absurd g2 (by decide)
            · rw [b2] at g2; exact absurd g2 (by decide)
            · rw [b2] at k2
              rcases k2 with ⟨r2, x2⟩ | ⟨u2, q2, r2, h2⟩
              · subst e2; subst r2; replace x2 : x = 7 := x2; subst x2; exact ⟨by decide, by decide⟩
              · subst e2; subst r2
                obtain ⟨g3, k3⟩ := follow q2 _ 7 x u2 (by omega) (by decide) h2
                rcases bitW_cases u2 with b3 | ⟨b3, e3⟩ | ⟨b3, e3⟩ | ⟨b3, e3⟩ | ⟨b3, e3⟩
                · rw [b3] at g3; exact absurd g3 (by decide)
                · rw [b3] at g3; exact absurd g3 (by decide)
                · rw [b3] at g3; exact absurd g3 (by decide)
                · rw [b3] at g3; exact absurd g3 (by decide)
                · rw [b3] at k3
                  rcases k3 with ⟨r3, x3⟩ | ⟨u3, q3, r3, h3⟩
                  · subst e3; subst r3; replace x3 : x = 15 := x3; subst x3; exact ⟨by decide, by decide⟩
                  · subst e3; subst r3
                    obtain ⟨z3, -⟩ := follow q3 _ 15 x u3 (by omega) (by decide) h3
                    exact absurd z3 (by rcases bitW_cases u3 with b | ⟨b, -⟩ | ⟨b, -⟩ | ⟨b, -⟩ | ⟨b, -⟩ <;> rw [b] <;> decide)
            · rw [b2] at k2
              rcases k2 with ⟨r2, x2⟩ | ⟨u2, q2, r2, h2⟩
              · subst e2; subst r2; replace x2 : x = 11 := x2; subst x2; exact ⟨by decide, by decide⟩
              · subst e2; subst r2
                obtain ⟨z2, -⟩ := follow q2 _ 11 x u2 (by omega) (by decide) h2
                exact absurd z2 (by rcases bitW_cases u2 with b | ⟨b, -⟩ | ⟨b, -⟩ | ⟨b, -⟩ | ⟨b, -⟩ <;> rw [b] <;> decide)
        · rw [b1] at k1
          rcases k1 with ⟨r1, x1⟩ | ⟨u1, q1, r1, h1⟩
          · subst e1; subst r1; replace x1 : x = 5 := x1; subst x1; exact ⟨by decide, by decide⟩
          · subst e1; subst r1
            obtain ⟨g4, k4⟩ := follow q1 _ 5 x u1 (by omega) (by decide) h1
            rcases bitW_cases u1 with b4 | ⟨b4, e4⟩ | ⟨b4, e4⟩ | ⟨b4, e4⟩ | ⟨b4, e4⟩
            · rw [b4] at g4; exact absurd g4 (by decide)
            · rw [b4] at g4; exact absurd g4 (by decide)
            · rw [b4] at g4; exact absurd g4 (by decide)
            · rw [b4] at g4; exact absurd g4 (by decide)
            · rw [b4] at k4
              rcases k4 with ⟨r4, x4⟩ | ⟨u4, q4, r4, h4⟩
              · subst e4; subst r4; replace x4 : x = 13 := x4; subst x4; exact ⟨by decide, by decide⟩
              · subst e4; subst r4
                obtain ⟨z4, -⟩ := follow q4 _ 13 x u4 (by omega) (by decide) h4
                exact absurd z4 (by rcases bitW_cases u4 with b | ⟨b, -⟩ | ⟨b, -⟩ | ⟨b, -⟩ | ⟨b, -⟩ <;> rw [b] <;> decide)
        · rw [b1] at k1
          rcases k1 with ⟨r1, x1⟩ | ⟨u1, q1, r1, h1⟩
          · subst e1; subst r1; replace x1 : x = 9 := x1; subst x1; exact ⟨by decide, by decide⟩
          · subst e1; subst r1
            obtain ⟨z1, -⟩ := follow q1 _ 9 x u1 (by omega) (by decide) h1
            exact absurd z1 (by rcases bitW_cases u1 with b | ⟨b, -⟩ | ⟨b, -⟩ | ⟨b, -⟩ | ⟨b, -⟩ <;> rw [b] <;> decide)
    · rw [b0] at k0
      rcases k0 with ⟨r0, x0⟩ | ⟨u0, q0, r0, h0⟩
      · subst e0; subst r0; replace x0 : x = 2 := x0; subst x0; exact ⟨by decide, by decide⟩
      · subst e0; subst r0
        obtain ⟨g5, k5⟩ := follow q0 _ 2 x u0 (by omega) (by decide) h0
        rcases bitW_cases u0 with b5 | ⟨b5, e5⟩ | ⟨b5, e5⟩ | ⟨b5, e5⟩ | ⟨b5, e5⟩
        · rw [b5] at g5; exact absurd g5 (by decide)
        · rw [b5] at g5; exact absurd g5 (by decide)
        · rw [b5] at g5; exact absurd g5 (by decide)
        · rw [b5] at k5
          rcases k5 with ⟨r5, x5⟩ | ⟨u5, q5, r5, h5⟩
          · subst e5; subst r5; replace x5 : x = 6 := x5; subst x5; exact ⟨by decide, by decide⟩
          · subst e5; subst r5
            obtain ⟨g6, k6⟩ := follow q5 _ 6 x u5 (by omega) (by decide) h5
            rcases bitW_cases u5 with b6 | ⟨b6, e6⟩ | ⟨b6, e6⟩ | ⟨b6, e6⟩ | ⟨b6, e6⟩
            · rw [b6] at g6; exact absurd g6 (by decide)
            · rw [b6] at g6; exact absurd g6 (by decide)
            · rw [b6] at g6; exact absurd g6 (by decide)
            · rw [b6] at g6; exact absurd g6 (by decide)
            · rw [b6] at k6
              rcases k6 with ⟨r6, x6⟩ | ⟨u6, q6, r6, h6⟩
              · subst e6; subst r6; replace x6 : x = 14 := x6; subst x6; exact ⟨by decide, by decide⟩
              · subst e6; subst r6
                obtain ⟨z6, -⟩ := follow q6 _ 14 x u6 (by omega) (by decide) h6
                exact absurd z6 (by rcases bitW_cases u6 with b | ⟨b, -⟩ | ⟨b, -⟩ | ⟨b, -⟩ | ⟨b, -⟩ <;> rw [b] <;> decide)
        · rw [b5] at k5
          rcases k5 with ⟨r5, x5⟩ | ⟨u5, q5, r5, h5⟩
          · subst e5; subst r5; replace x5 : x = 10 := x5; subst x5; exact ⟨by decide, by decide⟩
          · subst e5; subst r5
            obtain ⟨z5, -⟩ := follow q5 _ 10 x u5 (by omega) (by decide) h5
            exact absurd z5 (by rcases bitW_cases u5 with b | ⟨b, -⟩ | ⟨b, -⟩ | ⟨b, -⟩ | ⟨b, -⟩ <;> rw [b] <;> decide)
    · rw [b0] at k0
      rcases k0 with ⟨r0, x0⟩ | ⟨u0, q0, r0, h0⟩
      · subst e0; subst r0; replace x0 : x = 4 := x0; subst x0; exact ⟨by decide, by decide⟩
      · subst e0; subst r0
        obtain ⟨g7, k7⟩ := follow q0 _ 4 x u0 (by omega) (by decide) h0
        rcases bitW_cases u0 with b7 | ⟨b7, e7⟩ | ⟨b7, e7⟩ | ⟨b7, e7⟩ | ⟨b7, e7⟩
        · rw [b7] at g7; exact absurd g7 (by decide)
        · rw [b7] at g7; exact absurd g7 (by decide)
        · rw [b7] at g7; exact absurd g7 (by decide)
        · rw [b7] at g7; exact absurd g7 (by decide)
        · rw [b7] at k7
          rcases k7 with ⟨r7, x7⟩ | ⟨u7, q7, r7, h7⟩
          · subst e7; subst r7; replace x7 : x = 12 := x7; subst x7; exact ⟨by decide, by decide⟩
          · subst e7; subst r7
            obtain ⟨z7, -⟩ := follow q7 _ 12 x u7 (by omega) (by decide) h7
            exact absurd z7 (by rcases bitW_cases u7 with b | ⟨b, -⟩ | ⟨b, -⟩ | ⟨b, -⟩ | ⟨b, -⟩ <;> rw [b] <;> decide)
    · rw [b0] at k0
      rcases k0 with ⟨r0, x0⟩ | ⟨u0, q0, r0, h0⟩
      · subst e0; subst r0; replace x0 : x = 8 := x0; subst x0; exact ⟨by decide, by decide⟩
      · subst e0; subst r0
        obtain ⟨z0, -⟩ := follow q0 _ 8 x u0 (by omega) (by decide) h0
        exact absurd z0 (by rcases bitW_cases u0 with b | ⟨b, -⟩ | ⟨b, -⟩ | ⟨b, -⟩ | ⟨b, -⟩ <;> rw [b] <;> decide)

/-- What Parse takes is the text of what it answers. -/
theorem parse_back (l : List UInt8) (x : Nat) (h : parseL l = (x, none)) : x < 16 ∧ textL x = l := by
  have := back_words (spl l).2 x (spl l).1 h
  rw [unspl_spl] at this
  exact this
end Go.Proofs.YtniohiepnojjbabDoor
