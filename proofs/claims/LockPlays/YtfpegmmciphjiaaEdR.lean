/- The document's edges: two hundred and fifty-six rows of numbers in a block of their own. -/
import Derived.Test.YtfpegmmciphjiaaRefC
namespace Go.Proofs.Ytfpegmmciphjiaa
open Go.RowKit

/-- Rows G, their values in the block eb; their own blocks no elder than B, no two the same. -/
structure EdV (B : Nat) (w : World) (eb : Nat) (vs : Nat → Value) (G : Nat → List Int) : Prop where
  blk : ∃ cur : Array Value, w.heap[eb]? = some (.cells cur 60 (0, 0)) ∧ cur.size = 256 ∧ ∀ i, i < 256 → cur[i]? = some (vs i)
  own : ∀ i, i < 256 → OwnI w (vs i) (G i)
  low : ∀ i k, i < 256 → (vs i).ownBlock = some k → B ≤ k ∧ k ≠ eb
  dis : ∀ i j k, i < 256 → j < 256 → (vs i).ownBlock = some k → (vs j).ownBlock = some k → i = j
  elb : B ≤ eb
theorem EdV.lt {B : Nat} {w : World} {eb : Nat} {vs : Nat → Value} {G : Nat → List Int} (h : EdV B w eb vs G) : eb < w.heap.size := by
  obtain ⟨cur, h1, -⟩ := h.blk
  exact (Array.getElem?_eq_some_iff.1 h1).1
theorem EdV.cell {B : Nat} {w : World} {eb : Nat} {vs : Nat → Value} {G : Nat → List Int} (h : EdV B w eb vs G) {i : Nat} (hi : i < 256) : w.cell? ⟨eb, i, none⟩ = some (vs i) := by
  obtain ⟨cur, h1, -, h3⟩ := h.blk
  rw [cell_of_row w eb i _ _ _ h1]; exact h3 i hi
theorem EdV.fz {B : Nat} {w : World} {eb : Nat} {vs : Nat → Value} {G : Nat → List Int} (h : EdV B w eb vs G) (i : Nat) : w.frozen? ⟨eb, i, none⟩ = false := by
  obtain ⟨cur, h1, -⟩ := h.blk
  exact frozen_of_row w eb i _ _ h1
/-- What a call leaves that touches none of its blocks. -/
theorem EdV.upd {B : Nat} {F : Nat → Prop} {w w' : World} {eb : Nat} {vs : Nat → Value} {G : Nat → List Int} (h : EdV B w eb vs G) (hu : Upd F w w') (h1 : ¬ F eb) (h2 : ∀ i k, i < 256 → (vs i).ownBlock = some k → ¬ F k) : EdV B w' eb vs G := by
  refine ⟨?_, fun i hi => hu.row (h.own i hi) (fun k hk => h2 i k hi hk), h.low, h.dis, h.elb⟩
  obtain ⟨cur, g1, r⟩ := h.blk
  exact ⟨cur, (hu.block eb (Array.getElem?_eq_some_iff.1 g1).1 h1).trans g1, r⟩
theorem EdV.below {B : Nat} {w w' : World} {eb : Nat} {vs : Nat → Value} {G : Nat → List Int} (h : EdV B w eb vs G) (hb : Below w.heap.size w w') : EdV B w' eb vs G :=
  h.upd (Upd.of_below (F := fun _ => False) hb) (fun h => h) (fun _ _ _ _ h => h)
/-- One more edge: the row grown, its value stored. -/
theorem EdV.push {B : Nat} {w w' : World} {eb : Nat} {vs : Nat → Value} {G : Nat → List Int} (h : EdV B w eb vs G) {x : Nat} (hx : x < 256) {v' : Value} {y : Int} (ho : OwnI w' v' (G x ++ [y])) (hu : Upd (fun k => (vs x).ownBlock = some k) w w') (hB : B ≤ w.heap.size)
    (hv : v'.ownBlock = (vs x).ownBlock ∨ v'.ownBlock = some w.heap.size ∧ Below w.heap.size w w') :
    EdV B (w'.setCell ⟨eb, x, none⟩ v') eb (fun j => if j = x then v' else vs j) (fun j => if j = x then G x ++ [y] else G j) ∧ Upd (fun k => k = eb ∨ (vs x).ownBlock = some k) w (w'.setCell ⟨eb, x, none⟩ v') := by
  have hlt := h.lt
  have hne : ¬ (vs x).ownBlock = some eb := fun e => (h.low x eb hx e).2 rfl
  have hother : ∀ j, j < 256 → j ≠ x → ∀ k, (vs j).ownBlock = some k → ¬ (vs x).ownBlock = some k := fun j hj hjx k hk e => hjx (h.dis j x k hj hx hk e)
  have hn1 : ∀ k, v'.ownBlock = some k → B ≤ k ∧ k ≠ eb := fun k hk => by
    rcases hv with e | ⟨e, -⟩
    · exact h.low x k hx (by rw [← e]; exact hk)
    · rw [e] at hk; simp at hk; omega
  have hn2 : ∀ j, j < 256 → j ≠ x → ∀ k, (vs j).ownBlock = some k → ¬ v'.ownBlock = some k := fun j hj hjx k hk e2 => by
    rcases hv with e | ⟨e, -⟩
    · exact hother j hj hjx k hk (by rw [← e]; exact e2)
    · rw [e] at e2; simp at e2
      have := (h.own j hj).lt hk
      omega
  have hs : Upd (fun k => k = eb) w' (w'.setCell ⟨eb, x, none⟩ v') := Upd.setCell (F := fun k => k = eb) (p := ⟨eb, x, none⟩) rfl _
  refine ⟨⟨?_, fun i hi => ?_, fun i k hi hk => ?_, fun i j k hi hj hk hk2 => ?_, h.elb⟩, ?_⟩
  · obtain ⟨cur, g1, g2, g3⟩ := h.blk
    have g4 : w'.heap[eb]? = some (.cells cur 60 (0, 0)) := (hu.block eb hlt hne).trans g1
    refine ⟨cur.setIfInBounds x v', by simp [World.setCell, Array.getElem?_modify, g4], by simp [g2], fun j hj => ?_⟩
    rw [Array.getElem?_setIfInBounds]
    show _ = some (if j = x then v' else vs j)
    by_cases hjx : x = j
    · subst hjx
      rw [if_pos rfl, if_pos (by omega), if_pos rfl]
    · rw [if_neg hjx, if_neg (Ne.symm hjx)]
      exact g3 j hj
  · show OwnI _ (if i = x then v' else vs i) (if i = x then G x ++ [y] else G i)
    by_cases hix : i = x
    · rw [if_pos hix, if_pos hix]
      exact hs.row ho (fun k hk => (hn1 k hk).2)
    · rw [if_neg hix, if_neg hix]
      exact hs.row (hu.row (h.own i hi) (fun k hk => hother i hi hix k hk)) (fun k hk => (h.low i k hi hk).2)
  · have hk : (if i = x then v' else vs i).ownBlock = some k := hk
    by_cases hix : i = x
    · rw [if_pos hix] at hk; exact hn1 k hk
    · rw [if_neg hix] at hk; exact h.low i k hi hk
  · have hk : (if i = x then v' else vs i).ownBlock = some k := hk
    have hk2 : (if j = x then v' else vs j).ownBlock = some k := hk2
    by_cases hix : i = x
    · by_cases hjx : j = x
      · rw [hix, hjx]
      · rw [if_pos hix] at hk; rw [if_neg hjx] at hk2
        exact absurd hk (hn2 j hj hjx k hk2)
    · by_cases hjx : j = x
      · rw [if_neg hix] at hk; rw [if_pos hjx] at hk2
        exact absurd hk2 (hn2 i hi hix k hk)
      · rw [if_neg hix] at hk; rw [if_neg hjx] at hk2
        exact h.dis i j k hi hj hk hk2
  · exact (hu.mono (fun j _ hj => .inr hj)).trans hs (fun j _ hj => .inl hj)

/-- The edges' relation: those gone through, and no row too long. -/
structure EdG (Ed : Int → Int → Prop) (n : Nat) (G : Nat → List Int) : Prop where
  iff : ∀ a b, a < 256 → (b ∈ G a ↔ Ed (a : Int) b)
  len : ∀ a, a < 256 → (G a).length ≤ n
theorem EdG.mono {Ed Ed' : Int → Int → Prop} {n n' : Nat} {G : Nat → List Int} (h : EdG Ed n G) (he : ∀ a b, Ed a b ↔ Ed' a b) (hn : n ≤ n') : EdG Ed' n' G :=
  ⟨fun a b ha => (h.iff a b ha).trans (he _ _), fun a ha => Nat.le_trans (h.len a ha) hn⟩
theorem EdG.push {Ed Ed' : Int → Int → Prop} {n : Nat} {G : Nat → List Int} (h : EdG Ed n G) {x : Nat} {y : Int} (he : ∀ a b, Ed' a b ↔ Ed a b ∨ ((x : Int) = a ∧ y = b)) : EdG Ed' (n + 1) (fun j => if j = x then G x ++ [y] else G j) := by
  refine ⟨fun a b ha => ?_, fun a ha => ?_⟩
  · show b ∈ (if a = x then G x ++ [y] else G a) ↔ _
    rw [he, ← h.iff a b ha]
    by_cases hax : a = x
    · subst hax
      simp [eq_comm]
    · rw [if_neg hax]
      constructor
      · exact .inl
      · rintro (g | ⟨g, -⟩)
        · exact g
        · exact absurd (by omega) hax
  · show (if a = x then G x ++ [y] else G a).length ≤ _
    have := h.len a ha
    by_cases hax : a = x
    · subst hax; rw [if_pos rfl]; simp; omega
    · rw [if_neg hax]; omega

theorem make62 (w : World) : (Instr.makeSlice 62 (.int .i64 256) (.int .i64 256)).run Try.prog w = .ok (.slice (some ⟨w.heap.size, 0, none⟩) 256 256) (w.alloc (.cells (Array.replicate 256 (.slice none 0 0)) 60)) := by kernel_rfl
theorem edV_new (w : World) : EdV w.heap.size (w.alloc (.cells (Array.replicate 256 (.slice none 0 0)) 60)) w.heap.size (fun _ => .slice none 0 0) (fun _ => []) :=
  ⟨⟨_, heap_alloc_new w _, by simp, fun i hi => by simp [hi]⟩, fun i hi => ownI_none _, fun i k hi hk => by simp [Value.ownBlock] at hk, fun i j k hi hj hk => by simp [Value.ownBlock] at hk, Nat.le_refl _⟩
theorem make256 (w : World) : (Instr.makeSlice 51 (.int .i64 256) (.int .i64 256)).run Try.prog w = .ok (.slice (some ⟨w.heap.size, 0, none⟩) 256 256) (w.alloc (.cells (Array.replicate 256 (.bool false)) 4)) := by kernel_rfl

/-- Two hundred and fifty-six marks, those of K set. -/
def MkK (w : World) (lb : Nat) (K : List Int) : Prop := ∃ cur : Array Value, w.heap[lb]? = some (.cells cur 4 (0, 0)) ∧ cur.size = 256 ∧ ∀ i : Nat, i < 256 → cur[i]? = some (.bool (K.contains (i : Int)))
theorem MkK.cell {w : World} {lb : Nat} {K : List Int} (h : MkK w lb K) {i : Nat} (hi : i < 256) : w.cell? ⟨lb, i, none⟩ = some (.bool (K.contains (i : Int))) := by
  obtain ⟨cur, h1, -, h3⟩ := h
  rw [cell_of_row w lb i _ _ _ h1]; exact h3 i hi
theorem MkK.fz {w : World} {lb : Nat} {K : List Int} (h : MkK w lb K) (i : Nat) : w.frozen? ⟨lb, i, none⟩ = false := by
  obtain ⟨cur, h1, -⟩ := h
  exact frozen_of_row w lb i _ _ h1
theorem MkK.upd {F : Nat → Prop} {w w' : World} {lb : Nat} {K : List Int} (h : MkK w lb K) (hu : Upd F w w') (hn : ¬ F lb) : MkK w' lb K := by
  obtain ⟨cur, h1, r⟩ := h
  exact ⟨cur, (hu.block lb (Array.getElem?_eq_some_iff.1 h1).1 hn).trans h1, r⟩
theorem MkK.lt {w : World} {lb : Nat} {K : List Int} (h : MkK w lb K) : lb < w.heap.size := by
  obtain ⟨cur, h1, -⟩ := h
  exact (Array.getElem?_eq_some_iff.1 h1).1
theorem MkK.set {w : World} {lb : Nat} {K : List Int} (h : MkK w lb K) {i : Nat} (hi : i < 256) : MkK (w.setCell ⟨lb, i, none⟩ (.bool true)) lb (K ++ [(i : Int)]) := by
  obtain ⟨cur, h1, h2, h3⟩ := h
  refine ⟨cur.setIfInBounds i (.bool true), by simp [World.setCell, Array.getElem?_modify, h1], by simp [h2], fun j hj => ?_⟩
  rw [Array.getElem?_setIfInBounds]
  by_cases hji : i = j
  · subst hji
    rw [if_pos rfl, if_pos (by omega)]; simp
  · rw [if_neg hji, h3 j hj]
    congr 2
    rw [Bool.eq_iff_iff]; simp; omega
theorem mkK_new (w : World) : MkK (w.alloc (.cells (Array.replicate 256 (.bool false)) 4)) w.heap.size [] :=
  ⟨_, heap_alloc_new w _, by simp, fun i hi => by simp [hi]⟩
end Go.Proofs.Ytfpegmmciphjiaa
