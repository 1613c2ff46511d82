/- Marks of who waits for whom. -/
import Derived.Test.YtfpegmmciphjiaaLMeet
namespace Go.Proofs.Ytfpegmmciphjiaa
open Go.RowKit

/-- Thirty-six marks in a block of their own. -/
def MkN (w : World) (lb : Nat) (f : Nat → Bool) : Prop := ∃ cur : Array Value, w.heap[lb]? = some (.cells cur 4 (0, 0)) ∧ cur.size = 36 ∧ ∀ i, i < 36 → cur[i]? = some (.bool (f i))
theorem MkN.cell {w : World} {lb : Nat} {f : Nat → Bool} (h : MkN w lb f) {i : Nat} (hi : i < 36) : w.cell? ⟨lb, i, none⟩ = some (.bool (f i)) := by
  obtain ⟨cur, h1, -, h3⟩ := h
  rw [cell_of_row w lb i _ _ _ h1]; exact h3 i hi
theorem MkN.fz {w : World} {lb : Nat} {f : Nat → Bool} (h : MkN w lb f) (i : Nat) : w.frozen? ⟨lb, i, none⟩ = false := by
  obtain ⟨cur, h1, -⟩ := h
  exact frozen_of_row w lb i _ _ h1
theorem MkN.below {w w' : World} {lb : Nat} {f : Nat → Bool} (h : MkN w lb f) (hb : Below w.heap.size w w') : MkN w' lb f := by
  obtain ⟨cur, h1, r⟩ := h
  exact ⟨cur, (hb.block lb (Array.getElem?_eq_some_iff.1 h1).1).trans h1, r⟩
theorem MkN.lt {w : World} {lb : Nat} {f : Nat → Bool} (h : MkN w lb f) : lb < w.heap.size := by
  obtain ⟨cur, h1, -⟩ := h
  exact (Array.getElem?_eq_some_iff.1 h1).1
theorem MkN.set {w : World} {lb : Nat} {f : Nat → Bool} (h : MkN w lb f) {i : Nat} (hi : i < 36) : MkN (w.setCell ⟨lb, i, none⟩ (.bool true)) lb (fun j => if j = i then true else f j) := by
  obtain ⟨cur, h1, h2, h3⟩ := h
  refine ⟨cur.setIfInBounds i (.bool true), by simp [World.setCell, Array.getElem?_modify, h1], by simp [h2], fun j hj => ?_⟩
  rw [Array.getElem?_setIfInBounds]
  show _ = some (Value.bool (if j = i then true else f j))
  by_cases hji : i = j
  · subst hji
    rw [if_pos rfl, if_pos (by omega), if_pos rfl]
  · rw [if_neg hji, if_neg (Ne.symm hji)]
    exact h3 j hj
theorem make36 (w : World) : (Instr.makeSlice 51 (.int .i64 36) (.int .i64 36)).run Try.prog w = .ok (.slice (some ⟨w.heap.size, 0, none⟩) 36 36) (w.alloc (.cells (Array.replicate 36 (.bool false)) 4)) := by kernel_rfl
theorem mkN_new (w : World) : MkN (w.alloc (.cells (Array.replicate 36 (.bool false)) 4)) w.heap.size (fun _ => false) :=
  ⟨_, heap_alloc_new w _, by simp, fun i hi => by simp [hi]⟩
/-- What the marks say is so. -/
def Snd (H W : List Lk) (f : Nat → Bool) : Prop := ∀ a b : Nat, a < 6 → b < 6 → f (a * 6 + b) = true → Relation.TransGen (E H W) (a : Int) (b : Int)
theorem Snd.set {H W : List Lk} {f : Nat → Bool} (h : Snd H W f) {x y : Nat} (_hx : x < 6) (hy : y < 6) (ht : Relation.TransGen (E H W) (x : Int) (y : Int)) : Snd H W (fun j => if j = x * 6 + y then true else f j) := fun a b ha hb hf => by
  simp only at hf
  split at hf
  · rename_i he
    obtain ⟨rfl, rfl⟩ : a = x ∧ b = y := by omega
    exact ht
  · exact h a b ha hb hf
end Go.Proofs.Ytfpegmmciphjiaa
