/- The bytes that are read: what stands at a place, and how a copy lays a stretch over what was read so far. -/
import Derived.Test.YtleenkdlnmoepaaWritten
import Derived.Laws.CopyOwn
namespace Go.Proofs.Ytleenkdlnmoepaa
open Go.RowKit
def byteAt : List Piece → Nat → UInt8
  | [], _ => 0
  | d :: L, p => if d.org ≤ p ∧ p < d.fin then d.bs.getD (p - d.org) 0 else byteAt L p
def readB (L : List Piece) (x m : Nat) : List UInt8 := (List.range m).map fun i => byteAt L (x + i)

theorem readB_length (L : List Piece) (x m : Nat) : (readB L x m).length = m := by simp [readB]
attribute [local simp] readB_length
theorem readB_nil (x m : Nat) : readB [] x m = List.replicate m 0 := by
  apply List.ext_getElem
  · simp
  · intro i h1 h2; simp [readB, byteAt]
theorem byteAt_none {A : List Piece} {p : Nat} (h : ∀ d, d ∈ A → ¬ (d.org ≤ p ∧ p < d.fin)) : byteAt A p = 0 := by
  induction A with
  | nil => rfl
  | cons d A ih => rw [byteAt, if_neg (h d (by simp)), ih (fun e he => h e (by simp [he]))]
theorem byteAt_append_left {A B : List Piece} {p : Nat} (h : ∀ d, d ∈ B → ¬ (d.org ≤ p ∧ p < d.fin)) : byteAt (A ++ B) p = byteAt A p := by
  induction A with
  | nil => simpa [byteAt] using byteAt_none h
  | cons d A ih => simp only [List.cons_append, byteAt, ih]
theorem byteAt_append_right {A B : List Piece} {p : Nat} (h : ∀ d, d ∈ A → ¬ (d.org ≤ p ∧ p < d.fin)) : byteAt (A ++ B) p = byteAt B p := by
  induction A with
  | nil => rfl
  | cons d A ih => rw [List.cons_append, byteAt, if_neg (h d (by simp)), ih (fun e he => h e (by simp [he]))]
theorem byteAt_snoc {A : List Piece} {d : Piece} {p : Nat} (h : ∀ e, e ∈ A → e.fin ≤ d.org) : byteAt (A ++ [d]) p = if d.org ≤ p ∧ p < d.fin then d.bs.getD (p - d.org) 0 else byteAt A p := by
  by_cases hc : d.org ≤ p ∧ p < d.fin
  · rw [if_pos hc, byteAt_append_right (fun e he => by have := h e he; omega), byteAt, if_pos hc]
  · rw [if_neg hc, byteAt_append_left (fun e he => by rw [List.mem_singleton.1 he]; exact hc)]

theorem bcells_splice (l : List UInt8) (o : Nat) (c : List UInt8) : splice (bcells l) o (bcells c) = bcells (splice l o c) := by simp [splice, bcells]
theorem bcells_length (l : List UInt8) : (bcells l).length = l.length := by simp [bcells]
attribute [local simp] bcells_length
theorem bcells_one (l : List UInt8) : ∀ v ∈ bcells l, v.oneCell' = true := by
  intro v hv
  obtain ⟨b, -, rfl⟩ := List.mem_map.1 hv
  rfl
theorem read_splice {A : List Piece} {d : Piece} {x m : Nat} (h : ∀ e, e ∈ A → e.fin ≤ d.org) (h1 : x < d.fin) (h2 : d.org < x + m ∨ m = 0 ∧ d.org ≤ x) :
    splice (readB A x m) (max x d.org - x) ((d.bs.drop (max x d.org - d.org)).take (m - (max x d.org - x))) = readB (A ++ [d]) x m := by
  have hl : ((d.bs.drop (max x d.org - d.org)).take (m - (max x d.org - x))).length = min (m - (max x d.org - x)) (d.bs.length - (max x d.org - d.org)) := by simp
  unfold Piece.fin at h1
  apply List.ext_getElem
  · rw [length_splice _ _ _ (by rw [hl, readB_length]; omega)]; simp
  · intro i hi1 hi2
    have him : i < m := by simpa using hi2
    have hR : (readB (A ++ [d]) x m)[i] = if d.org ≤ x + i ∧ x + i < d.fin then d.bs.getD (x + i - d.org) 0 else byteAt A (x + i) := by
      simp only [readB, List.getElem_map, List.getElem_range]; exact byteAt_snoc h
    rw [hR]
    unfold Piece.fin
    simp only [splice]
    by_cases c1 : i < max x d.org - x
    · rw [List.getElem_append_left (by simp; omega), List.getElem_take, if_neg (by omega)]
      simp [readB]
    · rw [List.getElem_append_right (by simp; omega)]
      have e0 : (List.take (max x d.org - x) (readB A x m)).length = max x d.org - x := by simp; omega
      by_cases c2 : i - (max x d.org - x) < min (m - (max x d.org - x)) (d.bs.length - (max x d.org - d.org))
      · rw [List.getElem_append_left (by rw [hl, e0]; exact c2), List.getElem_take, List.getElem_drop, if_pos (by omega)]
        rw [List.getD_eq_getElem?_getD, List.getElem?_eq_getElem (by omega)]
        simp only [Option.getD_some, e0]
        congr 1; omega
      · rw [List.getElem_append_right (by rw [hl, e0]; omega), if_neg (by omega)]
        have e1 : ∀ j (hj : j < (readB A x m).length), (readB A x m)[j] = byteAt A (x + j) := fun j hj => by simp [readB]
        rw [List.getElem_drop, e1]
        congr 1
        rw [hl, e0]
        omega

theorem setRow_same {W : World} {g : Nat} {cur : Array Value} {t : TypeId} {fr : Nat × Nat} (h : W.heap[g]? = some (.cells cur t fr)) : W.setRow g cur = W := by
  have hh : (W.setRow g cur).heap = W.heap := by
    apply Array.ext_getElem?
    intro k
    by_cases hk : k = g
    · subst hk; rw [setRow_heap W k cur cur t fr h, h]
    · exact setRow_other W g k cur hk
  have e : W.setRow g cur = { W with heap := (W.setRow g cur).heap } := rfl
  rw [e, hh]
theorem cell_setRow_far {W : World} {g : Nat} {cs : Array Value} {a : Addr} (h : a.block ≠ g) : (W.setRow g cs).cell? a = W.cell? a := World.cell?_of_block (setRow_other W g a.block cs h)

/-- copy(d, s) into a row that is known whole. -/
theorem run_copy_bytes (W : World) (ty : TypeId) (dp sp : Option Addr) (dLen dCap sLen sCap : Nat) (g off : Nat) (cur : List Value) (hg : W.heap[g]? = some (.cells cur.toArray 5 (0, 0))) (cs : List Value) (hn : cs.length = min sLen dLen)
    (hpos : 0 < cs.length → dp = some ⟨g, off, none⟩ ∧ ∃ ad, sp = some ad ∧ ∀ j v, cs[j]? = some v → W.cell? (ad.add j) = some v) (hfit : off + cs.length ≤ cur.length) (h1 : ∀ v ∈ cs, v.oneCell' = true) :
    (Builtin.copy_ #[41, 41] ty #[.slice dp dLen dCap, .slice sp sLen sCap]).run Try.prog W = .ok (goInt cs.length) (W.setRow g (splice cur off cs).toArray) := by
  have hsz : (Try.prog.info? 5).map (·.size) = some 1 := by kernel_rfl
  by_cases h0 : cs.length = 0
  · obtain rfl : cs = [] := List.eq_nil_of_length_eq_zero h0
    rw [run_copy_none (P := Try.prog) W 41 41 ty 5 dp sp dLen dCap sLen sCap Try.underlying41 hsz (by simpa [Nat.min_def] using hn.symm)]
    rw [show (splice cur off []).toArray = cur.toArray by simp [splice], setRow_same hg]
    rfl
  · obtain ⟨rfl, ad, rfl, hsrc⟩ := hpos (by omega)
    have := run_copy_row (P := Try.prog) W 41 41 ty 5 g off dLen dCap ad sLen sCap cur.toArray 5 cs Try.underlying41 hsz hg (by rw [hn]) hsrc (by simpa using hfit) h1
    rw [this]; simp [splice]
end Go.Proofs.Ytleenkdlnmoepaa
