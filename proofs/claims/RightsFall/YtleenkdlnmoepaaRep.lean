/- What it means that a pointer holds bytes with holes: the object's three cells, the row of stretches, the rows of their bytes, each in a block of its own. -/
import Derived.Test.YtleenkdlnmoepaaBase
namespace Go.Proofs.Ytleenkdlnmoepaa
open Go.RowKit

/-- A stretch as it lies in memory: where it begins, its block, its room, its bytes. -/
structure Piece where
  org : Nat
  blk : Nat
  cap : Nat
  bs : List UInt8

def Piece.dv (d : Piece) : Value := .slice (some ⟨d.blk, 0, none⟩) d.bs.length d.cap
def Piece.val (d : Piece) : Value := .agg #[.int .i64 d.org, d.dv]
def Piece.fin (d : Piece) : Nat := d.org + d.bs.length
def lcells (L : List Piece) : List Value := L.flatMap fun d => [.int .i64 d.org, d.dv]
def bcells (l : List UInt8) : List Value := l.map fun b => .int .u8 b.toNat
def heldOf (L : List Piece) : Nat := (L.map fun d => d.bs.length).sum

theorem lcells_nil : lcells [] = [] := rfl
attribute [local simp] lcells_nil
theorem lcells_cons (d : Piece) (L : List Piece) : lcells (d :: L) = .int .i64 d.org :: d.dv :: lcells L := rfl
theorem lcells_append (L M : List Piece) : lcells (L ++ M) = lcells L ++ lcells M := by simp [lcells, List.flatMap_append]
theorem lcells_length (L : List Piece) : (lcells L).length = L.length * 2 := by
  induction L with
  | nil => rfl
  | cons d L ih => rw [lcells_cons]; simp only [List.length_cons, ih]; omega
theorem lcells_at (L : List Piece) : ∀ i (h : i < L.length), (lcells L)[i * 2]? = some (.int .i64 L[i].org) ∧ (lcells L)[i * 2 + 1]? = some L[i].dv := by
  induction L with
  | nil => intro i h; simp at h
  | cons d L ih =>
    intro i h
    rw [lcells_cons]
    cases i with
    | zero => simp
    | succ i =>
      have := ih i (by simpa using h)
      rw [show (i + 1) * 2 = i * 2 + 1 + 1 by omega]
      simpa using this
theorem lcells_take (L : List Piece) : ∀ i, (lcells L).take (i * 2) = lcells (L.take i) := by
  induction L with
  | nil => intro i; simp
  | cons d L ih =>
    intro i
    cases i with
    | zero => simp
    | succ i => rw [lcells_cons, show (i + 1) * 2 = i * 2 + 1 + 1 by omega]; simp only [List.take_succ_cons, lcells_cons]; rw [ih i]
theorem lcells_drop (L : List Piece) : ∀ i, (lcells L).drop (i * 2) = lcells (L.drop i) := by
  induction L with
  | nil => intro i; simp
  | cons d L ih =>
    intro i
    cases i with
    | zero => simp
    | succ i => rw [lcells_cons, show (i + 1) * 2 = i * 2 + 1 + 1 by omega]; simp only [List.drop_succ_cons]; rw [ih i]

/-- The cells of the i-th stretch of a row. -/
theorem row_at {w : World} {lv : Value} {L : List Piece} (h : w.ownsRow 0 179 2 lv L.length (lcells L)) {i : Nat} (hi : i < L.length) :
    ∃ g cap, lv = .slice (some ⟨g, 0, none⟩) L.length cap ∧ w.cell? ⟨g, i * 2, none⟩ = some (.int .i64 L[i].org) ∧ w.cell? ⟨g, i * 2 + 1, none⟩ = some L[i].dv := by
  rcases h.2 with ⟨_, h0⟩ | ⟨g, cap, cur, rfl, _⟩
  · omega
  · refine ⟨g, cap, rfl, ?_, ?_⟩
    · rw [h.cellAt (i * 2) (by omega)]; exact (lcells_at L i hi).1
    · rw [h.cellAt (i * 2 + 1) (by omega)]; exact (lcells_at L i hi).2

theorem row_form {w : World} {e : TypeId} {s : Nat} {lv : Value} {n : Nat} {xs : List Value} (h : w.ownsRow 0 e s lv n xs) : ∃ a cap, lv = .slice a n cap ∧ n ≤ cap ∧ cap ≤ maxLen := by
  rcases h.2 with ⟨rfl, rfl⟩ | ⟨g, cap, cur, rfl, _, _, h1, h2, _⟩
  · exact ⟨none, 0, rfl, Nat.le_refl _, by decide⟩
  · exact ⟨_, cap, rfl, h1, h2⟩

/-- A row stays where nothing but new memory has come. -/
theorem row_below {w w' : World} {b : Nat} {e : TypeId} {s : Nat} {lv : Value} {n : Nat} {xs : List Value} (h : w.ownsRow b e s lv n xs) (hb : Below w.heap.size w w') : w'.ownsRow b e s lv n xs := by
  refine ⟨h.1, ?_⟩
  rcases h.2 with h2 | ⟨g, cap, cur, hv, hg, hh, r⟩
  · exact .inl h2
  · exact .inr ⟨g, cap, cur, hv, hg, (hb.block g (Array.getElem?_eq_some_iff.1 hh).1).trans hh, r⟩

theorem findIdx_of {α : Type} (q : α → Bool) (L : List α) (k : Nat) (hk : k ≤ L.length) (h1 : ∀ t (h : t < L.length), t < k → q L[t] = false) (h2 : ∀ t (h : t < L.length), k ≤ t → q L[t] = true) : L.findIdx q = k := by
  by_cases hlt : k < L.length
  · exact (List.findIdx_eq hlt).2 ⟨h2 k hlt (Nat.le_refl _), fun j hj => h1 j (by omega) hj⟩
  · have : k = L.length := by omega
    subst this
    refine List.findIdx_eq_length.2 fun x hx => ?_
    obtain ⟨t, ht, rfl⟩ := List.getElem_of_mem hx
    exact h1 t ht ht

end Go.Proofs.Ytleenkdlnmoepaa
