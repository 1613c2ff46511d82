/- Two objects beside each other; strings of bytes; bytes of which nothing is held. -/
import Derived.Test.YtkekaljcbmkomaaMade
import Derived.Test.YtkekaljcbmkomaaTwin
import Derived.Test.YtkekaljcbmkomaaWakes
namespace Go.Proofs.Ytkekaljcbmkomaa
open Go.RowKit
attribute [local simp] lcells_nil readB_length bcells_length

/-- An object: its block, its size, its row, its stretches. -/
structure Ob where
  b : Nat
  sz : Nat
  lv : Value
  L : List Piece
def Ob.At (o : Ob) (w : World) : Prop := Rep w o.b o.sz o.lv o.L
def Ob.F (o : Ob) (k : Nat) : Prop := Foot o.b o.lv o.L k

theorem Rep.kept {w w' : World} {b sz : Nat} {lv : Value} {L : List Piece} {F : Nat → Prop} (h : Rep w b sz lv L) (hu : Upd F w w') (hF : ∀ k, Foot b lv L k → ¬ F k) : Rep w' b sz lv L := ⟨h.str.kept hu hF, h.inv⟩

structure Two (w0 w : World) (s t : Ob) : Prop where
  rs : s.At w
  rt : t.At w
  dis : ∀ k, s.F k → ¬ t.F k
  below : Below w0.heap.size w0 w
  fs : ∀ k, s.F k → w0.heap.size ≤ k
  ft : ∀ k, t.F k → w0.heap.size ≤ k
theorem Two.symm {w0 w : World} {s t : Ob} (h : Two w0 w s t) : Two w0 w t s := ⟨h.rt, h.rs, fun k h1 h2 => h.dis k h2 h1, h.below, h.ft, h.fs⟩
theorem Two.quiet {w0 w w' : World} {s t : Ob} (h : Two w0 w s t) (hb : Below w.heap.size w w') : Two w0 w' s t := ⟨h.rs.below hb, h.rt.below hb, h.dis, h.below.trans (hb.mono h.below.size), h.fs, h.ft⟩
theorem Two.left {w0 w w' : World} {s t : Ob} (h : Two w0 w s t) {sz' : Nat} {lv' : Value} {L' : List Piece} (hR : Rep w' s.b sz' lv' L') (hG : Grew s.b s.lv s.L w lv' L') (hu : Upd (Foot s.b s.lv s.L) w w') : Two w0 w' ⟨s.b, sz', lv', L'⟩ t := by
  refine ⟨hR, h.rt.kept hu (fun k hk hs => h.dis k hs hk), fun k hk ht => ?_, h.below.trans (hu.below h.below.size h.fs), fun k hk => ?_, h.ft⟩
  · rcases hG k hk with h1 | h1
    · exact h.dis k h1 ht
    · have := h.rt.str.lv_lt ht; omega
  · rcases hG k hk with h1 | h1
    · exact h.fs k h1
    · have := h.below.size; omega
theorem Two.right {w0 w w' : World} {s t : Ob} (h : Two w0 w s t) {sz' : Nat} {lv' : Value} {L' : List Piece} (hR : Rep w' t.b sz' lv' L') (hG : Grew t.b t.lv t.L w lv' L') (hu : Upd (Foot t.b t.lv t.L) w w') : Two w0 w' s ⟨t.b, sz', lv', L'⟩ := (h.symm.left hR hG hu).symm

theorem erased_all {sz : Nat} {L L' : List Piece} (h : Inv sz L) (hE : Erased L L' 0 sz) : L' = [] := by
  cases L' with
  | nil => rfl
  | cons d L' =>
    have hn := hE.ne d (by simp)
    obtain ⟨⟨e, he, h1, h2⟩, h3⟩ := (hE.has d.org).1 ⟨d, by simp, Nat.le_refl _, by unfold Piece.fin; omega⟩
    have := h.fin e he
    omega
theorem erased_nil {L' : List Piece} {x y : Nat} (hE : Erased [] L' x y) : L' = [] := by
  cases L' with
  | nil => rfl
  | cons d L' =>
    have hn := hE.ne d (by simp)
    obtain ⟨⟨e, he, -⟩, -⟩ := (hE.has d.org).1 ⟨d, by simp, Nat.le_refl _, by unfold Piece.fin; omega⟩
    simp at he

theorem str_all (w : World) (a : Option Addr) (l : List UInt8) (c : Nat) (h : BsAt w a l) : (convert 22 9 (.slice a l.length c)).run Try.prog w = .ok (.string ⟨l.toArray⟩) w := by
  by_cases hl : l = []
  · subst hl
    cases a with
    | none =>
      show (convert 22 9 (.slice none 0 c)).run Try.prog w = _
      rw [run_convert_bytes_string w 22 9 5 none 0 c Try.underlying22 Try.underlying5 Try.underlying9]
      rfl
    | some a => exact str_of_bytes w a [] 0 c rfl (fun j v hj => by simp [bcells] at hj)
  · obtain ⟨ad, rfl, hc⟩ := h hl
    exact str_of_bytes w ad l l.length c rfl hc
theorem NewB.bs {w : World} {B : Nat} {a : Option Addr} {l : List UInt8} (h : NewB w B a l) : BsAt w a l := fun hl => by
  rcases h with h | ⟨rfl, hh⟩
  · exact absurd h hl
  · exact ⟨_, rfl, cells_lit hh⟩
theorem NewB.below {w w' : World} {B : Nat} {a : Option Addr} {l : List UInt8} (h : NewB w B a l) (hb : Below w.heap.size w w') : NewB w' B a l := by
  rcases h with h | ⟨rfl, hh⟩
  · exact .inl h
  · exact .inr ⟨rfl, (hb.block _ (Array.getElem?_eq_some_iff.1 hh).1).trans hh⟩
/-- Noughts. -/
theorem get_empty (sz : Nat) (x n : Int) : ∃ m, getL [] sz x n = List.replicate m 0 ∧ m ≤ n.toNat := by
  unfold getL
  split
  · exact ⟨0, rfl, by omega⟩
  · exact ⟨_, readB_nil _ _, by omega⟩
end Go.Proofs.Ytkekaljcbmkomaa
