/- A book in memory: its cells, its map of grants; what a look, a store and a delete do there. -/
import Derived.Test.YtleenkdlnmoepaaMath
import Derived.Test.YtleenkdlnmoepaaMapLit
import Derived.Test.YtleenkdlnmoepaaFaceT
import Derived.Laws.OwnMore
import Derived.Deep.LoopGhost
import Derived.Deep.Draws
import Derived.Deep.RegionHeld3
namespace Go.Proofs.Ytleenkdlnmoepaa
open Go.RowKit Go.MapLit Go.ChangeMaps

theorem set_same {w : World} {b i : Nat} {cs : Array Value} {T : TypeId} {v : Value} (h : w.heap[b]? = some (.cells cs T (0, 0))) : (w.setCell ⟨b, i, none⟩ v).heap[b]? = some (.cells (cs.setIfInBounds i v) T (0, 0)) := heap_setCell_same w b i _ _ _ h
theorem set_far {w : World} {b i k : Nat} {v : Value} {o : Option Obj} (h : w.heap[k]? = o) (n : ¬ k = b) : (w.setCell ⟨b, i, none⟩ v).heap[k]? = o := (Below.heap_setCell _ _ _ _ n).trans h

def gval (g : Gr) : Value := .agg #[.int .u8 (g.r : Int), .int .i64 (g.of : Int)]
def Ents (es : Array MapEntry) (L : List Gr) : Prop := es.toList.map (fun e => (e.key, e.val)) = L.map (fun g => (Value.int .i64 (g.id : Int), gval g))
/-- Where a number is found, from a place on. -/
def fnd : List Gr → Int → Nat → Option (Nat × Value)
  | [], _, _ => none
  | g :: L, a, i => if a = (g.id : Int) then some (i, gval g) else fnd L a (i + 1)

theorem find_ents (a : Int) : ∀ (l : List MapEntry) (L : List Gr) (i : Nat), l.map (fun e => (e.key, e.val)) = L.map (fun g => (Value.int .i64 (g.id : Int), gval g)) → Instr.findNow (.int .i64) (.int .i64 a) l i = some (fnd L a i)
  | [], [], i, _ => rfl
  | [], _ :: _, i, h => by simp at h
  | _ :: _, [], i, h => by simp at h
  | e :: l, g :: L, i, h => by
    simp only [List.map_cons, List.cons.injEq, Prod.mk.injEq] at h
    obtain ⟨⟨h1, h2⟩, h3⟩ := h
    have ih := find_ents a l L (i + 1) h3
    by_cases hz : a = (g.id : Int)
    · subst hz
      simp [Instr.findNow, Instr.sameNow, h1, h2, fnd]
    · have hb : (a == (g.id : Int)) = false := by simpa using hz
      simp only [Instr.findNow, Instr.sameNow, h1, fnd, if_neg hz, ih, ↓reduceIte, hb]
theorem fnd_none {L : List Gr} {a : Int} (h : lk L a = none) (i : Nat) : fnd L a i = none := by
  induction L generalizing i with
  | nil => rfl
  | cons g L ih =>
    unfold lk at h
    unfold fnd
    split at h
    · simp at h
    · next hz => rw [if_neg hz]; exact ih h _
theorem fnd_some {L : List Gr} {a : Int} {g : Gr} (h : lk L a = some g) (i : Nat) : ∃ j, fnd L a i = some (i + j, gval g) ∧ ∀ (es : Array MapEntry), Ents es L → Ents (es.eraseIdxIfInBounds j) (del L a) := by
  induction L generalizing i with
  | nil => simp [lk] at h
  | cons x L ih =>
    unfold lk at h
    unfold fnd del
    split at h
    · next hz =>
      simp only [Option.some.injEq] at h
      subst h
      refine ⟨0, by rw [if_pos hz]; rfl, fun es hE => ?_⟩
      rw [if_pos hz]
      unfold Ents at hE ⊢
      have hs : 0 < es.size := by
        have := congrArg List.length hE
        simp at this; omega
      rw [Array.eraseIdxIfInBounds, dif_pos hs, Array.toList_eraseIdx]
      cases hl : es.toList with
      | nil => rw [hl] at hE; simp at hE
      | cons e l => rw [hl] at hE; simp only [List.map_cons, List.cons.injEq] at hE; simpa using hE.2
    · next hz =>
      obtain ⟨j, h1, h2⟩ := ih h (i + 1)
      refine ⟨j + 1, by rw [if_neg hz, h1]; simp; omega, fun es hE => ?_⟩
      rw [if_neg hz]
      unfold Ents at hE ⊢
      cases hl : es.toList with
      | nil => rw [hl] at hE; simp at hE
      | cons e l =>
        rw [hl] at hE
        simp only [List.map_cons, List.cons.injEq] at hE
        have h3 := h2 l.toArray (by unfold Ents; exact hE.2)
        unfold Ents at h3
        have e1 : es = (e :: l).toArray := by rw [← hl]
        subst e1
        by_cases hj : j < l.length
        · rw [Array.eraseIdxIfInBounds, dif_pos (by simpa using hj), Array.toList_eraseIdx] at h3 ⊢
          simp only [List.eraseIdx_cons_succ, List.map_cons]
          rw [h3, hE.1]
        · rw [Array.eraseIdxIfInBounds, dif_neg (by simpa using hj)] at h3 ⊢
          simp only [List.map_cons]
          rw [h3, hE.1]
theorem ents_push {es : Array MapEntry} {L : List Gr} (h : Ents es L) (g : Gr) (n : Nat) : Ents (es.push ⟨.int .i64 (g.id : Int), gval g, n⟩) (L ++ [g]) := by
  unfold Ents at *
  rw [Array.toList_push, List.map_append, h, List.map_append]
  rfl

theorem zero63 (w : World) : (zeroValue 63).run Try.prog w = .ok (.agg #[.int .u8 0, .int .i64 0]) w := by kernel_rfl

section
variable {w : World} {mb : Nat} {es : Array MapEntry} {clock : Nat} {L : List Gr} {a : Int}
theorem look_yes (hb : w.heap[mb]? = some (.map es clock)) (hE : Ents es L) (hw : (Lit.int .i64 a).wf = true) {g : Gr} (hl : lk L a = some g) (ok : Bool) :
    (Instr.lookup 65 (.map (some mb)) (.int .i64 a) ok).run Try.prog w = .ok (if ok then .tuple #[.agg #[.int .u8 (g.r : Int), .int .i64 (g.of : Int)], .bool true] else .agg #[.int .u8 (g.r : Int), .int .i64 (g.of : Int)]) w := by
  obtain ⟨j, h1, -⟩ := fnd_some hl 0
  have hf := find_ents a es.toList L 0 hE
  rw [h1] at hf
  simp [Instr.lookup, run_underlying Try.underlying65, MapKept.run_getObj_map hb, (Go.Maps.int_keyed Try.underlying3).check w _ (Go.Maps.keyOf_int_mk Try.underlying3 hw), find_int Try.underlying3 _ hf, Result.andThen, gval]
theorem look_no (hb : w.heap[mb]? = some (.map es clock)) (hE : Ents es L) (hw : (Lit.int .i64 a).wf = true) (hl : lk L a = none) (ok : Bool) :
    (Instr.lookup 65 (.map (some mb)) (.int .i64 a) ok).run Try.prog w = .ok (if ok then .tuple #[.agg #[.int .u8 0, .int .i64 0], .bool false] else .agg #[.int .u8 0, .int .i64 0]) w := by
  have hf := find_ents a es.toList L 0 hE
  rw [fnd_none hl 0] at hf
  simp [Instr.lookup, run_underlying Try.underlying65, MapKept.run_getObj_map hb, (Go.Maps.int_keyed Try.underlying3).check w _ (Go.Maps.keyOf_int_mk Try.underlying3 hw), find_int Try.underlying3 _ hf, Result.andThen]
theorem put_new (hb : w.heap[mb]? = some (.map es clock)) (hE : Ents es L) {g : Gr} (hw : (Lit.int .i64 (g.id : Int)).wf = true) (hl : lk L g.id = none) :
    ∃ es', (Instr.mapUpdate 65 (.map (some mb)) (.int .i64 (g.id : Int)) (.agg #[.int .u8 (g.r : Int), .int .i64 (g.of : Int)])).run Try.prog w = .ok () (setBlock w mb (.map es' (clock + 1))) ∧ Ents es' (L ++ [g]) := by
  have hf := find_ents (g.id : Int) es.toList L 0 hE
  rw [fnd_none hl 0] at hf
  exact ⟨_, store_new Try.underlying65 Try.underlying3 hb hw _ hf, ents_push hE g clock⟩
theorem take_out (hb : w.heap[mb]? = some (.map es clock)) (hE : Ents es L) (hw : (Lit.int .i64 a).wf = true) {g : Gr} (hl : lk L a = some g) :
    ∃ es', (∀ ty, (Builtin.delete_ #[65, 3] ty #[.map (some mb), .int .i64 a]).run Try.prog w = .ok (.tuple #[]) (setBlock w mb (.map es' clock))) ∧ Ents es' (del L a) := by
  obtain ⟨j, h1, h2⟩ := fnd_some hl 0
  have hf := find_ents a es.toList L 0 hE
  rw [h1, Nat.zero_add] at hf
  exact ⟨_, fun ty => delete_some Try.underlying65 Try.underlying3 hb hw hf, h2 es hE⟩
end

/-- A book: its block, its map's, how many grants were made, those that are there. -/
structure Bok where
  p : Nat
  mb : Nat
  made : Nat
  L : List Gr
structure Bk (w : World) (b : Bok) : Prop where
  blk : w.heap[b.p]? = some (.cells #[.map (some b.mb), .int .i64 (b.made : Int)] 67 (0, 0))
  map : ∃ es clock, w.heap[b.mb]? = some (.map es clock) ∧ Ents es b.L
  inv : BInv b.L b.made
def Bok.F (b : Bok) (k : Nat) : Prop := k = b.p ∨ k = b.mb
theorem Bk.lp {w : World} {b : Bok} (h : Bk w b) : b.p < w.heap.size := (Array.getElem?_eq_some_iff.1 h.blk).1
theorem Bk.lm {w : World} {b : Bok} (h : Bk w b) : b.mb < w.heap.size := by obtain ⟨es, c, h1, -⟩ := h.map; exact (Array.getElem?_eq_some_iff.1 h1).1
theorem Bk.flt {w : World} {b : Bok} (h : Bk w b) {k : Nat} (hk : b.F k) : k < w.heap.size := by
  rcases hk with rfl | rfl
  · exact h.lp
  · exact h.lm
theorem Bk.ne {w : World} {b : Bok} (h : Bk w b) : ¬ b.p = b.mb := fun e => by
  obtain ⟨es, c, h1, -⟩ := h.map
  have h2 := h.blk
  rw [e, h1] at h2
  simp at h2
theorem Bk.c0 {w : World} {b : Bok} (h : Bk w b) : w.cell? ⟨b.p, 0, none⟩ = some (.map (some b.mb)) := by rw [cell_of_row w b.p 0 _ _ _ h.blk]; rfl
theorem Bk.c1 {w : World} {b : Bok} (h : Bk w b) : w.cell? ⟨b.p, 1, none⟩ = some (.int .i64 (b.made : Int)) := by rw [cell_of_row w b.p 1 _ _ _ h.blk]; rfl
theorem Bk.f1 {w : World} {b : Bok} (h : Bk w b) (j : Nat) : w.frozen? ⟨b.p, j, none⟩ = false := frozen_of_row w b.p j _ _ h.blk
theorem Bk.upd {F : Nat → Prop} {w w' : World} {b : Bok} (h : Bk w b) (hu : Upd F w w') (hF : ∀ k, b.F k → ¬ F k) : Bk w' b := by
  obtain ⟨es, c, h1, h2⟩ := h.map
  exact ⟨(hu.block _ h.lp (hF _ (.inl rfl))).trans h.blk, ⟨es, c, (hu.block _ h.lm (hF _ (.inr rfl))).trans h1, h2⟩, h.inv⟩
theorem Bk.below {w w' : World} {b : Bok} (h : Bk w b) (hb : Below w.heap.size w w') : Bk w' b := h.upd (Upd.of_below (F := fun _ => False) hb) (fun _ _ h => h)
theorem Bk.yes {w : World} {b : Bok} (h : Bk w b) {a : Int} (hw : (Lit.int .i64 a).wf = true) {g : Gr} (hl : lk b.L a = some g) :
    (Instr.lookup 65 (.map (some b.mb)) (.int .i64 a) true).run Try.prog w = .ok (.tuple #[.agg #[.int .u8 (g.r : Int), .int .i64 (g.of : Int)], .bool true]) w ∧ (Instr.lookup 65 (.map (some b.mb)) (.int .i64 a) false).run Try.prog w = .ok (.agg #[.int .u8 (g.r : Int), .int .i64 (g.of : Int)]) w := by
  obtain ⟨es, c, h1, h2⟩ := h.map
  exact ⟨look_yes h1 h2 hw hl true, look_yes h1 h2 hw hl false⟩
theorem Bk.no {w : World} {b : Bok} (h : Bk w b) {a : Int} (hw : (Lit.int .i64 a).wf = true) (hl : lk b.L a = none) :
    (Instr.lookup 65 (.map (some b.mb)) (.int .i64 a) true).run Try.prog w = .ok (.tuple #[.agg #[.int .u8 0, .int .i64 0], .bool false]) w ∧ (Instr.lookup 65 (.map (some b.mb)) (.int .i64 a) false).run Try.prog w = .ok (.agg #[.int .u8 0, .int .i64 0]) w := by
  obtain ⟨es, c, h1, h2⟩ := h.map
  exact ⟨look_no h1 h2 hw hl true, look_no h1 h2 hw hl false⟩

/-- A call has made of a book another one, in its own blocks; the rest is new memory. -/
structure NxB (w w' : World) (b b' : Bok) : Prop where
  bk : Bk w' b'
  pp : b'.p = b.p
  mm : b'.mb = b.mb
  upd : Upd b.F w w'
theorem NxB.refl {w : World} {b : Bok} (h : Bk w b) : NxB w w b b := ⟨h, rfl, rfl, Upd.refl _ _⟩
theorem NxB.F {w w' : World} {b b' : Bok} (h : NxB w w' b b') (k : Nat) : b'.F k ↔ b.F k := by unfold Bok.F; rw [h.pp, h.mm]
theorem NxB.trans {w w1 w2 : World} {b b1 b2 : Bok} (h : NxB w w1 b b1) (k : NxB w1 w2 b1 b2) : NxB w w2 b b2 :=
  ⟨k.bk, k.pp.trans h.pp, k.mm.trans h.mm, h.upd.trans k.upd (fun j _ hj => (h.F j).1 hj)⟩
theorem NxB.of_below {w w1 : World} {b : Bok} (h : Bk w b) (hb : Below w.heap.size w w1) : NxB w w1 b b := ⟨h.below hb, rfl, rfl, Upd.of_below hb⟩
theorem NxB.after {w w1 w2 : World} {b b' : Bok} (h : Bk w b) (hb : Below w.heap.size w w1) (k : NxB w1 w2 b b') : NxB w w2 b b' := (NxB.of_below h hb).trans k
theorem NxB.then {w w1 w2 : World} {b b' : Bok} (k : NxB w w1 b b') (hb : Below w1.heap.size w1 w2) : NxB w w2 b b' := k.trans (NxB.of_below k.bk hb)
end Go.Proofs.Ytleenkdlnmoepaa
