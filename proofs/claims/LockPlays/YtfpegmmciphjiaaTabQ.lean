/- The table in memory, however many locks it has. -/
import Derived.Test.YtfpegmmciphjiaaRefLv
namespace Go.Proofs.Ytfpegmmciphjiaa
open Go.RowKit

structure TabQ (ty : TypeId) (w : World) (t : Tb) : Prop where
  blk : w.heap[t.p]? = some (.cells #[t.hv, t.wv] ty (0, 0))
  oh : Own w t.hv t.H
  ow : Own w t.wv t.W
  nh : t.hv.ownBlock ≠ some t.p
  nw : t.wv.ownBlock ≠ some t.p
  dis : ∀ k, t.hv.ownBlock = some k → t.wv.ownBlock ≠ some k
  mh : ∀ x ∈ t.H, may x = true
  mw : ∀ x ∈ t.W, may x = true
theorem TabQ.lt {ty : TypeId} {w : World} {t : Tb} (h : TabQ ty w t) : t.p < w.heap.size := (Array.getElem?_eq_some_iff.1 h.blk).1
theorem TabQ.c0 {ty : TypeId} {w : World} {t : Tb} (h : TabQ ty w t) : w.cell? ⟨t.p, 0, none⟩ = some t.hv := by rw [cell_of_row w t.p 0 _ _ _ h.blk]; rfl
theorem TabQ.c1 {ty : TypeId} {w : World} {t : Tb} (h : TabQ ty w t) : w.cell? ⟨t.p, 1, none⟩ = some t.wv := by rw [cell_of_row w t.p 1 _ _ _ h.blk]; rfl
theorem TabQ.f0 {ty : TypeId} {w : World} {t : Tb} (h : TabQ ty w t) (j : Nat) : w.frozen? ⟨t.p, j, none⟩ = false := frozen_of_row w t.p j _ _ h.blk
theorem TabQ.flt {ty : TypeId} {w : World} {t : Tb} (h : TabQ ty w t) {k : Nat} (hk : t.F k) : k < w.heap.size := by
  rcases hk with rfl | hk | hk
  · exact h.lt
  · exact h.oh.lt hk
  · exact h.ow.lt hk
theorem TabQ.kept {F : Nat → Prop} {ty : TypeId} {w w' : World} {t : Tb} (h : TabQ ty w t) (hu : Upd F w w') (hF : ∀ k, t.F k → ¬ F k) : TabQ ty w' t :=
  ⟨(hu.block t.p h.lt (hF _ (.inl rfl))).trans h.blk, hu.row h.oh (fun k hk => hF k (.inr (.inl hk))), hu.row h.ow (fun k hk => hF k (.inr (.inr hk))), h.nh, h.nw, h.dis, h.mh, h.mw⟩
theorem TabQ.below {ty : TypeId} {w w' : World} {t : Tb} (h : TabQ ty w t) (hb : Below w.heap.size w w') : TabQ ty w' t := h.kept (Upd.of_below (F := fun _ => False) hb) (fun _ _ h => h)

/-- A call has made of a table another one, in its own blocks and new ones. -/
structure NxQ (ty : TypeId) (w w' : World) (t t' : Tb) : Prop where
  tab : TabQ ty w' t'
  pp : t'.p = t.p
  upd : Upd t.F w w'
  grew : ∀ k, t'.F k → t.F k ∨ w.heap.size ≤ k
theorem NxQ.refl {ty : TypeId} {w : World} {t : Tb} (h : TabQ ty w t) : NxQ ty w w t t := ⟨h, rfl, Upd.refl _ _, fun _ h => .inl h⟩
theorem NxQ.trans {ty : TypeId} {w w1 w2 : World} {t t1 t2 : Tb} (h : NxQ ty w w1 t t1) (k : NxQ ty w1 w2 t1 t2) : NxQ ty w w2 t t2 :=
  ⟨k.tab, k.pp.trans h.pp, h.upd.trans k.upd (fun j hj hg => (h.grew j hg).elim id (fun h1 => absurd hj (by omega))), fun j hj => by
    rcases k.grew j hj with h1 | h1
    · exact h.grew j h1
    · right; have := h.upd.size; omega⟩
theorem NxQ.of_below {ty : TypeId} {w w1 : World} {t : Tb} (h : TabQ ty w t) (hb : Below w.heap.size w w1) : NxQ ty w w1 t t := ⟨h.below hb, rfl, Upd.of_below hb, fun _ h => .inl h⟩
theorem NxQ.after {ty : TypeId} {w w1 w2 : World} {t t' : Tb} (hb : Below w.heap.size w w1) (k : NxQ ty w1 w2 t t') : NxQ ty w w2 t t' :=
  ⟨k.tab, k.pp, (Upd.of_below hb).trans k.upd (fun _ _ h => h), fun j hj => by
    rcases k.grew j hj with h1 | h1
    · exact .inl h1
    · right; have := hb.size; omega⟩
theorem NxQ.then {ty : TypeId} {w w1 w2 : World} {t t' : Tb} (k : NxQ ty w w1 t t') (hb : Below w1.heap.size w1 w2) : NxQ ty w w2 t t' := k.trans (NxQ.of_below k.tab hb)

/-- The row of the held ones is turned (its new one in its own block or in a new one), and laid into its cell. -/
theorem nxq_held {ty : TypeId} {w w1 : World} {t : Tb} (h : TabQ ty w t) {v : Value} {H' : List Lk} (ho : Own w1 v H') (hu : Upd (fun k => t.hv.ownBlock = some k) w w1) (hv : ∀ k, v.ownBlock = some k → t.hv.ownBlock = some k ∨ w.heap.size ≤ k) (hm : ∀ x ∈ H', may x = true) :
    NxQ ty w (w1.setCell ⟨t.p, 0, none⟩ v) t ⟨t.p, v, t.wv, H', t.W⟩ := by
  have hb1 : w1.heap[t.p]? = some (.cells #[t.hv, t.wv] ty (0, 0)) := (hu.block t.p h.lt h.nh).trans h.blk
  have hvp : v.ownBlock ≠ some t.p := fun e => by
    rcases hv _ e with h1 | h1
    · exact h.nh h1
    · have := h.lt; omega
  have hwl : ∀ k, t.wv.ownBlock = some k → k < w.heap.size := fun k hk => h.ow.lt hk
  have hset : Upd (fun k => k = t.p) w1 (w1.setCell ⟨t.p, 0, none⟩ v) := Upd.setCell (F := fun k => k = t.p) (p := ⟨t.p, 0, none⟩) rfl v
  refine ⟨⟨?_, hset.row ho (fun k hk e => hvp (e ▸ hk)), hset.row (hu.row h.ow (fun k hk e => h.dis k e hk)) (fun k hk e => h.nw (e ▸ hk)), hvp, h.nw, fun k hk hk2 => ?_, hm, h.mw⟩, rfl, ?_, fun k hk => ?_⟩
  · simp [World.setCell, Array.getElem?_modify, hb1]
  · rcases hv k hk with h1 | h1
    · exact h.dis k h1 hk2
    · have := hwl k hk2; omega
  · exact (hu.mono (G := t.F) (fun j _ hj => .inr (.inl hj))).trans hset (fun j _ hj => .inl hj)
  · rcases hk with hk | hk | hk
    · exact .inl (.inl hk)
    · rcases hv k hk with h1 | h1
      · exact .inl (.inr (.inl h1))
      · exact .inr h1
    · exact .inl (.inr (.inr hk))
theorem nxq_waits {ty : TypeId} {w w1 : World} {t : Tb} (h : TabQ ty w t) {v : Value} {W' : List Lk} (ho : Own w1 v W') (hu : Upd (fun k => t.wv.ownBlock = some k) w w1) (hv : ∀ k, v.ownBlock = some k → t.wv.ownBlock = some k ∨ w.heap.size ≤ k) (hm : ∀ x ∈ W', may x = true) :
    NxQ ty w (w1.setCell ⟨t.p, 1, none⟩ v) t ⟨t.p, t.hv, v, t.H, W'⟩ := by
  have hb1 : w1.heap[t.p]? = some (.cells #[t.hv, t.wv] ty (0, 0)) := (hu.block t.p h.lt h.nw).trans h.blk
  have hvp : v.ownBlock ≠ some t.p := fun e => by
    rcases hv _ e with h1 | h1
    · exact h.nw h1
    · have := h.lt; omega
  have hwl : ∀ k, t.hv.ownBlock = some k → k < w.heap.size := fun k hk => h.oh.lt hk
  have hset : Upd (fun k => k = t.p) w1 (w1.setCell ⟨t.p, 1, none⟩ v) := Upd.setCell (F := fun k => k = t.p) (p := ⟨t.p, 1, none⟩) rfl v
  refine ⟨⟨?_, hset.row (hu.row h.oh (fun k hk e => h.dis k hk e)) (fun k hk e => h.nh (e ▸ hk)), hset.row ho (fun k hk e => hvp (e ▸ hk)), h.nh, hvp, fun k hk hk2 => ?_, h.mh, hm⟩, rfl, ?_, fun k hk => ?_⟩
  · simp [World.setCell, Array.getElem?_modify, hb1]
  · rcases hv k hk2 with h1 | h1
    · exact h.dis k hk h1
    · have := hwl k hk; omega
  · exact (hu.mono (G := t.F) (fun j _ hj => .inr (.inr hj))).trans hset (fun j _ hj => .inl hj)
  · rcases hk with hk | hk | hk
    · exact .inl (.inl hk)
    · exact .inl (.inr (.inl hk))
    · rcases hv k hk with h1 | h1
      · exact .inl (.inr (.inr h1))
      · exact .inr h1


theorem Tab.q {ty : TypeId} {w : World} {t : Tb} (h : Tab ty w t) : TabQ ty w t := ⟨h.blk, h.oh, h.ow, h.nh, h.nw, h.dis, h.mh, h.mw⟩
theorem TabQ.full {ty : TypeId} {w : World} {t : Tb} (h : TabQ ty w t) (hf : t.H.length + t.W.length ≤ 256) : Tab ty w t := ⟨h.blk, h.oh, h.ow, h.nh, h.nw, h.dis, h.mh, h.mw, hf⟩
theorem NxQ.full {ty : TypeId} {w w' : World} {t t' : Tb} (h : NxQ ty w w' t t') (hf : t'.H.length + t'.W.length ≤ 256) : Nx ty w w' t t' := ⟨h.tab.full hf, h.pp, h.upd, h.grew⟩
theorem pushedQ_held {ty : TypeId} {w V w' : World} {t : Tb} {v : Value} {l : Lk} (h : TabQ ty w t) (hV : Below w.heap.size w V) (ho : Own w' v (t.H ++ [l])) (hu : Upd (fun k => t.hv.ownBlock = some k) V w') (hv : v.ownBlock = t.hv.ownBlock ∨ v.ownBlock = some V.heap.size ∧ Below V.heap.size V w')
    (hm : may l = true) : NxQ ty w (w'.setCell ⟨t.p, 0, none⟩ v) t ⟨t.p, v, t.wv, t.H ++ [l], t.W⟩ := by
  refine NxQ.after hV (nxq_held (h.below hV) ho hu (fun k hk => ?_) (fun x hx => ?_))
  · rcases hv with h1 | ⟨h1, -⟩
    · exact .inl (h1 ▸ hk)
    · right; rw [h1] at hk; simp only [Option.some.injEq] at hk; omega
  · rcases List.mem_append.1 hx with hx | hx
    · exact h.mh x hx
    · simp at hx; subst hx; exact hm
end Go.Proofs.Ytfpegmmciphjiaa
