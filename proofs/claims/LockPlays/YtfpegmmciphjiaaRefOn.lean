/- The document's own table goes on. -/
import Derived.Test.YtfpegmmciphjiaaTabQ
namespace Go.Proofs.Ytfpegmmciphjiaa
open Go.RowKit

/-- Another row, none of the table's, is laid into a cell of the table. -/
theorem nx_setW {ty : TypeId} {w wr : World} {t tt : Tb} (h : NxQ ty w wr t tt) {v : Value} {W' : List Lk} (ho : Own wr v W') (hv : ∀ k, v.ownBlock = some k → w.heap.size ≤ k ∧ ¬ tt.F k) (hm : ∀ x ∈ W', may x = true) (hn : tt.H.length + W'.length ≤ 256) :
    Nx ty w (wr.setCell ⟨tt.p, 1, none⟩ v) t ⟨tt.p, tt.hv, v, tt.H, W'⟩ := by
  have hset : Upd (fun k => k = tt.p) wr (wr.setCell ⟨tt.p, 1, none⟩ v) := Upd.setCell (F := fun k => k = tt.p) (p := ⟨tt.p, 1, none⟩) rfl v
  have hb1 := h.tab.blk
  refine ⟨⟨?_, hset.row h.tab.oh (fun k hk e => h.tab.nh (e ▸ hk)), hset.row ho (fun k hk e => (hv k hk).2 (.inl e)), h.tab.nh, fun e => (hv _ e).2 (.inl rfl), fun k hk hk2 => (hv k hk2).2 (.inr (.inl hk)), h.tab.mh, hm, hn⟩, h.pp, ?_, fun k hk => ?_⟩
  · simp [World.setCell, Array.getElem?_modify, hb1]
  · exact h.upd.trans hset (fun j _ hj => .inl (hj.trans h.pp))
  · rcases hk with hk | hk | hk
    · exact h.grew k (.inl hk)
    · exact h.grew k (.inr (.inl hk))
    · exact .inr (hv k hk).1
theorem nx_setH {ty : TypeId} {w wr : World} {t tt : Tb} (h : Nx ty w wr t tt) {v : Value} {H' : List Lk} (ho : Own wr v H') (hv : ∀ k, v.ownBlock = some k → w.heap.size ≤ k ∧ ¬ tt.F k) (hm : ∀ x ∈ H', may x = true) (hn : H'.length + tt.W.length ≤ 256) :
    Nx ty w (wr.setCell ⟨tt.p, 0, none⟩ v) t ⟨tt.p, v, tt.wv, H', tt.W⟩ := by
  have hset : Upd (fun k => k = tt.p) wr (wr.setCell ⟨tt.p, 0, none⟩ v) := Upd.setCell (F := fun k => k = tt.p) (p := ⟨tt.p, 0, none⟩) rfl v
  have hb1 := h.tab.blk
  refine ⟨⟨?_, hset.row ho (fun k hk e => (hv k hk).2 (.inl e)), hset.row h.tab.ow (fun k hk e => h.tab.nw (e ▸ hk)), fun e => (hv _ e).2 (.inl rfl), h.tab.nw, fun k hk hk2 => (hv k hk).2 (.inr (.inr hk2)), hm, h.tab.mw, hn⟩, h.pp, ?_, fun k hk => ?_⟩
  · simp [World.setCell, Array.getElem?_modify, hb1]
  · exact h.upd.trans hset (fun j _ hj => .inl (hj.trans h.pp))
  · rcases hk with hk | hk | hk
    · exact h.grew k (.inl hk)
    · exact .inr (hv k hk).1
    · exact h.grew k (.inr (.inr hk))

/-- The state within on. -/
structure ROn (w wr : World) (t tt : Tb) (ov sv : Value) (k : Nat) (A U : List Lk) : Prop where
  nx : NxQ 43 w wr t tt
  ww : tt.W = t.W
  oA : Own wr sv A
  oU : Own wr ov U
  nA : ∀ j, sv.ownBlock = some j → w.heap.size ≤ j ∧ ¬ tt.F j ∧ ov.ownBlock ≠ some j
  nU : ∀ j, ov.ownBlock = some j → w.heap.size ≤ j ∧ ¬ tt.F j
  eq : onF tt.H A U (t.W.drop k) = onF t.H [] [] t.W
  am : ∀ x ∈ A, may x = true
  hl : tt.H.length + A.length + (t.W.length - k) ≤ 256
  ul : A.length + U.length ≤ k
theorem ROn.below {w wr wq : World} {t tt : Tb} {ov sv : Value} {k : Nat} {A U : List Lk} (h : ROn w wr t tt ov sv k A U) (hb : Below wr.heap.size wr wq) : ROn w wq t tt ov sv k A U := ⟨h.nx.then hb, h.ww, h.oA.below hb, h.oU.below hb, h.nA, h.nU, h.eq, h.am, h.hl, h.ul⟩
/-- One stays. -/
theorem ROn.stay {w wr V w4 : World} {t tt : Tb} {ov sv sv' : Value} {k : Nat} {A U : List Lk} {x : Lk} (h : ROn w wr t tt ov sv k A U) (hV : Below wr.heap.size wr V) (ho : Own w4 sv' (A ++ [x])) (hu : Upd (fun j => sv.ownBlock = some j) V w4) (hv : sv'.ownBlock = sv.ownBlock ∨ sv'.ownBlock = some V.heap.size ∧ Below V.heap.size V w4) (hx : t.W[k]? = some x) (hm : may x = true) (hh : (hit x tt.H || hit x A) = true) : ROn w w4 t tt ov sv' (k + 1) (A ++ [x]) U := by
  have hk := (List.getElem?_eq_some_iff.1 hx).1
  have hdr : t.W.drop k = x :: t.W.drop (k + 1) := by
    obtain ⟨hlt, rfl⟩ := List.getElem?_eq_some_iff.1 hx
    rw [List.getElem_cons_drop]
  have hV2 := h.below hV
  have htab : TabQ 43 w4 tt := hV2.nx.tab.kept hu (fun j hj hf => (h.nA j hf).2.1 hj)
  have hwV : w.heap.size ≤ V.heap.size := hV2.nx.upd.size
  refine ⟨⟨htab, h.nx.pp, ?_, h.nx.grew⟩, h.ww, ho, hu.own hV2.oU (fun j hj hf => (h.nA j hf).2.2 hj), fun j hj => ?_, h.nU, ?_, fun y hy => ?_, ?_, ?_⟩
  · exact hV2.nx.upd.trans hu (fun j hj hf => absurd hj (by have := (h.nA j hf).1; omega))
  · rcases hv with e | ⟨e, -⟩
    · rw [e] at hj; exact h.nA j hj
    · rw [e] at hj
      simp only [Option.some.injEq] at hj
      refine ⟨by omega, fun hf => by have := hV2.nx.tab.flt hf; omega, fun hf => by have := hV2.oU.lt hf; omega⟩
  · rw [← h.eq, hdr, onF_stay hh]
  · rcases List.mem_append.1 hy with hy | hy
    · exact h.am y hy
    · simp at hy; rw [hy]; exact hm
  · have := h.hl; simp; omega
  · have := h.ul; simp; omega
/-- One goes on. -/
theorem ROn.go {w wr W3 V w4 : World} {t tt t3 : Tb} {ov sv ov' : Value} {k : Nat} {A U : List Lk} {x : Lk} (h : ROn w wr t tt ov sv k A U) (hN : NxQ 43 wr W3 tt t3) (hH : t3.H = tt.H ++ [x]) (hW : t3.W = tt.W) (hV : Below W3.heap.size W3 V) (ho : Own w4 ov' (U ++ [x])) (hu : Upd (fun j => ov.ownBlock = some j) V w4) (hv : ov'.ownBlock = ov.ownBlock ∨ ov'.ownBlock = some V.heap.size ∧ Below V.heap.size V w4) (hx : t.W[k]? = some x) (hh : (hit x tt.H || hit x A) = false) : ROn w w4 t t3 ov' sv (k + 1) A (U ++ [x]) := by
  have hk := (List.getElem?_eq_some_iff.1 hx).1
  have hdr : t.W.drop k = x :: t.W.drop (k + 1) := by
    obtain ⟨hlt, rfl⟩ := List.getElem?_eq_some_iff.1 hx
    rw [List.getElem_cons_drop]
  have hnx := h.nx.trans hN
  have hd3 : ∀ j, j < wr.heap.size → ¬ tt.F j → ¬ t3.F j := fun j hj hn hf => (hN.grew j hf).elim hn (fun h9 => by omega)
  have hwW : w.heap.size ≤ W3.heap.size := hnx.upd.size
  have oA3 := (hN.upd.own h.oA (fun j hj => (h.nA j hj).2.1)).below hV
  have oU3 := (hN.upd.own h.oU (fun j hj => (h.nU j hj).2)).below hV
  have tabV := hN.tab.below hV
  have htab : TabQ 43 w4 t3 := tabV.kept hu (fun j hj hf => hd3 j (h.oU.lt hf) (h.nU j hf).2 hj)
  refine ⟨⟨htab, hnx.pp, ?_, hnx.grew⟩, by rw [hW]; exact h.ww, hu.own oA3 (fun j hj hf => (h.nA j hj).2.2 hf), ho, fun j hj => ⟨(h.nA j hj).1, hd3 j (h.oA.lt hj) (h.nA j hj).2.1, fun e => ?_⟩, fun j hj => ?_, ?_, h.am, ?_, ?_⟩
  · refine (hnx.upd.trans (Upd.of_below (F := fun _ => False) hV) (fun _ _ h => h.elim)).trans hu (fun j hj hf => absurd hj (by have := (h.nU j hf).1; omega))
  · rcases hv with e1 | ⟨e1, -⟩
    · rw [e1] at e; exact (h.nA j hj).2.2 e
    · rw [e1] at e; simp only [Option.some.injEq] at e; have := oA3.lt hj; omega
  · rcases hv with e1 | ⟨e1, -⟩
    · rw [e1] at hj; exact ⟨(h.nU j hj).1, hd3 j (h.oU.lt hj) (h.nU j hj).2⟩
    · rw [e1] at hj
      simp only [Option.some.injEq] at hj
      have h3 := hV.size
      exact ⟨by omega, fun hf => by have := tabV.flt hf; omega⟩
  · rw [← h.eq, hdr, onF_go hh, hH]
  · have := h.hl; rw [hH]; simp; omega
  · have := h.ul; simp; omega
end Go.Proofs.Ytfpegmmciphjiaa
