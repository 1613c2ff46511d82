/- The table in memory: its two rows; New, slices.Clone, Held, Waits. -/
import Derived.Test.YtfpegmmciphjiaaKeeps
namespace Go.Proofs.Ytfpegmmciphjiaa
open Go.RowKit

/-- A table: its block, its two rows, its locks. -/
structure Tb where
  p : Nat
  hv : Value
  wv : Value
  H : List Lk
  W : List Lk
/-- The blocks that it reaches. -/
def Tb.F (t : Tb) (k : Nat) : Prop := k = t.p ∨ t.hv.ownBlock = some k ∨ t.wv.ownBlock = some k
structure Tab (ty : TypeId) (w : World) (t : Tb) : Prop where
  blk : w.heap[t.p]? = some (.cells #[t.hv, t.wv] ty (0, 0))
  oh : Own w t.hv t.H
  ow : Own w t.wv t.W
  nh : t.hv.ownBlock ≠ some t.p
  nw : t.wv.ownBlock ≠ some t.p
  dis : ∀ k, t.hv.ownBlock = some k → t.wv.ownBlock ≠ some k
  mh : ∀ x ∈ t.H, may x = true
  mw : ∀ x ∈ t.W, may x = true
  few : t.H.length + t.W.length ≤ 256
theorem Tab.lt {ty : TypeId} {w : World} {t : Tb} (h : Tab ty w t) : t.p < w.heap.size := (Array.getElem?_eq_some_iff.1 h.blk).1
theorem Tab.c0 {ty : TypeId} {w : World} {t : Tb} (h : Tab ty w t) : w.cell? ⟨t.p, 0, none⟩ = some t.hv := by rw [cell_of_row w t.p 0 _ _ _ h.blk]; rfl
theorem Tab.c1 {ty : TypeId} {w : World} {t : Tb} (h : Tab ty w t) : w.cell? ⟨t.p, 1, none⟩ = some t.wv := by rw [cell_of_row w t.p 1 _ _ _ h.blk]; rfl
theorem Tab.f0 {ty : TypeId} {w : World} {t : Tb} (h : Tab ty w t) (j : Nat) : w.frozen? ⟨t.p, j, none⟩ = false := frozen_of_row w t.p j _ _ h.blk
theorem Tab.flt {ty : TypeId} {w : World} {t : Tb} (h : Tab ty w t) {k : Nat} (hk : t.F k) : k < w.heap.size := by
  rcases hk with rfl | hk | hk
  · exact h.lt
  · exact h.oh.lt hk
  · exact h.ow.lt hk
theorem Tab.kept {F : Nat → Prop} {ty : TypeId} {w w' : World} {t : Tb} (h : Tab ty w t) (hu : Upd F w w') (hF : ∀ k, t.F k → ¬ F k) : Tab ty w' t :=
  ⟨(hu.block t.p h.lt (hF _ (.inl rfl))).trans h.blk, hu.row h.oh (fun k hk => hF k (.inr (.inl hk))), hu.row h.ow (fun k hk => hF k (.inr (.inr hk))), h.nh, h.nw, h.dis, h.mh, h.mw, h.few⟩
theorem Tab.below {ty : TypeId} {w w' : World} {t : Tb} (h : Tab ty w t) (hb : Below w.heap.size w w') : Tab ty w' t := h.kept (Upd.of_below (F := fun _ => False) hb) (fun _ _ h => h)

/-- A call has made of a table another one, in its own blocks and new ones. -/
structure Nx (ty : TypeId) (w w' : World) (t t' : Tb) : Prop where
  tab : Tab ty w' t'
  pp : t'.p = t.p
  upd : Upd t.F w w'
  grew : ∀ k, t'.F k → t.F k ∨ w.heap.size ≤ k
theorem Nx.refl {ty : TypeId} {w : World} {t : Tb} (h : Tab ty w t) : Nx ty w w t t := ⟨h, rfl, Upd.refl _ _, fun _ h => .inl h⟩
theorem Nx.trans {ty : TypeId} {w w1 w2 : World} {t t1 t2 : Tb} (h : Nx ty w w1 t t1) (k : Nx ty w1 w2 t1 t2) : Nx ty w w2 t t2 :=
  ⟨k.tab, k.pp.trans h.pp, h.upd.trans k.upd (fun j hj hg => (h.grew j hg).elim id (fun h1 => absurd hj (by omega))), fun j hj => by
    rcases k.grew j hj with h1 | h1
    · exact h.grew j h1
    · right; have := h.upd.size; omega⟩
theorem Nx.of_below {ty : TypeId} {w w1 : World} {t : Tb} (h : Tab ty w t) (hb : Below w.heap.size w w1) : Nx ty w w1 t t := ⟨h.below hb, rfl, Upd.of_below hb, fun _ h => .inl h⟩
theorem Nx.after {ty : TypeId} {w w1 w2 : World} {t t' : Tb} (hb : Below w.heap.size w w1) (k : Nx ty w1 w2 t t') : Nx ty w w2 t t' :=
  ⟨k.tab, k.pp, (Upd.of_below hb).trans k.upd (fun _ _ h => h), fun j hj => by
    rcases k.grew j hj with h1 | h1
    · exact .inl h1
    · right; have := hb.size; omega⟩
theorem Nx.then {ty : TypeId} {w w1 w2 : World} {t t' : Tb} (k : Nx ty w w1 t t') (hb : Below w1.heap.size w1 w2) : Nx ty w w2 t t' := k.trans (Nx.of_below k.tab hb)

/-- The row of the held ones is turned (its new one in its own block or in a new one), and laid into its cell. -/
theorem nx_held {ty : TypeId} {w w1 : World} {t : Tb} (h : Tab ty w t) {v : Value} {H' : List Lk} (ho : Own w1 v H') (hu : Upd (fun k => t.hv.ownBlock = some k) w w1) (hv : ∀ k, v.ownBlock = some k → t.hv.ownBlock = some k ∨ w.heap.size ≤ k) (hm : ∀ x ∈ H', may x = true) (hn : H'.length + t.W.length ≤ 256) :
    Nx ty w (w1.setCell ⟨t.p, 0, none⟩ v) t ⟨t.p, v, t.wv, H', t.W⟩ := by
  have hb1 : w1.heap[t.p]? = some (.cells #[t.hv, t.wv] ty (0, 0)) := (hu.block t.p h.lt h.nh).trans h.blk
  have hvp : v.ownBlock ≠ some t.p := fun e => by
    rcases hv _ e with h1 | h1
    · exact h.nh h1
    · have := h.lt; omega
  have hwl : ∀ k, t.wv.ownBlock = some k → k < w.heap.size := fun k hk => h.ow.lt hk
  have hset : Upd (fun k => k = t.p) w1 (w1.setCell ⟨t.p, 0, none⟩ v) := Upd.setCell (F := fun k => k = t.p) (p := ⟨t.p, 0, none⟩) rfl v
  refine ⟨⟨?_, hset.row ho (fun k hk e => hvp (e ▸ hk)), hset.row (hu.row h.ow (fun k hk e => h.dis k e hk)) (fun k hk e => h.nw (e ▸ hk)), hvp, h.nw, fun k hk hk2 => ?_, hm, h.mw, hn⟩, rfl, ?_, fun k hk => ?_⟩
  · simp [World.setCell, Array.getElem?_modify, hb1]
  · rcases hv k hk with h1 | h1
    · exact h.dis k h1 hk2
    · have := hwl k hk2; omega
  · exact (hu.mono (G := t.F) (fun j _ hj => .inr (.inl hj))).trans hset (fun j _ hj => .inl hj)
  · rcases hk with hk | hk | hk
    · exact .inl (.inl hk)
    · rcases hv k hk with h1 | h1
      · exact .inl (.inr (.inl h1))
      · exact .inr h1
    · exact .inl (.inr (.inr hk))
theorem nx_waits {ty : TypeId} {w w1 : World} {t : Tb} (h : Tab ty w t) {v : Value} {W' : List Lk} (ho : Own w1 v W') (hu : Upd (fun k => t.wv.ownBlock = some k) w w1) (hv : ∀ k, v.ownBlock = some k → t.wv.ownBlock = some k ∨ w.heap.size ≤ k) (hm : ∀ x ∈ W', may x = true) (hn : t.H.length + W'.length ≤ 256) :
    Nx ty w (w1.setCell ⟨t.p, 1, none⟩ v) t ⟨t.p, t.hv, v, t.H, W'⟩ := by
  have hb1 : w1.heap[t.p]? = some (.cells #[t.hv, t.wv] ty (0, 0)) := (hu.block t.p h.lt h.nw).trans h.blk
  have hvp : v.ownBlock ≠ some t.p := fun e => by
    rcases hv _ e with h1 | h1
    · exact h.nw h1
    · have := h.lt; omega
  have hwl : ∀ k, t.hv.ownBlock = some k → k < w.heap.size := fun k hk => h.oh.lt hk
  have hset : Upd (fun k => k = t.p) w1 (w1.setCell ⟨t.p, 1, none⟩ v) := Upd.setCell (F := fun k => k = t.p) (p := ⟨t.p, 1, none⟩) rfl v
  refine ⟨⟨?_, hset.row (hu.row h.oh (fun k hk e => h.dis k hk e)) (fun k hk e => h.nh (e ▸ hk)), hset.row ho (fun k hk e => hvp (e ▸ hk)), h.nh, hvp, fun k hk hk2 => ?_, h.mh, hm, hn⟩, rfl, ?_, fun k hk => ?_⟩
  · simp [World.setCell, Array.getElem?_modify, hb1]
  · rcases hv k hk2 with h1 | h1
    · exact h.dis k hk h1
    · have := hwl k hk; omega
  · exact (hu.mono (G := t.F) (fun j _ hj => .inr (.inr hj))).trans hset (fun j _ hj => .inl hj)
  · rcases hk with hk | hk | hk
    · exact .inl (.inl hk)
    · exact .inl (.inr (.inl hk))
    · rcases hv k hk with h1 | h1
      · exact .inl (.inr (.inr h1))
      · exact .inr h1

theorem new_any (w : World) : Calls Try.prog 9 #[] w fun e w' => ∃ t : Tb, e = .returned (.pointer (some ⟨t.p, 0, none⟩)) ∧ Tab 55 w' t ∧ t.H = [] ∧ t.W = [] ∧ Below w.heap.size w w' ∧ ∀ k, t.F k → w.heap.size ≤ k := by
  go_enter Try.func9, Try.ntmps9
  go_wp2
  go_ret
  refine ⟨⟨w.heap.size, .slice none 0 0, .slice none 0 0, [], []⟩, rfl, ⟨?_, own_none _, own_none _, ?_, ?_, ?_, ?_, ?_, ?_⟩, rfl, rfl, below_al w _, fun k hk => ?_⟩
  · exact heap_alloc_new w _
  · simp [Value.ownBlock]
  · simp [Value.ownBlock]
  · simp [Value.ownBlock]
  · simp
  · simp
  · simp
  · rcases hk with rfl | hk | hk
    · exact Nat.le_refl _
    · simp [Value.ownBlock] at hk
    · simp [Value.ownBlock] at hk

set_option maxHeartbeats 400000 in
theorem clone_any (v : Value) (L : List Lk) (w : World) (h : Own w v L) (hn : L.length ≤ 1048576) :
    Calls Try.prog 40 #[v] w fun e w' => ∃ v', e = .returned v' ∧ Own w' v' L ∧ Below w.heap.size w w' ∧ ∀ k, v'.ownBlock = some k → w.heap.size ≤ k := by
  rcases h.2 with ⟨rfl, hz⟩ | ⟨g, cap, cur, rfl, -, hh, hnc, hcm, -⟩
  · obtain rfl : L = [] := List.length_eq_zero_iff.1 hz
    have hnil : ∀ w, (binOp .eql 36 (.slice none 0 0) (.slice none 0 0)).run Try.prog w = .ok (.bool true) w := fun w => Lib.run_eql_slice_nil w 36 29 none 0 0 0 0 Try.underlying36
    go_enter Try.func40, Try.ntmps40
    go_wp2
    go_ret
    exact ⟨_, rfl, own_none _, Below.refl _ _, by simp [Value.ownBlock]⟩
  · have hnil : ∀ w, (binOp .eql 36 (.slice (some ⟨g, 0, none⟩) L.length cap) (.slice none 0 0)).run Try.prog w = .ok (.bool false) w := fun w => Lib.run_eql_slice_nil w 36 29 (some ⟨g, 0, none⟩) L.length cap 0 0 Try.underlying36
    have hB : Below w.heap.size w (w.alloc (.cells #[] 29)) := below_al w _
    have ho : Own (w.alloc (.cells #[] 29)) (.slice (some ⟨w.heap.size, 0, none⟩) 0 0) [] := World.ownsRow_made w #[] 0 (Nat.zero_le _) (by decide) (by simp)
    have hs : LsAt (w.alloc (.cells #[] 29)) (some ⟨g, 0, none⟩) L := fun _ => ⟨g, 0, rfl, (rd_of_row h).below hB⟩
    have HO := aside ho
    have HS := aside hs
    have HB := aside hB
    clear ho hs hB h hh
    go_enter Try.func40, Try.ntmps40
    go_wp2_with (at_builtin; refine wpList_app rfl _ _ rfl (.slice (some ⟨w.heap.size, 0, none⟩) 0 0) [] L (some ⟨g, 0, none⟩) L.length cap rfl rfl rfl HO.out HS.out (by simp; omega) L.length (by simp) ?_; intro a' c' w' ho hg hwh)
    go_ret
    rw [List.nil_append] at ho
    refine ⟨.slice a' L.length c', rfl, ho, HB.out.trans (hg.below HB.out.size (fun k hk => by simp only [Value.ownBlock, Option.some.injEq] at hk; omega)), fun k hk => ?_⟩
    rcases hwh with h1 | ⟨h1, -⟩
    · rw [h1] at hk; simp only [Value.ownBlock, Option.some.injEq] at hk; omega
    · rw [h1] at hk; simp only [Option.some.injEq, World.size_alloc] at hk; omega

set_option maxHeartbeats 400000 in
theorem held_any (t : Tb) (w : World) (h : Tab 55 w t) :
    Calls Try.prog 20 #[.pointer (some ⟨t.p, 0, none⟩)] w fun e w' => ∃ v', e = .returned v' ∧ Own w' v' t.H ∧ Below w.heap.size w w' ∧ ∀ k, v'.ownBlock = some k → w.heap.size ≤ k := by
  have C := aside (clone_any t.hv t.H w h.oh (by have := h.few; omega))
  have c0 := h.c0
  clear h
  go_enter Try.func20, Try.ntmps20
  go_wp2_with ((go_at_call 40; refine C.out.mono ?_; rintro e w2 ⟨v', rfl, ho, hb, hv⟩))
  go_ret
  exact ⟨v', rfl, ho, hb, hv⟩
theorem held_nil (w : World) : Calls Try.prog 20 #[.pointer none] w fun e w' => e = .returned (.slice none 0 0) ∧ w' = w := by
  go_enter Try.func20, Try.ntmps20
  go_wp2
  go_ret
  exact ⟨rfl, rfl⟩

set_option maxHeartbeats 400000 in
theorem waits_any (t : Tb) (w : World) (h : Tab 55 w t) :
    Calls Try.prog 21 #[.pointer (some ⟨t.p, 0, none⟩)] w fun e w' => ∃ v', e = .returned v' ∧ Own w' v' t.W ∧ Below w.heap.size w w' ∧ ∀ k, v'.ownBlock = some k → w.heap.size ≤ k := by
  have C := aside (clone_any t.wv t.W w h.ow (by have := h.few; omega))
  have c0 := h.c1
  clear h
  go_enter Try.func21, Try.ntmps21
  go_wp2_with ((go_at_call 40; refine C.out.mono ?_; rintro e w2 ⟨v', rfl, ho, hb, hv⟩))
  go_ret
  exact ⟨v', rfl, ho, hb, hv⟩
theorem waits_nil (w : World) : Calls Try.prog 21 #[.pointer none] w fun e w' => e = .returned (.slice none 0 0) ∧ w' = w := by
  go_enter Try.func21, Try.ntmps21
  go_wp2
  go_ret
  exact ⟨rfl, rfl⟩
end Go.Proofs.Ytfpegmmciphjiaa
