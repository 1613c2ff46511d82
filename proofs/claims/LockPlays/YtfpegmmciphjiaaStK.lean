/- A table beside blocks of the caller's that no call of it reaches. -/
import Derived.Test.YtfpegmmciphjiaaGoes
namespace Go.Proofs.Ytfpegmmciphjiaa
open Go.RowKit

/-- A table, and blocks K that are none of its own. -/
def StK (w0 w : World) (p : Nat) (H W : List Lk) (K : Nat → Prop) : Prop := Below w0.heap.size w0 w ∧ (∀ k, K k → k < w.heap.size ∧ w0.heap.size ≤ k) ∧ ∃ t : Tb, t.p = p ∧ t.H = H ∧ t.W = W ∧ Tab 55 w t ∧ (∀ k, t.F k → w0.heap.size ≤ k) ∧ ∀ k, K k → ¬ t.F k
/-- The blocks of K stay as they are. -/
def KeptK (K : Nat → Prop) (w w' : World) : Prop := ∀ k, K k → w'.heap[k]? = w.heap[k]?
theorem StK.st {w0 w : World} {p : Nat} {H W : List Lk} {K : Nat → Prop} (h : StK w0 w p H W K) : St w0 w p H W := by
  obtain ⟨h1, -, t, h2, h3, h4, h5, h6, -⟩ := h
  exact ⟨h1, t, h2, h3, h4, h5, h6⟩
theorem StK.bl {w0 w : World} {p : Nat} {H W : List Lk} {K : Nat → Prop} (h : StK w0 w p H W K) : Below w0.heap.size w0 w := h.1
theorem StK.lt {w0 w : World} {p : Nat} {H W : List Lk} {K : Nat → Prop} (h : StK w0 w p H W K) {k : Nat} (hk : K k) : k < w.heap.size := (h.2.1 k hk).1
theorem StK.less {w0 w : World} {p : Nat} {H W : List Lk} {K K' : Nat → Prop} (h : StK w0 w p H W K) (hK : ∀ k, K' k → K k) : StK w0 w p H W K' := by
  obtain ⟨h1, h2, t, h3, h4, h5, h6, h7, h8⟩ := h
  exact ⟨h1, fun k hk => h2 k (hK k hk), t, h3, h4, h5, h6, h7, fun k hk => h8 k (hK k hk)⟩
theorem St.stK {w0 w w' : World} {p : Nat} {H W : List Lk} (h : St w0 w p H W) (hb : Below w.heap.size w w') {K : Nat → Prop} (hK : ∀ k, K k → w.heap.size ≤ k ∧ k < w'.heap.size) : StK w0 w' p H W K := by
  obtain ⟨h1, t, h2, h3, h4, h5, h6⟩ := h
  exact ⟨below_tr h1 hb, fun k hk => ⟨(hK k hk).2, Nat.le_trans h1.size (hK k hk).1⟩, t, h2, h3, h4, h5.below hb, h6, fun k hk hf => by have := h5.flt hf; have := (hK k hk).1; omega⟩
theorem StK.grow {w0 w w' : World} {p : Nat} {H W : List Lk} {K K' : Nat → Prop} (h : StK w0 w p H W K) (hb : Below w.heap.size w w') (hK : ∀ k, K' k → K k ∨ (w.heap.size ≤ k ∧ k < w'.heap.size)) : StK w0 w' p H W K' := by
  obtain ⟨h1, h2, t, h3, h4, h5, h6, h7, h8⟩ := h
  refine ⟨below_tr h1 hb, fun k hk => ?_, t, h3, h4, h5, h6.below hb, h7, fun k hk hf => ?_⟩
  · rcases hK k hk with h9 | h9
    · exact ⟨Nat.lt_of_lt_of_le (h2 k h9).1 hb.size, (h2 k h9).2⟩
    · exact ⟨h9.2, Nat.le_trans h1.size h9.1⟩
  · rcases hK k hk with h9 | h9
    · exact h8 k h9 hf
    · have := h6.flt hf; omega
theorem StK.below {w0 w w' : World} {p : Nat} {H W : List Lk} {K : Nat → Prop} (h : StK w0 w p H W K) (hb : Below w.heap.size w w') : StK w0 w' p H W K := h.grow hb (fun _ hk => .inl hk)
/-- The caller writes into a block of its own. -/
theorem StK.set {w0 w : World} {p : Nat} {H W : List Lk} {K : Nat → Prop} (h : StK w0 w p H W K) {a : Addr} (ha : K a.block) (u : Value) : StK w0 (w.setCell a u) p H W K := by
  obtain ⟨h1, h2, t, h3, h4, h5, h6, h7, h8⟩ := h
  have hset : Upd (fun k => k = a.block) w (w.setCell a u) := Upd.setCell (F := fun k => k = a.block) rfl u
  refine ⟨h1.trans (hset.below h1.size (fun k hk => by rw [hk]; exact (h2 _ ha).2)), fun k hk => ⟨Nat.lt_of_lt_of_le (h2 k hk).1 hset.size, (h2 k hk).2⟩, t, h3, h4, h5, h6.kept hset (fun k hk e => h8 _ ha (e ▸ hk)), h7, h8⟩
theorem Own.keptK {K : Nat → Prop} {w w' : World} {v : Value} {L : List Lk} (h : Own w v L) (hk : KeptK K w w') (hv : ∀ k, v.ownBlock = some k → K k) : Own w' v L := by
  refine ⟨h.1, ?_⟩
  rcases h.2 with h2 | ⟨g, cap, cur, rfl, hg, hh, r⟩
  · exact .inl h2
  · exact .inr ⟨g, cap, cur, rfl, hg, (hk g (hv g rfl)).trans hh, r⟩
theorem keptK_below {K : Nat → Prop} {w w' : World} (hb : Below w.heap.size w w') (hK : ∀ k, K k → k < w.heap.size) : KeptK K w w' := fun k hk => hb.block k (hK k hk)

theorem stK_next {w0 w w' : World} {t t' : Tb} {K : Nat → Prop} (hb : Below w0.heap.size w0 w) (hF : ∀ k, t.F k → w0.heap.size ≤ k) (h2 : ∀ k, K k → k < w.heap.size ∧ w0.heap.size ≤ k) (hK : ∀ k, K k → ¬ t.F k) (hn : Nx 55 w w' t t') : StK w0 w' t.p t'.H t'.W K ∧ KeptK K w w' :=
  ⟨⟨hb.trans (hn.upd.below hb.size hF), fun k hk => ⟨Nat.lt_of_lt_of_le (h2 k hk).1 hn.upd.size, (h2 k hk).2⟩, t', hn.pp, rfl, rfl, hn.tab, fun k hk => (hn.grew k hk).elim (hF k) (fun h => Nat.le_trans hb.size h), fun k hk hf => (hn.grew k hf).elim (hK k hk) (fun h => by have := (h2 k hk).1; omega)⟩, fun k hk => hn.upd.block k (h2 k hk).1 (hK k hk)⟩
theorem leave_k {w0 w : World} {p m : Nat} {H W : List Lk} {K : Nat → Prop} (who : Int) (h : StK w0 w p H W K) (hm : (leaveT H W who).2.2.length = m) :
    Calls Try.prog 18 #[.pointer (some ⟨p, 0, none⟩), .int .i64 who] w fun e w' => ∃ a c, e = .returned (.slice a m c) ∧ StK w0 w' p (leaveT H W who).1 (leaveT H W who).2.1 (fun k => K k ∨ (Value.slice a m c).ownBlock = some k) ∧ Own w' (.slice a m c) (leaveT H W who).2.2 ∧ KeptK K w w' ∧ ∀ k, (Value.slice a m c).ownBlock = some k → w.heap.size ≤ k := by
  subst hm
  obtain ⟨h1, h2, t, rfl, rfl, rfl, h5, h6, h8⟩ := h
  refine (leave_any t who w h5).mono ?_
  rintro e w' ⟨a, n, c, rfl, t', e2, e3, e4, e5, e6⟩
  obtain ⟨a', c', he, -, -⟩ := own_slice e5
  simp only [Value.slice.injEq] at he
  obtain ⟨rfl, rfl, rfl⟩ := he
  obtain ⟨hs, hk⟩ := stK_next h1 h6 h2 h8 e2
  obtain ⟨q1, q2, t2, q3, q4, q5, q6, q7, q8⟩ := hs
  refine ⟨a, c, rfl, ⟨q1, fun k hk => ?_, t', e2.pp, e3, e4, e2.tab, fun k hk => (e2.grew k hk).elim (h6 k) (fun h => Nat.le_trans h1.size h), fun k hk hf => ?_⟩, e5, hk, fun k hk => (e6 k hk).1⟩
  · rcases hk with hk | hk
    · exact q2 k hk
    · exact ⟨e5.lt hk, Nat.le_trans h1.size (e6 k hk).1⟩
  · rcases hk with hk | hk
    · rcases e2.grew k hf with h9 | h9
      · exact h8 k hk h9
      · have := (h2 k hk).1; omega
    · exact (e6 k hk).2 hf
theorem waits_k {w0 w : World} {p m : Nat} {H W : List Lk} {K : Nat → Prop} (h : StK w0 w p H W K) (hm : W.length = m) :
    Calls Try.prog 21 #[.pointer (some ⟨p, 0, none⟩)] w fun e w' => ∃ a c, e = .returned (.slice a m c) ∧ StK w0 w' p H W (fun k => K k ∨ (Value.slice a m c).ownBlock = some k) ∧ Own w' (.slice a m c) W ∧ Below w.heap.size w w' ∧ ∀ k, (Value.slice a m c).ownBlock = some k → w.heap.size ≤ k := by
  subst hm
  refine (waits_st h.st).mono ?_
  rintro e w' ⟨a, c, rfl, ho, hb, hn⟩
  exact ⟨a, c, rfl, h.grow hb (fun k hk => hk.elim .inl (fun h9 => .inr ⟨hn k h9, ho.lt h9⟩)), ho, hb, hn⟩
theorem held_k {w0 w : World} {p m : Nat} {H W : List Lk} {K : Nat → Prop} (h : StK w0 w p H W K) (hm : H.length = m) :
    Calls Try.prog 20 #[.pointer (some ⟨p, 0, none⟩)] w fun e w' => ∃ a c, e = .returned (.slice a m c) ∧ StK w0 w' p H W (fun k => K k ∨ (Value.slice a m c).ownBlock = some k) ∧ Own w' (.slice a m c) H ∧ Below w.heap.size w w' ∧ ∀ k, (Value.slice a m c).ownBlock = some k → w.heap.size ≤ k := by
  subst hm
  refine (held_st h.st).mono ?_
  rintro e w' ⟨a, c, rfl, ho, hb, hn⟩
  exact ⟨a, c, rfl, h.grow hb (fun k hk => hk.elim .inl (fun h9 => .inr ⟨hn k h9, ho.lt h9⟩)), ho, hb, hn⟩
/-- One lock of a row. -/
theorem Own.lock {w : World} {a : Option Addr} {n c : Nat} {L : List Lk} (h : Own w (.slice a n c) L) {i : Nat} {l : Lk} (hi : L[i]? = some l) : ∃ g, a = some ⟨g, 0, none⟩ ∧ w.cell? ⟨g, i * 4, none⟩ = some (.int .i64 l.who) ∧ w.cell? ⟨g, i * 4 + 1, none⟩ = some (.int .i64 l.org) ∧ w.cell? ⟨g, i * 4 + 2, none⟩ = some (.int .i64 l.len) ∧ w.cell? ⟨g, i * 4 + 3, none⟩ = some (.bool l.sh) := by
  obtain ⟨-, g, rfl, hr⟩ := h.form (by have := (List.getElem?_eq_some_iff.1 hi).1; omega)
  obtain ⟨h0, h1, h2, h3⟩ := hr.lock hi
  rw [Nat.zero_add] at h0 h1 h2 h3
  exact ⟨g, rfl, h0, h1, h2, h3⟩

/-- A step: what is done, with which lock. -/
structure Sp where
  d : Int
  l : Lk
/-- A list of steps that can be read. -/
def SpsAt (w : World) (a : Option Addr) (ss : List Sp) : Prop := ss ≠ [] → ∃ g o, a = some ⟨g, o, none⟩ ∧ ∀ (j : Nat) (s : Sp), ss[j]? = some s → w.cell? ⟨g, o + j * 5, none⟩ = some (.int .i8 s.d) ∧ w.cell? ⟨g, o + j * 5 + 1, none⟩ = some (.int .i64 s.l.who) ∧ w.cell? ⟨g, o + j * 5 + 2, none⟩ = some (.int .i64 s.l.org) ∧ w.cell? ⟨g, o + j * 5 + 3, none⟩ = some (.int .i64 s.l.len) ∧ w.cell? ⟨g, o + j * 5 + 4, none⟩ = some (.bool s.l.sh)
theorem SpsAt.at {w w' : World} {a : Option Addr} {ss : List Sp} (h : SpsAt w a ss) (hb : Below w.heap.size w w') {j : Nat} {s : Sp} (hj : ss[j]? = some s) : ∃ g o, a = some ⟨g, o, none⟩ ∧ w'.cell? ⟨g, o + j * 5, none⟩ = some (.int .i8 s.d) ∧ w'.cell? ⟨g, o + j * 5 + 1, none⟩ = some (.int .i64 s.l.who) ∧ w'.cell? ⟨g, o + j * 5 + 2, none⟩ = some (.int .i64 s.l.org) ∧ w'.cell? ⟨g, o + j * 5 + 3, none⟩ = some (.int .i64 s.l.len) ∧ w'.cell? ⟨g, o + j * 5 + 4, none⟩ = some (.bool s.l.sh) := by
  obtain ⟨g, o, rfl, hc⟩ := h (fun h0 => by rw [h0] at hj; simp at hj)
  obtain ⟨h0, h1, h2, h3, h4⟩ := hc j s hj
  have hlt := World.block_lt_of_cell? w _ h0
  exact ⟨g, o, rfl, (hb.cell hlt).trans h0, (hb.cell (p := ⟨g, o + j * 5 + 1, none⟩) hlt).trans h1, (hb.cell (p := ⟨g, o + j * 5 + 2, none⟩) hlt).trans h2, (hb.cell (p := ⟨g, o + j * 5 + 3, none⟩) hlt).trans h3, (hb.cell (p := ⟨g, o + j * 5 + 4, none⟩) hlt).trans h4⟩
end Go.Proofs.Ytfpegmmciphjiaa
