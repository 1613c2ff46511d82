/- Rows that grow, and rows that were cut: what an append to either leaves. -/
import Derived.Test.YtknjclekfmmfeaaDoorApp
import Derived.Test.YtknjclekfmmfeaaDoorPck
namespace Go.Proofs.YtknjclekfmmfeaaDoor
open Go.RowKit Go.ChangeMaps

/-- An append to a slice without room: a new row. -/
theorem run_append_tight {P : Program} (w : World) (t ty e : TypeId) (z : Value) (bytes : Nat) (ht : P.underlying t = some (.slice e)) (hinfo : (P.info? e).map (fun i => (i.zero, i.size, i.bytes)) = some (some z, 1, bytes))
    (hzs : z.cells.size = 1) (g : Nat) (xs : List Value) (hxs : ∀ j u, xs[j]? = some u → w.cell? ⟨g, j, none⟩ = some u)
    (a : Addr) (m c : Nat) (news : List Value) (hl : news.length = m) (hnews : ∀ j u, news[j]? = some u → w.cell? (a.add j) = some u)
    (h63 : xs.length + m ≤ maxLen) (hbytes : (xs.length + m) * bytes ≤ 140737488355328) (hm : 0 < m) :
    ∃ v' w', (Builtin.append_ #[t, t] ty #[.slice (some ⟨g, 0, none⟩) xs.length xs.length, .slice (some a) m c]).run P w = .ok v' w' ∧ w'.ownsRow w.heap.size e 1 v' (xs.length + m) (xs ++ news) ∧ Below w.heap.size w w' := by
  obtain ⟨i, hi, hz, hs, hb⟩ := info_parts hinfo
  have hx := run_append_grow (P := P) w t ty e i z ht hi hz ⟨g, 0, none⟩ xs.length xs.length xs (by rw [hs]; omega) (fun j u hj => by rw [Addr.add_lit, Nat.zero_add]; exact hxs j u hj) a m c news (by rw [hs]; omega) hnews (by omega) (by have h := h63; unfold maxLen at h; omega) (by rw [hb]; exact growslice_fits (by omega) hbytes)
  refine ⟨_, _, hx, ⟨by simp [hl], .inr ⟨w.heap.size, _, _, rfl, Nat.le_refl _, heap_alloc_new w.drew _, grownCap_ge w _ _ e, grownCap_le_maxLen w _ _ e h63, ?_, ?_⟩⟩, below_tr (below_dr w) (below_al w.drew _)⟩
  · have hge := grownCap_ge w (xs.length + m) xs.length e
    simp only [Array.size_append, List.size_toArray, size_zeroCells, hzs, hl]
    omega
  · simp only [Array.toList_append, List.append_assoc]
    rw [← List.append_assoc, Nat.mul_one, ← hl, ← List.length_append]
    exact List.take_left

/-- A row of one's own from lo on, whose room may have been cut. -/
def RwAt (w : World) (lo : Nat) (e : TypeId) (rv : Value) (xs : List Value) : Prop :=
  ∃ g c cs, rv = .slice (some ⟨g, 0, none⟩) xs.length c ∧ lo ≤ g ∧ w.heap[g]? = some (.cells cs e (0, 0)) ∧ xs.length ≤ c ∧ c ≤ maxLen ∧ (c = cs.size ∨ c = xs.length) ∧ cs.toList.take xs.length = xs
theorem RwAt.of_own {w : World} {lo : Nat} {e : TypeId} {rv : Value} {xs : List Value} (h : w.ownsRow lo e 1 rv xs.length xs) (hx : xs ≠ []) : RwAt w lo e rv xs := by
  rcases h.2 with ⟨rfl, h0⟩ | ⟨g, c, cs, rfl, h1, h2, h3, h4, h5, h6⟩
  · exact absurd (List.eq_nil_of_length_eq_zero h0) hx
  · exact ⟨g, c, cs, rfl, h1, h2, h3, h4, .inl (by omega), by simpa using h6⟩
theorem RwAt.keep {w w' : World} {lo : Nat} {e : TypeId} {rv : Value} {xs : List Value} (h : RwAt w lo e rv xs) (hk : ∀ (g : Nat) (cs : Array Value), w.heap[g]? = some (Obj.cells cs e (0, 0)) → w'.heap[g]? = w.heap[g]?) : RwAt w' lo e rv xs := by
  obtain ⟨g, c, cs, h0, h1, h2, h3⟩ := h
  exact ⟨g, c, cs, h0, h1, (hk g cs h2).trans h2, h3⟩
theorem RwAt.cell {w : World} {lo : Nat} {e : TypeId} {g n c : Nat} {xs : List Value} (h : RwAt w lo e (.slice (some ⟨g, 0, none⟩) n c) xs) {j : Nat} {u : Value} (hj : xs[j]? = some u) : w.cell? ⟨g, j, none⟩ = some u := by
  obtain ⟨g', c', cs, h0, h1, h2, h3, h4, h5, h6⟩ := h
  injection h0 with e1 e2 e3
  injection e1 with e1
  injection e1 with e1
  subst e1
  rw [cell_of_row w g j _ _ _ h2]
  rw [← h6, List.getElem?_take] at hj
  split at hj
  · simpa using hj
  · cases hj
/-- The first of a row. -/
theorem RwAt.take {w : World} {lo : Nat} {e : TypeId} {g n c : Nat} {xs : List Value} (h : RwAt w lo e (.slice (some ⟨g, 0, none⟩) n c) xs) (k : Nat) (hk : k ≤ xs.length) : RwAt w lo e (.slice (some ⟨g, 0, none⟩) k k) (xs.take k) := by
  obtain ⟨g', c', cs, h0, h1, h2, h3, h4, h5, h6⟩ := h
  injection h0 with e1 e2 e3
  injection e1 with e1
  injection e1 with e1
  subst e1
  have hl : (xs.take k).length = k := by rw [List.length_take]; omega
  refine ⟨g, k, cs, by rw [hl], h1, h2, by omega, by omega, .inr hl.symm, ?_⟩
  rw [hl, ← h6, List.take_take, Nat.min_eq_left hk]
theorem RwAt.append {P : Program} {w : World} {lo : Nat} {e : TypeId} {rv : Value} {xs : List Value} (h : RwAt w lo e rv xs) (hlo : lo ≤ w.heap.size) (t ty : TypeId) (z : Value) (bytes : Nat) (ht : P.underlying t = some (.slice e)) (hinfo : (P.info? e).map (fun i => (i.zero, i.size, i.bytes)) = some (some z, 1, bytes))
    (hzs : z.cells.size = 1) (a : Addr) (c : Nat) (u : Value) (hu : w.cell? a = some u) (h1 : u.oneCell' = true) (h63 : xs.length ≤ 1000000) (hby : bytes ≤ 100) :
    ∃ v' w', (Builtin.append_ #[t, t] ty #[rv, .slice (some a) 1 c]).run P w = .ok v' w' ∧ RwAt w' lo e v' (xs ++ [u]) ∧ Upd (fun k => lo ≤ k ∧ ∃ cs, w.heap[k]? = some (Obj.cells cs e (0, 0))) w w' := by
  obtain ⟨g, c', cs, rfl, g1, g2, g3, g4, g5, g6⟩ := h
  have hb : (xs.length + 1) * bytes ≤ 140737488355328 := by
    have : (xs.length + 1) * bytes ≤ 1000001 * 100 := Nat.mul_le_mul (by omega) hby
    omega
  have hn : ∀ (j : Nat) (x : Value), ([u] : List Value)[j]? = some x → w.cell? (a.add j) = some x := fun j x hj => by
    cases j with
    | zero => simp only [List.getElem?_cons_zero, Option.some.injEq] at hj; rw [show a.add 0 = a by unfold Addr.add; rw [if_pos rfl], hu, hj]
    | succ j => simp at hj
  rcases g5 with g5 | g5
  · have hown : w.ownsRow 0 e 1 (.slice (some ⟨g, 0, none⟩) xs.length c') xs.length xs := ⟨by omega, .inr ⟨g, c', cs, rfl, Nat.zero_le _, g2, g3, g4, by omega, by simpa using g6⟩⟩
    obtain ⟨v', w', hr, h2, h3, h4⟩ := run_append_where (P := P) w t ty e z 1 bytes ht hinfo hzs (by omega) _ _ xs hown a 1 c [u] rfl hn (by simpa using h1) (by unfold maxLen; omega) hb (by omega)
    refine ⟨v', w', hr, ?_, ?_⟩
    · rcases h2.2 with ⟨-, h0⟩ | ⟨k, c2, cs2, rfl, -, k2, k3, k4, k5, k6⟩
      · omega
      · refine ⟨k, c2, cs2, by simp, ?_, k2, by simpa using k3, k4, .inl (by omega), by simpa using k6⟩
        rcases h4 with ⟨h4, -⟩ | ⟨h4, -⟩
        · simp only [Value.ownBlock, Option.some.injEq] at h4; omega
        · simp only [Value.ownBlock, Option.some.injEq] at h4; omega
    · refine Upd.of_grown h3 fun k hk => ?_
      simp only [Value.ownBlock, Option.some.injEq] at hk
      subst hk
      exact ⟨g1, cs, g2⟩
  · subst g5
    obtain ⟨v', w', hr, h2, h3⟩ := run_append_tight (P := P) w t ty e z bytes ht hinfo hzs g xs (fun j x hj => by
      rw [cell_of_row w g j _ _ _ g2]
      rw [← g6, List.getElem?_take] at hj
      split at hj
      · simpa using hj
      · cases hj) a 1 c [u] rfl hn (by unfold maxLen; omega) hb (by omega)
    refine ⟨v', w', hr, ?_, Upd.of_below h3⟩
    rcases h2.2 with ⟨-, h0⟩ | ⟨k, c2, cs2, rfl, k1, k2, k3, k4, k5, k6⟩
    · omega
    · exact ⟨k, c2, cs2, by simp, by omega, k2, by simpa using k3, k4, .inl (by omega), by simpa using k6⟩
end Go.Proofs.YtknjclekfmmfeaaDoor
