/- Lists of wrappers one behind the other: the append, and what Stack tells. -/
import Derived.Test.YtniohiepnojjbaaDoorWraps
import Derived.Test.YtniohiepnojjbaaDoorRise
import Derived.Laws.OwnMore
namespace Go.Proofs.YtniohiepnojjbaaDoor
open Go.ChangeShapes Go.WideShapes Go.ChangeAt Go.RowKit

theorem wcells_append (a b : List Wr) : wcells (a ++ b) = wcells a ++ wcells b := by simp [wcells, List.flatMap_append]

theorem append_wraps (w : World) (ty : TypeId) (base : Nat) (hbase : base ≤ w.heap.size) (v : Value) (n : Nat) (xs : List Value) (hown : w.ownsRow base 43 4 v n xs) (a : Option Addr) (c : Nat) (ws : List Wr)
    (ha : ws ≠ [] → ∃ blk off, a = some ⟨blk, off, none⟩ ∧ RdW w blk off ws) (hn : n ≤ 1048576) (hm : ws.length ≤ 1048576) :
    ∃ a' cap' w', (Builtin.append_ #[47, 47] ty #[v, .slice a ws.length c]).run Tryd.prog w = .ok (.slice a' (n + ws.length) cap') w' ∧ w'.ownsRow base 43 4 (.slice a' (n + ws.length) cap') (n + ws.length) (xs ++ wcells ws) ∧ Below base w w' ∧ w.heap.size ≤ w'.heap.size := by
  obtain ⟨i, hi, hz, hs, hb⟩ : ∃ i, Tryd.prog.info? 43 = some i ∧ i.zero = some (.agg #[.int .i8 0, .int .i64 0, .int .i64 0, .int .u64 0]) ∧ i.size = 4 ∧ i.bytes = 32 := by
    have h5 := info43
    cases hi : Tryd.prog.info? 43 with
    | none => simp [hi] at h5
    | some i => simp only [hi, Option.map_some, Option.some.injEq, Prod.mk.injEq] at h5; exact ⟨i, rfl, h5.1, h5.2.1, h5.2.2⟩
  cases a with
  | none =>
    have hws : ws = [] := Classical.byContradiction fun hne => by obtain ⟨blk, off, he, -⟩ := ha hne; cases he
    subst hws
    obtain ⟨a', cap', rfl, hnc, -⟩ := row_form hown
    refine ⟨a', cap', w, ?_, by simpa [wcells] using hown, Below.refl _ _, Nat.le_refl _⟩
    rcases hown.2 with ⟨he, rfl⟩ | ⟨g, cap, cur, he, _, _, hnc, _⟩
    · simp only [Value.slice.injEq] at he
      obtain ⟨rfl, -, rfl⟩ := he
      simp [Builtin.append_, run_underlying Tryd.underlying47, sizeOf, typeInfo, hi, Builtin.lenOf, Builtin.firstCells]
    · simp only [Value.slice.injEq] at he
      obtain ⟨rfl, -, rfl⟩ := he
      simp [Builtin.append_, run_underlying Tryd.underlying47, sizeOf, typeInfo, hi, Builtin.lenOf, Builtin.firstCells, hnc, storeCells]
  | some ad =>
    obtain ⟨v', w', hr, h2, h3, -⟩ := run_append_own (P := Tryd.prog) w base 47 ty 43 i (.agg #[.int .i8 0, .int .i64 0, .int .i64 0, .int .u64 0]) 4 32 Tryd.underlying47 hi hz hs hb rfl (by decide) v n xs hown ad ws.length c (wcells ws) (wcells_length ws) (fun j u hj => by
      have hne : ws ≠ [] := by rintro rfl; simp [wcells] at hj
      obtain ⟨blk, off, he, hrd⟩ := ha hne
      cases he
      exact wcells_rd hrd j u hj) (wcells_one ws) (by unfold maxLen; omega) (by omega) hbase
    obtain ⟨a', cap', rfl, -, -⟩ := row_form h2
    exact ⟨a', cap', w', hr, h2, (Below.refl _ _).grown h3 hbase (row_own hown), h3.size⟩

theorem stackN_small (ks : List Int) (leaf : Nat) : (stackN ks leaf).1 < 16 := by
  have go : ∀ (ks : List Int) (c y : Nat), c < 16 → stackGo ks c = some y → y < 16 := by
    intro ks
    induction ks with
    | nil => intro c y hc h; simp only [stackGo, Option.some.injEq] at h; omega
    | cons k r ih =>
      intro c y hc h
      unfold stackGo at h
      split at h
      · exact ih _ y (tableN_lt _ _) h
      · cases h
  unfold stackN
  split
  · decide
  · split
    · decide
    · split
      · rename_i c hc; exact go ks leaf c (by omega) hc
      · decide

theorem go_append (ks ms : List Int) : ∀ c, stackGo (ks ++ ms) c = (stackGo ks c).bind (stackGo ms) := by
  induction ks with
  | nil => intro c; rfl
  | cons k r ih =>
    intro c
    rw [List.cons_append, stackGo, stackGo]
    split
    · exact ih _
    · rfl

/-- A stack of two lists is the second over the first. -/
theorem stack_folds (ks ms : List Int) (leaf : Nat) (h : (stackN (ks ++ ms) leaf).2 = 0) : (stackN ks leaf).2 = 0 ∧ (stackN ms (stackN ks leaf).1).2 = 0 ∧ (stackN (ks ++ ms) leaf).1 = (stackN ms (stackN ks leaf).1).1 := by
  unfold stackN at h
  by_cases h32 : 32 < (ks ++ ms).length
  · rw [if_pos h32] at h; simp at h
  · rw [if_neg h32] at h
    by_cases h15 : 15 < leaf
    · rw [if_pos h15] at h; simp at h
    · rw [if_neg h15, go_append] at h
      simp only [List.length_append] at h32
      cases hg : stackGo ks leaf with
      | none => rw [hg] at h; simp at h
      | some b =>
        rw [hg] at h
        simp only [Option.bind_some] at h
        cases hg2 : stackGo ms b with
        | none => rw [hg2] at h; simp at h
        | some y =>
          have e1 : stackN ks leaf = (b, 0) := by rw [stackN, if_neg (by omega), if_neg h15, hg]
          have hb := stackN_small ks leaf
          rw [e1] at hb ⊢
          simp only at hb ⊢
          have e2 : stackN ms b = (y, 0) := by rw [stackN, if_neg (by omega), if_neg (by omega), hg2]
          have e3 : stackN (ks ++ ms) leaf = (y, 0) := by rw [stackN, if_neg (by simp only [List.length_append]; omega), if_neg h15, go_append, hg]; simp [hg2]
          rw [e2, e3]
          exact ⟨trivial, rfl, rfl⟩

theorem twice_small : ∀ leaf, leaf < 16 → ∀ k ∈ ([0, 3, 9, 10, 7, 4] : List Int), stackN [k] leaf = stackN [k, k] leaf ∧ ((stackN [k] leaf).2 = 0 → k ≠ 4 → lessN (stackN [k] leaf).1 leaf = true) := by decide
theorem twice (leaf : Nat) (k : Int) (hk : k ∈ ([0, 3, 9, 10, 7, 4] : List Int)) : stackN [k] leaf = stackN [k, k] leaf ∧ ((stackN [k] leaf).2 = 0 → k ≠ 4 → lessN (stackN [k] leaf).1 leaf = true) := by
  by_cases h : leaf < 16
  · exact twice_small leaf h k hk
  · have e1 : ∀ l : List Int, l.length ≤ 2 → stackN l leaf = (0, 2) := fun l hl => by rw [stackN, if_neg (by omega), if_pos (by omega)]
    rw [e1 [k] (by simp), e1 [k, k] (by simp)]
    exact ⟨rfl, fun h => by cases h⟩
end Go.Proofs.YtniohiepnojjbaaDoor
