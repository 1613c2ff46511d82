/- append of bytes that may be none; where the row stands. -/
import Derived.Test.YtlcglnagekmogaaEq
namespace Go.Proofs.Ytlcglnagekmogaa
open Go.RowKit
attribute [local simp] lcells_nil readB_length bcells_length
set_option maxRecDepth 20000

theorem run_append_zero {P : Program} (w : World) (t ty e : TypeId) (i : TypeInfo) (ht : P.underlying t = some (.slice e)) (hi : P.info? e = some i) (ba : Option Addr) (n cap : Nat) (hn : n ≤ cap) (xa : Option Addr) (c : Nat) :
    (Builtin.append_ #[t, t] ty #[.slice ba n cap, .slice xa 0 c]).run P w = .ok (.slice ba n cap) w := by
  cases xa <;> cases ba <;> simp [Builtin.append_, run_underlying ht, sizeOf, typeInfo, hi, Builtin.lenOf, hn, Builtin.firstCells, loadCells, loadCellsFrom, storeCells]

theorem own_slice {w : World} {base : Nat} {e : TypeId} {size : Nat} {v : Value} {n : Nat} {xs : List Value} (h : w.ownsRow base e size v n xs) : ∃ a cap, v = .slice a n cap ∧ n ≤ cap := by
  rcases h.2 with ⟨rfl, rfl⟩ | ⟨g, cap, cur, rfl, -, -, hnc, -⟩
  · exact ⟨none, 0, rfl, Nat.le_refl _⟩
  · exact ⟨_, cap, rfl, hnc⟩
theorem own_lt {w : World} {e : TypeId} {size : Nat} {v : Value} {n : Nat} {xs : List Value} (h : w.ownsRow 0 e size v n xs) {k : Nat} (hk : v.ownBlock = some k) : k < w.heap.size := (h.lt k hk).2

/-- A row of bytes that a value owns, or nil. -/
def Own (w : World) (v : Value) (l : List UInt8) : Prop := w.ownsRow 0 5 1 v l.length (bcells l)
theorem own_none (w : World) : Own w (.slice none 0 0) [] := ⟨rfl, .inl ⟨rfl, rfl⟩⟩
theorem Own.tel {w : World} {v : Value} {l : List UInt8} (h : Own w v l) : ∃ a c, v = .slice a l.length c ∧ l.length ≤ c ∧ c ≤ maxLen ∧ BsAt w a l := by
  rcases h.2 with ⟨rfl, hz⟩ | ⟨g, c, cur, rfl, -, -, h1, h2, -⟩
  · exact ⟨none, 0, by rw [hz], by omega, by decide, fun hl => absurd (List.length_eq_zero_iff.1 hz) hl⟩
  · exact ⟨some ⟨g, 0, none⟩, c, rfl, h1, h2, fun _ => ⟨_, rfl, fun j v hj => h.cells rfl j v hj⟩⟩
theorem Own.below {w w' : World} {v : Value} {l : List UInt8} (h : Own w v l) (k : Below w.heap.size w w') : Own w' v l := row_below h k
theorem Own.lt {w : World} {v : Value} {l : List UInt8} (h : Own w v l) {k : Nat} (hk : v.ownBlock = some k) : k < w.heap.size := own_lt h hk

/-- append(v, x...) of bytes: the run. -/
theorem run_append_own {w : World} {v : Value} {l r : List UInt8} {xa : Option Addr} {c : Nat} (ty : TypeId) (hv : Own w v l) (hx : BsAt w xa r) (hb : l.length + r.length ≤ 33554432) :
    ∃ v' w', (Builtin.append_ #[22, 22] ty #[v, .slice xa r.length c]).run Try.prog w = .ok v' w' ∧ Own w' v' (l ++ r) ∧ Upd (fun k => v.ownBlock = some k) w w' ∧ (v'.ownBlock = v.ownBlock ∨ v'.ownBlock = some w.heap.size) := by
  by_cases hr : r = []
  · subst hr
    obtain ⟨i, hi, -⟩ := info_parts info5
    obtain ⟨ba, cap, rfl, hnc⟩ := own_slice hv
    refine ⟨_, w, run_append_zero w 22 ty 5 i Try.underlying22 hi ba l.length cap hnc xa c, by rw [List.append_nil]; exact hv, Upd.refl _ _, .inl rfl⟩
  · obtain ⟨ad, rfl, hc⟩ := hx hr
    have hp := List.length_pos_iff.2 hr
    obtain ⟨v', w', h1, h2, h3, h4⟩ := run_append_where (P := Try.prog) w 22 ty 5 (.int .u8 0) 1 1 Try.underlying22 info5 rfl (by decide) v l.length (bcells l) hv ad r.length c (bcells r) (by simp) hc (bcells_one _) (by unfold maxLen; omega) (by omega) hp
    refine ⟨v', w', h1, ?_, Upd.of_grown h3 fun k hk => hk, ?_⟩
    · unfold Own
      rw [List.length_append, show bcells (l ++ r) = bcells l ++ bcells r by simp [bcells]]
      exact h2
    · rcases h4 with ⟨g, -⟩ | ⟨g, -⟩
      · exact .inl g
      · exact .inr g

theorem wpList_app {w : World} {ops : Array Oper} {rest : List Oper} {o : Oper} {a : Act} {Q : Exit → Act → World → Prop} (hgd : o.guard = none) (s x : Operand)
    (ho : o.op = .call { callee := .builtin .append, args := #[s, x], argTypes := #[22, 22] }) (v : Value) (l r : List UInt8) (xa : Option Addr) (c : Nat) (hs : a.eval s = v) (hx : a.eval x = .slice xa r.length c) (hv : Own w v l) (hr : BsAt w xa r) (hb : l.length + r.length ≤ 33554432)
    (h : ∀ v' w', Own w' v' (l ++ r) → Upd (fun k => v.ownBlock = some k) w w' → (v'.ownBlock = v.ownBlock ∨ v'.ownBlock = some w.heap.size) → wpList Try.prog ops Q rest (a.put o.dst v') w') : wpList Try.prog ops Q (o :: rest) a w := by
  obtain ⟨v', w', h1, h2, h3, h4⟩ := run_append_own o.type hv hr hb (c := c)
  refine wpList_plain hgd fun K hK => ?_
  unfold Oper.wp execOp
  simp only [ho, resolve, invoke, builtin, Sem.run_bind, Sem.run_pure, Result.andThen_ok, List.map_toArray, List.map_cons, List.map_nil, hs, hx, h1]
  exact hK _ _ (h v' w' h2 h3 h4)

/-- What an append leaves: the row is new, or stays among new ones. -/
theorem app_below {w0 w w' : World} {v v' : Value} (hB : Below w0.heap.size w0 w) (hU : Upd (fun k => v.ownBlock = some k) w w') (hv : ∀ k, v.ownBlock = some k → w0.heap.size ≤ k) (hv' : v'.ownBlock = v.ownBlock ∨ v'.ownBlock = some w.heap.size) : Below w0.heap.size w0 w' ∧ ∀ k, v'.ownBlock = some k → w0.heap.size ≤ k := by
  refine ⟨hB.trans (hU.below hB.size hv), fun k hk => ?_⟩
  rcases hv' with h | h
  · rw [h] at hk; exact hv k hk
  · rw [h] at hk
    have := hB.size
    simp only [Option.some.injEq] at hk
    omega
end Go.Proofs.Ytlcglnagekmogaa
