/- One more byte onto a row of one's own: where the row stands then; two rows beside each other. -/
import Derived.Test.YtniohiepnojjbabDoorSets
import Derived.Laws.OwnMore
namespace Go.Proofs.YtniohiepnojjbabDoor
open Go.RowKit

/-- append onto a row that is known whole: the row goes on in its own block, or stands in the next new one. -/
theorem run_append_where {P : Program} (w : World) (t ty e : TypeId) (z : Value) (size bytes : Nat) (ht : P.underlying t = some (.slice e)) (hinfo : (P.info? e).map (fun i => (i.zero, i.size, i.bytes)) = some (some z, size, bytes))
    (hzs : z.cells.size = size) (hsz : 0 < size) (v : Value) (n : Nat) (xs : List Value) (base : Nat) (hbase : base ≤ w.heap.size) (hown : w.ownsRow base e size v n xs)
    (a : Addr) (m c : Nat) (news : List Value) (hl : news.length = m * size) (hnews : ∀ j u, news[j]? = some u → w.cell? (a.add j) = some u) (h1 : ∀ u ∈ news, u.oneCell' = true)
    (h63 : n + m ≤ maxLen) (hbytes : (n + m) * bytes ≤ 140737488355328) (hm : 0 < m) :
    ∃ v' w', (Builtin.append_ #[t, t] ty #[v, .slice (some a) m c]).run P w = .ok v' w' ∧ w'.ownsRow base e size v' (n + m) (xs ++ news) ∧ w.grownBy w' v.ownBlock ∧
      (v'.ownBlock = v.ownBlock ∧ (∃ g, v.ownBlock = some g) ∨ v'.ownBlock = some w.heap.size ∧ Below w.heap.size w w') := by
  obtain ⟨i, hi, hz, hs, hb⟩ : ∃ i, P.info? e = some i ∧ i.zero = some z ∧ i.size = size ∧ i.bytes = bytes := by
    cases hi : P.info? e with
    | none => simp [hi] at hinfo
    | some i => simp only [hi, Option.map_some, Option.some.injEq, Prod.mk.injEq] at hinfo; exact ⟨i, rfl, hinfo.1, hinfo.2.1, hinfo.2.2⟩
  obtain ⟨v', w', hr, h2, h3, h4⟩ := run_append_own (P := P) w base t ty e i z size bytes ht hi hz hs hb hzs hsz v n xs hown a m c news hl hnews h1 h63 hbytes hbase
  refine ⟨v', w', hr, h2, h3, ?_⟩
  rcases hown.2 with ⟨rfl, rfl⟩ | ⟨g, cap, cur, rfl, -, hg, hnc, hcm, hcs, htake⟩
  · right
    have hx := run_append_nil (P := P) w t ty e i z ht hi hz a m c news (by rw [hs]; exact hl) hnews (by omega) (by have h := h63; unfold maxLen at h; omega) (by rw [hb]; have h := hbytes; simp only [Nat.zero_add] at h; omega)
    rw [hr] at hx
    injection hx with e1 e2
    subst e1; subst e2
    exact ⟨rfl, below_tr (below_dr w) (below_al w.drew _)⟩
  · by_cases hroom : n + m ≤ cap
    · left
      obtain ⟨w2, hx, -, -⟩ := run_append_fits (P := P) w base t ty e i size ht hi hs g n cap xs hown a m c news hl hnews h1 hroom
      rw [hr] at hx
      injection hx with e1 e2
      subst e1
      exact ⟨rfl, g, rfl⟩
    · right
      have hx := run_append_grow (P := P) w t ty e i z ht hi hz ⟨g, 0, none⟩ n cap xs (by rw [hs]; exact hown.1) (hown.cells (g := g) rfl) a m c news (by rw [hs]; exact hl) hnews (by omega) (by have h := h63; unfold maxLen at h; omega) (by rw [hb]; exact growslice_fits (by omega) hbytes)
      rw [hr] at hx
      injection hx with e1 e2
      subst e1; subst e2
      exact ⟨rfl, below_tr (below_dr w) (below_al w.drew _)⟩


theorem push_where (w : World) (ty : TypeId) (base : Nat) (v : Value) (n : Nat) (xs : List Value) (hown : w.ownsRow base 5 1 v n xs) (nb c : Nat) (u : Value) (hu : w.cell? ⟨nb, 0, none⟩ = some u) (h1 : u.oneCell' = true)
    (hn : n + 1 ≤ 140737488355328) (hbase : base ≤ w.heap.size) :
    ∃ a' cap' w', (Builtin.append_ #[28, 28] ty #[v, .slice (some ⟨nb, 0, none⟩) 1 c]).run Tryd.prog w = .ok (.slice a' (n + 1) cap') w' ∧ w'.ownsRow base 5 1 (.slice a' (n + 1) cap') (n + 1) (xs ++ [u]) ∧ w.grownBy w' v.ownBlock ∧
      ((Value.slice a' (n + 1) cap').ownBlock = v.ownBlock ∨ (Value.slice a' (n + 1) cap').ownBlock = some w.heap.size) := by
  obtain ⟨v', w', hr, h2, h3, h4⟩ := run_append_where (P := Tryd.prog) w 28 ty 5 (.int .u8 0) 1 1 Tryd.underlying28 info5 rfl (by decide) v n xs base hbase hown ⟨nb, 0, none⟩ 1 c [u] rfl (by
    intro j y hj
    match j, hj with
    | 0, hj => simp at hj; subst hj; simpa [Addr.add] using hu
    | j + 1, hj => simp at hj) (by intro y hy; simp at hy; subst hy; exact h1) (by unfold maxLen; omega) (by omega) (by decide)
  obtain ⟨a', cap', rfl, -, -⟩ := row_form h2
  refine ⟨a', cap', w', hr, h2, h3, ?_⟩
  rcases h4 with ⟨h4, -⟩ | ⟨h4, -⟩
  · exact .inl h4
  · exact .inr h4

/-- A row of another block stays. -/
theorem row_grown {w w' : World} {r : Option Nat} {b : Nat} {e : TypeId} {s : Nat} {v : Value} {n : Nat} {xs : List Value} (h : w.ownsRow b e s v n xs) (hg : w.grownBy w' r) (hd : ∀ g, v.ownBlock = some g → r ≠ some g) : w'.ownsRow b e s v n xs := by
  refine ⟨h.1, ?_⟩
  rcases h.2 with h2 | ⟨g, cap, cur, rfl, hgb, hh, rest⟩
  · exact .inl h2
  · refine .inr ⟨g, cap, cur, rfl, hgb, ?_, rest⟩
    rw [hg.block g (Array.getElem?_eq_some_iff.1 hh).1 (fun h => hd g rfl h.symm)]
    exact hh

/-- Two rows of one's own, in blocks of their own. -/
structure TwoRows (B : Nat) (w : World) (v u : Value) (l r : List Nat) : Prop where
  one : w.ownsRow B 5 1 v l.length (u8s l)
  two : w.ownsRow B 5 1 u r.length (u8s r)
  apart : ∀ g, v.ownBlock = some g → u.ownBlock ≠ some g

theorem own_lt {w : World} {b : Nat} {e : TypeId} {s : Nat} {v : Value} {n : Nat} {xs : List Value} (h : w.ownsRow b e s v n xs) : ∀ g, v.ownBlock = some g → g < w.heap.size := by
  intro g hg
  rcases h.2 with ⟨rfl, _⟩ | ⟨g', cap, cur, rfl, _, hh, _⟩
  · simp [Value.ownBlock] at hg
  · simp only [Value.ownBlock, Option.some.injEq] at hg; subst hg; exact (Array.getElem?_eq_some_iff.1 hh).1

/-- A push onto the first of two rows. -/
theorem push_first (B : Nat) (w : World) (ty : TypeId) (v u : Value) (l r : List Nat) (h : TwoRows B w v u l r) (nb c x : Nat) (hu : w.cell? ⟨nb, 0, none⟩ = some (.int .u8 (x : Int))) (hn : l.length + 1 ≤ 140737488355328) (hB : B ≤ w.heap.size) :
    ∃ a' cap' w', (Builtin.append_ #[28, 28] ty #[v, .slice (some ⟨nb, 0, none⟩) 1 c]).run Tryd.prog w = .ok (.slice a' (l.length + 1) cap') w' ∧ TwoRows B w' (.slice a' (l.length + 1) cap') u (l ++ [x]) r ∧ Below B w w' ∧ w.heap.size ≤ w'.heap.size := by
  obtain ⟨a', cap', w', hr, h2, h3, h4⟩ := push_where w ty B v l.length (u8s l) h.one nb c _ hu rfl hn hB
  refine ⟨a', cap', w', hr, ⟨by simpa [u8s] using h2, row_grown h.two h3 (fun g hg hv => h.apart g hv hg), fun g hg => ?_⟩, (Below.refl _ _).grown h3 hB (row_own h.one), h3.size⟩
  rcases h4 with h4 | h4
  · rw [h4] at hg; exact h.apart g hg
  · rw [h4] at hg
    simp only [Option.some.injEq] at hg
    subst hg
    intro hu2
    have := own_lt h.two _ hu2
    omega

theorem TwoRows.swap {B : Nat} {w : World} {v u : Value} {l r : List Nat} (h : TwoRows B w v u l r) : TwoRows B w u v r l := ⟨h.two, h.one, fun g hg hv => h.apart g hv hg⟩
theorem TwoRows.below {B : Nat} {w w' : World} {v u : Value} {l r : List Nat} (h : TwoRows B w v u l r) (hb : Below w.heap.size w w') : TwoRows B w' v u l r := ⟨row_below h.one hb, row_below h.two hb, h.apart⟩

theorem wpList_push_first (w : World) {ops : Array Oper} {rest : List Oper} {o : Oper} {a : Act} {Q : Exit → Act → World → Prop} (hgd : o.guard = none) (s x : Operand)
    (ho : o.op = .call { callee := .builtin .append, args := #[s, x], argTypes := #[28, 28] }) (B : Nat) (v u : Value) (l r : List Nat) (hs : a.eval s = v) (h : TwoRows B w v u l r) (nb c z : Nat) (hx : a.eval x = .slice (some ⟨nb, 0, none⟩) 1 c)
    (hu : w.cell? ⟨nb, 0, none⟩ = some (.int .u8 (z : Int))) (L : Nat) (hL : l.length = L) (hn : L + 1 ≤ 140737488355328) (hB : B ≤ w.heap.size)
    (hK : ∀ a' cap' w', TwoRows B w' (.slice a' (L + 1) cap') u (l ++ [z]) r → Below B w w' → w.heap.size ≤ w'.heap.size → wpList Tryd.prog ops Q rest (a.put o.dst (.slice a' (L + 1) cap')) w') : wpList Tryd.prog ops Q (o :: rest) a w := by
  subst hL
  obtain ⟨a', cap', w', hr, h2, h3, h4⟩ := push_first B w o.type v u l r h nb c z hu hn hB
  refine wpList_plain hgd fun K hK' => ?_
  unfold Oper.wp execOp
  simp only [ho, resolve, invoke, builtin, Sem.run_bind, Sem.run_pure, Result.andThen_ok, List.map_toArray, List.map_cons, List.map_nil, hs, hx, hr]
  exact hK' _ _ (hK a' cap' w' h2 h3 h4)

theorem step_push_first {ops : Array Oper} {o : Oper} {a : Act} {w : World} {K : Act → World → Prop} {Q : Exit → Act → World → Prop} {E : Prop} (hgd : o.guard = none) (s x : Operand)
    (ho : o.op = .call { callee := .builtin .append, args := #[s, x], argTypes := #[28, 28] }) (B : Nat) (v u : Value) (l r : List Nat) (hs : a.eval s = v) (h : TwoRows B w v u l r) (nb c z : Nat) (hx : a.eval x = .slice (some ⟨nb, 0, none⟩) 1 c)
    (hu : w.cell? ⟨nb, 0, none⟩ = some (.int .u8 (z : Int))) (L : Nat) (hL : l.length = L) (hn : L + 1 ≤ 140737488355328) (hB : B ≤ w.heap.size)
    (hK : ∀ a' cap' w', TwoRows B w' (.slice a' (L + 1) cap') u (l ++ [z]) r → Below B w w' → w.heap.size ≤ w'.heap.size → K (a.put o.dst (.slice a' (L + 1) cap')) w') :
    if Region.wanted o (yielded ops a.tmps) = true then Oper.wp Tryd.prog o a w K Q else E := by
  have hw : Region.wanted o (yielded ops a.tmps) = true := by simp [Region.wanted, hgd]
  rw [if_pos hw]
  subst hL
  obtain ⟨a', cap', w', hr, h2, h3, h4⟩ := push_first B w o.type v u l r h nb c z hu hn hB
  unfold Oper.wp
  simp [execOp, ho, resolve, invoke, builtin, hs, hx, hr, Result.andThen]
  exact hK a' cap' w' h2 h3 h4

theorem wpList_min2 {P : Program} (w : World) {ops : Array Oper} {rest : List Oper} {o : Oper} {a : Act} {Q : Exit → Act → World → Prop} (hgd : o.guard = none) (x y : Operand) (ts : Array TypeId)
    (ho : o.op = .call { callee := .builtin .min, args := #[x, y], argTypes := ts }) (p q m : Int) (hx : a.eval x = .int .i64 p) (hy : a.eval y = .int .i64 q)
    (hm : min p q = m) (h : wpList P ops Q rest (a.put o.dst (.int .i64 m)) w) : wpList P ops Q (o :: rest) a w := by
  refine wpList_plain hgd fun K hK => ?_
  have hr := run_min_int2 (P := P) (w := w) ts o.type .i64 .i64 p q
  rw [show (if q < p then q else p) = m by rw [← hm]; simp only [Int.min_def]; split <;> split <;> omega] at hr
  unfold Oper.wp execOp
  simp only [ho, resolve, invoke, builtin, Sem.run_bind, Sem.run_pure, Result.andThen_ok, List.map_toArray, List.map_cons, List.map_nil, hx, hy, hr]
  exact hK _ _ h
end Go.Proofs.YtniohiepnojjbabDoor
