/- A row of numbers that is taken off at its head and grown at its end; a map of numbers that are met. -/
import Derived.Test.YtfpegmmciphjiaaCut
import Derived.Test.YtfpegmmciphjiaaMapLit
namespace Go.Proofs.Ytfpegmmciphjiaa
open Go.RowKit

/-- A row of numbers, from a place of its block on. -/
def QAt (w : World) (g o c : Nat) (q : List Int) : Prop :=
  ∃ cur : Array Value, w.heap[g]? = some (.cells cur 3 (0, 0)) ∧ q.length ≤ c ∧ c ≤ maxLen ∧ o + c ≤ cur.size ∧ ∀ j x, q[j]? = some x → cur[o + j]? = some (.int .i64 x)
theorem QAt.lt {w : World} {g o c : Nat} {q : List Int} (h : QAt w g o c q) : g < w.heap.size := by
  obtain ⟨cur, h1, -⟩ := h
  exact (Array.getElem?_eq_some_iff.1 h1).1
theorem QAt.upd {F : Nat → Prop} {w w' : World} {g o c : Nat} {q : List Int} (h : QAt w g o c q) (hu : Upd F w w') (hn : ¬ F g) : QAt w' g o c q := by
  obtain ⟨cur, h1, r⟩ := h
  exact ⟨cur, (hu.block g (Array.getElem?_eq_some_iff.1 h1).1 hn).trans h1, r⟩
theorem QAt.below {w w' : World} {g o c : Nat} {q : List Int} (h : QAt w g o c q) (hb : Below w.heap.size w w') : QAt w' g o c q := h.upd (Upd.of_below (F := fun _ => False) hb) (fun h => h)
theorem QAt.cell {w : World} {g o c : Nat} {q : List Int} (h : QAt w g o c q) {j : Nat} {x : Int} (hj : q[j]? = some x) : w.cell? ⟨g, o + j, none⟩ = some (.int .i64 x) := by
  obtain ⟨cur, h1, -, -, -, h5⟩ := h
  rw [cell_of_row w g (o + j) _ _ _ h1]; exact h5 j x hj

/-- One more number. -/
theorem run_qpush {w : World} {g o c n : Nat} {q : List Int} {x : Int} {vb vc : Nat} (ty : TypeId) (h : QAt w g o c q) (hl : q.length = n) (hv : w.cell? ⟨vb, 0, none⟩ = some (.int .i64 x)) (hn : n ≤ 1048576) :
    ∃ g' o' c' w', (Builtin.append_ #[60, 60] ty #[.slice (some ⟨g, o, none⟩) n c, .slice (some ⟨vb, 0, none⟩) 1 vc]).run Try.prog w = .ok (.slice (some ⟨g', o', none⟩) (n + 1) c') w' ∧ QAt w' g' o' c' (q ++ [x]) ∧ Upd (fun k => k = g) w w' ∧ (g' = g ∨ g' = w.heap.size) := by
  obtain ⟨cur, h1, h2, h3, h4, h5⟩ := h
  obtain ⟨i, hi, hz, hs, hb⟩ := info_parts info3
  have hnews : ∀ j u, [Value.int .i64 x][j]? = some u → w.cell? ((⟨vb, 0, none⟩ : Addr).add j) = some u := fun j u hj => by
    match j, hj with
    | 0, hj => simp at hj; subst hj; rw [Addr.add_lit]; exact hv
    | j + 1, hj => simp at hj
  by_cases hroom : n + 1 ≤ c
  · have hf := run_firstCells_some (P := Try.prog) w i.size 1 ⟨vb, 0, none⟩ 1 vc [.int .i64 x] (by rw [hs]; rfl) hnews
    have hst := run_storeCells_at Try.prog g (o + n * i.size) 3 [.int .i64 x] 0 cur w h1 (by rw [hs]; simp; omega) (by simp [Value.oneCell'])
    rw [hs] at hf hst
    simp only [Nat.mul_one, Nat.add_zero, List.length_singleton] at hst
    refine ⟨g, o, c, w.setRow g (cur.toList.take (o + n) ++ [Value.int .i64 x] ++ cur.toList.drop (o + n + 1)).toArray, ?_, ⟨_, setRow_heap w g cur _ 3 (0, 0) h1, by simp; omega, h3, ?_, ?_⟩, ⟨rfl, rfl, rfl, by simp, fun k _ hk => setRow_other w g k _ hk⟩, .inl rfl⟩
    · simp [Builtin.append_, run_underlying Try.underlying60, sizeOf, typeInfo, hi, hs, Builtin.lenOf, hroom, hf, Addr.add_lit, hst]
    · simp; omega
    · intro j y hj
      rw [List.getElem?_toArray]
      by_cases hjn : j < n
      · rw [List.getElem?_append_left (by simp; omega), List.getElem?_append_left (by simp; omega), List.getElem?_take_of_lt (by omega)]
        rw [List.getElem?_append_left (by omega)] at hj
        have := h5 j y hj
        simpa using this
      · obtain rfl : j = n := by
          have := (List.getElem?_eq_some_iff.1 hj).1
          simp at this; omega
        rw [List.getElem?_append_left (by simp; omega), List.getElem?_append_right (by simp; omega)]
        rw [List.getElem?_append_right (by omega)] at hj
        simp only [hl, Nat.sub_self, List.getElem?_cons_zero, Option.some.injEq] at hj
        subst hj
        simp only [List.length_take, Array.length_toList]
        rw [Nat.min_eq_left (by omega), Nat.sub_self]; rfl
  · have hc : c = n := by omega
    have hx := run_append_grow (P := Try.prog) w 60 ty 3 i (.int .i64 0) Try.underlying60 hi hz ⟨g, o, none⟩ n c (nums q) (by rw [hs]; simp [nums, hl]) (fun j v hj => by
      rw [Addr.add_lit, cell_of_row w g (o + j) _ _ _ h1]
      simp only [nums, List.getElem?_map, Option.map_eq_some_iff] at hj
      obtain ⟨y, hy, rfl⟩ := hj
      exact h5 j y hy) ⟨vb, 0, none⟩ 1 vc [.int .i64 x] (by rw [hs]; rfl) hnews (by omega) (by omega) (by rw [hb]; exact growslice_fits (by omega) (by omega))
    refine ⟨w.heap.size, 0, _, _, hx, ⟨_, heap_alloc_new w.drew _, ?_, grownCap_le_maxLen w (n + 1) c 3 (by unfold maxLen; omega), ?_, ?_⟩, Upd.of_below (below_tr (below_dr w) (below_al w.drew _)), .inr rfl⟩
    · have := grownCap_ge w (n + 1) c 3
      simp; omega
    · have := grownCap_ge w (n + 1) c 3
      simp [size_zeroCells, nums, hl]
      have h1 : (Value.int IntKind.i64 0).cells.size = 1 := rfl
      rw [h1]; omega
    · intro j y hj
      rw [Nat.zero_add]
      have hlt := (List.getElem?_eq_some_iff.1 hj).1
      rw [Array.getElem?_append_left (by simp [nums] at hlt ⊢; omega)]
      rw [show (nums q).toArray ++ [Value.int .i64 x].toArray = (nums q ++ [Value.int .i64 x]).toArray by simp, List.getElem?_toArray]
      have : nums q ++ [Value.int .i64 x] = nums (q ++ [x]) := by simp [nums]
      rw [this]
      simp only [nums, List.getElem?_map, hj, Option.map_some]

theorem wpList_qpush {w : World} {ops : Array Oper} {rest : List Oper} {o : Oper} {a : Act} {Q : Exit → Act → World → Prop} (hgd : o.guard = none) (s x : Operand)
    (ho : o.op = .call { callee := .builtin .append, args := #[s, x], argTypes := #[60, 60] }) (g of c n : Nat) (q : List Int) (y : Int) (vb vc : Nat) (hs : a.eval s = .slice (some ⟨g, of, none⟩) n c) (hx : a.eval x = .slice (some ⟨vb, 0, none⟩) 1 vc) (hq : QAt w g of c q) (hl : q.length = n) (hv : w.cell? ⟨vb, 0, none⟩ = some (.int .i64 y)) (hn : n ≤ 1048576)
    (h : ∀ g' o' c' w', QAt w' g' o' c' (q ++ [y]) → Upd (fun k => k = g) w w' → (g' = g ∨ g' = w.heap.size) → wpList Try.prog ops Q rest (a.put o.dst (.slice (some ⟨g', o', none⟩) (n + 1) c')) w') : wpList Try.prog ops Q (o :: rest) a w := by
  obtain ⟨g', o', c', w', h1, h2, h3, h4⟩ := run_qpush o.type hq hl hv hn (vc := vc)
  refine wpList_plain hgd fun K hK => ?_
  unfold Oper.wp execOp
  simp only [ho, resolve, invoke, builtin, Sem.run_bind, Sem.run_pure, Result.andThen_ok, List.map_toArray, List.map_cons, List.map_nil, hs, hx, h1]
  exact hK _ _ (h g' o' c' w' h2 h3 h4)

/-- A map of the numbers that are met: each has a 1. -/
def MapIs (w : World) (m : Nat) (K : List Int) : Prop := ∃ es clock, w.heap[m]? = some (.map es clock) ∧ es.toList.map (fun e => (e.key, e.val)) = K.map (fun k => (Value.int .i64 k, Value.int .i64 1))
theorem MapIs.lt {w : World} {m : Nat} {K : List Int} (h : MapIs w m K) : m < w.heap.size := by
  obtain ⟨es, cl, h1, -⟩ := h
  exact (Array.getElem?_eq_some_iff.1 h1).1
theorem MapIs.upd {F : Nat → Prop} {w w' : World} {m : Nat} {K : List Int} (h : MapIs w m K) (hu : Upd F w w') (hn : ¬ F m) : MapIs w' m K := by
  obtain ⟨es, cl, h1, h2⟩ := h
  exact ⟨es, cl, (hu.block m (Array.getElem?_eq_some_iff.1 h1).1 hn).trans h1, h2⟩
theorem MapIs.below {w w' : World} {m : Nat} {K : List Int} (h : MapIs w m K) (hb : Below w.heap.size w w') : MapIs w' m K := h.upd (Upd.of_below (F := fun _ => False) hb) (fun h => h)
theorem find_met (a : Int) : ∀ (l : List MapEntry) (K : List Int) (i : Nat), l.map (fun e => (e.key, e.val)) = K.map (fun k => (Value.int .i64 k, Value.int .i64 1)) →
    if K.contains a then ∃ j, Instr.findNow (.int .i64) (.int .i64 a) l i = some (some (j, .int .i64 1)) else Instr.findNow (.int .i64) (.int .i64 a) l i = some none
  | [], K, i, h => by
    cases K with
    | nil => simp [Instr.findNow]
    | cons k K => simp at h
  | e :: l, K, i, h => by
    cases K with
    | nil => simp at h
    | cons k K =>
      simp only [List.map_cons, List.cons.injEq, Prod.mk.injEq] at h
      obtain ⟨⟨h1, h2⟩, h3⟩ := h
      have ih := find_met a l K (i + 1) h3
      have hs : Instr.sameNow (.int .i64) (.int .i64 a) (.int .i64 k) = some (a == k) := rfl
      by_cases hk : a = k
      · subst hk
        simp [Instr.findNow, h1, h2, hs]
      · have hk2 : (a == k) = false := by simpa using hk
        simp only [Instr.findNow, h1, hs, hk2, List.contains_cons, Bool.false_or]
        exact ih

theorem look_met {w : World} {m : Nat} {K : List Int} (h : MapIs w m K) (a : Int) (h1 : 0 ≤ a) (h2 : a < 256) : (Instr.lookup 59 (.map (some m)) (.int .i64 a) false).run Try.prog w = .ok (.int .i64 (if K.contains a then 1 else 0)) w := by
  obtain ⟨es, cl, hh, he⟩ := h
  have hf := find_met a es.toList K 0 he
  have hwf : (Lit.int .i64 a).wf = true := WalkArith.wf_i64 (by omega)
  by_cases hc : K.contains a = true
  · rw [if_pos hc] at hf
    obtain ⟨j, hj⟩ := hf
    rw [MapLit.look_some (P := Try.prog) Try.underlying59 Try.underlying3 hh hwf hj, if_pos hc]
  · rw [if_neg hc] at hf
    rw [MapLit.look_none (P := Try.prog) Try.underlying59 Try.underlying3 (z := .int .i64 0) (by kernel_rfl) hh hwf hf, if_neg hc]
theorem store_met {w : World} {m : Nat} {K : List Int} (h : MapIs w m K) (a : Int) (h1 : 0 ≤ a) (h2 : a < 256) (hc : K.contains a = false) : ∃ w', (Instr.mapUpdate 59 (.map (some m)) (.int .i64 a) (.int .i64 1)).run Try.prog w = .ok () w' ∧ MapIs w' m (K ++ [a]) ∧ Upd (fun k => k = m) w w' := by
  obtain ⟨es, cl, hh, he⟩ := h
  have hf := find_met a es.toList K 0 he
  have hwf : (Lit.int .i64 a).wf = true := WalkArith.wf_i64 (by omega)
  rw [if_neg (by rw [hc]; simp)] at hf
  have hlt := (Array.getElem?_eq_some_iff.1 hh).1
  refine ⟨_, MapLit.store_new (P := Try.prog) Try.underlying59 Try.underlying3 hh hwf (.int .i64 1) hf, ⟨es.push ⟨.int .i64 a, .int .i64 1, cl⟩, cl + 1, ChangeMaps.heap_setBlock_same hh _, by simp [he]⟩, ⟨rfl, rfl, rfl, by simp [ChangeMaps.setBlock], fun k _ hk => ChangeMaps.heap_setBlock_other hh _ hk⟩⟩
theorem map_new (w : World) : MapIs (w.alloc (.map #[] 0)) w.heap.size [] := ⟨#[], 0, heap_alloc_new w _, rfl⟩
end Go.Proofs.Ytfpegmmciphjiaa
