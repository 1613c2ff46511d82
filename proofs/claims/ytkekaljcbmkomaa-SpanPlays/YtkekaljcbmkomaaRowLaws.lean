/- copy, clear and append of stretches in rows that are known whole, as laws for the walk. -/
import Derived.Test.YtkekaljcbmkomaaLayEnd
import Derived.Lib.AppendZerosOnto
import Derived.Lib.Overlaps
namespace Go.Proofs.Ytkekaljcbmkomaa
open Go.RowKit
attribute [local simp] lcells_nil readB_length bcells_length
theorem sz56 : (Try.prog.info? 56).map (·.size) = some 2 := by kernel_rfl

/-- copy(d, s) of stretches into a row that is known whole. -/
theorem run_copy2 (W : World) (ty : TypeId) (dp sp : Option Addr) (dLen dCap sLen sCap : Nat) (g off : Nat) (cur : List Value) (hg : W.heap[g]? = some (.cells cur.toArray 56 (0, 0))) (cs : List Value) (hn : cs.length = min sLen dLen * 2)
    (hpos : 0 < cs.length → dp = some ⟨g, off, none⟩ ∧ ∃ ad, sp = some ad ∧ ∀ j v, cs[j]? = some v → W.cell? (ad.add j) = some v) (hfit : off + cs.length ≤ cur.length) (h1 : ∀ v ∈ cs, v.oneCell' = true) :
    (Builtin.copy_ #[48, 48] ty #[.slice dp dLen dCap, .slice sp sLen sCap]).run Try.prog W = .ok (goInt (min sLen dLen : Nat)) (W.setRow g (splice cur off cs).toArray) := by
  obtain ⟨i, hi, -, hs, -⟩ := info_parts info56
  by_cases h0 : cs.length = 0
  · obtain rfl : cs = [] := List.eq_nil_of_length_eq_zero h0
    have hm : Nat.min sLen dLen = 0 := by have h2 : min sLen dLen * 2 = 0 := hn.symm; show min sLen dLen = 0; omega
    rw [show (splice cur off []).toArray = cur.toArray by simp [splice], setRow_same hg, show min sLen dLen = 0 from hm]
    cases sp <;> cases dp <;> simp [Builtin.copy_, run_underlying Try.underlying48, Builtin.lenOf, Builtin.firstCells, sizeOf, typeInfo, hi, hm, storeCells, loadCells, loadCellsFrom]
  · obtain ⟨rfl, ad, rfl, hsrc⟩ := hpos (by omega)
    have hl := run_firstCells_some (P := Try.prog) W 2 (min sLen dLen) ad sLen sCap cs hn hsrc
    have hst := run_storeCells_at Try.prog g off 56 cs 0 cur.toArray W hg (by simpa using hfit) h1
    simp only [Nat.add_zero] at hst
    rw [show (splice cur off cs).toArray = (cur.toArray.toList.take off ++ cs ++ cur.toArray.toList.drop (off + cs.length)).toArray by simp [splice]]
    rw [show min sLen dLen = Nat.min sLen dLen from rfl] at hl ⊢
    simp [Builtin.copy_, run_underlying Try.underlying48, Builtin.lenOf, sizeOf, typeInfo, hi, hs, hl, hst]

def zc (n : Nat) : List Value := (Builtin.zeroCells #[.int .i64 0, .slice none 0 0] n).toList
theorem zc_length (n : Nat) : (zc n).length = n * 2 := by simp [zc, size_zeroCells]
theorem zc_one (n : Nat) : ∀ v ∈ zc n, v.oneCell' = true := by
  intro v hv
  simp only [zc, Builtin.zeroCells, Array.toList_map, List.mem_map] at hv
  obtain ⟨i, -, rfl⟩ := hv
  have hlt : i % (#[Value.int .i64 0, .slice none 0 0] : Array Value).size < 2 := Nat.mod_lt _ (by decide)
  generalize i % (#[Value.int .i64 0, .slice none 0 0] : Array Value).size = k at hlt ⊢
  match k, hlt with
  | 0, _ => rfl
  | 1, _ => rfl

/-- clear(d) of stretches in a row that is known whole. -/
theorem run_clear2 (W : World) (ty : TypeId) (dp : Option Addr) (n c g off : Nat) (cur : List Value) (hg : W.heap[g]? = some (.cells cur.toArray 56 (0, 0))) (hpos : 0 < n → dp = some ⟨g, off, none⟩) (hfit : off + n * 2 ≤ cur.length) :
    (Builtin.clear_ #[48] ty #[.slice dp n c]).run Try.prog W = .ok (.tuple #[]) (W.setRow g (splice cur off (zc n)).toArray) := by
  obtain ⟨i, hi, hz, hs, -⟩ := info_parts info56
  by_cases h0 : n = 0
  · subst h0
    rw [show (splice cur off (zc 0)).toArray = cur.toArray by simp [splice, zc, Builtin.zeroCells], setRow_same hg]
    cases dp <;> simp [Builtin.clear_, run_underlying Try.underlying48]
  · obtain rfl := hpos (by omega)
    have hst := run_storeCells_at Try.prog g off 56 (zc n) 0 cur.toArray W hg (by rw [zc_length]; simpa using hfit) (zc_one n)
    simp only [Nat.add_zero] at hst
    rw [show (splice cur off (zc n)).toArray = (cur.toArray.toList.take off ++ zc n ++ cur.toArray.toList.drop (off + (zc n).length)).toArray by simp [splice]]
    have hz2 : (Builtin.zeroCells (Value.agg #[.int .i64 0, .slice none 0 0]).cells n).toList = zc n := rfl
    obtain ⟨k, rfl⟩ : ∃ k, n = k + 1 := ⟨n - 1, by omega⟩
    simp [Builtin.clear_, run_underlying Try.underlying48, zeroValue, typeInfo, hi, hz, hz2, hst]

theorem wpList_copy_to {P : Program} (w : World) {ops : Array Oper} {rest : List Oper} {o : Oper} {a : Act} {Q : Exit → Act → World → Prop} (hgd : o.guard = none) (d x : Operand) (dT sT : TypeId)
    (ho : o.op = .call { callee := .builtin .copy, args := #[d, x], argTypes := #[dT, sT] }) (v u : Value) (hd : a.eval d = v) (hx : a.eval x = u) {v' : Value} {w' : World}
    (hr : (Builtin.copy_ #[dT, sT] o.type #[v, u]).run P w = .ok v' w') (h : wpList P ops Q rest (a.put o.dst v') w') : wpList P ops Q (o :: rest) a w := by
  refine wpList_plain hgd fun K hK => ?_
  unfold Oper.wp execOp
  simp only [ho, resolve, invoke, builtin, Sem.run_bind, Sem.run_pure, Result.andThen_ok, List.map_toArray, List.map_cons, List.map_nil, hd, hx, hr]
  exact hK _ _ h
theorem wpList_clear_to {P : Program} (w : World) {ops : Array Oper} {rest : List Oper} {o : Oper} {a : Act} {Q : Exit → Act → World → Prop} (hgd : o.guard = none) (d : Operand) (dT : TypeId)
    (ho : o.op = .call { callee := .builtin .clear, args := #[d], argTypes := #[dT] }) (v : Value) (hd : a.eval d = v) {v' : Value} {w' : World}
    (hr : (Builtin.clear_ #[dT] o.type #[v]).run P w = .ok v' w') (h : wpList P ops Q rest (a.put o.dst v') w') : wpList P ops Q (o :: rest) a w := by
  refine wpList_plain hgd fun K hK => ?_
  unfold Oper.wp execOp
  simp only [ho, resolve, invoke, builtin, Sem.run_bind, Sem.run_pure, Result.andThen_ok, List.map_toArray, List.map_cons, List.map_nil, hd, hr]
  exact hK _ _ h
theorem wpList_append_to {P : Program} (w : World) {ops : Array Oper} {rest : List Oper} {o : Oper} {a : Act} {Q : Exit → Act → World → Prop} (hgd : o.guard = none) (d x : Operand) (dT sT : TypeId)
    (ho : o.op = .call { callee := .builtin .append, args := #[d, x], argTypes := #[dT, sT] }) (v u : Value) (hd : a.eval d = v) (hx : a.eval x = u) {v' : Value} {w' : World}
    (hr : (Builtin.append_ #[dT, sT] o.type #[v, u]).run P w = .ok v' w') (h : wpList P ops Q rest (a.put o.dst v') w') : wpList P ops Q (o :: rest) a w := by
  refine wpList_plain hgd fun K hK => ?_
  unfold Oper.wp execOp
  simp only [ho, resolve, invoke, builtin, Sem.run_bind, Sem.run_pure, Result.andThen_ok, List.map_toArray, List.map_cons, List.map_nil, hd, hx, hr]
  exact hK _ _ h

theorem own_of_row {w : World} {g cap n : Nat} {cur xs : List Value} (h : w.heap[g]? = some (.cells cur.toArray 56 (0, 0))) (hl : cur.length = cap * 2) (hn : n ≤ cap) (hc : cap ≤ maxLen) (hx : cur.take (n * 2) = xs) : w.ownsRow 0 56 2 (.slice (some ⟨g, 0, none⟩) n cap) n xs :=
  ⟨by rw [← hx, List.length_take]; omega, .inr ⟨g, cap, cur.toArray, rfl, Nat.zero_le _, h, hn, hc, by simpa using hl, by simpa using hx⟩⟩
theorem row_cells {w : World} {g : Nat} {cur : List Value} {T : TypeId} {fr : Nat × Nat} (h : w.heap[g]? = some (.cells cur.toArray T fr)) (o : Nat) {cs : List Value} (hs : ∀ j v, cs[j]? = some v → cur[o + j]? = some v) : ∀ j v, cs[j]? = some v → w.cell? ((⟨g, o, none⟩ : Addr).add j) = some v := fun j v hj => by
  rw [Addr.add_lit, cell_of_row w g (o + j) _ _ _ h]; simpa using hs j v hj
theorem own_cells {w : World} {v : Value} {m : Nat} {vs : List Value} (h : w.ownsRow 0 56 2 v m vs) (hm : 0 < m) : ∃ vb vc cur, v = .slice (some ⟨vb, 0, none⟩) m vc ∧ w.heap[vb]? = some (.cells cur 56 (0, 0)) ∧ m * 2 ≤ cur.size ∧ ∀ j u, vs[j]? = some u → w.cell? ((⟨vb, 0, none⟩ : Addr).add j) = some u := by
  rcases h.2 with ⟨-, h0⟩ | ⟨g, cap, cur, rfl, -, hg, h1, -, h2, -⟩
  · omega
  · exact ⟨g, cap, cur, rfl, hg, by rw [h2]; omega, h.cells (g := g) rfl⟩
theorem ins_list {α : Type} (cur vs : List α) (i n m cap : Nat) (hc : cur.length = cap * 2) (hin : i ≤ n) (hnc : n + m ≤ cap) (hv : vs.length = m * 2) :
    (splice (splice cur ((i + m) * 2) ((cur.drop (i * 2)).take ((n - i) * 2))) (i * 2) vs).take ((n + m) * 2) = cur.take (i * 2) ++ vs ++ (cur.take (n * 2)).drop (i * 2) := by
  have e1 : ((cur.drop (i * 2)).take ((n - i) * 2)).length = (n - i) * 2 := by rw [List.length_take, List.length_drop]; omega
  have e2 : (cur.take (n * 2)).drop (i * 2) = (cur.drop (i * 2)).take ((n - i) * 2) := by rw [List.drop_take]; congr 1; omega
  rw [e2]
  generalize (cur.drop (i * 2)).take ((n - i) * 2) = mid at *
  simp only [splice]
  rw [e1, hv]
  have e3 : List.take (i * 2) (List.take ((i + m) * 2) cur ++ (mid ++ List.drop ((i + m) * 2 + (n - i) * 2) cur)) = cur.take (i * 2) := by
    rw [List.take_append_of_le_length (by rw [List.length_take]; omega), List.take_take]; congr 1; omega
  have e4 : List.drop (i * 2 + m * 2) (List.take ((i + m) * 2) cur ++ (mid ++ List.drop ((i + m) * 2 + (n - i) * 2) cur)) = mid ++ List.drop ((i + m) * 2 + (n - i) * 2) cur := by
    rw [List.drop_append_of_le_length (by rw [List.length_take]; omega), List.drop_of_length_le (by rw [List.length_take]; omega), List.nil_append]
  rw [e3, e4]
  have e5 : (cur.take (i * 2) ++ (vs ++ mid)).length = (n + m) * 2 := by simp only [List.length_append, List.length_take, hv, e1]; omega
  rw [← List.append_assoc vs, ← List.append_assoc (cur.take (i * 2)), ← e5, List.take_left, List.append_assoc]
end Go.Proofs.Ytkekaljcbmkomaa
