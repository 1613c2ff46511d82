/- A map of which the entries are known one by one: what a look, a store, a delete and len do. -/
import Derived.Maps.OwnSet
namespace Go.MapLit
open Go.ChangeMaps Go.MapKept
open Go.Maps (Keyed int_keyed keyOf_int_mk)

section
variable {P : Program} {w : World} {b : Nat} {es : Array MapEntry} {clock : Nat} {t k e : TypeId}

theorem find_int (hk : P.underlying k = some (.int .i64)) {a : Int} {r : Option (Nat × Value)} (l : List MapEntry) (hf : Instr.findNow (.int .i64) (.int .i64 a) l 0 = some r) (w : World) :
    (Instr.findKey k (.int .i64 a) l).run P w = .ok r w := by
  simp [Instr.findKey, run_underlying hk, hf, Result.andThen]

theorem look_none (ht : P.underlying t = some (.map k e)) (hk : P.underlying k = some (.int .i64)) {z : Value} (hz : (zeroValue e).run P w = .ok z w) (hb : w.heap[b]? = some (.map es clock)) {a : Int} (hw : (Lit.int .i64 a).wf = true)
    (hf : Instr.findNow (.int .i64) (.int .i64 a) es.toList 0 = some none) : (Instr.lookup t (.map (some b)) (.int .i64 a) false).run P w = .ok z w := by
  simp [Instr.lookup, run_underlying ht, MapKept.run_getObj_map hb, (int_keyed hk).check w _ (keyOf_int_mk hk hw), find_int hk _ hf, hz, Result.andThen]

theorem look_some (ht : P.underlying t = some (.map k e)) (hk : P.underlying k = some (.int .i64)) (hb : w.heap[b]? = some (.map es clock)) {a : Int} (hw : (Lit.int .i64 a).wf = true) {i : Nat} {v : Value}
    (hf : Instr.findNow (.int .i64) (.int .i64 a) es.toList 0 = some (some (i, v))) : (Instr.lookup t (.map (some b)) (.int .i64 a) false).run P w = .ok v w := by
  simp [Instr.lookup, run_underlying ht, MapKept.run_getObj_map hb, (int_keyed hk).check w _ (keyOf_int_mk hk hw), find_int hk _ hf, Result.andThen]

theorem store_new (ht : P.underlying t = some (.map k e)) (hk : P.underlying k = some (.int .i64)) (hb : w.heap[b]? = some (.map es clock)) {a : Int} (hw : (Lit.int .i64 a).wf = true) (v : Value)
    (hf : Instr.findNow (.int .i64) (.int .i64 a) es.toList 0 = some none) : (Instr.mapUpdate t (.map (some b)) (.int .i64 a) v).run P w = .ok () (setBlock w b (.map (es.push ⟨.int .i64 a, v, clock⟩) (clock + 1))) := by
  simp [Instr.mapUpdate, run_underlying ht, MapKept.run_getObj_map hb, (int_keyed hk).check w _ (keyOf_int_mk hk hw), find_int hk _ hf, MapKept.run_setObj_map _ hb, Result.andThen, setBlock]

theorem delete_some {ty : TypeId} (ht : P.underlying t = some (.map k e)) (hk : P.underlying k = some (.int .i64)) (hb : w.heap[b]? = some (.map es clock)) {a : Int} (hw : (Lit.int .i64 a).wf = true) {i : Nat} {v : Value}
    (hf : Instr.findNow (.int .i64) (.int .i64 a) es.toList 0 = some (some (i, v))) : (Builtin.delete_ #[t, k] ty #[.map (some b), .int .i64 a]).run P w = .ok (.tuple #[]) (setBlock w b (.map (es.eraseIdxIfInBounds i) clock)) := by
  simp [Builtin.delete_, run_underlying ht, MapKept.run_getObj_map hb, (int_keyed hk).check w _ (keyOf_int_mk hk hw), find_int hk _ hf, MapKept.run_setObj_map _ hb, Result.andThen, setBlock]

theorem len_lit (ht : P.underlying t = some (.map k e)) (hb : w.heap[b]? = some (.map es clock)) (ty : TypeId) : (Builtin.len_ #[t] ty #[.map (some b)]).run P w = .ok (.int .i64 es.size) w := by
  simp [Builtin.len_, run_underlying ht, MapKept.run_getObj_map hb, Result.andThen]
  rfl
end

section
variable {P : Program} (w : World) {ops : Array Oper} {rest : List Oper} {o : Oper} {a : Act} {Q : Exit → Act → World → Prop}

/-- A store whose run is known. -/
theorem wpList_mapUpdate_run (hg : o.guard = none) (m x v : Operand) (t : TypeId) (hop : o.op = Op.mapUpdate t m x v) (mv key val : Value) (hm : a.eval m = mv) (hx : a.eval x = key) (hv : a.eval v = val) (w' : World)
    (hrun : (Instr.mapUpdate t mv key val).run P w = .ok () w') (hK : wpList P ops Q rest (a.put o.dst undef) w') : wpList P ops Q (o :: rest) a w := by
  refine wpList_plain hg fun K' hK' => ?_
  unfold Oper.wp
  simp [execOp, hop, hm, hx, hv, hrun, Result.andThen]
  exact hK' _ _ hK

/-- A delete whose run is known. -/
theorem wpList_delete_run (hg : o.guard = none) (m x : Operand) (t k : TypeId) (hop : o.op = Op.call { callee := Callee.builtin Builtin.delete, args := #[m, x], argTypes := #[t, k] }) (mv key : Value) (hm : a.eval m = mv) (hx : a.eval x = key) (w' : World)
    (hrun : (Builtin.delete_ #[t, k] o.type #[mv, key]).run P w = .ok (.tuple #[]) w') (hK : wpList P ops Q rest (a.put o.dst (.tuple #[])) w') : wpList P ops Q (o :: rest) a w := by
  refine wpList_plain hg fun K' hK' => ?_
  unfold Oper.wp
  simp [execOp, hop, resolve, invoke, builtin, hm, hx, hrun, Result.andThen]
  exact hK' _ _ hK
end
end Go.MapLit
