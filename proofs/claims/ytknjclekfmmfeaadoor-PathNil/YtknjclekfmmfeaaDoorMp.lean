/- Maps by name: the entries as a list; what a look, a store, a delete and len do there. -/
import Derived.Test.YtknjclekfmmfeaaDoorBase
namespace Go.Proofs.YtknjclekfmmfeaaDoor
open Go.RowKit Go.ChangeMaps

abbrev KV := ByteArray × Value
/-- The entries of a map as a list: names and values in the order in which they came; their stamps. -/
structure Ents (es : Array MapEntry) (clock : Nat) (L : List KV) : Prop where
  kv : es.toList.map (fun e => (e.key, e.val)) = L.map (fun p => (Value.string p.1, p.2))
  old : ∀ x ∈ es.toList, x.born < clock
  nod : (es.toList.map (·.born)).Nodup
  one : (L.map (·.1)).Nodup
  len : ∀ p ∈ L, p.1.size ≤ maxLen

def lk : List KV → ByteArray → Option Value
  | [], _ => none
  | p :: L, s => if s = p.1 then some p.2 else lk L s
def del : List KV → ByteArray → List KV
  | [], _ => []
  | p :: L, s => if s = p.1 then L else p :: del L s
def fnd : List KV → ByteArray → Nat → Option (Nat × Value)
  | [], _, _ => none
  | p :: L, s, i => if s = p.1 then some (i, p.2) else fnd L s (i + 1)
def plc : List KV → ByteArray → Nat
  | [], _ => 0
  | p :: L, s => if s = p.1 then 0 else plc L s + 1

theorem find_ents (s : ByteArray) : ∀ (l : List MapEntry) (L : List KV) (i : Nat), l.map (fun e => (e.key, e.val)) = L.map (fun p => (Value.string p.1, p.2)) → Instr.findNow .string (.string s) l i = some (fnd L s i)
  | [], [], i, _ => rfl
  | [], _ :: _, i, h => by simp at h
  | _ :: _, [], i, h => by simp at h
  | e :: l, p :: L, i, h => by
    simp only [List.map_cons, List.cons.injEq, Prod.mk.injEq] at h
    obtain ⟨⟨h1, h2⟩, h3⟩ := h
    have ih := find_ents s l L (i + 1) h3
    by_cases hz : s = p.1
    · subst hz
      have hb : (p.1 == p.1) = true := (MapKept.bytes_beq _ _).2 rfl
      simp only [Instr.findNow, Instr.sameNow, h1, h2, fnd, hb, ↓reduceIte]
    · have hb : (s == p.1) = false := by
        cases e0 : (s == p.1)
        · rfl
        · exact absurd ((MapKept.bytes_beq _ _).1 e0) hz
      simp only [Instr.findNow, Instr.sameNow, h1, fnd, if_neg hz, ih, hb]
theorem fnd_none {L : List KV} {s : ByteArray} (h : lk L s = none) (i : Nat) : fnd L s i = none := by
  induction L generalizing i with
  | nil => rfl
  | cons g L ih =>
    unfold lk at h
    unfold fnd
    split at h
    · simp at h
    · next hz => rw [if_neg hz]; exact ih h _
theorem fnd_some {L : List KV} {s : ByteArray} {v : Value} (h : lk L s = some v) (i : Nat) : fnd L s i = some (i + plc L s, v) ∧ plc L s < L.length ∧ del L s = L.eraseIdx (plc L s) := by
  induction L generalizing i with
  | nil => simp [lk] at h
  | cons x L ih =>
    unfold lk at h
    unfold fnd del plc
    split at h
    · next hz =>
      simp only [Option.some.injEq] at h
      subst h
      simp [hz]
    · next hz =>
      obtain ⟨h1, h2, h3⟩ := ih h (i + 1)
      rw [if_neg hz, if_neg hz, if_neg hz]
      refine ⟨by rw [h1]; simp; omega, by simp; omega, by rw [h3]; simp⟩
theorem lk_none_mem {L : List KV} {s : ByteArray} (h : lk L s = none) : ∀ p ∈ L, p.1 ≠ s := by
  induction L with
  | nil => intro p hp; simp at hp
  | cons g L ih =>
    unfold lk at h
    split at h
    · simp at h
    · next hz =>
      intro p hp
      rcases List.mem_cons.1 hp with rfl | hp
      · exact fun e => hz e.symm
      · exact ih h p hp
theorem lk_mem {L : List KV} {s : ByteArray} {v : Value} (h : lk L s = some v) : (s, v) ∈ L := by
  induction L with
  | nil => simp [lk] at h
  | cons g L ih =>
    unfold lk at h
    split at h
    · next hz =>
      simp only [Option.some.injEq] at h
      subst h; subst hz
      simp
    · exact List.mem_cons_of_mem _ (ih h)
theorem Ents.size {es : Array MapEntry} {clock : Nat} {L : List KV} (h : Ents es clock L) : es.size = L.length := by
  have := congrArg List.length h.kv
  simpa using this
theorem ents_nil (c : Nat) : Ents #[] c [] := ⟨rfl, by simp, by simp, by simp, by simp⟩
theorem Ents.push {es : Array MapEntry} {clock : Nat} {L : List KV} (h : Ents es clock L) {s : ByteArray} (v : Value) (hl : lk L s = none) (hs : s.size ≤ maxLen) : Ents (es.push ⟨.string s, v, clock⟩) (clock + 1) (L ++ [(s, v)]) := by
  refine ⟨?_, ?_, ?_, ?_, ?_⟩
  · rw [Array.toList_push, List.map_append, h.kv, List.map_append]; rfl
  · intro x hx
    rw [Array.toList_push] at hx
    rcases List.mem_append.1 hx with hx | hx
    · have := h.old x hx; omega
    · simp only [List.mem_singleton] at hx; subst hx; simp
  · rw [Array.toList_push, List.map_append]
    refine List.nodup_append.2 ⟨h.nod, by simp, ?_⟩
    intro a ha b hb
    obtain ⟨x, hx, rfl⟩ := List.mem_map.1 ha
    simp only [List.map_cons, List.map_nil, List.mem_singleton] at hb
    have := h.old x hx
    omega
  · rw [List.map_append]
    refine List.nodup_append.2 ⟨h.one, by simp, ?_⟩
    intro a ha b hb
    obtain ⟨x, hx, rfl⟩ := List.mem_map.1 ha
    simp only [List.map_cons, List.map_nil, List.mem_singleton] at hb
    subst hb
    exact lk_none_mem hl x hx
  · intro p hp
    rcases List.mem_append.1 hp with hp | hp
    · exact h.len p hp
    · simp only [List.mem_singleton] at hp; subst hp; exact hs
theorem erase_map {α β : Type} (f : α → β) : ∀ (l : List α) (j : Nat), (l.eraseIdx j).map f = (l.map f).eraseIdx j
  | [], _ => rfl
  | _ :: _, 0 => rfl
  | a :: l, j + 1 => by simp only [List.eraseIdx_cons_succ, List.map_cons, erase_map f l j]
theorem Ents.erase {es : Array MapEntry} {clock : Nat} {L : List KV} (h : Ents es clock L) (j : Nat) (hj : j < L.length) : Ents (es.eraseIdxIfInBounds j) clock (L.eraseIdx j) := by
  have hj' : j < es.size := by rw [h.size]; exact hj
  have e1 : (es.eraseIdxIfInBounds j).toList = es.toList.eraseIdx j := by rw [Array.eraseIdxIfInBounds, dif_pos hj', Array.toList_eraseIdx]
  refine ⟨?_, ?_, ?_, ?_, ?_⟩
  · rw [e1, erase_map, h.kv, erase_map]
  · intro x hx; rw [e1] at hx; exact h.old x (List.mem_of_mem_eraseIdx hx)
  · rw [e1, erase_map]; exact h.nod.sublist (List.eraseIdx_sublist _ _)
  · rw [erase_map]; exact h.one.sublist (List.eraseIdx_sublist _ _)
  · intro p hp; exact h.len p (List.mem_of_mem_eraseIdx hp)

section
variable {w : World} {mb : Nat} {es : Array MapEntry} {clock : Nat} {L : List KV} {s : ByteArray}
theorem check_str (w : World) (s : ByteArray) (em : Bool) : (Instr.checkKey em 10000 9 (.string s)).run Tryd.prog w = .ok () w := MapKept.run_checkKey Tryd.underlying9 (d := .string) (k := .string s) trivial em 9999
theorem find_str {r : Option (Nat × Value)} (l : List MapEntry) (hf : Instr.findNow .string (.string s) l 0 = some r) (w : World) : (Instr.findKey 9 (.string s) l).run Tryd.prog w = .ok r w := by
  simp [Instr.findKey, run_underlying Tryd.underlying9, hf, Result.andThen]
theorem look_yes (hb : w.heap[mb]? = some (.map es clock)) (hE : Ents es clock L) {v : Value} (hl : lk L s = some v) (ok : Bool) :
    (Instr.lookup 56 (.map (some mb)) (.string s) ok).run Tryd.prog w = .ok (if ok then .tuple #[v, .bool true] else v) w := by
  have hf := find_ents s es.toList L 0 hE.kv
  rw [(fnd_some hl 0).1] at hf
  simp [Instr.lookup, run_underlying Tryd.underlying56, MapKept.run_getObj_map hb, check_str, find_str _ hf, Result.andThen]
theorem look_no (hb : w.heap[mb]? = some (.map es clock)) (hE : Ents es clock L) (hl : lk L s = none) (ok : Bool) :
    (Instr.lookup 56 (.map (some mb)) (.string s) ok).run Tryd.prog w = .ok (if ok then .tuple #[.pointer none, .bool false] else .pointer none) w := by
  have hf := find_ents s es.toList L 0 hE.kv
  rw [fnd_none hl 0] at hf
  simp [Instr.lookup, run_underlying Tryd.underlying56, MapKept.run_getObj_map hb, check_str, find_str _ hf, Result.andThen, Tryd.zeroValue28]
theorem put_new (hb : w.heap[mb]? = some (.map es clock)) (hE : Ents es clock L) (v : Value) (hs : s.size ≤ maxLen) (hl : lk L s = none) :
    ∃ es', (Instr.mapUpdate 56 (.map (some mb)) (.string s) v).run Tryd.prog w = .ok () (setBlock w mb (.map es' (clock + 1))) ∧ Ents es' (clock + 1) (L ++ [(s, v)]) := by
  have hf := find_ents s es.toList L 0 hE.kv
  rw [fnd_none hl 0] at hf
  refine ⟨_, ?_, hE.push v hl hs⟩
  simp [Instr.mapUpdate, run_underlying Tryd.underlying56, MapKept.run_getObj_map hb, check_str, find_str _ hf, MapKept.run_setObj_map _ hb, Result.andThen, setBlock]
theorem take_out (hb : w.heap[mb]? = some (.map es clock)) (hE : Ents es clock L) {v : Value} (hl : lk L s = some v) :
    ∃ es', (∀ ty, (Builtin.delete_ #[56, 9] ty #[.map (some mb), .string s]).run Tryd.prog w = .ok (.tuple #[]) (setBlock w mb (.map es' clock))) ∧ Ents es' clock (del L s) := by
  obtain ⟨h1, h2, h3⟩ := fnd_some hl 0
  have hf := find_ents s es.toList L 0 hE.kv
  rw [h1, Nat.zero_add] at hf
  refine ⟨_, fun ty => ?_, h3 ▸ hE.erase _ h2⟩
  simp [Builtin.delete_, run_underlying Tryd.underlying56, MapKept.run_getObj_map hb, check_str, find_str _ hf, MapKept.run_setObj_map _ hb, Result.andThen, setBlock]
theorem len_map (hb : w.heap[mb]? = some (.map es clock)) (hE : Ents es clock L) (ty : TypeId) : (Builtin.len_ #[56] ty #[.map (some mb)]).run Tryd.prog w = .ok (.int .i64 (L.length : Int)) w := by
  rw [← hE.size]
  simp [Builtin.len_, run_underlying Tryd.underlying56, MapKept.run_getObj_map hb, Result.andThen]
  rfl
end

section
variable {P : Program} (w : World) {ops : Array Oper} {rest : List Oper} {o : Oper} {a : Act} {Q : Exit → Act → World → Prop}
/-- A store whose run is known. -/
theorem wpList_mapUpdate_run (hg : o.guard = none) (m x v : Operand) (t : TypeId) (hop : o.op = Op.mapUpdate t m x v) (mv key val : Value) (hm : a.eval m = mv) (hx : a.eval x = key) (hv : a.eval v = val) (w' : World)
    (hrun : (Instr.mapUpdate t mv key val).run P w = .ok () w') (hK : wpList P ops Q rest (a.put o.dst undef) w') : wpList P ops Q (o :: rest) a w := by
  refine wpList_plain hg fun K' hK' => ?_
  unfold Oper.wp
  simp [execOp, hop, hm, hx, hv, hrun, Result.andThen]
  exact hK' _ _ hK
/-- A delete whose run is known. -/
theorem wpList_delete_run (hg : o.guard = none) (m x : Operand) (t k : TypeId) (hop : o.op = Op.call { callee := Callee.builtin Builtin.delete, args := #[m, x], argTypes := #[t, k] }) (mv key : Value) (hm : a.eval m = mv) (hx : a.eval x = key) (w' : World)
    (hrun : (Builtin.delete_ #[t, k] o.type #[mv, key]).run P w = .ok (.tuple #[]) w') (hK : wpList P ops Q rest (a.put o.dst (.tuple #[])) w') : wpList P ops Q (o :: rest) a w := by
  refine wpList_plain hg fun K' hK' => ?_
  unfold Oper.wp
  simp [execOp, hop, resolve, invoke, builtin, hm, hx, hrun, Result.andThen]
  exact hK' _ _ hK
end
end Go.Proofs.YtknjclekfmmfeaaDoor
