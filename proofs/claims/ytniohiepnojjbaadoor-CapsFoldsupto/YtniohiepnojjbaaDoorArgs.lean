/- Small laws that the statements share: rows of bytes, appends, arguments opened. -/
import Derived.Test.YtniohiepnojjbaaDoorLift
import Derived.SizedLaws
import Derived.Lib.SmallJoins
namespace Go.Proofs.YtniohiepnojjbaaDoor
open Go.ChangeShapes Go.WideShapes Go.ChangeAt Go.RowKit

theorem u8s_one (l : List Nat) : ∀ u ∈ u8s l, u.oneCell' = true := by
  intro u hu; obtain ⟨x, -, rfl⟩ := List.mem_map.1 hu; rfl
theorem u8s_at {l : List Nat} {j : Nat} {u : Value} (h : (u8s l)[j]? = some u) : ∃ x, l[j]? = some x ∧ u = .int .u8 (x : Int) := by
  simp only [u8s, List.getElem?_map, Option.map_eq_some_iff] at h
  obtain ⟨x, hx, rfl⟩ := h
  exact ⟨x, hx, rfl⟩
theorem row_rd {w : World} {b g : Nat} {n cap : Nat} {l r : List Nat} (h : w.ownsRow b 5 1 (.slice (some ⟨g, 0, none⟩) n cap) n (u8s (l ++ r))) : RdB w g 0 l := fun j x hj => by
  have hlt := (List.getElem?_eq_some_iff.1 hj).1
  have := h.cells (g := g) rfl j (.int .u8 (x : Int)) (by rw [u8s, List.getElem?_map, List.getElem?_append_left hlt, hj]; rfl)
  rw [Addr.add_mid] at this
  exact this

/-- append of nothing onto nothing is nothing. -/
theorem append_nothing (w : World) (ty : TypeId) (a : Option Addr) (c : Nat) : (Builtin.append_ #[35, 35] ty #[.slice none 0 0, .slice a 0 c]).run Tryd.prog w = .ok (.slice none 0 0) w := by
  obtain ⟨i, hi⟩ : ∃ i, Tryd.prog.info? 5 = some i := by
    cases hi : Tryd.prog.info? 5 with
    | none => have h5 := info5; simp [hi] at h5
    | some i => exact ⟨i, rfl⟩
  cases a with
  | none => simp [Builtin.append_, run_underlying Tryd.underlying35, sizeOf, typeInfo, hi, Builtin.lenOf, Builtin.firstCells]
  | some a => simp [Builtin.append_, run_underlying Tryd.underlying35, sizeOf, typeInfo, hi, Builtin.lenOf, Builtin.firstCells, loadCells, loadCellsFrom]

theorem wpList_append_to {P : Program} (w : World) {ops : Array Oper} {rest : List Oper} {o : Oper} {a : Act} {Q : Exit → Act → World → Prop} (hgd : o.guard = none) (d x : Operand) (dT sT : TypeId)
    (ho : o.op = .call { callee := .builtin .append, args := #[d, x], argTypes := #[dT, sT] }) (v u : Value) (hd : a.eval d = v) (hx : a.eval x = u) {v' : Value} {w' : World}
    (hr : (Builtin.append_ #[dT, sT] o.type #[v, u]).run P w = .ok v' w') (h : wpList P ops Q rest (a.put o.dst v') w') : wpList P ops Q (o :: rest) a w := by
  refine wpList_plain hgd fun K hK => ?_
  unfold Oper.wp execOp
  simp only [ho, resolve, invoke, builtin, Sem.run_bind, Sem.run_pure, Result.andThen_ok, List.map_toArray, List.map_cons, List.map_nil, hd, hx, hr]
  exact hK _ _ h

theorem cells43 : Tryd.prog.cellsOf 43 = 4 := by kernel_rfl
theorem addr_plain {w : World} {a : Addr} {v : Value} (h : w.cell? a = some v) : a = ⟨a.block, a.off, none⟩ := by
  obtain ⟨b, o, s⟩ := a
  unfold World.cell? at h
  cases s with
  | none => rfl
  | some x => split at h <;> simp at h

/-- A list of bytes, opened. -/
theorem open_bytes {H : Type} {enc : TypeId × Value → H} {W : World} {fuel : Nat} {v : Value} {x : DataW H × List MemPlace} (h : DataW.trod enc Tryd.prog W 0 (fun _ => true) true fuel 35 [v] = some x) :
    ∃ (a : Option Addr) (c : Nat) (bs : List Nat), v = .slice a bs.length c ∧ (bs ≠ [] → ∃ blk off, a = some ⟨blk, off, none⟩ ∧ RdB W blk off bs) ∧ (∀ z ∈ bs, z < 256) ∧ (∃ es sp, x.1 = .slice es sp ∧ bs.length ≤ es.length + sp.length ∨ bs = []) := by
  rcases open_ints Tryd.underlying35 Tryd.underlying5 cells5 h with ⟨hc, rfl⟩ | ⟨a, len, cap, zs, hc, -, hl, hm, hzl, rfl, hcell, hwf⟩
  · simp only [List.cons.injEq, and_true] at hc
    subst hc
    exact ⟨none, 0, [], rfl, fun h => absurd rfl h, by simp, [], [], .inr rfl⟩
  · simp only [List.cons.injEq, and_true] at hc
    subst hc
    simp only [if_true] at hzl
    have hbl : ((zs.take len).map Int.toNat).length = len := by simp; omega
    refine ⟨some a, cap, (zs.take len).map Int.toNat, by rw [hbl], fun hne => ?_, fun z hz => ?_, _, _, .inl ⟨rfl, ?_⟩⟩
    · have hpos : 0 < len := by
        rcases Nat.eq_zero_or_pos len with h0 | h0
        · subst h0; simp at hne
        · exact h0
      have h0 := hcell 0 (by omega)
      have hap := addr_plain (show W.cell? a = _ from h0)
      refine ⟨a.block, a.off, by rw [← hap], fun j x hj => ?_⟩
      have hjl : j < len := by have := (List.getElem?_eq_some_iff.1 hj).1; omega
      have hcj := hcell j (by omega)
      rw [hap, Addr.add_mid] at hcj
      rw [hcj]
      rw [List.getElem?_map, List.getElem?_take, if_pos hjl] at hj
      have hz : zs[j]? = some zs[j] := List.getElem?_eq_getElem (by omega)
      rw [hz] at hj
      simp at hj
      have hw := bounds_u8 (hwf zs[j] (List.getElem_mem _))
      simp [hz]; omega
    · obtain ⟨t, ht, rfl⟩ := List.mem_map.1 hz
      have := bounds_u8 (hwf t (List.mem_of_mem_take ht))
      omega
    · simp [lits]

theorem bytes5 : Tryd.prog.bytesOf 5 = 1 := by kernel_rfl

end Go.Proofs.YtniohiepnojjbaaDoor
