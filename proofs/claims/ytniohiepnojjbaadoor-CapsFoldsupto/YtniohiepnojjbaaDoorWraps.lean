/- Lists of wrappers: their cells, appends, arguments opened. -/
import Derived.Test.YtniohiepnojjbaaDoorArgs
import Derived.Test.YtniohiepnojjbaaDoorStack
namespace Go.Proofs.YtniohiepnojjbaaDoor
open Go.ChangeShapes Go.WideShapes Go.ChangeAt Go.RowKit

/-- The cells of some wrappers. -/
def wcells (ws : List Wr) : List Value := ws.flatMap (fun x => [.int .i8 x.kind, .int .i64 x.n, .int .i64 x.m, .int .u64 x.key])
theorem wcells_length (ws : List Wr) : (wcells ws).length = ws.length * 4 := by
  induction ws with
  | nil => rfl
  | cons d L ih => simp only [wcells, List.flatMap_cons, List.length_append, List.length_cons] at ih ⊢; simp only [List.length_nil]; omega
theorem wcells_at (ws : List Wr) : ∀ (i : Nat) (x : Wr), ws[i]? = some x → (wcells ws)[i * 4]? = some (.int .i8 x.kind) ∧ (wcells ws)[i * 4 + 1]? = some (.int .i64 x.n) ∧ (wcells ws)[i * 4 + 2]? = some (.int .i64 x.m) ∧ (wcells ws)[i * 4 + 3]? = some (.int .u64 x.key) := by
  induction ws with
  | nil => intro i x h; simp at h
  | cons d L ih =>
    intro i x h
    have e : wcells (d :: L) = .int .i8 d.kind :: .int .i64 d.n :: .int .i64 d.m :: .int .u64 d.key :: wcells L := rfl
    rw [e]
    cases i with
    | zero => simp at h; subst h; simp
    | succ i =>
      have := ih i x (by simpa using h)
      rw [show (i + 1) * 4 = i * 4 + 1 + 1 + 1 + 1 by omega]
      simpa using this
theorem wcells_one (ws : List Wr) : ∀ u ∈ wcells ws, u.oneCell' = true := by
  intro u hu
  obtain ⟨x, -, hx⟩ := List.mem_flatMap.1 hu
  simp at hx
  rcases hx with rfl | rfl | rfl | rfl <;> rfl
theorem wcells_rd {w : World} {blk off : Nat} {ws : List Wr} (h : RdW w blk off ws) : ∀ j u, (wcells ws)[j]? = some u → w.cell? ((⟨blk, off, none⟩ : Addr).add j) = some u := by
  intro j u hj
  rw [Addr.add_mid]
  have hlt : j < ws.length * 4 := by rw [← wcells_length]; exact (List.getElem?_eq_some_iff.1 hj).1
  have hq : j / 4 < ws.length := by omega
  obtain ⟨h0, h1, h2, h3⟩ := h (j / 4) _ (List.getElem?_eq_getElem hq)
  obtain ⟨e0, e1, e2, e3⟩ := wcells_at ws (j / 4) _ (List.getElem?_eq_getElem hq)
  have hm : j % 4 = 0 ∨ j % 4 = 1 ∨ j % 4 = 2 ∨ j % 4 = 3 := by omega
  rcases hm with hm | hm | hm | hm
  · rw [show j / 4 * 4 = j by omega] at h0 e0; rw [hj] at e0; rw [h0, ← e0]
  · rw [show j / 4 * 4 + 1 = j by omega] at e1; rw [show off + j / 4 * 4 + 1 = off + j by omega] at h1; rw [hj] at e1; rw [h1, ← e1]
  · rw [show j / 4 * 4 + 2 = j by omega] at e2; rw [show off + j / 4 * 4 + 2 = off + j by omega] at h2; rw [hj] at e2; rw [h2, ← e2]
  · rw [show j / 4 * 4 + 3 = j by omega] at e3; rw [show off + j / 4 * 4 + 3 = off + j by omega] at h3; rw [hj] at e3; rw [h3, ← e3]
theorem row_rdw {w : World} {b g : Nat} {n cap : Nat} {ws : List Wr} (h : w.ownsRow b 43 4 (.slice (some ⟨g, 0, none⟩) n cap) n (wcells ws)) : RdW w g 0 ws := fun j x hj => by
  obtain ⟨e0, e1, e2, e3⟩ := wcells_at ws j x hj
  have c0 := h.cells (g := g) rfl _ _ e0
  have c1 := h.cells (g := g) rfl _ _ e1
  have c2 := h.cells (g := g) rfl _ _ e2
  have c3 := h.cells (g := g) rfl _ _ e3
  rw [Addr.add_mid] at c0 c1 c2 c3
  exact ⟨c0, c1, c2, c3⟩
theorem info43 : (Tryd.prog.info? 43).map (fun i => (i.zero, i.size, i.bytes)) = some (some (.agg #[.int .i8 0, .int .i64 0, .int .i64 0, .int .u64 0]), 4, 32) := by kernel_rfl

/-- append of nothing onto nothing is nothing (wrappers). -/
theorem append_nothing47 (w : World) (ty : TypeId) (a : Option Addr) (c : Nat) : (Builtin.append_ #[47, 47] ty #[.slice none 0 0, .slice a 0 c]).run Tryd.prog w = .ok (.slice none 0 0) w := by
  obtain ⟨i, hi⟩ : ∃ i, Tryd.prog.info? 43 = some i := by
    cases hi : Tryd.prog.info? 43 with
    | none => have h5 := info43; simp [hi] at h5
    | some i => exact ⟨i, rfl⟩
  cases a with
  | none => simp [Builtin.append_, run_underlying Tryd.underlying47, sizeOf, typeInfo, hi, Builtin.lenOf, Builtin.firstCells]
  | some a => simp [Builtin.append_, run_underlying Tryd.underlying47, sizeOf, typeInfo, hi, Builtin.lenOf, Builtin.firstCells, loadCells, loadCellsFrom]

theorem cells40 : Tryd.prog.cellsOf 40 = 1 := by kernel_rfl
theorem cells2 : Tryd.prog.cellsOf 2 = 1 := by kernel_rfl
theorem cells41 : Tryd.prog.cellsOf 41 = 1 := by kernel_rfl
/-- A list of wrappers, opened. -/
theorem open_wraps {H : Type} {enc : TypeId × Value → H} {W : World} {fuel : Nat} {v : Value} {x : DataW H × List MemPlace} (h : DataW.trod enc Tryd.prog W 0 (fun _ => true) true fuel 47 [v] = some x) :
    ∃ (a : Option Addr) (c : Nat) (ws : List Wr), v = .slice a ws.length c ∧ (ws ≠ [] → ∃ blk off, a = some ⟨blk, off, none⟩ ∧ RdW W blk off ws) ∧ (∀ z ∈ ws, -128 ≤ z.kind ∧ z.kind < 128) ∧ (∃ es sp, x.1 = .slice es sp ∧ ws.length = es.length ∨ ws = []) := by
  rcases DataW.trod_slice Tryd.underlying47 h with ⟨hc, rfl⟩ | ⟨a, len, cap, elems, rest, n, _, hc, rfl, hb, hl, hm, hlen, hel, -, -⟩
  · simp only [List.cons.injEq, and_true] at hc
    subst hc
    exact ⟨none, 0, [], rfl, fun h => absurd rfl h, by simp, [], [], .inr rfl⟩
  · simp only [List.cons.injEq, and_true] at hc
    subst hc
    have each : ∀ i, i < len → ∃ z : Wr, -128 ≤ z.kind ∧ z.kind < 128 ∧ W.cell? (a.add (i * 4)) = some (.int .i8 z.kind) ∧ W.cell? ((a.add (i * 4)).add 1) = some (.int .i64 z.n) ∧ W.cell? ((a.add (i * 4)).add 2) = some (.int .i64 z.m) ∧ W.cell? ((a.add (i * 4)).add 3) = some (.int .u64 z.key) := by
      intro i hi
      have hy := hel i hi
      rw [cells43, List.getElem?_eq_getElem (by omega : i < elems.length), Option.bind_eq_some_iff] at hy
      obtain ⟨cs, hcs, hy⟩ := hy
      obtain ⟨y0, y1, y2, y3, m, -, hcl, g0, g1, g2, g3⟩ := Go.Joins.trod_struct4 Tryd.underlying43 hy
      obtain ⟨d, e0, -, hwf⟩ := DataW.trod_int Tryd.underlying40 g0
      obtain ⟨t, e1, -, -⟩ := DataW.trod_int Tryd.underlying2 g1
      obtain ⟨u, e2, -, -⟩ := DataW.trod_int Tryd.underlying2 g2
      obtain ⟨q, e3, -, -⟩ := DataW.trod_int (k := .u64) (by kernel_rfl) g3
      obtain ⟨-, -, hcc⟩ := World.cells?_some hcs
      have k0 := congrArg (fun l => l[0]?) e0
      have k1 := congrArg (fun l => l[0]?) e1
      have k2 := congrArg (fun l => l[0]?) e2
      have k3 := congrArg (fun l => l[0]?) e3
      simp [cells40, cells2, cells41] at k0 k1 k2 k3
      have hbd := bounds_i8 hwf
      have ha0 : (a.add (i * 4)).add 0 = a.add (i * 4) := rfl
      refine ⟨⟨d, t, u, q⟩, by simp only; omega, by simp only; omega, ?_, (hcc 1 (by decide)).trans k1, (hcc 2 (by decide)).trans k2, (hcc 3 (by decide)).trans k3⟩
      rw [← ha0]; exact (hcc 0 (by decide)).trans k0
    by_cases h0 : len = 0
    · subst h0
      exact ⟨some a, cap, [], rfl, fun h => absurd rfl h, by simp, [], [], .inr rfl⟩
    · let ws : List Wr := (List.finRange len).map (fun i => (each i.1 i.2).choose)
      have hws : ∀ (i : Nat) (z : Wr), ws[i]? = some z → ∃ hi : i < len, z = (each i hi).choose := by
        intro i z hz
        simp only [ws, List.getElem?_map, Option.map_eq_some_iff] at hz
        obtain ⟨q, hq, rfl⟩ := hz
        have hq2 := List.getElem?_eq_some_iff.1 hq
        obtain ⟨hlt, hqe⟩ := hq2
        rw [List.getElem_finRange] at hqe
        subst hqe
        exact ⟨by simpa using hlt, rfl⟩
      have hwl : ws.length = len := by simp [ws]
      have hap : a = ⟨a.block, a.off, none⟩ := by
        obtain ⟨z, -, -, hc, -⟩ := each 0 (by omega)
        exact addr_plain (show W.cell? a = _ from hc)
      refine ⟨some a, cap, ws, by rw [hwl], fun _ => ⟨a.block, a.off, by rw [← hap], fun j z hz => ?_⟩, fun z hz => ?_, _, _, .inl ⟨rfl, by simp [hwl, hlen]⟩⟩
      · obtain ⟨hi, rfl⟩ := hws j z hz
        obtain ⟨-, -, c0, c1, c2, c3⟩ := (each j hi).choose_spec
        generalize (each j hi).choose = z at *
        rw [hap, Addr.add_mid] at c0 c1 c2 c3
        rw [Addr.add_mid] at c1 c2 c3
        exact ⟨c0, c1, c2, c3⟩
      · obtain ⟨j, hj⟩ := List.getElem?_of_mem hz
        obtain ⟨hi, rfl⟩ := hws j z hj
        obtain ⟨b0, b1, -⟩ := (each j hi).choose_spec
        exact ⟨b0, b1⟩
theorem bytes43 : Tryd.prog.bytesOf 43 = 32 := by kernel_rfl
theorem open_u8 {n : Int} (h : (Lit.int .u8 n).wf = true) : ∃ k : Nat, n = k ∧ k < 256 := by
  have := bounds_u8 h
  exact ⟨n.toNat, by omega, by omega⟩
end Go.Proofs.YtniohiepnojjbaaDoor
