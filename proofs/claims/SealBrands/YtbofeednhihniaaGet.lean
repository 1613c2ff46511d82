/- (*Bytes).Get: the bytes that are read are those that stand there, noughts in the holes, in new memory. -/
import Derived.Test.YtbofeednhihniaaBytes
import Derived.Deep.RegionHeld2
namespace Go.Proofs.Ytbofeednhihniaa
open Go.RowKit
attribute [local simp] lcells_nil readB_length bcells_length
theorem info5 : (Try.prog.info? 5).map (fun i => (i.zero, i.size, i.bytes)) = some (some (.int .u8 0), 1, 1) := by kernel_rfl
theorem info56 : (Try.prog.info? 137).map (fun i => (i.zero, i.size, i.bytes)) = some (some (.agg #[.int .i64 0, .slice none 0 0]), 2, 32) := by kernel_rfl

theorem wpList_min3 {P : Program} (w : World) {ops : Array Oper} {rest : List Oper} {o : Oper} {a : Act} {Q : Exit → Act → World → Prop} (hgd : o.guard = none) (x y z : Operand) (ts : Array TypeId)
    (ho : o.op = .call { callee := .builtin .min, args := #[x, y, z], argTypes := ts }) (p q r m : Int) (hx : a.eval x = .int .i64 p) (hy : a.eval y = .int .i64 q) (hz : a.eval z = .int .i64 r)
    (hm : (if r < (if q < p then q else p) then r else (if q < p then q else p)) = m) (h : wpList P ops Q rest (a.put o.dst (.int .i64 m)) w) : wpList P ops Q (o :: rest) a w := by
  refine wpList_plain hgd fun K hK => ?_
  have hr := run_min_int3 (P := P) (w := w) ts o.type .i64 .i64 .i64 p q r
  rw [hm] at hr
  unfold Oper.wp execOp
  simp only [ho, resolve, invoke, builtin, Sem.run_bind, Sem.run_pure, Result.andThen_ok, List.map_toArray, List.map_cons, List.map_nil, hx, hy, hz, hr]
  exact hK _ _ h

theorem wpList_max2 {P : Program} (w : World) {ops : Array Oper} {rest : List Oper} {o : Oper} {a : Act} {Q : Exit → Act → World → Prop} (hgd : o.guard = none) (x y : Operand) (ts : Array TypeId)
    (ho : o.op = .call { callee := .builtin .max, args := #[x, y], argTypes := ts }) (p q m : Int) (hx : a.eval x = .int .i64 p) (hy : a.eval y = .int .i64 q)
    (hm : max p q = m) (h : wpList P ops Q rest (a.put o.dst (.int .i64 m)) w) : wpList P ops Q (o :: rest) a w := by
  refine wpList_plain hgd fun K hK => ?_
  have hr := run_max_int2 (P := P) (w := w) ts o.type .i64 .i64 p q
  rw [show (if p < q then q else p) = m by rw [← hm]; simp only [Int.max_def]; split <;> split <;> omega] at hr
  unfold Oper.wp execOp
  simp only [ho, resolve, invoke, builtin, Sem.run_bind, Sem.run_pure, Result.andThen_ok, List.map_toArray, List.map_cons, List.map_nil, hx, hy, hr]
  exact hK _ _ h

theorem make_bytes (w : World) (m : Nat) (hm : m ≤ 4194305) : (Instr.makeSlice 40 (.int .i64 m) (.int .i64 m)).run Try.prog w = .ok (.slice (some ⟨w.heap.size, 0, none⟩) m m) (w.alloc (.cells (bcells (List.replicate m 0)).toArray 5)) := by
  obtain ⟨i, hi, hz, hs, hb⟩ := info_parts info5
  have h := run_make (P := Try.prog) w 40 5 i (.int .u8 0) Try.underlying40 hi hz .i64 .i64 m m (by omega) (Int.le_refl _) (by rw [hb]; omega) (by omega)
  rw [h, hs]
  simp only [Int.toNat_natCast, Nat.mul_one]
  have e : (madeCells (Value.int .u8 0).cells m) = (bcells (List.replicate m 0)).toArray := by
    apply Array.toList_inj.1
    rw [show (Value.int IntKind.u8 0).cells = #[.int .u8 0] from rfl, toList_madeCells_one]
    simp [bcells]
  rw [e]


theorem step_copy_to {P : Program} {ops : Array Oper} {o : Oper} {a : Act} {w : World} {K : Act → World → Prop} {Q : Exit → Act → World → Prop} {E : Prop}
    (hg : o.guard = none) (d x : Operand) (dT sT : TypeId) (hop : o.op = Op.call { callee := Callee.builtin Builtin.copy, args := #[d, x], argTypes := #[dT, sT] })
    (v u : Value) (hd : a.eval d = v) (hx : a.eval x = u) {v' : Value} {w' : World} (hr : (Builtin.copy_ #[dT, sT] o.type #[v, u]).run P w = .ok v' w') (hK : K (a.put o.dst v') w') :
    if Region.wanted o (yielded ops a.tmps) = true then Oper.wp P o a w K Q else E := by
  have hw : Region.wanted o (yielded ops a.tmps) = true := by simp [Region.wanted, hg]
  rw [if_pos hw]
  unfold Oper.wp
  simp [execOp, hop, resolve, invoke, builtin, hd, hx, hr, Result.andThen]
  exact hK

theorem view_same {w w' : World} {B : Nat} {kb : Option Nat} {rv : Value} {M : List Piece} (h : View w kb rv M) (hk : ∀ g, kb = some g → g < B) (hb : ∀ g, g < B → w'.heap[g]? = w.heap[g]?) : View w' kb rv M := by
  obtain ⟨a, cap, rfl, h⟩ := h
  refine ⟨a, cap, rfl, fun t ht => ?_⟩
  obtain ⟨g, o, rfl, hkg, h0, h1⟩ := h t ht
  exact ⟨g, o, rfl, hkg, (World.cell?_of_block (hb g (hk g hkg))).trans h0, (World.cell?_of_block (hb g (hk g hkg))).trans h1⟩
theorem below_setRow_new {B g : Nat} {w0 w : World} (hb : Below B w0 w) (hBg : B ≤ g) (cs : Array Value) : Below B w0 (w.setRow g cs) :=
  hb.trans ⟨rfl, rfl, rfl, by simp [World.setRow], fun k hk => setRow_other w g k cs (by omega)⟩

theorem copy_piece (W : World) (ty : TypeId) (c1 c2 g : Nat) (A : List Piece) (d : Piece) (x m lo lo2 : Nat) (hrow : W.ownsRow 0 5 1 d.dv d.bs.length (bcells d.bs)) (hout : W.heap[g]? = some (.cells (bcells (readB A x m)).toArray 5 (0, 0)))
    (hA : ∀ e, e ∈ A → e.fin ≤ d.org) (h1 : x < d.fin) (h2 : d.org < x + m) (hlo : max x d.org - x = lo) (hlo2 : max x d.org - d.org = lo2) :
    (Builtin.copy_ #[40, 40] ty #[.slice (some ⟨g, lo, none⟩) (m - lo) c1, .slice (some ⟨d.blk, lo2, none⟩) (d.bs.length - lo2) c2]).run Try.prog W = .ok (goInt ((min (m - lo) (d.bs.length - lo2) : Nat) : Int)) (W.setRow g (bcells (readB (A ++ [d]) x m)).toArray) := by
  have hsp := read_splice (A := A) (d := d) (x := x) (m := m) hA h1 (.inl h2)
  rw [hlo, hlo2] at hsp
  have hlen : ((d.bs.drop lo2).take (m - lo)).length = min (m - lo) (d.bs.length - lo2) := by simp
  unfold Piece.fin at h1
  have := run_copy_bytes W ty (some ⟨g, lo, none⟩) (some ⟨d.blk, lo2, none⟩) (m - lo) c1 (d.bs.length - lo2) c2 g lo (bcells (readB A x m)) hout (bcells ((d.bs.drop lo2).take (m - lo))) (by rw [bcells_length, hlen]; omega)
    (fun _ => ⟨rfl, _, rfl, fun j v hj => by
      have hjl : j < ((d.bs.drop lo2).take (m - lo)).length := by rw [← bcells_length]; exact (List.getElem?_eq_some_iff.1 hj).1
      rw [hlen] at hjl
      unfold Piece.dv at hrow
      rw [Addr.add_lit, hrow.cellAt (lo2 + j) (by omega), ← hj]
      simp only [bcells, List.getElem?_map, List.getElem?_take, List.getElem?_drop]
      rw [if_pos (by omega)]⟩) (by rw [bcells_length, bcells_length, hlen, readB_length]; omega) (bcells_one _)
  rw [this, bcells_splice, hsp, bcells_length, hlen]


end Go.Proofs.Ytbofeednhihniaa
