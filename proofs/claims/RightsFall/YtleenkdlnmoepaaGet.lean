/- (*Bytes).Get: the bytes that are read are those that stand there, noughts in the holes, in new memory. -/
import Derived.Test.YtleenkdlnmoepaaBytes
import Derived.Deep.RegionHeld2
namespace Go.Proofs.Ytleenkdlnmoepaa
open Go.RowKit
attribute [local simp] lcells_nil readB_length bcells_length
theorem info5 : (Try.prog.info? 5).map (fun i => (i.zero, i.size, i.bytes)) = some (some (.int .u8 0), 1, 1) := by kernel_rfl
theorem info56 : (Try.prog.info? 179).map (fun i => (i.zero, i.size, i.bytes)) = some (some (.agg #[.int .i64 0, .slice none 0 0]), 2, 32) := by kernel_rfl

theorem wpList_min3 {P : Program} (w : World) {ops : Array Oper} {rest : List Oper} {o : Oper} {a : Act} {Q : Exit → Act → World → Prop} (hgd : o.guard = none) (x y z : Operand) (ts : Array TypeId)
    (ho : o.op = .call { callee := .builtin .min, args := #[x, y, z], argTypes := ts }) (p q r m : Int) (hx : a.eval x = .int .i64 p) (hy : a.eval y = .int .i64 q) (hz : a.eval z = .int .i64 r)
    (hm : (if r < (if q < p then q else p) then r else (if q < p then q else p)) = m) (h : wpList P ops Q rest (a.put o.dst (.int .i64 m)) w) : wpList P ops Q (o :: rest) a w := by
  refine wpList_plain hgd fun K hK => ?_
  have hr := run_min_int3 (P := P) (w := w) ts o.type .i64 .i64 .i64 p q r
  rw [hm] at hr
  unfold Oper.wp execOp
  simp only [ho, resolve, invoke, builtin, Sem.run_bind, Sem.run_pure, Result.andThen_ok, List.map_toArray, List.map_cons, List.map_nil, hx, hy, hz, hr]
  exact hK _ _ h

theorem wpList_max2 {P : Program} (w : World) {ops : Array Oper} {rest : List Oper} {o : Oper} {a : Act} {Q : Exit → Act → World → Prop} (hgd : o.guard = none) (x y : Operand) (ts : Array TypeId)
    (ho : o.op = .call { callee := .builtin .max, args := #[x, y], argTypes := ts }) (p q m : Int) (hx : a.eval x = .int .i64 p) (hy : a.eval y = .int .i64 q)
    (hm : max p q = m) (h : wpList P ops Q rest (a.put o.dst (.int .i64 m)) w) : wpList P ops Q (o :: rest) a w := by
  refine wpList_plain hgd fun K hK => ?_
  have hr := run_max_int2 (P := P) (w := w) ts o.type .i64 .i64 p q
  rw [show (if p < q then q else p) = m by rw [← hm]; simp only [Int.max_def]; split <;> split <;> omega] at hr
  unfold Oper.wp execOp
  simp only [ho, resolve, invoke, builtin, Sem.run_bind, Sem.run_pure, Result.andThen_ok, List.map_toArray, List.map_cons, List.map_nil, hx, hy, hr]
  exact hK _ _ h

theorem make_bytes (w : World) (m : Nat) (hm : m ≤ 4194305) : (Instr.makeSlice 41 (.int .i64 m) (.int .i64 m)).run Try.prog w = .ok (.slice (some ⟨w.heap.size, 0, none⟩) m m) (w.alloc (.cells (bcells (List.replicate m 0)).toArray 5)) := by
  obtain ⟨i, hi, hz, hs, hb⟩ := info_parts info5
  have h := run_make (P := Try.prog) w 41 5 i (.int .u8 0) Try.underlying41 hi hz .i64 .i64 m m (by omega) (Int.le_refl _) (by rw [hb]; omega) (by omega)
  rw [h, hs]
  simp only [Int.toNat_natCast, Nat.mul_one]
  have e : (madeCells (Value.int .u8 0).cells m) = (bcells (List.replicate m 0)).toArray := by
    apply Array.toList_inj.1
    rw [show (Value.int IntKind.u8 0).cells = #[.int .u8 0] from rfl, toList_madeCells_one]
    simp [bcells]
  rw [e]


theorem step_copy_to {P : Program} {ops : Array Oper} {o : Oper} {a : Act} {w : World} {K : Act → World → Prop} {Q : Exit → Act → World → Prop} {E : Prop}
    (hg : o.guard = none) (d x : Operand) (dT sT : TypeId) (hop : o.op = Op.call { callee := Callee.builtin Builtin.copy, args := #[d, x], argTypes := #[dT, sT] })
    (v u : Value) (hd : a.eval d = v) (hx : a.eval x = u) {v' : Value} {w' : World} (hr : (Builtin.copy_ #[dT, sT] o.type #[v, u]).run P w = .ok v' w') (hK : K (a.put o.dst v') w') :
    if Region.wanted o (yielded ops a.tmps) = true then Oper.wp P o a w K Q else E := by
  have hw : Region.wanted o (yielded ops a.tmps) = true := by simp [Region.wanted, hg]
  rw [if_pos hw]
  unfold Oper.wp
  simp [execOp, hop, resolve, invoke, builtin, hd, hx, hr, Result.andThen]
  exact hK

theorem view_same {w w' : World} {B : Nat} {kb : Option Nat} {rv : Value} {M : List Piece} (h : View w kb rv M) (hk : ∀ g, kb = some g → g < B) (hb : ∀ g, g < B → w'.heap[g]? = w.heap[g]?) : View w' kb rv M := by
  obtain ⟨a, cap, rfl, h⟩ := h
  refine ⟨a, cap, rfl, fun t ht => ?_⟩
  obtain ⟨g, o, rfl, hkg, h0, h1⟩ := h t ht
  exact ⟨g, o, rfl, hkg, (World.cell?_of_block (hb g (hk g hkg))).trans h0, (World.cell?_of_block (hb g (hk g hkg))).trans h1⟩
theorem below_setRow_new {B g : Nat} {w0 w : World} (hb : Below B w0 w) (hBg : B ≤ g) (cs : Array Value) : Below B w0 (w.setRow g cs) :=
  hb.trans ⟨rfl, rfl, rfl, by simp [World.setRow], fun k hk => setRow_other w g k cs (by omega)⟩

theorem copy_piece (W : World) (ty : TypeId) (c1 c2 g : Nat) (A : List Piece) (d : Piece) (x m lo lo2 : Nat) (hrow : W.ownsRow 0 5 1 d.dv d.bs.length (bcells d.bs)) (hout : W.heap[g]? = some (.cells (bcells (readB A x m)).toArray 5 (0, 0)))
    (hA : ∀ e, e ∈ A → e.fin ≤ d.org) (h1 : x < d.fin) (h2 : d.org < x + m) (hlo : max x d.org - x = lo) (hlo2 : max x d.org - d.org = lo2) :
    (Builtin.copy_ #[41, 41] ty #[.slice (some ⟨g, lo, none⟩) (m - lo) c1, .slice (some ⟨d.blk, lo2, none⟩) (d.bs.length - lo2) c2]).run Try.prog W = .ok (goInt ((min (m - lo) (d.bs.length - lo2) : Nat) : Int)) (W.setRow g (bcells (readB (A ++ [d]) x m)).toArray) := by
  have hsp := read_splice (A := A) (d := d) (x := x) (m := m) hA h1 (.inl h2)
  rw [hlo, hlo2] at hsp
  have hlen : ((d.bs.drop lo2).take (m - lo)).length = min (m - lo) (d.bs.length - lo2) := by simp
  unfold Piece.fin at h1
  have := run_copy_bytes W ty (some ⟨g, lo, none⟩) (some ⟨d.blk, lo2, none⟩) (m - lo) c1 (d.bs.length - lo2) c2 g lo (bcells (readB A x m)) hout (bcells ((d.bs.drop lo2).take (m - lo))) (by rw [bcells_length, hlen]; omega)
    (fun _ => ⟨rfl, _, rfl, fun j v hj => by
      have hjl : j < ((d.bs.drop lo2).take (m - lo)).length := by rw [← bcells_length]; exact (List.getElem?_eq_some_iff.1 hj).1
      rw [hlen] at hjl
      unfold Piece.dv at hrow
      rw [Addr.add_lit, hrow.cellAt (lo2 + j) (by omega), ← hj]
      simp only [bcells, List.getElem?_map, List.getElem?_take, List.getElem?_drop]
      rw [if_pos (by omega)]⟩) (by rw [bcells_length, bcells_length, hlen, readB_length]; omega) (bcells_one _)
  rw [this, bcells_splice, hsp, bcells_length, hlen]

set_option maxHeartbeats 1000000 in
theorem get_any (b : Nat) (lv : Value) (sz : Nat) (L : List Piece) (x n : Nat) (w : World) (hI : Inv sz L) (hx : x < sz) (hn : n ≤ 4611686018427387904) (hn0 : 0 < n)
    (hs : w.cell? ⟨b, 0, none⟩ = some (.int .i64 sz)) (hl : w.cell? ⟨b, 2, none⟩ = some lv) (hrow : w.ownsRow 0 179 2 lv L.length (lcells L))
    (hdat : ∀ d, d ∈ L → w.ownsRow 0 5 1 d.dv d.bs.length (bcells d.bs)) :
    Calls Try.prog 109 #[.pointer (some ⟨b, 0, none⟩), .int .i64 x, .int .i64 n] w fun e w' => ∃ m, m = min n (min 65536 (sz - x)) ∧ e = .returned (.slice (some ⟨w.heap.size, 0, none⟩) m m) ∧
      w'.heap[w.heap.size]? = some (.cells (bcells (readB L x m)).toArray 5 (0, 0)) ∧ Below w.heap.size w w' := by
  have hsz := hI.size
  have hxz : (x : Int) < (sz : Int) := by omega
  have g1 : decide ((x : Int) < 0) = false := by simp
  have g2 : decide ((n : Int) < 0) = false := by simp
  have g3 : decide (sz ≤ x) = false := by simp; omega
  obtain ⟨m, hm⟩ : ∃ m, m = min n (min 65536 (sz - x)) := ⟨_, rfl⟩
  have hm1 : m ≤ 65536 := by omega
  have hm0 : 0 < m := by omega
  have hmz : x + m ≤ sz := by omega
  have hmk := fun w => make_bytes w m (by omega)
  have HM := aside hm
  clear hm
  have hmin : (if (sz : Int) - x < (if (65536 : Int) < n then 65536 else (n : Int)) then (sz : Int) - x else (if (65536 : Int) < n then 65536 else (n : Int))) = m := by have := HM.out; split <;> split <;> omega
  have HMIN := aside hmin
  clear hmin
  have hA := below_al w (.cells (bcells (List.replicate m 0)).toArray 5)
  have hbl : b < w.heap.size := World.block_lt_of_cell? w _ hl
  have hlen := hI.len
  have W1 := aside (within_any b lv L x ((x + m : Nat) : Int) (w.alloc (.cells (bcells (List.replicate m 0)).toArray 5)) ((hA.cell hbl).trans hl) (row_below hrow hA) (by omega) hI.bd hI.so (hI.ij (x := x) (y := x + m) (by omega)))
  have HA := aside hA
  have HI := aside hI
  have HD := aside hdat
  have hlb : ∀ g, lv.ownBlock = some g → g < w.heap.size := fun g hg => (hrow.lt g hg).2
  have HLB := aside hlb
  have HMM : Aside (∀ d, d ∈ mid x (x + m) L → d ∈ L ∧ x < d.fin ∧ d.org < x + m) := fun d hd => mid_mem hI hd
  clear hrow hI hA hdat hlb
  go_enter Try.func109, Try.ntmps109
  go_wp2_with ((with_reducible refine wpList_min3 _ rfl _ _ _ _ rfl (n : Int) 65536 ((sz : Int) - x) (m : Int) ?_ ?_ ?_ HMIN.out ?_); rfl; rfl; rfl)
  rw [show (x : Int) + (m : Int) = ((x + m : Nat) : Int) by omega]
  refine W1.out.mono ?_
  rintro e w1 ⟨⟨rv, rfl, hvw⟩, hb1⟩
  change View _ lv.ownBlock rv (mid x (x + m) L) at hvw
  have HV := aside hvw
  obtain ⟨va, vcap, rfl, hvc⟩ := hvw
  generalize hMid : mid x (x + m) L = M at *
  have hml : M.length ≤ 4194304 := by
    obtain ⟨A, B, e, -⟩ := mid_split HI.out (x := x) (y := x + m) (by omega)
    rw [hMid] at e
    have := congrArg List.length e
    simp at this; omega
  have HSub : ∀ k (hlt : k < M.length), ∀ d, d ∈ M.take k → d.fin ≤ M[k].org := by
    intro k hlt d hd
    obtain ⟨A, B, e, -⟩ := mid_split HI.out (x := x) (y := x + m) (by omega)
    rw [hMid] at e
    have hp := HI.out.sep
    rw [e, List.pairwise_append, List.pairwise_append] at hp
    obtain ⟨t, ht, rfl⟩ := List.getElem_of_mem hd
    simp only [List.length_take] at ht
    rw [List.getElem_take]
    exact Nat.le_of_lt (List.pairwise_iff_getElem.1 hp.1.2.1 t k (by omega) hlt (by omega))
  have HSub := aside HSub
  have HRD : Aside (readB M x m = readB L x m) := by
    obtain ⟨A, B, e, hA, hB, -⟩ := mid_split HI.out (x := x) (y := x + m) (by omega)
    rw [hMid] at e
    apply List.map_congr_left
    intro i hi
    have hi := List.mem_range.1 hi
    rw [e, List.append_assoc, byteAt_append_right (fun d hd => by have := hA d hd; omega), byteAt_append_left (fun d hd => by have := hB d hd; omega)]
  clear hvc
  go_wp2
  go_loopw [46] (fun i wr => ∃ k : Nat, k ≤ M.length ∧ i = .int .i64 k ∧ wr.heap[w.heap.size]? = some (.cells (bcells (readB (M.take k) x m)).toArray 5 (0, 0)) ∧ Aside (Below w.heap.size w wr)) (fun i _ => M.length - (intOf i).toNat)
  case atStart =>
    refine ⟨0, Nat.zero_le _, rfl, ?_, HA.out.trans (hb1.mono (by simp))⟩
    rw [hb1.block w.heap.size (by simp), List.take_zero, readB_nil]
    exact heap_alloc_new w _
  case round =>
    obtain ⟨k, hk, rfl, hout, hbr⟩ := hrel
    by_cases hlt : k < M.length
    · obtain ⟨a, cap, he, hvw⟩ := view_same (w' := wr) HV.out HLB.out (fun g hg => (hbr.out.block g hg).trans (HA.out.block g hg).symm)
      obtain ⟨g, o, ha, -, h0, h1⟩ := hvw k hlt
      simp only [Value.slice.injEq, true_and] at he
      obtain ⟨rfl, rfl⟩ := he
      subst ha
      clear hvw
      unfold Piece.dv at h1
      have hltz : (k : Int) < (M.length : Int) := by omega
      have hmm := HMM.out M[k] (List.getElem_mem hlt)
      have hfi := HI.out.fin M[k] hmm.1
      have hne := HI.out.ne M[k] hmm.1
      have hdk := aside (row_below (HD.out M[k] hmm.1) hbr.out)
      obtain ⟨-, hm1, hm2⟩ := hmm
      unfold Piece.fin at hm1 hfi
      unfold Piece.dv at hdk
      obtain ⟨t, ht⟩ : ∃ t, t = max x M[k].org := ⟨_, rfl⟩
      have hmx : max (x : Int) (M[k].org : Int) = (t : Int) := by omega
      have HMX := aside hmx
      have hlo : (t : Int) - (x : Int) = ((t - x : Nat) : Int) := by omega
      have hlo2 : (t : Int) - (M[k].org : Int) = ((t - M[k].org : Nat) : Int) := by omega
      have hc1 : t - x ≤ m := by omega
      have hc2 : t - M[k].org < M[k].bs.length := by omega
      obtain ⟨_, cp, hcp, hcpl, -⟩ := row_form hdk.out
      simp only [Value.slice.injEq, true_and] at hcp
      have hc3 : M[k].bs.length ≤ M[k].cap := by omega
      clear hcp hcpl hmx
      have HT := aside ht
      clear ht
      generalize hlo_ : t - x = lo at *
      generalize hlo2_ : t - M[k].org = lo2 at *
      have HL1 := aside hlo_
      have HL2 := aside hlo2_
      clear hlo_ hlo2_
      go_wp2_with ((with_reducible refine wpList_max2 _ rfl _ _ _ rfl (x : Int) (M[k].org : Int) (t : Int) ?_ ?_ HMX.out ?_); rfl; rfl)
      have hw1 : IntKind.i64.wrap (lo : Int) = (lo : Int) := by rw [IntKind.wrap_i64]; omega
      have hw2 : IntKind.i64.wrap (lo2 : Int) = (lo2 : Int) := by rw [IntKind.wrap_i64]; omega
      have hc4 : ¬ (M[k].cap = lo2) := by omega
      have hc5 : lo2 ≤ M[k].bs.length := by omega
      have hlm : ¬ (m = lo) := by have := HT.out; have := HL1.out; omega
      have hdr1 := fun W (hW : Below wr.heap.size wr W) => row_below hdk.out hW
      have hbg : w.heap.size < wr.heap.size := (Array.getElem?_eq_some_iff.1 hout).1
      have hsub : ∀ d, d ∈ M.take k → d.fin ≤ M[k].org := HSub.out k hlt
      have hcp : ∀ ty W, Below wr.heap.size wr W → ∀ c1 c2, (Builtin.copy_ #[41, 41] ty #[.slice (some ⟨w.heap.size, lo, none⟩) (m - lo) c1, .slice (some ⟨M[k].blk, lo2, none⟩) (M[k].bs.length - lo2) c2]).run Try.prog W = .ok (goInt ((min (m - lo) (M[k].bs.length - lo2) : Nat) : Int)) (W.setRow w.heap.size (bcells (readB (M.take (k + 1)) x m)).toArray) := by
        intro ty W hW c1 c2
        rw [List.take_succ_eq_append_getElem hlt]
        exact copy_piece W ty c1 c2 w.heap.size (M.take k) M[k] x m lo lo2 (hdr1 W hW) ((hW.block _ hbg).trans hout) hsub (by unfold Piece.fin; omega) hm2 (by rw [← HT.out]; exact HL1.out) (by rw [← HT.out]; exact HL2.out)
      have HCP := aside hcp
      clear hcp hdr1
      have hB1 : Below wr.heap.size wr (wr.alloc (Obj.cells #[Value.int IntKind.i64 ↑M[k].org, Value.slice (some ⟨M[k].blk, 0, none⟩) M[k].bs.length M[k].cap] 179)).drew := (below_al _ _).drew
      have HB1 := aside hB1
      clear hB1
      go_region_law (refine step_copy_to rfl _ _ 41 41 rfl _ _ (by simp [Act.eval, Act.put]; rfl) (by simp [Act.eval, Act.put]; rfl) (HCP.out _ _ HB1.out _ _) ?_)
      all_goals
        go_wp2
        go_roundw
        case rel => exact ⟨k + 1, by omega, by go_num, setRow_heap _ _ _ _ _ _ ((HB1.out.block _ hbg).trans hout), below_setRow_new (hbr.out.trans (HB1.out.mono hbr.out.size)) (Nat.le_refl _) _⟩
        case measure => simp [intOf]; omega
    · obtain rfl : k = M.length := by omega
      rw [List.take_length, HRD.out] at hout
      go_wp2
      go_ret
      exact ⟨m, HM.out, rfl, hout, hbr.out⟩
end Go.Proofs.Ytleenkdlnmoepaa
