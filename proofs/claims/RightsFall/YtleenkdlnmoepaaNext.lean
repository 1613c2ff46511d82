/- (*Bytes).Next and New. -/
import Derived.Test.YtleenkdlnmoepaaPut
namespace Go.Proofs.Ytleenkdlnmoepaa
open Go.RowKit
attribute [local simp] lcells_nil readB_length bcells_length
/-- What Next tells from x on. -/
def nextOf (L : List Piece) (sz x : Nat) : Nat × Nat := match L.find? (fun d => decide (x < d.fin)) with | some d => (max x d.org, d.fin) | none => (sz, sz)

theorem nextOf_idx (L : List Piece) (sz x : Nat) : (L.findIdx (fun d => decide ((x : Int) < d.fin)) = L.length ∧ nextOf L sz x = (sz, sz)) ∨
    ∃ h : L.findIdx (fun d => decide ((x : Int) < d.fin)) < L.length, nextOf L sz x = (max x L[L.findIdx (fun d => decide ((x : Int) < d.fin))].org, L[L.findIdx (fun d => decide ((x : Int) < d.fin))].fin) := by
  have e : (fun d : Piece => decide ((x : Int) < d.fin)) = (fun d : Piece => decide (x < d.fin)) := by funext d; simp
  rw [e]
  unfold nextOf
  rcases Nat.lt_or_ge (L.findIdx (fun d => decide (x < d.fin))) L.length with h | h
  · right
    refine ⟨h, ?_⟩
    have hf : L.find? (fun d => decide (x < d.fin)) = some L[L.findIdx (fun d => decide (x < d.fin))] := by
      rw [List.find?_eq_some_iff_getElem]
      refine ⟨findIdx_at (q := fun d : Piece => decide (x < d.fin)) h, _, h, rfl, fun j hj => ?_⟩
      have := List.not_of_lt_findIdx hj
      simpa using this
    rw [hf]
  · left
    have hle : L.findIdx (fun d => decide (x < d.fin)) ≤ L.length := List.findIdx_le_length
    refine ⟨by omega, ?_⟩
    have hf : L.find? (fun d => decide (x < d.fin)) = none := List.find?_eq_none.2 (fun d hd => by have := List.findIdx_eq_length.1 (show L.findIdx (fun d => decide (x < d.fin)) = L.length by omega) d hd; simpa using this)
    rw [hf]

theorem ret_pair {a b c d : Int} (h1 : a = c) (h2 : b = d) : Ending.returned (.tuple #[.int .i64 a, .int .i64 b]) = .returned (.tuple #[.int .i64 c, .int .i64 d]) := by rw [h1, h2]
theorem new_cell (w : World) (v : Value) (t : TypeId) : (w.alloc (.cells #[v] t)).cell? ⟨w.heap.size, 0, none⟩ = some v := by go_simp

set_option maxHeartbeats 1000000 in
theorem next_any (b sz : Nat) (lv : Value) (L : List Piece) (t : Int) (w : World) (hR : Rep w b sz lv L) (ht : t ≤ 9223372036854775807) :
    Calls Try.prog 83 #[.pointer (some ⟨b, 0, none⟩), .int .i64 t] w fun e w' => e = .returned (.tuple #[.int .i64 ((nextOf L sz t.toNat).1 : Nat), .int .i64 ((nextOf L sz t.toNat).2 : Nat)]) ∧ Below w.heap.size w w' := by
  obtain ⟨x, hx⟩ : ∃ x, x = t.toNat := ⟨_, rfl⟩
  rw [← hx]
  obtain ⟨c0, -, c2⟩ := hR.cells
  have hbl : b < w.heap.size := World.block_lt_of_cell? w _ c0
  have hmx : max t 0 = (x : Int) := by omega
  have hxb : x ≤ 9223372036854775807 := by omega
  have HMX := aside hmx
  have hA := below_al w (.cells #[.int .i64 x] 2)
  have hlen := hR.inv.len
  have e40 : ∀ args w, (callFunc 86 args).run Try.prog w = .ok (.enter 86 args) w := enters_of Try.func86 (by kernel_rfl) rfl
  have cx : (w.alloc (.cells #[.int .i64 x] 2)).cell? ⟨w.heap.size, 0, none⟩ = some (.int .i64 x) := new_cell w _ _
  have bx : w.heap.size < (w.alloc (.cells #[.int .i64 x] 2)).heap.size := by simp
  have S1 := search_any 86 #[.pointer (some ⟨w.heap.size, 0, none⟩)] e40 b lv L (fun d => decide ((x : Int) < d.fin)) (w.alloc (.cells #[.int .i64 x] 2)) ((hA.cell hbl).trans c2) (row_below hR.str.row hA) (by omega)
      (fun d hd V hV => next1_any d.org (some ⟨d.blk, 0, none⟩) d.bs.length d.cap w.heap.size x V (by omega) (by have := (hR.inv.bd d hd).1; omega) (hR.inv.bd d hd).2 ((hV.cell bx).trans cx))
      (fun a c ha hc hac h => by have := (hR.inv.so a c ha hc hac).2; simp at h ⊢; omega)
  have hidx := nextOf_idx L sz x
  generalize hk : L.findIdx (fun d => decide ((x : Int) < d.fin)) = k at *
  have HS := aside S1
  have HR := aside hR
  have HA := aside hA
  have HI := aside hidx
  have HCX := aside cx
  obtain ⟨la, cap, hlv, -, -⟩ := row_form hR.str.row
  have HLV := aside hlv
  rw [hlv] at c2
  clear S1 hR hA hidx hmx hx hk cx hlv
  go_enter Try.func83, Try.ntmps83
  go_wp2_with ((with_reducible refine wpList_max2 _ rfl _ _ _ rfl t 0 (x : Int) ?_ ?_ HMX.out ?_); rfl; rfl)
  refine HS.out.mono ?_
  rintro e w1 ⟨rfl, hb1⟩
  have hw1 := below_tr HA.out hb1
  have d0 : w1.cell? ⟨b, 0, none⟩ = some (.int .i64 sz) := (hw1.cell hbl).trans c0
  have d2 : w1.cell? ⟨b, 2, none⟩ = some (.slice la L.length cap) := (hw1.cell hbl).trans c2
  have dx : w1.cell? ⟨w.heap.size, 0, none⟩ = some (.int .i64 x) := (hb1.cell bx).trans HCX.out
  have HW1 := aside hw1
  clear hw1 hb1
  rcases HI.out with ⟨hkL, hnx⟩ | ⟨hkL, hnx⟩
  · have hke : ((k : Int) == (L.length : Int)) = true := by simp [hkL]
    have x0 : ∀ d os, (ext w1 d os).cell? ⟨b, 0, none⟩ = some (.int .i64 sz) := fun d os => ext_cell d0 d os
    have HNX := aside hnx
    have HKL := aside hkL
    clear hnx hkL
    go_wp2
    refine region_ext (by kernel_rfl) (by kernel_rfl) ?_
    repeat (any_goals (first | go_big_quiet_step ((fail)) | quiet_step ((fail))))
    refine wpQuiet_nil ?_
    intro wq hq
    go_wp2
    go_ret2
    exact ⟨by rw [HNX.out]; rfl, below_tr HW1.out hq⟩
  · have hke : ((k : Int) == (L.length : Int)) = false := by simp; omega
    have hkz : (k : Int) < (L.length : Int) := by omega
    obtain ⟨lg, lc, he, h0, h1⟩ := row_at (row_below HR.out.str.row HW1.out) hkL
    rw [HLV.out] at he
    simp only [Value.slice.injEq, true_and] at he
    obtain ⟨rfl, rfl⟩ := he
    have hbd := HR.out.inv.bd L[k] (List.getElem_mem hkL)
    unfold Piece.dv at h1
    unfold Piece.fin at hnx
    have HNX := aside hnx
    clear hnx
    generalize L[k].org = f at *
    generalize L[k].bs.length = n at *
    generalize L[k].blk = gb at *
    generalize L[k].cap = gc at *
    obtain ⟨R, hRd⟩ : ∃ R, R = Obj.cells #[Value.int IntKind.i64 (f : Int), Value.slice (some ⟨gb, 0, none⟩) n gc] 179 := ⟨_, rfl⟩
    have hA1 := aside (below_al w1 R)
    have hxx := aside (((below_al w1 R).cell (World.block_lt_of_cell? w1 _ dx)).trans dx)
    have hr0 : ∀ d os, (ext (w1.alloc (Obj.cells #[Value.int IntKind.i64 (f : Int), Value.slice (some ⟨gb, 0, none⟩) n gc] 179)) d os).cell? ⟨w1.heap.size, 0, none⟩ = some (.int .i64 f) := fun d os => ext_cell (by go_simp) d os
    have hr1 : ∀ d os, (ext (w1.alloc (Obj.cells #[Value.int IntKind.i64 (f : Int), Value.slice (some ⟨gb, 0, none⟩) n gc] 179)) d os).cell? ⟨w1.heap.size, 1, none⟩ = some (.slice (some ⟨gb, 0, none⟩) n gc) := fun d os => ext_cell (by go_simp) d os
    have hr2 : ∀ d os, (ext (w1.alloc (Obj.cells #[Value.int IntKind.i64 (f : Int), Value.slice (some ⟨gb, 0, none⟩) n gc] 179)) d os).cell? ⟨w.heap.size, 0, none⟩ = some (.int .i64 x) := fun d os => ext_cell (by rw [← hRd]; exact hxx.out) d os
    clear hRd
    go_wp2
    refine region_ext (by kernel_rfl) (by kernel_rfl) ?_
    repeat (any_goals (first | go_big_quiet_step ((go_at_call 46; exact calls_ext (to_any _ _ _ _ _ (by omega) (by omega) (by omega)))) | quiet_step ((go_at_call 46; exact calls_ext (to_any _ _ _ _ _ (by omega) (by omega) (by omega))))))
    refine wpQuiet_nil ?_
    intro wq hq
    go_wp2
    all_goals
      go_ret2
      refine ⟨?_, below_tr HW1.out (below_tr (below_al w1 _) hq)⟩
      rw [HNX.out]
      exact ret_pair (by omega) (by omega)

theorem wpList_min2 {P : Program} (w : World) {ops : Array Oper} {rest : List Oper} {o : Oper} {a : Act} {Q : Exit → Act → World → Prop} (hgd : o.guard = none) (x y : Operand) (ts : Array TypeId)
    (ho : o.op = .call { callee := .builtin .min, args := #[x, y], argTypes := ts }) (p q m : Int) (hx : a.eval x = .int .i64 p) (hy : a.eval y = .int .i64 q)
    (hm : min p q = m) (h : wpList P ops Q rest (a.put o.dst (.int .i64 m)) w) : wpList P ops Q (o :: rest) a w := by
  refine wpList_plain hgd fun K hK => ?_
  have hr := run_min_int2 (P := P) (w := w) ts o.type .i64 .i64 p q
  rw [show (if q < p then q else p) = m by rw [← hm]; simp only [Int.min_def]; split <;> split <;> omega] at hr
  unfold Oper.wp execOp
  simp only [ho, resolve, invoke, builtin, Sem.run_bind, Sem.run_pure, Result.andThen_ok, List.map_toArray, List.map_cons, List.map_nil, hx, hy, hr]
  exact hK _ _ h

theorem rep_new (w : World) : Rep (w.alloc (.cells #[.int .i64 0, .int .i64 0, .slice none 0 0] 115)) w.heap.size 0 (.slice none 0 0) [] :=
  ⟨⟨heap_alloc_new w _, World.ownsRow_nil _ _ _ _, by simp, by simp [Value.ownBlock], by simp, by simp⟩, ⟨by simp, by simp, by simp, by omega, by simp [heldOf]⟩⟩

set_option maxHeartbeats 1000000 in
theorem new_any (src : Addr) (l : List UInt8) (c : Nat) (w : World) (h0 : 0 < l.length) (hlc : l.length ≤ c) (hc : c ≤ 4611686018427387904) (hsrc : ∀ j v, (bcells l)[j]? = some v → w.cell? (src.add j) = some v) :
    Calls Try.prog 23 #[.slice (some src) l.length c] w fun e w' => e = .returned (.pointer (some ⟨w.heap.size, 0, none⟩)) ∧ ∃ lv g cap, Rep w' w.heap.size (l.take 4194304).length lv [⟨0, g, cap, l.take 4194304⟩] ∧ Below w.heap.size w w' ∧ ∀ k, Foot w.heap.size lv [⟨0, g, cap, l.take 4194304⟩] k → w.heap.size ≤ k := by
  obtain ⟨m, hm⟩ : ∃ m, m = (l.take 4194304).length := ⟨_, rfl⟩
  have hm2 : m = min l.length 4194304 := by rw [hm, List.length_take]; omega
  have hmn : min (l.length : Int) 4194304 = (m : Int) := by omega
  have hA := below_al w (.cells #[.int .i64 0, .int .i64 0, .slice none 0 0] 115)
  have P1 := putEnd_any w.heap.size 0 (.slice none 0 0) [] 0 src (l.take 4194304) c (w.alloc (.cells #[.int .i64 0, .int .i64 0, .slice none 0 0] 115)) (rep_new w) (by simp) (by omega) (by omega) (by simp [heldOf]; omega)
    (fun j v hj => by
      have h2 : (bcells l)[j]? = some v := by
        have e : bcells (l.take 4194304) = (bcells l).take 4194304 := by simp [bcells, List.map_take]
        rw [e, List.getElem?_take] at hj
        split at hj
        · exact hj
        · cases hj
      exact (hA.cell (World.block_lt_of_cell? w _ (hsrc j v h2))).trans (hsrc j v h2))
  rw [← hm] at P1 ⊢
  have HP := aside P1
  have HMN := aside hmn
  have HA := aside hA
  have hmc : m ≤ c := by omega
  have hmi : (m : Int) ≤ (c : Int) := by omega
  clear P1 hmn hA hsrc hm hm2
  go_enter Try.func23, Try.ntmps23
  go_wp2_with ((with_reducible refine wpList_min2 _ rfl _ _ _ rfl (l.length : Int) 4194304 (m : Int) ?_ ?_ HMN.out ?_); rfl; rfl)
  refine HP.out.mono ?_
  rintro e w1 ⟨rfl, lv, g, cap, hR, hu, hg, hk⟩
  go_wp2
  go_ret
  refine ⟨rfl, lv, g, cap, ?_, ?_, ?_⟩
  · simpa using hR
  · refine HA.out.trans (hu.below (by simp) (fun k hk => ?_))
    rcases hk with e | e | ⟨d, hd, -⟩
    · omega
    · simp [Value.ownBlock] at e
    · simp at hd
  · intro k hk
    rw [World.size_alloc] at hg
    rcases hk with e | e | ⟨d, hd, e⟩
    · omega
    · rcases ‹lv.ownBlock = _ ∨ _› with e1 | ⟨j, e1, hj⟩
      · rw [e1] at e; simp [Value.ownBlock] at e
      · rw [e1] at e; injection e with e; rw [World.size_alloc] at hj; omega
    · rw [List.mem_singleton.1 hd] at e; simp only at e; omega
end Go.Proofs.Ytleenkdlnmoepaa
