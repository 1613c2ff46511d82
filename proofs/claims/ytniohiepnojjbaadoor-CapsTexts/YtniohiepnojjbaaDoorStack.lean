/- Stack. -/
import Derived.Test.YtniohiepnojjbaaDoorOverAll
import Derived.Deep.RegionHeld2
namespace Go.Proofs.YtniohiepnojjbaaDoor
open Go.RowKit

/-- A wrapper's four numbers. -/
structure Wr where
  kind : Int
  n : Int
  m : Int
  key : Int

/-- A row of wrappers lies at a place. -/
def RdW (w : World) (blk off : Nat) (ws : List Wr) : Prop := ∀ (j : Nat) (x : Wr), ws[j]? = some x →
  w.cell? ⟨blk, off + j * 4, none⟩ = some (.int .i8 x.kind) ∧ w.cell? ⟨blk, off + j * 4 + 1, none⟩ = some (.int .i64 x.n) ∧ w.cell? ⟨blk, off + j * 4 + 2, none⟩ = some (.int .i64 x.m) ∧ w.cell? ⟨blk, off + j * 4 + 3, none⟩ = some (.int .u64 x.key)

theorem RdW.below {w w' : World} {blk off : Nat} {ws : List Wr} (h : RdW w blk off ws) (hb : Below w.heap.size w w') : RdW w' blk off ws := fun j x hj => by
  obtain ⟨h0, h1, h2, h3⟩ := h j x hj
  exact ⟨(hb.cell (World.block_lt_of_cell? w _ h0)).trans h0, (hb.cell (World.block_lt_of_cell? w _ h1)).trans h1, (hb.cell (World.block_lt_of_cell? w _ h2)).trans h2, (hb.cell (World.block_lt_of_cell? w _ h3)).trans h3⟩

/-- What stands below a wrapper of a stack. -/
def belowN (k can : Nat) : List Nat := if most k = 1 then [can] else [can, 15]
def stackGo : List Int → Nat → Option Nat
  | [], c => some c
  | k :: r, c => if 0 ≤ k ∧ k < 11 then stackGo r (tableN k.toNat (belowN k.toNat c)) else none
/-- Stack's answer: the set and the error. -/
def stackN (ks : List Int) (leaf : Nat) : Nat × Int := if 32 < ks.length then (0, 3) else if 15 < leaf then (0, 2) else match stackGo ks leaf with | some c => (c, 0) | none => (0, 2)

theorem tableN_lt (k : Nat) (bs : List Nat) : tableN k bs < 16 := by
  unfold tableN
  cases cellW k bs <;> cases cellC k bs <;> cases cellH k bs <;> cases cellS k bs <;> decide

theorem belowN_len (k can : Nat) (hk : k < 11) : least k ≤ (belowN k can).length := by
  match k, hk with
  | 0, _ | 1, _ | 2, _ | 3, _ | 4, _ | 5, _ | 6, _ | 7, _ | 8, _ | 9, _ | 10, _ => simp [belowN, most, least]
  | k + 11, h => omega

/-- The call of a row's cells in a stack: its region draws its order. -/
theorem most_cases (k : Nat) (hk : k < 11) : most k = 1 ∨ most k = 2 ∨ most k = 64 := by
  match k, hk with
  | 0, _ | 1, _ | 2, _ | 3, _ | 4, _ | 5, _ | 6, _ | 7, _ | 8, _ | 9, _ | 10, _ => decide
  | k + 11, h => omega

set_option maxHeartbeats 4000000 in
set_option maxRecDepth 100000 in
theorem stack_loop (ws : List Wr) (leaf : Nat) (blk off c : Nat) (w : World) (hr : RdW w blk off ws) (hl : ws.length ≤ 32) (hf : leaf ≤ 15) (hw : ∀ x ∈ ws, -128 ≤ x.kind ∧ x.kind < 128) (r : Nat) (q : Int) (hs : stackN (ws.map (·.kind)) leaf = (r, q)) :
    Calls Tryd.prog 22 #[.slice (some ⟨blk, off, none⟩) ws.length c, .int .u8 (leaf : Int)] w fun e w' => e = .returned (.tuple #[.int .u8 (r : Int), .int .i64 q]) ∧ Below w.heap.size w w' := by
  have HR := aside hr
  have HW := aside hw
  have HS := aside hs
  clear hr hw hs
  have t1 : decide ((32 : Int) < (ws.length : Int)) = false := by simp; omega
  have t2 : decide ((15 : Int) < (leaf : Int)) = false := by simp; omega
  go_enter Tryd.func22, Tryd.ntmps22
  go_wp2
  clear t1 t2
  go_loopg [6, 20] ws.length (fun kx s6 s20 wr => ∃ (can i : Nat), s6 = .int .u8 (can : Int) ∧ s20 = .int .i64 i ∧ i ≤ ws.length ∧ can < 16 ∧ ws.length - i ≤ kx ∧ Aside (Below w.heap.size w wr) ∧ Aside (stackGo (ws.map (·.kind)) leaf = stackGo ((ws.map (·.kind)).drop i) can))
  case atStart => exact ⟨leaf, 0, rfl, rfl, Nat.zero_le _, by omega, by omega, Below.refl _ _, rfl⟩
  case round =>
    obtain ⟨can, i, rfl, rfl, hi, hcan, hk2, hbw, hgo⟩ := hrel
    by_cases hlt : i < ws.length
    · obtain ⟨x, hx⟩ : ∃ x, ws[i]? = some x := ⟨ws[i], List.getElem?_eq_getElem hlt⟩
      obtain ⟨d0, d1, d2, d3⟩ := HR.out.below hbw.out i x hx
      obtain ⟨xk, xn, xm, xy⟩ := x
      have hxk := HW.out _ (List.mem_of_getElem? hx)
      have HX := aside hx
      simp only at d0 d1 d2 d3 hxk
      clear hx
      by_cases hbad : xk < 0 ∨ 10 < xk
      · go_wp2_with fail
        refine (rowOf_miss xk hbad hxk.1 hxk.2 _).mono ?_
        rintro e w1 ⟨rfl, b1⟩
        have B1 := aside (below_tr (below_al wr _) b1)
        clear b1
        go_wp2_with ((with_reducible refine wpList_store_row rfl 69 _ _ rfl _ #[.int .i64 0, .int .i64 0, .nilFunc, .nilFunc, .nilFunc, .nilFunc] ?_ ?_ 69 _ (al_at _ _) ?_ ?_ ?_ ?_); kernel_rfl; kernel_rfl; kernel_rfl; kernel_rfl; kernel_rfl; (generalize hW2 : World.setRow _ _ _ = W2); (have HX2 := aside (new_row _ _ _ _ W2 hW2)); clear hW2)
        go_ret2
        have hgo2 := hgo.out
        rw [show (ws.map (·.kind)).drop i = xk :: (ws.map (·.kind)).drop (i + 1) from by
          rw [List.drop_eq_getElem_cons (by simpa using hlt)]; simp [(List.getElem?_eq_some_iff.1 HX.out).2], stackGo, if_neg (by omega)] at hgo2
        have hs2 := HS.out
        rw [stackN, if_neg (by simpa using hl), if_neg (by omega), hgo2] at hs2
        simp only [Prod.mk.injEq] at hs2
        obtain ⟨rfl, rfl⟩ := hs2
        exact ⟨rfl, below_tr hbw.out (below_tr B1.out HX2.out.2.1)⟩
      · obtain ⟨k, rfl⟩ : ∃ k : Nat, xk = k := ⟨xk.toNat, by omega⟩
        have hk11 : k < 11 := by omega
        go_wp2_with fail
        refine (rowOf_hit k hk11 _).mono ?_
        rintro e w1 ⟨⟨ga, gb, gd, gf, ca, cb, cd, cf, rfl, hA⟩, b1⟩
        have B1 := aside (below_tr (below_al wr _) b1)
        have HA := aside hA
        clear b1 hA d0 d1 d2 d3
        go_wp2_with ((with_reducible refine wpList_store_row rfl 69 _ _ rfl _ #[.int .i64 (least k), .int .i64 (most k), fv ga ca, fv gb cb, fv gd cd, fv gf cf] ?_ ?_ 69 _ (al_at _ _) ?_ ?_ ?_ ?_); kernel_rfl; kernel_rfl; kernel_rfl; kernel_rfl; kernel_rfl; (generalize hW2 : World.setRow _ _ _ = W2); (have HX2 := aside (new_row _ _ _ _ W2 hW2)); clear hW2)
        generalize hW3 : World.alloc W2 _ = W3
        have b3 : Below W2.heap.size W2 W3 := hW3 ▸ below_al _ _
        have e0 : W3.cell? ⟨W2.heap.size, 0, none⟩ = some (.int .u8 (can : Int)) := by subst hW3; go_simp
        have e1 : W3.cell? ⟨W2.heap.size, 1, none⟩ = some (.int .u8 ((15 : Nat) : Int)) := by subst hW3; go_simp
        have hrow : W3.heap[w1.heap.size]? = some (.cells #[.int .i64 (least k), .int .i64 (most k), fv ga ca, fv gb cb, fv gd cd, fv gf cf] 69 (0, 0)) := (b3.block _ (by have := HX2.out.2.2; omega)).trans HX2.out.1
        have hrd : RdB W3 W2.heap.size 0 (belowN k can) := by
          intro j z hj
          unfold belowN at hj
          split at hj
          · match j, hj with
            | 0, hj => simp at hj; subst hj; exact e0
            | j + 1, hj => simp at hj
          · match j, hj with
            | 0, hj => simp at hj; subst hj; exact e0
            | 1, hj => simp at hj; subst hj; exact e1
            | j + 2, hj => simp at hj
        have hA3 : RowAsks _ W3 k (fv ga ca) (fv gb cb) (fv gd cd) (fv gf cf) := (HA.out.keeps (.of HX2.out.2.1 _)).keeps (.of b3 _)
        have hv3 : ∀ z ∈ belowN k can, z < 256 := by
          unfold belowN; split <;> simp <;> omega
        have hlen3 : (belowN k can).length ≤ 2 := by unfold belowN; split <;> simp
        have C := aside (fun d os => over_tab _ k (least k) (most k) _ _ _ _ W2.heap.size 0 2 (belowN k can) (ext W3 d os) (hA3.keeps (.of (below_ext _ _ _) _)) (hrd.below (below_ext _ _ _)) (belowN_len k can hk11) (by omega) hv3)
        have q0 := fun d os => ext_cell ((cell_of_row _ _ 0 _ _ _ hrow).trans (show _ = some (Value.int .i64 (least k)) from rfl)) d os
        have q1 := fun d os => ext_cell ((cell_of_row _ _ 1 _ _ _ hrow).trans (show _ = some (Value.int .i64 (most k)) from rfl)) d os
        have q2 := fun d os => ext_cell ((cell_of_row _ _ 2 _ _ _ hrow).trans (show _ = some (fv ga ca) from rfl)) d os
        have q3 := fun d os => ext_cell ((cell_of_row _ _ 3 _ _ _ hrow).trans (show _ = some (fv gb cb) from rfl)) d os
        have q4 := fun d os => ext_cell ((cell_of_row _ _ 4 _ _ _ hrow).trans (show _ = some (fv gd cd) from rfl)) d os
        have q5 := fun d os => ext_cell ((cell_of_row _ _ 5 _ _ _ hrow).trans (show _ = some (fv gf cf) from rfl)) d os
        have B3 := aside (below_tr hbw.out (below_tr B1.out (below_tr HX2.out.2.1 b3)))
        have hstep := tableN_lt k (belowN k can)
        have HG : Aside (stackGo (ws.map (·.kind)) leaf = stackGo ((ws.map (·.kind)).drop (i + 1)) (tableN k (belowN k can))) := by
          have hgo2 := hgo.out
          rw [show (ws.map (·.kind)).drop i = (k : Int) :: (ws.map (·.kind)).drop (i + 1) from by
            rw [List.drop_eq_getElem_cons (by simpa using hlt)]; simp [(List.getElem?_eq_some_iff.1 HX.out).2], stackGo, if_pos (by omega)] at hgo2
          exact hgo2
        clear b3 e0 e1 hrow hrd hA3 hv3 hlen3 hW3
        generalize hT : tableN k (belowN k can) = T at *
        rcases most_cases k hk11 with hm | hm | hm
        · have hbl : (belowN k can).length = 1 := by simp [belowN, hm]
          rw [hbl, hm] at C
          rw [hm] at q1
          rw [hm]
          refine region_ext (by kernel_rfl) (by kernel_rfl) ?_
          repeat (any_goals (first | go_big_quiet_step ((go_at_call 31; exact calls_ext (C.out _ _))) | quiet_step ((go_at_call 31; exact calls_ext (C.out _ _)))))
          refine wpQuiet_nil ?_
          intro wq hq
          have HQ := aside hq
          clear hq
          go_wp2
          go_roundg (ws.length - (i + 1))
          case measure => omega
          case rel => exact ⟨T, i + 1, rfl, by go_num, by omega, by omega, by omega, below_tr B3.out HQ.out, HG⟩
        · have hbl : (belowN k can).length = 2 := by simp [belowN, hm]
          rw [hbl, hm] at C
          rw [hm] at q1
          rw [hm]
          refine region_ext (by kernel_rfl) (by kernel_rfl) ?_
          repeat (any_goals (first | go_big_quiet_step ((go_at_call 31; exact calls_ext (C.out _ _))) | quiet_step ((go_at_call 31; exact calls_ext (C.out _ _)))))
          refine wpQuiet_nil ?_
          intro wq hq
          have HQ := aside hq
          clear hq
          go_wp2
          go_roundg (ws.length - (i + 1))
          case measure => omega
          case rel => exact ⟨T, i + 1, rfl, by go_num, by omega, by omega, by omega, below_tr B3.out HQ.out, HG⟩
        · have hbl : (belowN k can).length = 2 := by simp [belowN, hm]
          rw [hbl, hm] at C
          rw [hm] at q1
          rw [hm]
          refine region_ext (by kernel_rfl) (by kernel_rfl) ?_
          repeat (any_goals (first | go_big_quiet_step ((go_at_call 31; exact calls_ext (C.out _ _))) | quiet_step ((go_at_call 31; exact calls_ext (C.out _ _)))))
          refine wpQuiet_nil ?_
          intro wq hq
          have HQ := aside hq
          clear hq
          go_wp2
          go_roundg (ws.length - (i + 1))
          case measure => omega
          case rel => exact ⟨T, i + 1, rfl, by go_num, by omega, by omega, by omega, below_tr B3.out HQ.out, HG⟩
    · obtain rfl : i = ws.length := by omega
      go_wp2
      go_ret2
      have hgo2 := hgo.out
      rw [List.drop_of_length_le (by simp)] at hgo2
      have hs2 := HS.out
      rw [stackN, if_neg (by simpa using hl), if_neg (by omega), hgo2] at hs2
      simp only [stackGo, Prod.mk.injEq] at hs2
      obtain ⟨rfl, rfl⟩ := hs2
      exact ⟨rfl, hbw.out⟩

set_option maxHeartbeats 1000000 in
theorem stack_long (a : Option Addr) (l c : Nat) (leaf : Int) (w : World) (hl : 32 < l) :
    Calls Tryd.prog 22 #[.slice a l c, .int .u8 leaf] w fun e w' => e = .returned (.tuple #[.int .u8 0, .int .i64 3]) ∧ Below w.heap.size w w' := by
  have t1 : (32 : Int) < (l : Int) := by omega
  go_enter Tryd.func22, Tryd.ntmps22
  go_wp2
  go_ret2
  exact ⟨rfl, Below.refl _ _⟩

set_option maxHeartbeats 1000000 in
theorem stack_leaf (a : Option Addr) (l c : Nat) (leaf : Int) (w : World) (hl : l ≤ 32) (h15 : 15 < leaf) :
    Calls Tryd.prog 22 #[.slice a l c, .int .u8 leaf] w fun e w' => e = .returned (.tuple #[.int .u8 0, .int .i64 2]) ∧ Below w.heap.size w w' := by
  have t1 : decide ((32 : Int) < (l : Int)) = false := by simp; omega
  go_enter Tryd.func22, Tryd.ntmps22
  go_wp2
  go_ret2
  exact ⟨rfl, Below.refl _ _⟩

set_option maxHeartbeats 1000000 in
theorem stack_none (a : Option Addr) (c : Nat) (leaf : Nat) (w : World) (h15 : leaf ≤ 15) :
    Calls Tryd.prog 22 #[.slice a 0 c, .int .u8 (leaf : Int)] w fun e w' => e = .returned (.tuple #[.int .u8 (leaf : Int), .int .i64 0]) ∧ Below w.heap.size w w' := by
  have t2 : decide ((15 : Int) < (leaf : Int)) = false := by simp; omega
  go_enter Tryd.func22, Tryd.ntmps22
  go_wp2
  go_loopg [6, 20] 0 (fun kx s6 s20 wr => s6 = .int .u8 (leaf : Int) ∧ s20 = .int .i64 0 ∧ wr = w)
  case atStart => exact ⟨rfl, rfl, rfl⟩
  case round =>
    obtain ⟨rfl, rfl, rfl⟩ := hrel
    go_wp2
    go_ret2
    exact ⟨rfl, Below.refl _ _⟩

/-- Stack, of any wrappers and any leaf. -/
theorem stack_any (ws : List Wr) (leaf : Nat) (a : Option Addr) (c : Nat) (w : World) (ha : ws ≠ [] → ∃ blk off, a = some ⟨blk, off, none⟩ ∧ RdW w blk off ws) (hw : ∀ x ∈ ws, -128 ≤ x.kind ∧ x.kind < 128) :
    Calls Tryd.prog 22 #[.slice a ws.length c, .int .u8 (leaf : Int)] w fun e w' => e = .returned (.tuple #[.int .u8 ((stackN (ws.map (·.kind)) leaf).1 : Int), .int .i64 (stackN (ws.map (·.kind)) leaf).2]) ∧ Below w.heap.size w w' := by
  by_cases hl : 32 < ws.length
  · rw [stackN, if_pos (by simpa using hl)]
    exact stack_long a ws.length c leaf w hl
  · by_cases h15 : 15 < leaf
    · rw [stackN, if_neg (by simpa using hl), if_pos h15]
      exact stack_leaf a ws.length c leaf w (by omega) (by omega)
    · match ws, ha, hw, hl with
      | [], _, _, _ =>
        rw [stackN, if_neg (by simp), if_neg h15]
        exact stack_none a c leaf w (by omega)
      | x :: r, ha, hw, hl =>
        obtain ⟨blk, off, rfl, hr⟩ := ha (by simp)
        exact stack_loop (x :: r) leaf blk off c w hr (by omega) (by omega) hw _ _ rfl
end Go.Proofs.YtniohiepnojjbaaDoor
