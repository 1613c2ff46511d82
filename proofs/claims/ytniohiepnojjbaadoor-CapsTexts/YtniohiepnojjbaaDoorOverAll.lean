/- Over, whole. -/
import Derived.Test.YtniohiepnojjbaaDoorOver
namespace Go.Proofs.YtniohiepnojjbaaDoor
open Go.RowKit

/-- What the table tells of a kind over some files. -/
def tableN (k : Nat) (bs : List Nat) : Nat := (if cellW k bs then 1 else 0) ||| (if cellC k bs then 2 else 0) ||| (if cellH k bs then 4 else 0) ||| (if cellS k bs then 8 else 0)

theorem over_tab (n k : Nat) (a b : Int) (vw vc vh vs : Value) (blk off c : Nat) (bs : List Nat) (w : World) (hA : RowAsks n w k vw vc vh vs) (hr : RdB w blk off bs) (hl : least k ≤ bs.length) (hl2 : bs.length < 4611686018427387904) (hv : ∀ x ∈ bs, x < 256) :
    Calls Tryd.prog 31 #[.agg #[.int .i64 a, .int .i64 b, vw, vc, vh, vs], .slice (some ⟨blk, off, none⟩) bs.length c] w fun e w' => e = .returned (.int .u8 (tableN k bs : Int)) ∧ Below w.heap.size w w' :=
  over_row n k a b vw vc vh vs blk off c bs w hA hr hl hl2 hv

/-- May a wrapper stand over these files? -/
def fitsN (k : Int) (bs : List Nat) : Bool := decide (0 ≤ k) && decide (k < 11) && decide (least k.toNat ≤ bs.length) && decide (bs.length ≤ most k.toNat) && bs.all (· ≤ 15)

/-- Over's answer: the set and the error. -/
def overN (k : Int) (bs : List Nat) : Nat × Int := if fitsN k bs then (tableN k.toNat bs, 0) else (0, 2)

abbrev wrapV (k n m y : Int) : Value := .agg #[.int .i8 k, .int .i64 n, .int .i64 m, .int .u64 y]

theorem least_pos (k : Nat) : 1 ≤ least k := by unfold least; split <;> omega
theorem least_le (k : Nat) : least k ≤ 2 := by unfold least; split <;> omega
theorem most_le (k : Nat) : most k ≤ 64 := by unfold most least; split <;> (try split) <;> omega

theorem new_row (w1 : World) (z R : Array Value) (t : TypeId) (W2 : World) (h : World.setRow (w1.alloc (Obj.cells z t)) w1.heap.size R = W2) :
    W2.heap[w1.heap.size]? = some (.cells R t (0, 0)) ∧ Below w1.heap.size w1 W2 ∧ W2.heap.size = w1.heap.size + 1 := by
  subst h
  exact ⟨setRow_heap _ _ _ _ _ _ (al_at _ _), below_setRow (below_al _ _) (Nat.le_refl _) _, by simp⟩

set_option maxHeartbeats 2000000 in
set_option maxRecDepth 100000 in
theorem over_miss (k n m y : Int) (hk : k < 0 ∨ 10 < k) (h1 : -128 ≤ k) (h2 : k < 128) (a : Option Addr) (l c : Nat) (w : World) :
    Calls Tryd.prog 20 #[.agg #[.int .i8 k, .int .i64 n, .int .i64 m, .int .u64 y], .slice a l c] w fun e w' => e = .returned (.tuple #[.int .u8 0, .int .i64 2]) ∧ Below w.heap.size w w' := by
  go_enter Tryd.func20, Tryd.ntmps20
  go_wp2_with fail
  refine (rowOf_miss k hk h1 h2 _).mono ?_
  rintro e w1 ⟨rfl, b1⟩
  have B1 := aside (below_tr (below_al w _) b1)
  clear b1
  go_wp2_with ((with_reducible refine wpList_store_row rfl 69 _ _ rfl _ #[.int .i64 0, .int .i64 0, .nilFunc, .nilFunc, .nilFunc, .nilFunc] ?_ ?_ 69 _ (al_at _ _) ?_ ?_ ?_ ?_); kernel_rfl; kernel_rfl; kernel_rfl; kernel_rfl; kernel_rfl; (generalize hW2 : World.setRow _ _ _ = W2); (have HX := aside (new_row _ _ _ _ W2 hW2)); clear hW2)
  go_ret2
  exact ⟨rfl, below_tr B1.out HX.out.2.1⟩

set_option maxHeartbeats 2000000 in
set_option maxRecDepth 100000 in
theorem over_len (k : Nat) (n m y : Int) (hk : k < 11) (a : Option Addr) (l c : Nat) (hl : l < least k ∨ most k < l) (w : World) :
    Calls Tryd.prog 20 #[.agg #[.int .i8 (k : Int), .int .i64 n, .int .i64 m, .int .u64 y], .slice a l c] w fun e w' => e = .returned (.tuple #[.int .u8 0, .int .i64 2]) ∧ Below w.heap.size w w' := by
  go_enter Tryd.func20, Tryd.ntmps20
  go_wp2_with fail
  refine (rowOf_hit k hk _).mono ?_
  rintro e w1 ⟨⟨ga, gb, gd, gf, ca, cb, cd, cf, rfl, -⟩, b1⟩
  have B1 := aside (below_tr (below_al w _) b1)
  clear b1
  have t1 : (decide ((l : Int) < (least k : Int)) || decide ((most k : Int) < (l : Int))) = true := by simp; omega
  go_wp2_with ((with_reducible refine wpList_store_row rfl 69 _ _ rfl _ #[.int .i64 (least k), .int .i64 (most k), fv ga ca, fv gb cb, fv gd cd, fv gf cf] ?_ ?_ 69 _ (al_at _ _) ?_ ?_ ?_ ?_); kernel_rfl; kernel_rfl; kernel_rfl; kernel_rfl; kernel_rfl; (generalize hW2 : World.setRow _ _ _ = W2); (have HX := aside (new_row _ _ _ _ W2 hW2)); (have c0 := (cell_of_row _ _ 0 _ _ _ HX.out.1).trans (show _ = some (Value.int .i64 (least k)) from rfl)); (have c1 := (cell_of_row _ _ 1 _ _ _ HX.out.1).trans (show _ = some (Value.int .i64 (most k)) from rfl)); clear hW2)
  all_goals
    go_ret2
    exact ⟨rfl, below_tr B1.out HX.out.2.1⟩

set_option maxHeartbeats 2000000 in
set_option maxRecDepth 100000 in
theorem over_in (k : Nat) (n m y : Int) (hk : k < 11) (blk off c : Nat) (bs : List Nat) (hl : least k ≤ bs.length) (hm : bs.length ≤ most k) (w : World) (hr : RdB w blk off bs) (hv : ∀ x ∈ bs, x < 256) (r : Nat) (q : Int)
    (hyes : bs.all (· ≤ 15) = true → r = tableN k bs ∧ q = 0) (hno : bs.all (· ≤ 15) = false → r = 0 ∧ q = 2) :
    Calls Tryd.prog 20 #[.agg #[.int .i8 (k : Int), .int .i64 n, .int .i64 m, .int .u64 y], .slice (some ⟨blk, off, none⟩) bs.length c] w fun e w' =>
      e = .returned (.tuple #[.int .u8 (r : Int), .int .i64 q]) ∧ Below w.heap.size w w' := by
  have HYES := aside hyes
  have HNO := aside hno
  clear hyes hno
  have hm64 := most_le k
  go_enter Tryd.func20, Tryd.ntmps20
  go_wp2_with fail
  refine (rowOf_hit k hk _).mono ?_
  rintro e w1 ⟨⟨ga, gb, gd, gf, ca, cb, cd, cf, rfl, hA⟩, b1⟩
  have B1 := aside (below_tr (below_al w _) b1)
  have HA := aside hA
  have HR := aside hr
  have HV := aside hv
  clear b1 hA hr hv
  have t1 : decide ((bs.length : Int) < (least k : Int)) = false := by simp; omega
  have t2 : decide ((most k : Int) < (bs.length : Int)) = false := by simp; omega
  go_wp2_with ((with_reducible refine wpList_store_row rfl 69 _ _ rfl _ #[.int .i64 (least k), .int .i64 (most k), fv ga ca, fv gb cb, fv gd cd, fv gf cf] ?_ ?_ 69 _ (al_at _ _) ?_ ?_ ?_ ?_); kernel_rfl; kernel_rfl; kernel_rfl; kernel_rfl; kernel_rfl; (generalize hW2 : World.setRow _ _ _ = W2); (have HX := aside (new_row _ _ _ _ W2 hW2)); (have c0 := (cell_of_row _ _ 0 _ _ _ HX.out.1).trans (show _ = some (Value.int .i64 (least k)) from rfl)); (have c1 := (cell_of_row _ _ 1 _ _ _ HX.out.1).trans (show _ = some (Value.int .i64 (most k)) from rfl)); clear hW2)
  have HD := aside (show Below w.heap.size w W2 from below_tr B1.out HX.out.2.1)
  have hrd2 := aside (HR.out.below HD.out)
  have hA2 := aside (HA.out.keeps (.of HX.out.2.1 _))
  have hcell := aside HX.out.1
  clear c0 c1 t1 t2 HX
  go_loopg [34] bs.length (fun kx s34 wr => ∃ i : Nat, s34 = .int .i64 i ∧ i ≤ bs.length ∧ bs.length - i ≤ kx ∧ wr = W2 ∧ Aside (∀ j x, j < i → bs[j]? = some x → x ≤ 15))
  case atStart => exact ⟨0, rfl, Nat.zero_le _, by omega, rfl, (fun j x h => absurd h (Nat.not_lt_zero _) : ∀ j x, j < 0 → bs[j]? = some x → x ≤ 15)⟩
  case round =>
    obtain ⟨i, rfl, hi, hk2, rfl, hq⟩ := hrel
    by_cases hlt : i < bs.length
    · obtain ⟨x, hx⟩ : ∃ x, bs[i]? = some x := ⟨bs[i], List.getElem?_eq_getElem hlt⟩
      have hc := hrd2.out i x hx
      have HXX := aside hx
      clear hx
      by_cases h15 : x ≤ 15
      · have t3 : decide ((15 : Int) < (x : Int)) = false := by simp; omega
        go_wp2
        go_roundg (bs.length - (i + 1))
        case measure => omega
        case rel =>
          refine ⟨i + 1, by go_num, by omega, by omega, rfl, (fun j z hj hz => ?_ : ∀ j x, j < i + 1 → bs[j]? = some x → x ≤ 15)⟩
          by_cases hji : j < i
          · exact hq.out j z hji hz
          · obtain rfl : j = i := by omega
            rw [HXX.out] at hz; cases hz; exact h15
      · have t3 : (15 : Int) < (x : Int) := by omega
        obtain ⟨rfl, rfl⟩ := HNO.out (by rw [List.all_eq_false]; exact ⟨x, List.mem_of_getElem? HXX.out, by simpa using h15⟩)
        go_wp2
        go_ret2
        exact ⟨rfl, HD.out⟩
    · obtain rfl : i = bs.length := by omega
      obtain ⟨hr1, rfl⟩ := HYES.out (by
        rw [List.all_eq_true]; intro x hx; obtain ⟨j, hj, rfl⟩ := List.getElem_of_mem hx
        simpa using hq.out j _ hj (List.getElem?_eq_getElem hj))
      have HR1 := aside hr1
      clear hr1
      go_wp2_with (first | ((with_reducible refine wpList_load_row rfl 69 _ rfl _ ?_ 69 _ (0, 0) _ hcell.out Tryd.underlying69 rfl ?_ ?_); kernel_rfl; kernel_rfl) | fail)
      refine (over_tab _ k _ _ _ _ _ _ blk off c bs _ hA2.out hrd2.out hl (by omega) HV.out).mono ?_
      rintro e w3 ⟨rfl, b3⟩
      go_wp2
      go_ret2
      exact ⟨by rw [HR1.out]; rfl, below_tr HD.out b3⟩

/-- Over, of any wrapper and any sets. -/
theorem over_any (k n m y : Int) (h1 : -128 ≤ k) (h2 : k < 128) (a : Option Addr) (c : Nat) (bs : List Nat) (w : World) (ha : bs ≠ [] → ∃ blk off, a = some ⟨blk, off, none⟩ ∧ RdB w blk off bs) (hv : ∀ x ∈ bs, x < 256) :
    Calls Tryd.prog 20 #[.agg #[.int .i8 k, .int .i64 n, .int .i64 m, .int .u64 y], .slice a bs.length c] w fun e w' => e = .returned (.tuple #[.int .u8 ((overN k bs).1 : Int), .int .i64 (overN k bs).2]) ∧ Below w.heap.size w w' := by
  by_cases hk : 0 ≤ k ∧ k < 11
  · obtain ⟨q, rfl⟩ : ∃ q : Nat, k = q := ⟨k.toNat, by omega⟩
    by_cases hl : least q ≤ bs.length ∧ bs.length ≤ most q
    · have hne : bs ≠ [] := by rintro rfl; have := least_pos q; simp at hl; omega
      obtain ⟨blk, off, rfl, hr⟩ := ha hne
      have e1 : fitsN q bs = bs.all (· ≤ 15) := by simp [fitsN, hl.1, hl.2]; omega
      exact over_in q n m y (by omega) blk off c bs hl.1 hl.2 w hr hv _ _ (fun h => by rw [overN, e1, h]; exact ⟨rfl, rfl⟩) (fun h => by rw [overN, e1, h]; exact ⟨rfl, rfl⟩)
    · refine (over_len q n m y (by omega) a bs.length c (by omega) w).mono ?_
      rintro e w' ⟨rfl, hb⟩
      refine ⟨?_, hb⟩
      have e1 : fitsN q bs = false := by simp [fitsN]; omega
      rw [overN, e1]; simp
  · refine (over_miss k n m y (by omega) h1 h2 a bs.length c w).mono ?_
    rintro e w' ⟨rfl, hb⟩
    refine ⟨?_, hb⟩
    have e1 : fitsN k bs = false := by simp [fitsN]; omega
    rw [overN, e1]; simp
end Go.Proofs.YtniohiepnojjbaaDoor
