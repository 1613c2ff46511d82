/- A row of the table, what its cells tell together, and Over. -/
import Derived.Test.YtniohiepnojjbaaDoorTable
import Derived.Deep.MidRow
import Derived.Laws.ResultCell
namespace Go.Proofs.YtniohiepnojjbaaDoor
open Go.RowKit

def least (k : Nat) : Nat := if k = 2 ∨ k = 5 ∨ k = 8 then 2 else 1
def most (k : Nat) : Nat := if k = 1 then 64 else least k
def jlog (bs : List Nat) : Bool := (sharedN bs &&& 1 != 0) && (bs.getD 1 0 &&& 2 != 0)
def cellW (k : Nat) (bs : List Nat) : Bool := if k = 6 ∨ k = 10 then false else if k = 8 then jlog bs else sharedN bs &&& 1 != 0
def cellC (k : Nat) (bs : List Nat) : Bool := if k = 0 ∨ k = 1 ∨ k = 5 ∨ k = 6 ∨ k = 10 then false else if k = 7 then (sharedN bs &&& 1 != 0) && (sharedN bs &&& 2 != 0) else if k = 8 then jlog bs && (bs.getD 0 0 &&& 2 != 0) else sharedN bs &&& 2 != 0
def cellH (k : Nat) (bs : List Nat) : Bool := if k = 4 ∨ k = 5 ∨ k = 6 ∨ k = 7 ∨ k = 8 then false else if k = 2 then bs.getD 0 0 &&& 4 != 0 else sharedN bs &&& 4 != 0
def cellS (k : Nat) (bs : List Nat) : Bool := if k = 6 ∨ k = 10 then false else if k = 4 then (sharedN bs &&& 8 != 0) || (sharedN bs &&& 1 != 0) else if k = 8 then jlog bs else sharedN bs &&& 8 != 0

/-- The four cells of a row. -/
structure RowAsks (n : Nat) (w : World) (k : Nat) (vw vc vh vs : Value) : Prop where
  W : Asks n w (least k) vw (cellW k)
  C : Asks n w (least k) vc (cellC k)
  H : Asks n w (least k) vh (cellH k)
  S : Asks n w (least k) vs (cellS k)

theorem RowAsks.keeps {n k : Nat} {w w' : World} {vw vc vh vs : Value} (h : RowAsks n w k vw vc vh vs) (hb : Keeps n w w') : RowAsks n w' k vw vc vh vs :=
  ⟨h.W.keeps hb, h.C.keeps hb, h.H.keeps hb, h.S.keeps hb⟩

theorem row_of (k : Nat) (hk : k < 11) (gW gC gH gS gl gt ge gc gj : Nat) (cW cC cH cS cl ct ce cc cj : Array Value) : ∃ ga gb gd gf ca cb cd cf,
    ((rowsA (fv gW cW) (fv gC cC) (fv gH cH) (fv gS cS) (fv gl cl) (fv gt ct) (fv ge ce) (fv gc cc) (fv gj cj)).toList.drop (k * 6)).take 6 = [.int .i64 (least k), .int .i64 (most k), fv ga ca, fv gb cb, fv gd cd, fv gf cf] ∧
    ∀ n w, Cells n w (fv gW cW) (fv gC cC) (fv gH cH) (fv gS cS) (fv gl cl) (fv gt ct) (fv ge ce) (fv gc cc) (fv gj cj) → RowAsks n w k (fv ga ca) (fv gb cb) (fv gd cd) (fv gf cf) := by
  match k, hk with
  | 0, _ => exact ⟨_, _, _, _, _, _, _, _, rfl, fun n w h => ⟨h.W _, no_asks n w _, h.H _, h.S _⟩⟩
  | 1, _ => exact ⟨_, _, _, _, _, _, _, _, rfl, fun n w h => ⟨h.W _, no_asks n w _, h.H _, h.S _⟩⟩
  | 2, _ => exact ⟨_, _, _, _, _, _, _, _, rfl, fun n w h => ⟨h.W _, h.C _, h.th _ (by decide), h.S _⟩⟩
  | 3, _ => exact ⟨_, _, _, _, _, _, _, _, rfl, fun n w h => ⟨h.W _, h.C _, h.H _, h.S _⟩⟩
  | 4, _ => exact ⟨_, _, _, _, _, _, _, _, rfl, fun n w h => ⟨h.W _, h.C _, no_asks n w _, h.es _⟩⟩
  | 5, _ => exact ⟨_, _, _, _, _, _, _, _, rfl, fun n w h => ⟨h.W _, no_asks n w _, no_asks n w _, h.S _⟩⟩
  | 6, _ => exact ⟨_, _, _, _, _, _, _, _, rfl, fun n w h => ⟨no_asks n w _, no_asks n w _, no_asks n w _, no_asks n w _⟩⟩
  | 7, _ => exact ⟨_, _, _, _, _, _, _, _, rfl, fun n w h => ⟨h.W _, h.cc _, no_asks n w _, h.S _⟩⟩
  | 8, _ => exact ⟨_, _, _, _, _, _, _, _, rfl, fun n w h => ⟨h.lg _ (by decide), h.jc _ (by decide), no_asks n w _, h.lg _ (by decide)⟩⟩
  | 9, _ => exact ⟨_, _, _, _, _, _, _, _, rfl, fun n w h => ⟨h.W _, h.C _, h.H _, h.S _⟩⟩
  | 10, _ => exact ⟨_, _, _, _, _, _, _, _, rfl, fun n w h => ⟨no_asks n w _, no_asks n w _, h.H _, no_asks n w _⟩⟩
  | k + 11, h => omega

theorem results_row_tmp {P : Program} {fn : Func} {p u : Tmp} {ty : TypeId} (h : fn.results = #[.cell p ty, .tmp u]) (tmps : Array Value) (w : World) (g : Nat) (t : TypeId) (cs : Array Value) (fr : Nat × Nat) (d : TypeDesc)
    (hp : tmps.getD p undef = .pointer (some ⟨g, 0, none⟩)) (hg : w.heap[g]? = some (.cells cs t fr))
    (hu : P.underlying ty = some d) (hd : (match d with | .struct _ | .array _ _ => true | _ => false) = true) (hi : (P.info? ty).map (·.size) = some cs.size) :
    (results fn tmps).run P w = .ok (.tuple #[.agg cs, tmps.getD u undef]) w := by
  rw [results_cell_tmp h, hp]
  simp only [asAddr, Sem.run_pure, Result.andThen_ok, run_loadVar_row w g t ty cs fr d hg hu hd hi]

set_option maxHeartbeats 2000000 in
set_option maxRecDepth 100000 in
theorem rowOf_hit (k : Nat) (hk : k < 11) (w : World) :
    Calls Tryd.prog 30 #[.int .i8 (k : Int)] w fun e w' => (∃ ga gb gd gf ca cb cd cf, e = .returned (.tuple #[.agg #[.int .i64 (least k), .int .i64 (most k), fv ga ca, fv gb cb, fv gd cd, fv gf cf], .bool true]) ∧
      RowAsks (w.heap.size + 2) w' k (fv ga ca) (fv gb cb) (fv gd cd) (fv gf cf)) ∧ Below w.heap.size w w' := by
  have k1 : ¬ ((k : Int) < 0) := by omega
  have k2 : ¬ ((11 : Int) ≤ (k : Int)) := by omega
  have k3 : (k : Int) < 11 := by omega
  go_enter Tryd.func30, Tryd.ntmps30
  go_wp2_with fail
  refine (table_any _).mono ?_
  rintro e w1 ⟨⟨gW, gC, gH, gS, gl, gt, ge, gc, gj, cW, cC, cH, cS, cl, ct, ce, cc, cj, rfl, hC⟩, b1⟩
  obtain ⟨ga, gb, gd, gf, ca, cb, cd, cf, hrow, hasks⟩ := row_of k hk gW gC gH gS gl gt ge gc gj cW cC cH cS cl ct ce cc cj
  generalize hA : rowsA (fv gW cW) (fv gC cC) (fv gH cH) (fv gS cS) (fv gl cl) (fv gt ct) (fv ge ce) (fv gc cc) (fv gj cj) = A at *
  have hAs : A.size = 66 := by rw [← hA]; rfl
  have hAo : A.all (·.oneCell') = true := by rw [← hA]; kernel_rfl
  have nb1 := b1.size
  have HZ := aside ((b1.block w.heap.size (by simp)).trans (al_at w _))
  have HC := aside (hasks _ _ hC)
  have B1 := aside (below_tr (below_al w _) b1)
  have HR := aside hrow
  have HA1 := aside hAs
  have HA2 := aside hAo
  simp only [World.size_alloc] at nb1
  clear hC b1 hrow hAs hAo hA hasks
  have HCS : ∀ (W2 : World) (z : Array Value), (World.setRow (w1.alloc (Obj.cells z 94)) w1.heap.size A) = W2 → (∀ (j : Nat) v, [Value.int .i64 (least k), .int .i64 (most k), fv ga ca, fv gb cb, fv gd cd, fv gf cf][j]? = some v → j < 6 → W2.cell? ⟨w1.heap.size, k * 6 + j, none⟩ = some v) := by
    rintro W2 z rfl j v hj hj6
    rw [cell_setRow_same _ _ _ _ _ _ _ (al_at _ _), ← hj, ← HR.out, List.getElem?_take, if_pos hj6, List.getElem?_drop, Array.getElem?_toList]
  have HHS : ∀ (W2 : World) (z : Array Value), (World.setRow (w1.alloc (Obj.cells z 94)) w1.heap.size A) = W2 → W2.heap[w.heap.size]? = w1.heap[w.heap.size]? ∧ Keeps (w.heap.size + 2) w1 W2 ∧ Below w.heap.size w W2 ∧ w1.heap.size + 1 = W2.heap.size := by
    rintro W2 z rfl
    have h0 : Below w1.heap.size w1 (w1.alloc (Obj.cells z 94)) := below_al _ _
    refine ⟨(setRow_other _ _ _ _ (by omega)).trans (h0.block _ (by omega)), ⟨by simp, fun q _ hq => (setRow_other _ _ _ _ (by omega)).trans (h0.block _ hq)⟩, below_setRow (below_tr B1.out h0) (by omega) _, by simp⟩
  have HC2 := aside HCS
  have HH2 := aside HHS
  clear HCS HHS
  go_wp2_with (first
    | ((with_reducible refine wpList_store_row rfl 94 _ _ rfl _ A ?_ ?_ 94 _ (al_at _ _) ?_ ?_ ?_ ?_); kernel_rfl; kernel_rfl; (rw [HA1.out]; kernel_rfl); (rw [HA1.out]; kernel_rfl); exact HA2.out; (generalize hW2 : World.setRow _ _ A = W2); (have c0 := HC2.out W2 _ hW2 0 _ rfl (by decide)); (have c1 := HC2.out W2 _ hW2 1 _ rfl (by decide)); (have c2 := HC2.out W2 _ hW2 2 _ rfl (by decide)); (have c3 := HC2.out W2 _ hW2 3 _ rfl (by decide)); (have c4 := HC2.out W2 _ hW2 4 _ rfl (by decide)); (have c5 := HC2.out W2 _ hW2 5 _ rfl (by decide)); (have HX := aside (HH2.out W2 _ hW2)); clear hW2; simp only [Nat.add_zero] at c0)
    | ((with_reducible refine wpList_store_row rfl 69 _ _ rfl w.heap.size #[.int .i64 (least k), .int .i64 (most k), fv ga ca, fv gb cb, fv gd cd, fv gf cf] ?_ ?_ 69 _ (HX.out.1.trans HZ.out) ?_ ?_ ?_ ?_); kernel_rfl; kernel_rfl; kernel_rfl; kernel_rfl; kernel_rfl))
  obtain ⟨z2, kp2, bl2, sz2⟩ := HX.out
  have hz := setRow_heap W2 w.heap.size _ #[.int .i64 (least k), .int .i64 (most k), fv ga ca, fv gb cb, fv gd cd, fv gf cf] 69 _ (z2.trans HZ.out)
  refine bodyPost_ret (results_row_tmp (p := 2) (u := 3) (by kernel_rfl) _ _ w.heap.size 69 _ (0, 0) _ (by kernel_rfl) hz Tryd.underlying69 rfl (by kernel_rfl)) rfl ?_
  have K2 : Keeps (w.heap.size + 2) W2 (W2.setRow w.heap.size #[.int .i64 (least k), .int .i64 (most k), fv ga ca, fv gb cb, fv gd cd, fv gf cf]) := ⟨by simp, fun q hq _ => setRow_other _ _ _ _ (by omega)⟩
  have HC' := HC.out
  simp only [World.size_alloc] at HC'
  exact ⟨⟨ga, gb, gd, gf, ca, cb, cd, cf, rfl, (HC'.keeps kp2).keeps K2⟩, below_setRow bl2 (Nat.le_refl _) _⟩

set_option maxHeartbeats 2000000 in
set_option maxRecDepth 100000 in
theorem rowOf_miss (k : Int) (hk : k < 0 ∨ 10 < k) (h1 : -128 ≤ k) (h2 : k < 128) (w : World) :
    Calls Tryd.prog 30 #[.int .i8 k] w fun e w' => e = .returned (.tuple #[.agg #[.int .i64 0, .int .i64 0, .nilFunc, .nilFunc, .nilFunc, .nilFunc], .bool false]) ∧ Below w.heap.size w w' := by
  go_enter Tryd.func30, Tryd.ntmps30
  go_wp2_with fail
  refine (table_any _).mono ?_
  rintro e w1 ⟨⟨gW, gC, gH, gS, gl, gt, ge, gc, gj, cW, cC, cH, cS, cl, ct, ce, cc, cj, rfl, hC⟩, b1⟩
  generalize hA : rowsA (fv gW cW) (fv gC cC) (fv gH cH) (fv gS cS) (fv gl cl) (fv gt ct) (fv ge ce) (fv gc cc) (fv gj cj) = A at *
  have hAs : A.size = 66 := by rw [← hA]; rfl
  have hAo : A.all (·.oneCell') = true := by rw [← hA]; kernel_rfl
  have nb1 := b1.size
  have HZ := aside ((b1.block w.heap.size (by simp)).trans (al_at w _))
  have B1 := aside (below_tr (below_al w _) b1)
  have HA1 := aside hAs
  have HA2 := aside hAo
  simp only [World.size_alloc] at nb1
  clear hC b1 hAs hAo hA
  have HHS : ∀ (W2 : World) (z : Array Value), (World.setRow (w1.alloc (Obj.cells z 94)) w1.heap.size A) = W2 → W2.heap[w.heap.size]? = w1.heap[w.heap.size]? ∧ Below w.heap.size w W2 ∧ w1.heap.size + 1 = W2.heap.size := by
    rintro W2 z rfl
    have h0 : Below w1.heap.size w1 (w1.alloc (Obj.cells z 94)) := below_al _ _
    refine ⟨(setRow_other _ _ _ _ (by omega)).trans (h0.block _ (by omega)), below_setRow (below_tr B1.out h0) (by omega) _, by simp⟩
  have HH2 := aside HHS
  clear HHS
  have t1 : (decide (k < 0) || decide (11 ≤ k)) = true := by simp; omega
  go_wp2_with (first
    | ((with_reducible refine wpList_store_row rfl 94 _ _ rfl _ A ?_ ?_ 94 _ (al_at _ _) ?_ ?_ ?_ ?_); kernel_rfl; kernel_rfl; (rw [HA1.out]; kernel_rfl); (rw [HA1.out]; kernel_rfl); exact HA2.out; (generalize hW2 : World.setRow _ _ A = W2); (have HX := aside (HH2.out W2 _ hW2)); clear hW2)
    | ((with_reducible refine wpList_store_row rfl 69 _ _ rfl w.heap.size #[.int .i64 0, .int .i64 0, .nilFunc, .nilFunc, .nilFunc, .nilFunc] ?_ ?_ 69 _ (HX.out.1.trans HZ.out) ?_ ?_ ?_ ?_); kernel_rfl; kernel_rfl; kernel_rfl; kernel_rfl; kernel_rfl))
  all_goals
    obtain ⟨z2, bl2, sz2⟩ := HX.out
    have hz := setRow_heap W2 w.heap.size _ #[.int .i64 0, .int .i64 0, .nilFunc, .nilFunc, .nilFunc, .nilFunc] 69 _ (z2.trans HZ.out)
    refine bodyPost_ret (results_row_tmp (p := 2) (u := 3) (by kernel_rfl) _ _ w.heap.size 69 _ (0, 0) _ (by kernel_rfl) hz Tryd.underlying69 rfl (by kernel_rfl)) rfl ?_
    exact ⟨rfl, below_setRow bl2 (Nat.le_refl _) _⟩

set_option maxHeartbeats 2000000 in
set_option maxRecDepth 100000 in
theorem over_row (n k : Nat) (a b : Int) (vw vc vh vs : Value) (blk off c : Nat) (bs : List Nat) (w : World) (hA : RowAsks n w k vw vc vh vs) (hr : RdB w blk off bs) (hl : least k ≤ bs.length) (hl2 : bs.length < 4611686018427387904) (hv : ∀ x ∈ bs, x < 256) :
    Calls Tryd.prog 31 #[.agg #[.int .i64 a, .int .i64 b, vw, vc, vh, vs], .slice (some ⟨blk, off, none⟩) bs.length c] w fun e w' =>
      e = .returned (.int .u8 (((if cellW k bs then 1 else 0) ||| (if cellC k bs then 2 else 0) ||| (if cellH k bs then 4 else 0) ||| (if cellS k bs then 8 else 0) : Nat) : Int)) ∧ Below w.heap.size w w' := by
  obtain ⟨⟨gw, cw, rfl, ew, Hw⟩, ⟨gc, cc, rfl, ec, Hc⟩, ⟨gh, ch, rfl, eh, Hh⟩, ⟨gs, cs, rfl, es, Hs⟩⟩ := hA
  have Cw := aside (fun W (hW : Below w.heap.size w W) => Hw W blk off c bs (.of hW n) (hr.below hW) hl hl2 hv)
  have Cc := aside (fun W (hW : Below w.heap.size w W) => Hc W blk off c bs (.of hW n) (hr.below hW) hl hl2 hv)
  have Ch := aside (fun W (hW : Below w.heap.size w W) => Hh W blk off c bs (.of hW n) (hr.below hW) hl hl2 hv)
  have Cs := aside (fun W (hW : Below w.heap.size w W) => Hs W blk off c bs (.of hW n) (hr.below hW) hl hl2 hv)
  clear Hw Hc Hh Hs hr hv
  generalize cellW k bs = xw at *
  generalize cellC k bs = xc at *
  generalize cellH k bs = xh at *
  generalize cellS k bs = xs at *
  have F : ∀ W, Below w.heap.size (w.alloc (.cells #[.int .i64 a, .int .i64 b, .func (.func gw) #[] cw, .func (.func gc) #[] cc, .func (.func gh) #[] ch, .func (.func gs) #[] cs] 69)) W →
      Below (w.heap.size + 1) (w.alloc (.cells #[.int .i64 a, .int .i64 b, .func (.func gw) #[] cw, .func (.func gc) #[] cc, .func (.func gh) #[] ch, .func (.func gs) #[] cs] 69)) W →
      (W.cell? ⟨w.heap.size, 3, none⟩ = some (.func (.func gc) #[] cc) ∧ W.cell? ⟨w.heap.size, 4, none⟩ = some (.func (.func gh) #[] ch) ∧ W.cell? ⟨w.heap.size, 5, none⟩ = some (.func (.func gs) #[] cs)) ∧ Below w.heap.size w W := fun W h h2 =>
    ⟨⟨(h2.cell (p := ⟨w.heap.size, 3, none⟩) (Nat.lt_succ_self _)).trans (by go_simp), (h2.cell (p := ⟨w.heap.size, 4, none⟩) (Nat.lt_succ_self _)).trans (by go_simp), (h2.cell (p := ⟨w.heap.size, 5, none⟩) (Nat.lt_succ_self _)).trans (by go_simp)⟩, (below_al w _).trans h⟩
  have FF := aside F
  have HA := aside (below_al w (.cells #[.int .i64 a, .int .i64 b, .func (.func gw) #[] cw, .func (.func gc) #[] cc, .func (.func gh) #[] ch, .func (.func gs) #[] cs] 69))
  clear F
  go_enter Tryd.func31, Tryd.ntmps31
  go_wp2_with fail
  refine (Cw.out _ HA.out).mono ?_
  rintro e w1 ⟨rfl, b1⟩
  simp only [World.size_alloc] at b1
  obtain ⟨⟨q3, q4, q5⟩, g1⟩ := FF.out w1 (b1.mono (Nat.le_succ _)) b1
  have B1 := aside b1
  have G1 := aside g1
  clear b1 g1
  cases xw <;> (
    go_wp2_with fail
    refine (Cc.out _ G1.out).mono ?_
    rintro e w2 ⟨rfl, b2⟩
    have b2' := B1.out.trans (b2.mono (Nat.le_trans (by simp) B1.out.size))
    obtain ⟨⟨-, q4, q5⟩, g2⟩ := FF.out w2 (b2'.mono (Nat.le_succ _)) b2'
    have B2 := aside b2'
    have G2 := aside g2
    clear b2 b2' g2
    cases xc <;> (
      go_wp2_with fail
      refine (Ch.out _ G2.out).mono ?_
      rintro e w3 ⟨rfl, b3⟩
      have b3' := B2.out.trans (b3.mono (Nat.le_trans (by simp) B2.out.size))
      obtain ⟨⟨-, -, q5⟩, g3⟩ := FF.out w3 (b3'.mono (Nat.le_succ _)) b3'
      have B3 := aside b3'
      have G3 := aside g3
      clear b3 b3' g3
      cases xh <;> (
        go_wp2_with fail
        refine (Cs.out _ G3.out).mono ?_
        rintro e w4 ⟨rfl, b4⟩
        have G4 := aside (below_tr G3.out b4)
        clear b4
        cases xs <;> (
          go_wp2
          go_ret
          exact ⟨rfl, G4.out⟩))))
end Go.Proofs.YtniohiepnojjbaaDoor
