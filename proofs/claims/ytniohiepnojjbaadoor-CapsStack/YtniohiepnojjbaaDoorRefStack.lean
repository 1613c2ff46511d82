/- The document's Stack. -/
import Derived.Test.YtniohiepnojjbaaDoorRefOver
import Derived.Laws.OwnMore
namespace Go.Proofs.YtniohiepnojjbaaDoor
open Go.RowKit

/-- Does a wrapper of a stack stand over two files? -/
def twoN (k : Int) : Bool := k == 1 || k == 2 || k == 5 || k == 8

theorem over_below (k : Int) (can : Nat) (hc : can < 16) : overN k (if twoN k then [can, 15] else [can]) = if 0 ≤ k ∧ k < 11 then (tableN k.toNat (belowN k.toNat can), 0) else (0, 2) := by
  by_cases hk : 0 ≤ k ∧ k < 11
  · obtain ⟨q, rfl⟩ : ∃ q : Nat, k = q := ⟨k.toNat, by omega⟩
    have hq : q < 11 := by omega
    have hb : (if twoN (q : Int) then [can, 15] else [can]) = belowN q can := by
      match q, hq with
      | 0, _ | 1, _ | 2, _ | 3, _ | 4, _ | 5, _ | 6, _ | 7, _ | 8, _ | 9, _ | 10, _ => rfl
      | q + 11, h => omega
    rw [hb, if_pos hk, overN]
    have hf : fitsN q (belowN q can) = true := by
      have h15 : can ≤ 15 := by omega
      match q, hq with
      | 0, _ | 1, _ | 2, _ | 3, _ | 4, _ | 5, _ | 6, _ | 7, _ | 8, _ | 9, _ | 10, _ => simp [fitsN, belowN, least, most, h15]
      | q + 11, h => omega
    rw [hf]; rfl
  · rw [if_neg hk, overN]
    have hf : fitsN k (if twoN k then [can, 15] else [can]) = false := by simp [fitsN]; omega
    rw [hf]; rfl

set_option maxHeartbeats 8000000 in
set_option maxRecDepth 100000 in
theorem refStack_loop (ws : List Wr) (leaf : Nat) (blk off c : Nat) (w : World) (hr : RdW w blk off ws) (hl : ws.length ≤ 32) (hf : leaf ≤ 15) (r : Nat) (q : Int) (hs : stackN (ws.map (·.kind)) leaf = (r, q)) :
    Calls Tryd.prog 23 #[.slice (some ⟨blk, off, none⟩) ws.length c, .int .u8 (leaf : Int)] w fun e w' => e = .returned (.tuple #[.int .u8 (r : Int), .int .i64 q]) ∧ Below w.heap.size w w' := by
  have HR := aside hr
  have HS := aside hs
  clear hr hs
  have t1 : decide ((32 : Int) < (ws.length : Int)) = false := by simp; omega
  have t2 : decide ((15 : Int) < (leaf : Int)) = false := by simp; omega
  go_enter Tryd.func23, Tryd.ntmps23
  go_wp2
  clear t1 t2
  go_loopg [6, 7] ws.length (fun kx s6 s7 wr => ∃ (can i : Nat), s6 = .int .u8 (can : Int) ∧ s7 = .int .i64 i ∧ i ≤ ws.length ∧ can < 16 ∧ ws.length - i ≤ kx ∧ w.heap.size ≤ wr.heap.size ∧ Aside (Below w.heap.size w wr) ∧ Aside (stackGo (ws.map (·.kind)) leaf = stackGo ((ws.map (·.kind)).drop i) can))
  case atStart => exact ⟨leaf, 0, rfl, rfl, Nat.zero_le _, by omega, by omega, Nat.le_refl _, Below.refl _ _, rfl⟩
  case round =>
    obtain ⟨can, i, rfl, rfl, hi, hcan, hk2, hsz, hbw, hgo⟩ := hrel
    by_cases hlt : i < ws.length
    · obtain ⟨x, hx⟩ : ∃ x, ws[i]? = some x := ⟨ws[i], List.getElem?_eq_getElem hlt⟩
      have hRW := aside (HR.out.below hbw.out)
      obtain ⟨xk, xn, xm, xy⟩ := x
      have HX := aside hx
      have HOV := aside (over_below xk can hcan)
      clear hx
      have hBa := aside (below_al wr (.cells #[.int .u8 (can : Int)] 5))
      have hRa := aside (hRW.out.below hBa.out)
      obtain ⟨d0, d1, d2, d3⟩ := hRa.out i _ HX.out
      simp only at d0 d1 d2 d3
      have hOa := aside (World.ownsRow_lit (base := wr.heap.size) (e := 5) (size := 1) wr #[.int .u8 (can : Int)] 1 (Nat.le_refl _) (by decide) rfl)
      by_cases htwo : twoN xk = true
      · have HTF := aside htwo
        have hks : xk = 1 ∨ xk = 2 ∨ xk = 5 ∨ xk = 8 := by simp [twoN] at htwo; omega
        clear htwo
        have hB15 := aside (below_al (wr.alloc (.cells #[.int .u8 (can : Int)] 5)) (.cells #[.int .u8 15] 5))
        have hO15 : Aside (((wr.alloc (.cells #[.int .u8 (can : Int)] 5)).alloc (.cells #[.int .u8 15] 5)).ownsRow wr.heap.size 5 1 (.slice (some ⟨wr.heap.size, 0, none⟩) 1 1) 1 [.int .u8 (can : Int)]) := row_below hOa.out hB15.out
        have hcont : ∀ (a' : Option Addr) (cap' : Nat) (w' : World), w'.ownsRow wr.heap.size 5 1 (.slice a' 2 cap') 2 [.int .u8 (can : Int), .int .u8 15] → Calls Tryd.prog 21 #[.agg #[.int .i8 xk, .int .i64 xn, .int .i64 xm, .int .u64 xy], .slice a' 2 cap'] w' fun e w'' => e = .returned (.tuple #[.int .u8 ((overN xk [can, 15]).1 : Int), .int .i64 (overN xk [can, 15]).2]) ∧ Below w'.heap.size w' w'' := by
          intro a' cap' w' ho
          refine refOver_any xk xn xm xy a' cap' [can, 15] w' (fun _ => ?_) (by simp; omega)
          rcases ho.2 with ⟨-, hz⟩ | ⟨g, cap, cur, hv, -, -, -, -, -, -⟩
          · omega
          · simp only [Value.slice.injEq, true_and] at hv
            obtain ⟨rfl, rfl⟩ := hv
            refine ⟨g, 0, rfl, fun j z hj => ?_⟩
            match j, hj with
            | 0, hj => simp at hj; subst hj; have := ho.cells (g := g) rfl 0 _ rfl; rw [Addr.add_mid] at this; exact this
            | 1, hj => simp at hj; subst hj; have := ho.cells (g := g) rfl 1 _ rfl; rw [Addr.add_mid] at this; exact this
            | j + 2, hj => simp at hj
        have HCONT := aside hcont
        clear hcont
        have hfin : ∀ (w' : World), Below wr.heap.size ((wr.alloc (.cells #[.int .u8 (can : Int)] 5)).alloc (.cells #[.int .u8 15] 5)) w' → Below wr.heap.size wr w' := fun w' h => ((below_tr hBa.out hB15.out)).trans h
        have HFIN := aside hfin
        clear hfin
        have PUSH := aside (fun (w' : World) (h : Below wr.heap.size wr w') => HR.out.below (below_tr hbw.out h) i _ HX.out)
        rcases hks with rfl | rfl | rfl | rfl
        all_goals
          go_wp2_with (at_builtin; refine wpList_push _ rfl _ _ 35 rfl wr.heap.size 5 (.int .u8 0) 1 Tryd.underlying35 info5 rfl (.slice (some ⟨wr.heap.size, 0, none⟩) 1 1) 1 [.int .u8 (can : Int)] rfl hO15.out (wr.heap.size + 1) 1 (.int .u8 15) (by simp [Act.eval]) (by go_simp) rfl (by omega) (by decide) (by simp; omega) ?_)
          intro a' cap' w5 ho5 hb5 hs5
          replace ho5 : w5.ownsRow wr.heap.size 5 1 (.slice a' 2 cap') 2 [.int .u8 (can : Int), .int .u8 15] := ho5
          have b5 := HFIN.out w5 hb5
          obtain ⟨d0, d1, d2, d3⟩ := PUSH.out w5 b5
          have C21 := aside (HCONT.out a' cap' w5 ho5)
          have B5 := aside (below_tr hbw.out b5)
          have hs5' := b5.size
          clear ho5 hb5 b5 hs5
          go_wp2_with fail
          refine C21.out.mono ?_
          rintro e6 w6 ⟨rfl, b6⟩
          have B6 := aside (below_tr B5.out b6)
          have hs6 := b6.size
          clear b6
          have ho := HOV.out
          rw [HTF.out, if_pos rfl, if_pos (by decide)] at ho
          rw [ho]
          generalize hkq : (_ : Int).toNat = kk at *
          have hT := tableN_lt kk (belowN kk can)
          have HG : Aside (stackGo (ws.map (·.kind)) leaf = stackGo ((ws.map (·.kind)).drop (i + 1)) (tableN kk (belowN kk can))) := by
            have hgo2 := hgo.out
            rw [List.drop_eq_getElem_cons (by simpa using hlt)] at hgo2
            simp only [List.getElem_map, (List.getElem?_eq_some_iff.1 HX.out).2, stackGo] at hgo2
            rw [if_pos (by decide), hkq] at hgo2
            exact hgo2
          generalize tableN kk (belowN kk can) = T at *
          clear ho hkq
          go_wp2
          go_roundg (ws.length - (i + 1))
          case measure => omega
          case rel => exact ⟨T, i + 1, rfl, by go_num, by omega, by omega, by omega, by omega, B6, HG⟩
      · have htf : twoN xk = false := by simpa using htwo
        have HTF := aside htf
        simp only [twoN, Bool.or_eq_false_iff] at htf
        obtain ⟨⟨⟨t1, t2⟩, t5⟩, t8⟩ := htf
        have C21 := aside (refOver_any xk xn xm xy (some ⟨wr.heap.size, 0, none⟩) 1 [can] (wr.alloc (.cells #[.int .u8 (can : Int)] 5)) (fun _ => ⟨wr.heap.size, 0, rfl, fun j z hj => by
          match j, hj with
          | 0, hj => simp at hj; subst hj; go_simp
          | j + 1, hj => simp at hj⟩) (by simp; omega))
        go_wp2_with fail
        refine C21.out.mono ?_
        rintro e6 w6 ⟨rfl, b6⟩
        have B6 := aside (below_tr (below_tr hbw.out hBa.out) b6)
        have hs6 := b6.size
        simp only [World.size_alloc] at hs6
        clear b6
        by_cases hkk : 0 ≤ xk ∧ xk < 11
        · have ho := HOV.out
          rw [HTF.out, if_neg (by decide), if_pos hkk] at ho
          rw [ho]
          have hT := tableN_lt xk.toNat (belowN xk.toNat can)
          have HG : Aside (stackGo (ws.map (·.kind)) leaf = stackGo ((ws.map (·.kind)).drop (i + 1)) (tableN xk.toNat (belowN xk.toNat can))) := by
            have hgo2 := hgo.out
            rw [show (ws.map (·.kind)).drop i = xk :: (ws.map (·.kind)).drop (i + 1) from by
              rw [List.drop_eq_getElem_cons (by simpa using hlt)]; simp [(List.getElem?_eq_some_iff.1 HX.out).2], stackGo, if_pos hkk] at hgo2
            exact hgo2
          generalize tableN xk.toNat (belowN xk.toNat can) = T at *
          clear ho hkk
          go_wp2
          go_roundg (ws.length - (i + 1))
          case measure => omega
          case rel => exact ⟨T, i + 1, rfl, by go_num, by omega, by omega, by omega, by omega, B6, HG⟩
        · have ho := HOV.out
          rw [HTF.out, if_neg (by decide), if_neg hkk] at ho
          rw [ho]
          have hgo2 := hgo.out
          rw [show (ws.map (·.kind)).drop i = xk :: (ws.map (·.kind)).drop (i + 1) from by
            rw [List.drop_eq_getElem_cons (by simpa using hlt)]; simp [(List.getElem?_eq_some_iff.1 HX.out).2], stackGo, if_neg hkk] at hgo2
          have hs2 := HS.out
          rw [stackN, if_neg (by simpa using hl), if_neg (by omega), hgo2] at hs2
          simp only [Prod.mk.injEq] at hs2
          obtain ⟨rfl, rfl⟩ := hs2
          clear ho hkk hgo2
          go_wp2
          go_ret2
          exact ⟨rfl, B6.out⟩
    · obtain rfl : i = ws.length := by omega
      go_wp2
      go_ret2
      have hgo2 := hgo.out
      rw [List.drop_of_length_le (by simp)] at hgo2
      have hs2 := HS.out
      rw [stackN, if_neg (by simpa using hl), if_neg (by omega), hgo2] at hs2
      simp only [stackGo, Prod.mk.injEq] at hs2
      obtain ⟨rfl, rfl⟩ := hs2
      exact ⟨rfl, hbw.out⟩
set_option maxHeartbeats 1000000 in
theorem refStack_long (a : Option Addr) (l c : Nat) (leaf : Int) (w : World) (hl : 32 < l) :
    Calls Tryd.prog 23 #[.slice a l c, .int .u8 leaf] w fun e w' => e = .returned (.tuple #[.int .u8 0, .int .i64 3]) ∧ Below w.heap.size w w' := by
  have t1 : (32 : Int) < (l : Int) := by omega
  go_enter Tryd.func23, Tryd.ntmps23
  go_wp2
  go_ret2
  exact ⟨rfl, Below.refl _ _⟩

set_option maxHeartbeats 1000000 in
theorem refStack_leaf (a : Option Addr) (l c : Nat) (leaf : Int) (w : World) (hl : l ≤ 32) (h15 : 15 < leaf) :
    Calls Tryd.prog 23 #[.slice a l c, .int .u8 leaf] w fun e w' => e = .returned (.tuple #[.int .u8 0, .int .i64 2]) ∧ Below w.heap.size w w' := by
  have t1 : decide ((32 : Int) < (l : Int)) = false := by simp; omega
  go_enter Tryd.func23, Tryd.ntmps23
  go_wp2
  go_ret2
  exact ⟨rfl, Below.refl _ _⟩

set_option maxHeartbeats 1000000 in
theorem refStack_none (a : Option Addr) (c : Nat) (leaf : Nat) (w : World) (h15 : leaf ≤ 15) :
    Calls Tryd.prog 23 #[.slice a 0 c, .int .u8 (leaf : Int)] w fun e w' => e = .returned (.tuple #[.int .u8 (leaf : Int), .int .i64 0]) ∧ Below w.heap.size w w' := by
  have t2 : decide ((15 : Int) < (leaf : Int)) = false := by simp; omega
  go_enter Tryd.func23, Tryd.ntmps23
  go_wp2
  go_loopg [6, 7] 0 (fun kx s6 s7 wr => s6 = .int .u8 (leaf : Int) ∧ s7 = .int .i64 0 ∧ wr = w)
  case atStart => exact ⟨rfl, rfl, rfl⟩
  case round =>
    obtain ⟨rfl, rfl, rfl⟩ := hrel
    go_wp2
    go_ret2
    exact ⟨rfl, Below.refl _ _⟩

/-- The document's Stack answers as the program's. -/
theorem refStack_any (ws : List Wr) (leaf : Nat) (a : Option Addr) (c : Nat) (w : World) (ha : ws ≠ [] → ∃ blk off, a = some ⟨blk, off, none⟩ ∧ RdW w blk off ws) :
    Calls Tryd.prog 23 #[.slice a ws.length c, .int .u8 (leaf : Int)] w fun e w' => e = .returned (.tuple #[.int .u8 ((stackN (ws.map (·.kind)) leaf).1 : Int), .int .i64 (stackN (ws.map (·.kind)) leaf).2]) ∧ Below w.heap.size w w' := by
  by_cases hl : 32 < ws.length
  · rw [stackN, if_pos (by simpa using hl)]
    exact refStack_long a ws.length c leaf w hl
  · by_cases h15 : 15 < leaf
    · rw [stackN, if_neg (by simpa using hl), if_pos h15]
      exact refStack_leaf a ws.length c leaf w (by omega) (by omega)
    · match ws, ha, hl with
      | [], _, _ =>
        rw [stackN, if_neg (by simp), if_neg h15]
        exact refStack_none a c leaf w (by omega)
      | x :: r, ha, hl =>
        obtain ⟨blk, off, rfl, hr⟩ := ha (by simp)
        exact refStack_loop (x :: r) leaf blk off c w hr (by omega) (by omega) _ _ rfl
end Go.Proofs.YtniohiepnojjbaaDoor
