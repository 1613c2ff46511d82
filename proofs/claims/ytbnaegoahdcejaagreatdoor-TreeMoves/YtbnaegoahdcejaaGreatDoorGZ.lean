/- TreeMoves: one step on both sides, walked. TreeMoves: one step on both sides, walked. TreeMoves' walk. -/
import Derived.Test.YtbnaegoahdcejaaGreatDoorGY
import Derived.Deep.RegionHeld3
import Derived.Test.YtbnaegoahdcejaaGreatDoorGH
import Derived.Test.YtbnaegoahdcejaaGreatDoorGI
namespace Go.Proofs.YtbnaegoahdcejaaGreatDoor
open Go.RowKit Go.ChangeMaps

theorem Wz.rez {a W : World} {z z' : Option (Nat × Array Value)} {S T : List En} {rb : List B → Nat} {x y : Option (Nat × Nat)} (h : Wz ⟨a, z⟩ W S T rb x y) (hz : ∀ b cs, z' = some (b, cs) → W.heap[b]? = some (.cells cs 37 (0, 0))) : Wz ⟨a, z'⟩ W S T rb x y := ⟨h.bel, hz, h.tr, h.mt, h.rt, h.fx, h.fy⟩
theorem nil_node (b : Nat) (W : World) : (binOp .eql 26 (Pt b) (.pointer none)).run Tryz.prog W = .ok (.bool false) W := by kernel_rfl
theorem nil_rnode (b : Nat) (W : World) : (binOp .eql 31 (Pt b) (.pointer none)).run Tryz.prog W = .ok (.bool false) W := by kernel_rfl
theorem nil_node0 (W : World) : (binOp .eql 26 (.pointer none) (.pointer none)).run Tryz.prog W = .ok (.bool true) W := by kernel_rfl
theorem nil_rnode0 (W : World) : (binOp .eql 31 (.pointer none) (.pointer none)).run Tryz.prog W = .ok (.bool true) W := by kernel_rfl
theorem eqg_node (o1 o2 : Operand) (b : Option Addr) (W : World) : (eqGuard .eql 26 o1 o2 (.pointer b) (.pointer none)).run Tryz.prog W = .ok () W := by kernel_rfl
theorem eqg_rnode (o1 o2 : Operand) (b : Option Addr) (W : World) : (eqGuard .eql 31 o1 o2 (.pointer b) (.pointer none)).run Tryz.prog W = .ok () W := by kernel_rfl
/-- Is nothing found? The same on both sides. -/
structure Nls (v u : Value) (q : Bool) : Prop where
  n1 : ∀ W, (binOp .eql 26 v (.pointer none)).run Tryz.prog W = .ok (.bool q) W
  n2 : ∀ W, (binOp .eql 31 u (.pointer none)).run Tryz.prog W = .ok (.bool q) W
  g1 : ∀ o1 o2 W, (eqGuard .eql 26 o1 o2 v (.pointer none)).run Tryz.prog W = .ok () W
  g2 : ∀ o1 o2 W, (eqGuard .eql 31 o1 o2 u (.pointer none)).run Tryz.prog W = .ok () W
theorem Fv.nils {S T : List En} {rb : List B → Nat} {p : List B} {v u : Value} (h : Fv S T rb p v u) : ∃ q : Bool, Nls v u q := by
  rcases h with ⟨a, -, b, -, -, -, -, rfl, rfl⟩ | ⟨-, -, rfl, rfl⟩
  · exact ⟨false, nil_node _, nil_rnode _, fun o1 o2 W => eqg_node o1 o2 _ W, fun o1 o2 W => eqg_rnode o1 o2 _ W⟩
  · exact ⟨true, nil_node0, nil_rnode0, fun o1 o2 W => eqg_node o1 o2 _ W, fun o1 o2 W => eqg_rnode o1 o2 _ W⟩
end Go.Proofs.YtbnaegoahdcejaaGreatDoor

namespace Go.Proofs.YtbnaegoahdcejaaGreatDoor
open Go.RowKit Go.ChangeMaps

theorem Lp.below {w0 : Wbx} {W W' : World} {u0 v0 N : Nat} {S T : List En} {rb : List B → Nat} {x y : Option (Nat × Nat)} (h : Lp w0 W u0 v0 N S T rb x y) (b : Below W.heap.size W W') : Lp w0 W' u0 v0 N S T rb x y := ⟨h.wz.below b, h.se, h.ru, h.rv, h.ls, h.lt⟩
/-- What is held of the step while it is done. -/
def Hbx (xb : Nat) (N A : ByteArray) (w : World) : Prop := w.cell? ⟨xb, 2, none⟩ = some (.string N) ∧ w.cell? ⟨xb, 4, none⟩ = some (.string A)
theorem Wz.hbx {a W : World} {S T : List En} {rb : List B → Nat} {x y : Option (Nat × Nat)} {xb : Nat} {c0 : Value} {F N To A : ByteArray} (h : Wz ⟨a, some (xb, #[c0, .string F, .string N, .string To, .string A])⟩ W S T rb x y) : W.cell? ⟨xb, 2, none⟩ = some (.string N) ∧ W.cell? ⟨xb, 4, none⟩ = some (.string A) := by
  have h1 := h.tb _ _ rfl
  exact ⟨by rw [cell_of_row W xb 2 _ _ _ h1]; rfl, by rw [cell_of_row W xb 4 _ _ _ h1]; rfl⟩
set_option maxRecDepth 20000 in
set_option maxHeartbeats 8000000 in
theorem turned_any {wA W : World} {u0 v0 N : Nat} {S T : List En} {rb : List B → Nat} (h : Lp ⟨wA, none⟩ W u0 v0 N S T rb none none) (hN : N ≤ 1000) (D : Int) (F Nm To As : B) (l1 : F.length ≤ 1000000) (l3 : To.length ≤ 1000000) (l4 : As.length ≤ 1000000) :
    Calls Tryz.prog 16 #[Pt u0, Pt v0, .agg #[.int .i64 D, .string (ba F), .string (ba Nm), .string (ba To), .string (ba As)]] W fun e W' => e = .returned (.bool true) ∧ ∃ S' T' rb', Lp ⟨wA, none⟩ W' u0 v0 (N + 1) S' T' rb' none none := by
  obtain ⟨xb, hxb⟩ : ∃ xb, xb = W.heap.size := ⟨_, rfl⟩
  obtain ⟨F', hF⟩ : ∃ F', F' = ba F := ⟨_, rfl⟩
  obtain ⟨N', hN'⟩ : ∃ N', N' = ba Nm := ⟨_, rfl⟩
  obtain ⟨T', hT'⟩ : ∃ T', T' = ba To := ⟨_, rfl⟩
  obtain ⟨A', hA'⟩ : ∃ A', A' = ba As := ⟨_, rfl⟩
  obtain ⟨W1, hW1⟩ : ∃ W1, W1 = W.alloc (.cells #[.int .i64 D, .string F', .string N', .string T', .string A'] 37) := ⟨_, rfl⟩
  have hb1 : Below W.heap.size W W1 := by rw [hW1]; exact below_al W _
  have hbox : W1.heap[xb]? = some (.cells #[.int .i64 D, .string F', .string N', .string T', .string A'] 37 (0, 0)) := by rw [hW1, hxb]; exact heap_alloc_new W _
  have H1 : Lp ⟨wA, some (xb, #[.int .i64 D, .string F', .string N', .string T', .string A'])⟩ W1 u0 v0 N S T rb none none := by
    have := h.below hb1
    refine ⟨this.wz.rez (fun b cs e => ?_), this.se, this.ru, this.rv, this.ls, this.lt⟩
    simp only [Option.some.injEq, Prod.mk.injEq] at e
    rw [← e.1, ← e.2]
    exact hbox
  have AF1 := aside (found_any H1 F l1)
  have AF2 := aside (fun V (hV : Below W1.heap.size W1 V) => found_any (H1.below hV) To l3)
  rw [← hF] at AF1
  rw [← hT'] at AF2
  rw [← hF, ← hN', ← hT', ← hA']
  have AH := aside H1
  have b0 : W1.cell? ⟨xb, 0, none⟩ = some (.int .i64 D) := by rw [cell_of_row W1 xb 0 _ _ _ hbox]; rfl
  have b1 : W1.cell? ⟨xb, 1, none⟩ = some (.string F') := by rw [cell_of_row W1 xb 1 _ _ _ hbox]; rfl
  have b3 : W1.cell? ⟨xb, 3, none⟩ = some (.string T') := by rw [cell_of_row W1 xb 3 _ _ _ hbox]; rfl
  have Ab0 := aside b0
  have Ab3 := aside b3
  have AN' := aside hN'
  have AA' := aside hA'
  have Al4 := aside l4
  have AhN := aside hN
  clear h H1 hb1 hbox hF hN' hT' hA' l1 l3 l4 b3 hN
  go_enter Tryz.func16, Tryz.ntmps16
  go_wp2_with (rw [← hxb, ← hW1])
  rw [← hW1]
  refine AF1.out.mono ?_
  rintro e W2 ⟨va, ua, rfl, hFa, hb2⟩
  have B2 := aside hb2
  have AFa := aside hFa
  have b32 : W2.cell? ⟨xb, 3, none⟩ = some (.string T') := (hb2.cell (World.block_lt_of_cell? W1 _ Ab3.out)).trans Ab3.out
  have AG2 := aside (AF2.out W2 hb2)
  clear hb2 AF1 AF2 hW1 hFa hxb
  go_wp2_with fail
  refine AG2.out.mono ?_
  rintro e W3 ⟨vc, uc, rfl, hFc, hb3⟩
  have B3 : Aside (Below W1.heap.size W1 W3) := below_tr B2.out hb3
  have AFc := aside hFc
  have AH3 := aside (AH.out.below B3.out)
  have b03 : W3.cell? ⟨xb, 0, none⟩ = some (.int .i64 D) := (B3.out.cell (World.block_lt_of_cell? W1 _ Ab0.out)).trans Ab0.out
  obtain ⟨b23, b43⟩ := AH3.out.wz.hbx
  obtain ⟨qa, na1, na2, ga1, ga2⟩ := AFa.out.nils
  obtain ⟨qc, nc1, nc2, gc1, gc2⟩ := AFc.out.nils
  have AzW : Aside (∀ {V : World} {S' T2 : List En} {rb' : List B → Nat}, Wz ⟨wA, some (xb, #[.int .i64 D, .string F', .string N', .string T', .string A'])⟩ V S' T2 rb' none none → Wz ⟨wA, none⟩ V S' T2 rb' none none) := fun {V} {S'} {T2} {rb'} hV => hV.rez (fun b cs e => by cases e)
  clear hb3 AG2 b32 hFc b0 b1
  by_cases d0 : D = 0
  · subst d0
    obtain ⟨c, S', T2, rb', hst⟩ := move_pair AH3.out AhN.out AFa.out AFc.out Nm As Al4.out
    rw [← AN'.out, ← AA'.out] at hst
    have Ast := aside hst
    have APf : Aside (∀ V T1 rb1, Wz ⟨wA, some (xb, #[.int .i64 0, .string F', .string N', .string T', .string A'])⟩ V S T1 rb1 none none → Calls Tryz.prog 21 #[va, .string N', vc, .string A'] V fun e V' => e = .returned (.int .i64 c) ∧ V'.cell? ⟨xb, 2, none⟩ = some (.string N') ∧ V'.cell? ⟨xb, 4, none⟩ = some (.string A') ∧ Aside (Wz ⟨wA, some (xb, #[.int .i64 0, .string F', .string N', .string T', .string A'])⟩ V' S' T1 rb1 none none)) := fun V T1 rb1 hV => (hst.pf V T1 rb1 hV).mono fun e V' ⟨z1, z2⟩ => ⟨z1, z2.hbx.1, z2.hbx.2, z2⟩
    have APg : Aside (∀ V S1, Wz ⟨wA, some (xb, #[.int .i64 0, .string F', .string N', .string T', .string A'])⟩ V S1 T rb none none → Calls Tryz.prog 44 #[ua, .string N', uc, .string A'] V fun e V' => e = .returned (.int .i64 c) ∧ V'.cell? ⟨xb, 2, none⟩ = some (.string N') ∧ V'.cell? ⟨xb, 4, none⟩ = some (.string A') ∧ Aside (Wz ⟨wA, some (xb, #[.int .i64 0, .string F', .string N', .string T', .string A'])⟩ V' S1 T2 rb' none none)) := fun V S1 hV => (hst.pg V S1 hV).mono fun e V' ⟨z1, z2⟩ => ⟨z1, z2.hbx.1, z2.hbx.2, z2⟩
    have HW0 := aside (AH3.out.wz.below (below_dr W3))
    clear hst
    go_wp2_with fail
    go_region_held3 (fun w' => w'.cell? ⟨xb, 2, none⟩ = some (.string N') ∧ w'.cell? ⟨xb, 4, none⟩ = some (.string A')) (go_keep) (first
      | (go_at_call 21; with_reducible refine (APf.out _ _ _ HW0.out).mono ?_; rintro e w5 ⟨rfl, k2, k4, hA⟩)
      | (go_at_call 44; with_reducible refine (APg.out _ _ HW0.out).mono ?_; rintro e w5 ⟨rfl, k2, k4, hB⟩)
      | (go_at_call 21; with_reducible refine (APf.out _ _ _ hB.out).mono ?_; rintro e w6 ⟨rfl, m2, m4, hAB⟩)
      | (go_at_call 44; with_reducible refine (APg.out _ _ hA.out).mono ?_; rintro e w6 ⟨rfl, m2, m4, hAB⟩))
    all_goals (
      clear APf APg k2 k4 m2 m4
      go_wp2_with fail
      go_ret
      exact ⟨rfl, S', T2, rb', AzW.out hAB.out, Ast.out.se, Ast.out.ru, Ast.out.rv, Ast.out.ls, Ast.out.lt⟩)
  · have d0b : (D == 0) = false := beq_eq_false_iff_ne.2 d0
    by_cases d1 : D = 1
    · subst d1
      have ACs := aside (mount_pair (w0 := ⟨wA, some (xb, #[.int .i64 1, .string F', .string N', .string T', .string A'])⟩) AFc.out)
      clear d0 d0b
      rcases ACs.out with ⟨c, hM1, hM2⟩ | ⟨hM1, hM2⟩
      · have AM1 := aside (hM1 W3 T rb none AH3.out.wz)
        have AM2 := aside (hM2 W3 S none AH3.out.wz)
        have APf : Aside (∀ V, Calls Tryz.prog 47 #[va, .string A', .pointer none] V fun e V' => e = .returned (.int .i64 1) ∧ V' = V) := fun V => add_nilm va A' V
        have APg : Aside (∀ V, Calls Tryz.prog 40 #[ua, .string A', .pointer none] V fun e V' => e = .returned (.int .i64 1) ∧ V' = V) := fun V => by
          rcases AFa.out with ⟨a, -, b, -, -, -, -, -, rfl⟩ | ⟨-, -, -, rfl⟩
          · exact rAdd_nil2 V A' _
          · exact rAdd_nil1 V A' _
        clear hM1 hM2 ACs
        go_wp2_with fail
        refine AM1.out.mono ?_
        rintro e w4 ⟨rfl, h4⟩
        obtain rfl := h4.symm
        clear h4
        go_wp2_with fail
        refine AM2.out.mono ?_
        rintro e w4 ⟨rfl, h4⟩
        obtain rfl := h4.symm
        clear h4 AM1 AM2
        have HW0 := aside (AH3.out.below (below_dr W3))
        go_wp2_with fail
        go_region_held3 (fun w' => w'.cell? ⟨xb, 4, none⟩ = some (.string A')) (go_keep) (first
          | (go_at_call 47; with_reducible refine (APf.out _).mono ?_; rintro e w5 ⟨rfl, rfl⟩)
          | (go_at_call 40; with_reducible refine (APg.out _).mono ?_; rintro e w5 ⟨rfl, rfl⟩))
        all_goals (
          go_wp2_with fail
          go_ret
          exact ⟨rfl, S, T, rb, AzW.out HW0.out.wz, HW0.out.se, HW0.out.ru, HW0.out.rv, by have := HW0.out.ls; omega, by have := HW0.out.lt; omega⟩)
      · obtain ⟨c, S', T2, rb', hst⟩ := add_pair AH3.out AhN.out 3 AFa.out As Al4.out
        rw [← AA'.out] at hst
        have Ast := aside hst
        have AM1 := aside (hM1 W3 T rb none AH3.out.wz)
        have AM2 := aside (fun V x hV => hM2 V S x hV)
        have APf : Aside (∀ V T1 rb1 y m, Wz ⟨wA, some (xb, #[.int .i64 1, .string F', .string N', .string T', .string A'])⟩ V S T1 rb1 (some (m, 3)) y → Calls Tryz.prog 47 #[va, .string A', Pt m] V fun e V' => e = .returned (.int .i64 c) ∧ V'.cell? ⟨xb, 4, none⟩ = some (.string A') ∧ Aside (Wz ⟨wA, some (xb, #[.int .i64 1, .string F', .string N', .string T', .string A'])⟩ V' (S' m) T1 rb1 none y)) := fun V T1 rb1 y m hV => (hst.pf V T1 rb1 y m hV).mono fun e V' ⟨z1, z2⟩ => ⟨z1, z2.hbx.2, z2⟩
        have APg : Aside (∀ V S1 x o, Wz ⟨wA, some (xb, #[.int .i64 1, .string F', .string N', .string T', .string A'])⟩ V S1 T rb x (some (o, 3)) → Calls Tryz.prog 40 #[ua, .string A', Pt o] V fun e V' => e = .returned (.int .i64 c) ∧ V'.cell? ⟨xb, 4, none⟩ = some (.string A') ∧ Aside (Wz ⟨wA, some (xb, #[.int .i64 1, .string F', .string N', .string T', .string A'])⟩ V' S1 T2 (rb' o) x none)) := fun V S1 x o hV => (hst.pg V S1 x o hV).mono fun e V' ⟨z1, z2⟩ => ⟨z1, z2.hbx.2, z2⟩
        clear hM1 hM2 ACs hst
        go_wp2_with fail
        refine AM1.out.mono ?_
        rintro e w4 ⟨m, rfl, h4⟩
        have A4 := aside h4
        have AM3 := aside (AM2.out w4 _ h4)
        clear h4 AM1 AM2
        go_wp2_with fail
        refine AM3.out.mono ?_
        rintro e w5 ⟨o, rfl, h5⟩
        have A5 := aside h5
        obtain ⟨-, b45⟩ := h5.hbx
        have HW0 := aside (h5.below (below_dr w5))
        clear h5 AM3
        go_wp2_with fail
        go_region_held3 (fun w' => w'.cell? ⟨xb, 4, none⟩ = some (.string A')) (go_keep) (first
          | (go_at_call 47; with_reducible refine (APf.out _ _ _ _ _ HW0.out).mono ?_; rintro e w6 ⟨rfl, k4, hA⟩)
          | (go_at_call 40; with_reducible refine (APg.out _ _ _ _ HW0.out).mono ?_; rintro e w6 ⟨rfl, k4, hB⟩)
          | (go_at_call 47; with_reducible refine (APf.out _ _ _ _ _ hB.out).mono ?_; rintro e w7 ⟨rfl, m4, hAB⟩)
          | (go_at_call 40; with_reducible refine (APg.out _ _ _ _ hA.out).mono ?_; rintro e w7 ⟨rfl, m4, hAB⟩))
        all_goals (
          clear APf APg k4 m4
          go_wp2_with fail
          go_ret
          exact ⟨rfl, S' m, T2, rb' o, AzW.out hAB.out, Ast.out.se m, Ast.out.ru m, Ast.out.rv o, Ast.out.ls m, Ast.out.lt⟩)
    · have d1b : (D == 1) = false := beq_eq_false_iff_ne.2 d1
      by_cases d2 : D = 2
      · subst d2
        obtain ⟨c, S', T2, rb', hst⟩ := add_pair AH3.out AhN.out 4 AFa.out As Al4.out
        rw [← AA'.out] at hst
        have Ast := aside hst
        have AWp : Aside (∀ V T1 rb1 y, Wz ⟨wA, some (xb, #[.int .i64 2, .string F', .string N', .string T', .string A'])⟩ V S T1 rb1 none y → Calls Tryz.prog 17 #[] V fun e V' => ∃ m, e = .returned (Pt m) ∧ V'.cell? ⟨xb, 4, none⟩ = some (.string A') ∧ Aside (Wz ⟨wA, some (xb, #[.int .i64 2, .string F', .string N', .string T', .string A'])⟩ V' S T1 rb1 (some (m, 4)) y)) := fun V T1 rb1 y hV => (wz_white hV).mono fun e V' ⟨m, z1, z2⟩ => ⟨m, z1, z2.hbx.2, z2⟩
        have AWg : Aside (∀ V S1 x, Wz ⟨wA, some (xb, #[.int .i64 2, .string F', .string N', .string T', .string A'])⟩ V S1 T rb x none → Calls Tryz.prog 48 #[] V fun e V' => ∃ o, e = .returned (Pt o) ∧ V'.cell? ⟨xb, 4, none⟩ = some (.string A') ∧ Aside (Wz ⟨wA, some (xb, #[.int .i64 2, .string F', .string N', .string T', .string A'])⟩ V' S1 T rb x (some (o, 4)))) := fun V S1 x hV => (wz_rwhite hV).mono fun e V' ⟨m, z1, z2⟩ => ⟨m, z1, z2.hbx.2, z2⟩
        have APf : Aside (∀ V T1 rb1 y m, Wz ⟨wA, some (xb, #[.int .i64 2, .string F', .string N', .string T', .string A'])⟩ V S T1 rb1 (some (m, 4)) y → Calls Tryz.prog 47 #[va, .string A', Pt m] V fun e V' => e = .returned (.int .i64 c) ∧ V'.cell? ⟨xb, 4, none⟩ = some (.string A') ∧ Aside (Wz ⟨wA, some (xb, #[.int .i64 2, .string F', .string N', .string T', .string A'])⟩ V' (S' m) T1 rb1 none y)) := fun V T1 rb1 y m hV => (hst.pf V T1 rb1 y m hV).mono fun e V' ⟨z1, z2⟩ => ⟨z1, z2.hbx.2, z2⟩
        have APg : Aside (∀ V S1 x o, Wz ⟨wA, some (xb, #[.int .i64 2, .string F', .string N', .string T', .string A'])⟩ V S1 T rb x (some (o, 4)) → Calls Tryz.prog 40 #[ua, .string A', Pt o] V fun e V' => e = .returned (.int .i64 c) ∧ V'.cell? ⟨xb, 4, none⟩ = some (.string A') ∧ Aside (Wz ⟨wA, some (xb, #[.int .i64 2, .string F', .string N', .string T', .string A'])⟩ V' S1 T2 (rb' o) x none)) := fun V S1 x o hV => (hst.pg V S1 x o hV).mono fun e V' ⟨z1, z2⟩ => ⟨z1, z2.hbx.2, z2⟩
        have h00 := aside (AH3.out.wz.below (below_dr W3))
        clear hst d0 d1 d0b d1b
        go_wp2_with fail
        go_region_held3 (fun w' => w'.cell? ⟨xb, 4, none⟩ = some (.string A')) (go_keep) (first
          | (go_at_call 17; with_reducible refine (AWp.out _ _ _ _ h00.out).mono ?_; rintro e wp0 ⟨m, rfl, kp0, h10⟩)
          | (go_at_call 47; with_reducible refine (APf.out _ _ _ _ _ h10.out).mono ?_; rintro e wq0 ⟨rfl, kq0, h20⟩)
          | (go_at_call 17; with_reducible refine (AWp.out _ _ _ _ h01.out).mono ?_; rintro e wp1 ⟨m, rfl, kp1, h11⟩)
          | (go_at_call 47; with_reducible refine (APf.out _ _ _ _ _ h11.out).mono ?_; rintro e wq1 ⟨rfl, kq1, h21⟩)
          | (go_at_call 17; with_reducible refine (AWp.out _ _ _ _ h02.out).mono ?_; rintro e wp2 ⟨m, rfl, kp2, h12⟩)
          | (go_at_call 47; with_reducible refine (APf.out _ _ _ _ _ h12.out).mono ?_; rintro e wq2 ⟨rfl, kq2, h22⟩)
          | (go_at_call 48; with_reducible refine (AWg.out _ _ _ h00.out).mono ?_; rintro e wr0 ⟨o, rfl, kr0, h01⟩)
          | (go_at_call 40; with_reducible refine (APg.out _ _ _ _ h01.out).mono ?_; rintro e ws0 ⟨rfl, ks0, h02⟩)
          | (go_at_call 48; with_reducible refine (AWg.out _ _ _ h10.out).mono ?_; rintro e wr1 ⟨o, rfl, kr1, h11⟩)
          | (go_at_call 40; with_reducible refine (APg.out _ _ _ _ h11.out).mono ?_; rintro e ws1 ⟨rfl, ks1, h12⟩)
          | (go_at_call 48; with_reducible refine (AWg.out _ _ _ h20.out).mono ?_; rintro e wr2 ⟨o, rfl, kr2, h21⟩)
          | (go_at_call 40; with_reducible refine (APg.out _ _ _ _ h21.out).mono ?_; rintro e ws2 ⟨rfl, ks2, h22⟩))
        all_goals (
          clear APf APg AWp AWg
          go_wp2_with fail
          go_ret
          exact ⟨rfl, S' m, T2, rb' o, AzW.out h22.out, Ast.out.se m, Ast.out.ru m, Ast.out.rv o, Ast.out.ls m, Ast.out.lt⟩)
      · have d2b : (D == 2) = false := beq_eq_false_iff_ne.2 d2
        by_cases d3 : D = 3
        · subst d3
          obtain ⟨c, S', T2, rb', hst⟩ := drop_pair AH3.out AFa.out Nm
          rw [← AN'.out] at hst
          have Ast := aside hst
          have APf : Aside (∀ V T1 rb1, Wz ⟨wA, some (xb, #[.int .i64 3, .string F', .string N', .string T', .string A'])⟩ V S T1 rb1 none none → Calls Tryz.prog 49 #[va, .string N'] V fun e V' => e = .returned (.int .i64 c) ∧ V'.cell? ⟨xb, 2, none⟩ = some (.string N') ∧ Aside (Wz ⟨wA, some (xb, #[.int .i64 3, .string F', .string N', .string T', .string A'])⟩ V' S' T1 rb1 none none)) := fun V T1 rb1 hV => (hst.pf V T1 rb1 hV).mono fun e V' ⟨z1, z2⟩ => ⟨z1, z2.hbx.1, z2⟩
          have APg : Aside (∀ V S1, Wz ⟨wA, some (xb, #[.int .i64 3, .string F', .string N', .string T', .string A'])⟩ V S1 T rb none none → Calls Tryz.prog 50 #[ua, .string N'] V fun e V' => e = .returned (.int .i64 c) ∧ V'.cell? ⟨xb, 2, none⟩ = some (.string N') ∧ Aside (Wz ⟨wA, some (xb, #[.int .i64 3, .string F', .string N', .string T', .string A'])⟩ V' S1 T2 rb' none none)) := fun V S1 hV => (hst.pg V S1 hV).mono fun e V' ⟨z1, z2⟩ => ⟨z1, z2.hbx.1, z2⟩
          have HW0 := aside (AH3.out.wz.below (below_dr W3))
          clear hst d0 d1 d2 d0b d1b d2b
          go_wp2_with fail
          go_region_held3 (fun w' => w'.cell? ⟨xb, 2, none⟩ = some (.string N')) (go_keep) (first
            | (go_at_call 49; with_reducible refine (APf.out _ _ _ HW0.out).mono ?_; rintro e w5 ⟨rfl, k2, hA⟩)
            | (go_at_call 50; with_reducible refine (APg.out _ _ HW0.out).mono ?_; rintro e w5 ⟨rfl, k2, hB⟩)
            | (go_at_call 49; with_reducible refine (APf.out _ _ _ hB.out).mono ?_; rintro e w6 ⟨rfl, m2, hAB⟩)
            | (go_at_call 50; with_reducible refine (APg.out _ _ hA.out).mono ?_; rintro e w6 ⟨rfl, m2, hAB⟩))
          all_goals (
            clear APf APg k2 m2
            go_wp2_with fail
            go_ret
            exact ⟨rfl, S', T2, rb', AzW.out hAB.out, Ast.out.se, Ast.out.ru, Ast.out.rv, Ast.out.ls, Ast.out.lt⟩)
        · have d3b : (D == 3) = false := beq_eq_false_iff_ne.2 d3
          have HW0 := aside AH3.out
          clear d0 d1 d2 d3
          go_wp2_with fail
          go_ret
          exact ⟨rfl, S, T, rb, AzW.out HW0.out.wz, HW0.out.se, HW0.out.ru, HW0.out.rv, by have := HW0.out.ls; omega, by have := HW0.out.lt; omega⟩
end Go.Proofs.YtbnaegoahdcejaaGreatDoor

namespace Go.Proofs.YtbnaegoahdcejaaGreatDoor
open Go.RowKit Go.ChangeMaps

theorem bulk_one {ms : List Im} {m : Im} (h : m ∈ ms) : m.p.size + m.x.length ≤ bulk ms := by
  unfold bulk
  induction ms with
  | nil => simp at h
  | cons y l ih =>
    rw [List.map_cons, List.sum_cons]
    rcases List.mem_cons.1 h with rfl | h
    · omega
    · have := ih h; omega
/-- A step in memory. -/
structure Tn where
  d : Int
  f : ByteArray
  n : ByteArray
  t : ByteArray
  s : ByteArray
/-- A list of steps in memory. -/
structure Tnp (W : World) (a : Option Addr) (ts : List Tn) : Prop where
  cel : ts ≠ [] → ∃ g o, a = some ⟨g, o, none⟩ ∧ ∀ (i : Nat) (t : Tn), ts[i]? = some t → W.cell? ⟨g, o + i * 5, none⟩ = some (.int .i64 t.d) ∧ W.cell? ⟨g, o + i * 5 + 1, none⟩ = some (.string t.f) ∧ W.cell? ⟨g, o + i * 5 + 2, none⟩ = some (.string t.n) ∧ W.cell? ⟨g, o + i * 5 + 3, none⟩ = some (.string t.t) ∧ W.cell? ⟨g, o + i * 5 + 4, none⟩ = some (.string t.s)
  fit : ∀ t ∈ ts, t.f.size ≤ 140737488351232 ∧ t.n.size ≤ 140737488351232 ∧ t.t.size ≤ 140737488351232 ∧ t.s.size ≤ 140737488351232
theorem Tnp.below {W W' : World} {a : Option Addr} {ts : List Tn} (h : Tnp W a ts) (b : Below W.heap.size W W') : Tnp W' a ts := by
  refine ⟨fun hn => ?_, h.fit⟩
  obtain ⟨g, o, e, hc⟩ := h.cel hn
  have hk : ∀ {p : Addr} {v : Value}, W.cell? p = some v → W'.cell? p = some v := fun {p} {v} hv => (b.cell (World.block_lt_of_cell? W _ hv)).trans hv
  exact ⟨g, o, e, fun i t ht => by
    obtain ⟨h0, h1, h2, h3, h4⟩ := hc i t ht
    exact ⟨hk h0, hk h1, hk h2, hk h3, hk h4⟩⟩
/-- What like needs of both trees. -/
theorem Lp.pair {w0 : Wbx} {W : World} {u0 v0 N : Nat} {S T : List En} {rb : List B → Nat} (h : Lp w0 W u0 v0 N S T rb none none) : ∃ ic L c1 c2 c3, Pair W (Pt u0) (Pt v0) ic L c1 c2 c3 := by
  obtain ⟨r, hr, hrp, hrn⟩ := h.ru
  have hrk : r.k = 1 := by
    obtain ⟨z, z1, z2, z3⟩ := h.wz.tr.root
    rw [one_p h.wz.tr.one hr z1 (hrp.trans z2.symm)]; exact z3
  obtain ⟨d, hd, k1, k2, -⟩ := h.se.twin hr
  have := pair_tree h.wz.tr h.wz.rt (h.wz.nam h.se) h.se hr hrk hrp hd (k2.trans hrk) (k1.trans hrp)
  rw [hrn, k1, hrp, h.rv] at this
  exact this
theorem Rt.lo {F : World → Nat → B → Prop} {lo l2 : Nat} {w : World} {S : List En} {rb : List B → Nat} (h : Rt F lo w S rb) (hl : l2 ≤ lo) : Rt F l2 w S rb := Rt.of h.rq (fun e he => Nat.le_trans hl (h.low e he)) h.rg
set_option maxRecDepth 20000 in
set_option maxHeartbeats 8000000 in
theorem treeMoves_walk (a : Option Addr) (ms : List Im) (n c : Nat) (a2 : Option Addr) (ts : List Tn) (n2 c2 : Nat) (w : World) (hn : n = ms.length) (hnl : n ≤ 140737488351232) (hI : Inp w a ms) (hF : Fits ms) (hM : Mxl w) (hn2 : n2 = ts.length) (hnl2 : n2 ≤ 140737488351232) (hT : Tnp w a2 ts) : Calls Tryz.prog 4 #[.slice a n c, .slice a2 n2 c2] w fun e w' => e = .returned (.bool true) ∧ Below w.heap.size w w' := by
  have AI := aside hI
  have AM := aside hM
  have AN := aside hn
  have AN2 := aside hn2
  have AT := aside hT
  have AG := aside (great_any a ms n c w hn hnl hI hF)
  clear hI hM hn hF hT hn2
  go_enter Tryz.func4, Tryz.ntmps4
  go_wp2_with fail
  refine AG.out.mono ?_
  rintro e w1 ⟨hb1, q, rfl, hq⟩
  have AB1 := aside hb1
  clear AG hb1
  have fin : Aside (∀ V, Below w.heap.size w V → Calls Tryz.prog 10 #[] V fun e w' => e = .returned (.bool true) ∧ Below w.heap.size w w') := fun V hV => (wakes19_any _ (AM.out.below hV AM.out.lt)).mono fun e w' ⟨h1, h2⟩ => ⟨h1, below_tr hV h2⟩
  cases q with
  | true =>
    clear hq
    go_wp2_with fail
    refine (fin.out _ AB1.out).mono ?_
    rintro e w2 ⟨rfl, hb2⟩
    have AB2 := aside hb2
    clear hb2
    go_wp2_with fail
    go_ret
    exact ⟨rfl, AB2.out⟩
  | false =>
    obtain ⟨hq1, hq2⟩ := hq rfl
    have hn200 : n ≤ 200 := by rw [AN.out]; exact hq1
    have AL : Aside (∀ m ∈ ms, m.p.size ≤ 1000000 ∧ m.x.length ≤ 1000000) := fun m hm => by have := bulk_one hm; omega
    clear hq hq1 hq2
    by_cases h60 : 60 < n2
    · have h60i : (60 : Int) < (n2 : Int) := by omega
      go_wp2_with fail
      refine (fin.out _ AB1.out).mono ?_
      rintro e w2 ⟨rfl, hb2⟩
      have AB2 := aside hb2
      clear hb2
      go_wp2_with fail
      go_ret
      exact ⟨rfl, AB2.out⟩
    · have h60i : ¬ (60 : Int) < (n2 : Int) := by omega
      have AI1 := aside (AI.out.below AB1.out)
      have AM1 := aside (AM.out.below AB1.out AM.out.lt)
      have AK := aside (tmake_any a ms n c w1 AN.out (by omega) AI1.out AM1.out)
      go_wp2_with fail
      refine AK.out.mono ?_
      rintro e w3 hP
      obtain ⟨cc, ci, T, hmk, hb3, h3⟩ := MakeP.told hP
      have Amk := aside hmk
      have Ab3 := aside hb3
      have AB3 := aside (below_tr AB1.out hb3)
      have hres : ∃ u : Value, e = .returned (.tuple #[u, .int .i64 cc, .int .i64 (ci : Int)]) ∧ ((cc ≠ 0 ∧ u = .pointer none) ∨ (cc = 0 ∧ ci = 0 ∧ ∃ S r, Tr w1.heap.size w3 S ∧ Told9 S r (ms.map Im.it) ∧ u = Pt r.nb)) := by
        rcases h3 with ⟨h0, rfl⟩ | ⟨h0, S, r, h1, h2, rfl⟩
        · exact ⟨_, rfl, .inl ⟨h0, rfl⟩⟩
        · have hci : ci = 0 := by
            subst h0
            exact (mkT_ok _ _ _ _ _ hmk).2.1
          subst h0; subst hci
          exact ⟨_, rfl, .inr ⟨rfl, rfl, S, r, h1, h2, rfl⟩⟩
      obtain ⟨u, rfl, hu⟩ := hres
      have Au := aside hu
      have AI3 := aside (AI.out.below AB3.out)
      have ARM := aside (rmake_any a ms n c w3 AN.out (by omega) AI3.out AL.out)
      clear AK hP hmk hb3 h3 hu
      go_wp2_with fail
      refine ARM.out.mono ?_
      rintro e w5 hRP
      obtain ⟨cc2, ci2, T2, hmk2, hb5, h5⟩ := hRP
      have hsame := Amk.out.symm.trans hmk2
      simp only [Prod.mk.injEq] at hsame
      obtain ⟨rfl, rfl, rfl⟩ := hsame
      have AB5 := aside (below_tr AB3.out hb5)
      have Ab5 := aside hb5
      have hfin : ∃ v : Value, e = .returned (.tuple #[v, .int .i64 cc, .int .i64 (ci : Int)]) ∧ ((cc ≠ 0 ∧ u = .pointer none ∧ v = .pointer none) ∨ (cc = 0 ∧ ∃ u0 v0 S rb, u = Pt u0 ∧ v = Pt v0 ∧ Lp ⟨w, none⟩ w5 u0 v0 201 S T rb none none)) := by
        rcases Au.out with ⟨h0, hun⟩ | ⟨h0, h00, S, r, hTr, hTo, hur⟩
        · rcases h5 with ⟨-, he⟩ | ⟨h6, -⟩
          · exact ⟨_, he, .inl ⟨h0, hun, rfl⟩⟩
          · exact absurd h6 h0
        · rcases h5 with ⟨h6, -⟩ | ⟨-, rb, hD, he⟩
          · exact absurd h0 h6
          · subst h0; subst h00
            obtain ⟨j1, -, j3⟩ := mkT_ok _ _ _ _ _ Amk.out
            refine ⟨Pt (rb []), he, .inr ⟨rfl, r.nb, rb [], S, rb, hur, rfl, ?_⟩⟩
            have hl : (ms.map Im.it).length = n := by rw [List.length_map, AN.out]
            have hSl : S.length ≤ 201 := by
              have h1 := congrArg List.length hTo.pes
              simp only [List.length_map, List.length_cons] at h1
              have h2 := AN.out
              omega
            have hTl : T.length ≤ 201 := by
              rw [j1, List.length_append, List.length_map, hl]
              simp
              omega
            have hSE : SamE S T := SamE.of_pe (by rw [hTo.pes, j1]; rfl)
            refine ⟨⟨AB5.out, fun b cs e => (by cases e), (hTr.below Ab5.out).lo AB1.out.size, fun e he hk => ?_, hD.tr.lo AB3.out.size, fun b k e => (by cases e), fun b k e => (by cases e)⟩, hSE, ⟨r, hTo.rin, hTo.rp, rfl⟩, rfl, hSl, hTl⟩
            obtain ⟨f, hf, k1, k2, k3⟩ := hSE.twin he
            rw [j1] at hf
            rcases List.mem_append.1 hf with hf | hf
            · rw [List.mem_singleton.1 hf] at k2
              have : root0.k = 1 := rfl
              omega
            · obtain ⟨i, hi, rfl⟩ := List.mem_map.1 hf
              obtain ⟨-, -, f3, -⟩ := j3 i hi
              have k4 : i.2.1.toNat = e.k := k2
              omega
      obtain ⟨v, rfl, hcs⟩ := hfin
      have Acs := aside hcs
      clear h5 hb5 hmk2 ARM
      rcases hcs with ⟨h0, rfl, rfl⟩ | ⟨rfl, u0, v0, S, rb, rfl, rfl, hLp⟩
      · have h0b : (cc == 0) = false := beq_eq_false_iff_ne.2 h0
        clear h0
        go_wp2_with fail
        refine (fin.out _ AB5.out).mono ?_
        rintro e w6 ⟨rfl, hb6⟩
        have AB6 := aside hb6
        clear hb6
        go_wp2_with fail
        go_ret
        exact ⟨rfl, AB6.out⟩
      · have ALp := aside hLp
        clear hLp
        go_wp2_with fail
        go_loopg [11, 12] n2 (fun g s11 _ wx => ∃ (i : Nat) (S' T' : List En) (rb' : List B → Nat), i + g = n2 ∧ s11 = .int .i64 (i : Int) ∧ Lp ⟨w, none⟩ wx u0 v0 (201 + i) S' T' rb' none none)
        case atStart => exact ⟨0, S, T, rb, by omega, rfl, ALp.out⟩
        case round =>
          obtain ⟨i, S', T', rb', hig, rfl, hL⟩ := hrel
          have AL2 := aside hL
          have BX : Aside (Below w.heap.size w wr) := hL.wz.bel
          clear hL
          cases gk with
          | zero =>
            obtain rfl : i = n2 := by omega
            have hi : ¬ (i : Int) < (i : Int) := by omega
            go_wp2_with fail
            refine (fin.out _ BX.out).mono ?_
            rintro e w6 ⟨rfl, hb6⟩
            have AB6 := aside hb6
            clear hb6
            go_wp2_with fail
            go_ret
            exact ⟨rfl, AB6.out⟩
          | succ gk =>
            have hi : (i : Int) < (n2 : Int) := by omega
            have hi0 : (0 : Int) ≤ (i : Int) := by omega
            have hwi : IntKind.i64.wrap ((i : Int) + 1) = ((i + 1 : Nat) : Int) := by rw [wrap_small _ (by omega) (by omega)]; simp
            obtain ⟨t, ht⟩ : ∃ t, ts[i]? = some t := ⟨_, List.getElem?_eq_getElem (by rw [← AN2.out]; omega)⟩
            have hTw := AT.out.below BX.out
            obtain ⟨g, o, rfl, hc⟩ := hTw.cel (fun e => by rw [e] at ht; simp at ht)
            obtain ⟨e0, e1, e2, e3, e4⟩ := hc i t ht
            obtain ⟨f1, f2, f3, f4⟩ := hTw.fit t (List.mem_of_getElem? ht)
            obtain ⟨td, tf, tn, tt, tsv⟩ := t
            simp only at e0 e1 e2 e3 e4 f1 f2 f3 f4
            clear hTw hc ht
            obtain ⟨s1, hs1⟩ : ∃ s1, s1 = tf.size + tn.size := ⟨_, rfl⟩
            have hw1 : IntKind.i64.wrap ((tf.size : Int) + (tn.size : Int)) = (s1 : Int) := by rw [wrap_small _ (by omega) (by omega)]; omega
            obtain ⟨s2, hs2⟩ : ∃ s2, s2 = s1 + tt.size := ⟨_, rfl⟩
            have hw2 : IntKind.i64.wrap ((s1 : Int) + (tt.size : Int)) = (s2 : Int) := by rw [wrap_small _ (by omega) (by omega)]; omega
            obtain ⟨s3, hs3⟩ : ∃ s3, s3 = s2 + tsv.size := ⟨_, rfl⟩
            have hw3 : IntKind.i64.wrap ((s2 : Int) + (tsv.size : Int)) = (s3 : Int) := by rw [wrap_small _ (by omega) (by omega)]; omega
            by_cases hbig : 16384 < s3
            · have hbg : (16384 : Int) < (s3 : Int) := by omega
              have BXb : Aside (Below w.heap.size w (wr.alloc (.cells #[.int .i64 td, .string tf, .string tn, .string tt, .string tsv] 37))) := below_tr BX.out (below_al wr _)
              clear hs1 hs2 hs3 hbig
              go_wp2_with fail
              refine (fin.out _ BXb.out).mono ?_
              rintro e w6 ⟨rfl, hb6⟩
              have AB6 := aside hb6
              clear hb6
              go_wp2_with fail
              go_ret
              exact ⟨rfl, AB6.out⟩
            · have hbg : ¬ (16384 : Int) < (s3 : Int) := by omega
              obtain ⟨W2, hW2⟩ : ∃ W2, W2 = wr.alloc (.cells #[.int .i64 td, .string tf, .string tn, .string tt, .string tsv] 37) := ⟨_, rfl⟩
              have hB2 : Below wr.heap.size wr W2 := by rw [hW2]; exact below_al wr _
              have hL3 := AL2.out.below hB2
              have hsz : ∀ b : ByteArray, b.data.toList.length = b.size := fun b => (Lib.size_eq b).symm
              have ATn := aside (turned_any hL3 (by omega) td tf.data.toList tn.data.toList tt.data.toList tsv.data.toList (by rw [hsz]; omega) (by rw [hsz]; omega) (by rw [hsz]; omega))
              rw [ba_of, ba_of, ba_of, ba_of] at ATn
              have AW2 := aside hW2
              clear hs1 hs2 hs3 hbig hL3 hB2 hsz hW2
              go_wp2_with fail
              rw [← AW2.out]
              refine ATn.out.mono ?_
              rintro e w6 ⟨rfl, S6, T6, rb6, hL6⟩
              have AL6 := aside hL6
              obtain ⟨ic, L, k1, k2, k3, hPr⟩ := hL6.pair
              have ALk := aside (like_any hPr)
              clear hPr hL6 ATn
              go_wp2_with fail
              refine ALk.out.mono ?_
              rintro e w7 ⟨rfl, hb7⟩
              have AL7 := aside (AL6.out.below hb7)
              clear hb7 ALk
              go_wp2_with fail
              go_roundg gk
              case measure => omega
              case rel => exact ⟨i + 1, S6, T6, rb6, by omega, by first | rfl | simp, AL7.out⟩
end Go.Proofs.YtbnaegoahdcejaaGreatDoor
