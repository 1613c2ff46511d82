/-
  SpanNil: of no bytes, Put, Cut and Punch answer ErrNil, all other calls zeros, whatever the call; for every input, with no condition of ours.
-/
import Derived.Test.YtkekaljcbmkomaaRows
import Derived.Test.YtkekaljcbmkomaaWakes
import Derived.ProofKit
import Derived.OpenShut
import Derived.ShutString
import Derived.ChangeOld
import Derived.Below
import Derived.Lib.SmallJoins
namespace Go.Proofs.Ytkekaljcbmkomaa
open Go.ChangeShapes Go.WideShapes Go.ChangeAt Go.RowKit Go.Joins
attribute [local simp] lcells_nil readB_length bcells_length

theorem ownT : ownKnob Try.prog.godebug = none := by kernel_rfl
theorem laidOutT : laidOutB Try.prog = true := by kernel_rfl
theorem cells34T : Try.prog.cellsOf 34 = 4 := by kernel_rfl

set_option maxHeartbeats 1000000 in
theorem spanNil_walk (d t n : Int) (a : Option Addr) (l c : Nat) (w : World) :
    Calls Try.prog 5 #[.agg #[.int .i64 d, .int .i64 t, .int .i64 n, .slice a l c]] w fun e w' => e = .returned (.bool true) ∧ Below w.heap.size w w' := by
  go_enter Try.func5, Try.ntmps5
  go_wp2_with fail
  refine (nextNil_any t _).mono ?_
  rintro e w1 ⟨rfl, hb1⟩
  have hW1 : Below w.heap.size w w1 := (below_al w _).trans (hb1.mono (by simp))
  have hc := fun o => hb1.cell (p := ⟨w.heap.size, o, none⟩) (by simp)
  have c1 : w1.cell? ⟨w.heap.size, 1, none⟩ = some (.int .i64 t) := (hc 1).trans (by go_simp)
  have c2 : w1.cell? ⟨w.heap.size, 2, none⟩ = some (.int .i64 n) := (hc 2).trans (by go_simp)
  have c3 : w1.cell? ⟨w.heap.size, 3, none⟩ = some (.slice a l c) := (hc 3).trans (by go_simp)
  have HW := aside hW1
  clear hb1 hc hW1
  go_wp2_with fail
  refine (putNil_any t (.slice a l c) w1).mono ?_
  rintro e w2 ⟨rfl, rfl⟩
  go_wp2_with fail
  refine (cutNil_any t w2).mono ?_
  rintro e w3 ⟨rfl, rfl⟩
  go_wp2_with fail
  refine (punchNil_any t n w3).mono ?_
  rintro e w4 ⟨rfl, rfl⟩
  go_wp2_with fail
  refine (getNil_any t 5 w4).mono ?_
  rintro e w5 ⟨rfl, rfl⟩
  go_wp2_with fail
  refine (sizeNil_any w5).mono ?_
  rintro e w6 ⟨rfl, rfl⟩
  go_wp2_with fail
  refine (heldNil_any w6).mono ?_
  rintro e w7 ⟨rfl, rfl⟩
  go_wp2_with fail
  refine (twinNil_any w7).mono ?_
  rintro e w8 ⟨rfl, rfl⟩
  go_wp2_with fail
  refine (wakes_any w8).mono ?_
  rintro e w9 ⟨rfl, hb9⟩
  go_wp2
  go_ret
  exact ⟨rfl, below_tr HW.out hb9⟩

set_option maxRecDepth 100000 in
theorem spanNil_lifted (os : Os) (started : os.Started) (H : Type) (enc : TypeId × Value → H) :
    ReturnsInHanded {} Try.checked os 5 .any (Rows.spanNilSpec.pre6 enc Try.prog Try.f5 Rows.spanNilRow.domain false) (Rows.spanNilSpec.post enc Try.prog Try.f5 false true false false) := by
  refine returnsInHanded_of_change (C := Try.checked) ownT started (by kernel_rfl) Try.func5
    (ChangeSpec.witness6 (enc := enc) (C := Try.checked) false ⟨#[], #[.agg #[.int .i64 0, .int .i64 0, .int .i64 0, .slice none 0 0]], []⟩ 8 (by kernel_rfl) (by kernel_rfl) (by kernel_rfl) (by kernel_rfl)) ?_
  intro W base args ds gs before hval0 hW hcnd _
  have hval : ∀ (j : Nat) t v, Try.f5.params[j]? = some t → args[j]? = some v → Value.okWide Try.prog W .any base t v := hval0
  have hW' := hW
  obtain ⟨p, q, hA0, hV, rfl, hfz, hnd⟩ := hW
  have hA : DataW.TrodAll enc Try.prog W 0 (fun _ => true) true Try.f5.params.toList args.toList ds p := hA0
  rw [Try.params5] at hA hval
  obtain ⟨v0, vs0, d0, ds0, p0, q0, hargs, rfl, rfl, h0, r0⟩ := trodAll_cons hA
  obtain ⟨rfl, rfl, rfl⟩ := trodAll_nil r0
  obtain rfl : args = #[v0] := by cases args; simp_all
  obtain ⟨rfl, rfl⟩ := trodVars_none hV
  have k0 := h0
  have lt0 : ∀ x ∈ p0, x.block < W.heap.size := by obtain ⟨m, hm⟩ := k0; exact DataW.trod_lt m _ _ _ hm
  obtain ⟨d, t, n, a, l, c, rfl⟩ : ∃ (d t n : Int) (a : Option Addr) (l c : Nat), v0 = .agg #[.int .i64 d, .int .i64 t, .int .i64 n, .slice a l c] := by
    obtain ⟨c0, c1, c2, c3, y0, y1, y2, y3, m, rfl, -, -, g0, g1, g2, g3⟩ := open_agg4 Try.underlying34 (by kernel_rfl) cells34T (hval 0 34 v0 rfl rfl) h0
    obtain ⟨d, e0, -, -⟩ := DataW.trod_int Try.underlying3 g0
    obtain ⟨t, e1, -, -⟩ := DataW.trod_int Try.underlying2 g1
    obtain ⟨n, e2, -, -⟩ := DataW.trod_int Try.underlying2 g2
    obtain ⟨a, l, c, e3⟩ := slice_form Try.underlying22 g3
    simp only [List.cons.injEq, and_true] at e0 e1 e2 e3
    subst e0 e1 e2 e3
    exact ⟨d, t, n, a, l, c, rfl⟩
  clear hA0 hval0
  refine (spanNil_walk d t n a l c W).mono fun e W' ⟨he, bel⟩ => ?_
  subst he
  exact ⟨_, rfl, _, _, _, [], _, [], hW', trodAll_mk1 (shut_bool Try.underlying4 _), (trodAll_cons_mk (Below.trod laidOutT (by kernel_rfl) (of_decide_eq_true (by kernel_rfl)) k0 bel lt0) trodAll_mk0), rfl, bel.frame _, fun h => by cases h⟩

theorem spanNil_holds : Rows.SpanNilSaid :=
  OpenClaim.holds_of_wide 5 Try.f5 rfl rfl rfl rfl rfl rfl rfl ⟨rfl, rfl, rfl, rfl, rfl⟩ rfl rfl rfl rfl rfl (by kernel_rfl) Try.func5 (by kernel_rfl)
    (of_decide_eq_true (by kernel_rfl)) (by unfold Func.isWrapper; first | (rw [if_pos (by decide +kernel)]; kernel_rfl) | (rw [if_neg (by decide +kernel)]; exact ⟨rfl, rfl⟩))
    (fun os started H enc _ => spanNil_lifted os started H enc)

#print axioms spanNil_holds
end Go.Proofs.Ytkekaljcbmkomaa
