/-
  WindowNil: of no handle New answers no handle and ErrNil, and Read answers none, whatever the numbers; for every input, with no condition of ours.
-/
import Derived.Test.YtpbblgcnbgdejaaRows
import Derived.Test.YtpbblgcnbgdejaaWinDo
import Derived.ProofKit
import Derived.OpenShut
import Derived.ShutString
import Derived.ChangeOld
import Derived.Below
import Derived.Lib.SmallJoins
namespace Go.Proofs.Ytpbblgcnbgdejaa
open Go.ChangeShapes Go.WideShapes Go.ChangeAt Go.RowKit Go.Joins
attribute [local simp] lcells_nil readB_length bcells_length

theorem own_cells {w : World} {g n cap : Nat} {l : List UInt8} (h : w.ownsRow 0 5 1 (.slice (some ⟨g, 0, none⟩) n cap) n (bcells l)) : ∀ j v, (bcells l)[j]? = some v → w.cell? ((⟨g, 0, none⟩ : Addr).add j) = some v := fun j v hj => by
  have hl := h.1
  have hjl : j < (bcells l).length := (List.getElem?_eq_some_iff.1 hj).1
  rw [Addr.add_lit, Nat.zero_add, h.cellAt j (by omega)]; exact hj

theorem ownT : ownKnob Try.prog.godebug = none := by kernel_rfl
theorem laidOutT : laidOutB Try.prog = true := by kernel_rfl

set_option maxRecDepth 20000 in
set_option maxHeartbeats 2000000 in
theorem works_any (w : World) : Calls Try.prog 8 #[] w fun e w' => e = .returned (.bool true) ∧ Below w.heap.size w w' := by
  have hcv := fun (w : World) (C : Array Value) (n c : Nat) => Lib.run_convert_bytes_const (P := Try.prog) w 22 5 C n c Try.underlying22 Try.underlying5
  have fN : ∀ (w : World), (Instr.field 48 (.agg #[.int .i64 0, .int .i64 4, .int .i64 0, .slice none 0 0]) 1).run Try.prog w = .ok (.int .i64 4) w := fun w => by kernel_rfl
  have fE : ∀ (w : World), (Instr.field 48 (.agg #[.int .i64 5, .int .i64 0, .int .i64 0, .slice none 0 0]) 0).run Try.prog w = .ok (.int .i64 5) w := fun w => by kernel_rfl
  go_enter Try.func8, Try.ntmps8
  go_wp2_with fail
  refine (new_allL w.heap.size [48, 49, 50, 51, 52, 53, 54, 55, 56, 57] _ _ (by decide) (by decide) (heap_alloc_new w _)).mono ?_
  rintro e w1 ⟨hb, fb, m, s, lv, g, cap, rfl, hA, hF, hR, hb1⟩
  have HA := aside hA
  have HF := aside hF
  have HR : Aside (Rep w1 s 10 lv [⟨0, g, cap, [48, 49, 50, 51, 52, 53, 54, 55, 56, 57]⟩]) := hR
  have HW := aside (below_tr (below_al w _) hb1)
  clear hA hF hR hb1
  go_wp2_with fail
  refine (winNew_any hb fb _ w1 HA.out).mono ?_
  rintro e w2 ⟨hb2, fb2, f, b, c, rfl, hV, hbe⟩
  have HA2 := aside (HA.out.below hbe)
  have HF2 := aside (HF.out.below hbe)
  have HR2 := aside (HR.out.below hbe)
  have HW2 := aside (below_tr HW.out hbe)
  have HV2 := aside hV
  clear hV hbe HA HF HR HW
  go_wp2_with fail
  refine (winDoRead hb2 fb2 f b c fb hb m s lv _ w2 HV2.out HA2.out HF2.out HR2.out).mono ?_
  rintro e w3 ⟨dg, dcap, rfl, hdg, hown, hbe⟩
  rw [show readB [⟨0, g, cap, [48, 49, 50, 51, 52, 53, 54, 55, 56, 57]⟩] 4 3 = [52, 53, 54] from rfl] at hown
  have HA3 := aside (HA2.out.below hbe)
  have HF3 := aside (HF2.out.below hbe)
  have HR3 := aside (HR2.out.below hbe)
  have HW3 := aside (below_tr HW2.out hbe)
  have HV3 := aside (HV2.out.below hbe)
  have HO := aside hown
  clear hown hbe hdg HA2 HF2 HR2 HW2 HV2
  have hd := fun o => str_of_bytes (w3.alloc o) ⟨dg, 0, none⟩ [52, 53, 54] 3 dcap rfl (own_cells (row_below HO.out (below_al w3 o)))
  go_wp2_with fail
  have hal := below_al w3 (.cells #[.int .i64 0, .int .i64 0, .int .i64 0, .slice (some ⟨dg, 0, none⟩) 3 dcap] 48)
  refine (winDoSize hb2 fb2 f b c fb hb m s lv _ _ (HV3.out.below hal) (HA3.out.below hal) (HF3.out.below hal) (HR3.out.below hal)).mono ?_
  rintro e w4 ⟨rfl, hb4⟩
  have hbe := below_tr hal hb4
  have HV4 := aside (HV3.out.below hbe)
  have HW4 := aside (below_tr HW3.out hbe)
  clear hal hb4 hbe HA3 HF3 HR3 HW3 HV3 HO hd
  go_wp2_with fail
  refine (winCan_any hb2 fb2 f b c fb w4 HV4.out).mono ?_
  rintro e w5 ⟨rfl, rfl⟩
  go_wp2_with fail
  refine (winCut_none hb2 fb2 f b c fb w5 HV4.out).mono ?_
  rintro e w6 ⟨rfl, hb6⟩
  go_wp2_with fail
  go_ret
  exact ⟨rfl, below_tr HW4.out hb6⟩

set_option maxRecDepth 20000 in
set_option maxHeartbeats 1000000 in
theorem windowNil_walk (a n : Int) (w : World) : Calls Try.prog 4 #[.int .i64 a, .int .i64 n] w fun e w' => e = .returned (.bool true) ∧ Below w.heap.size w w' := by
  go_enter Try.func4, Try.ntmps4
  go_wp2_with fail
  refine (winNew_nil a n w).mono ?_
  rintro e w1 ⟨rfl, rfl⟩
  go_wp2_with fail
  refine (winRead_nil w1).mono ?_
  rintro e w2 ⟨rfl, rfl⟩
  go_wp2_with fail
  refine (works_any w2).mono ?_
  rintro e w3 ⟨rfl, hb⟩
  go_wp2_with fail
  go_ret
  exact ⟨rfl, hb⟩

set_option maxRecDepth 100000 in
theorem windowNil_lifted (os : Os) (started : os.Started) (H : Type) (enc : TypeId × Value → H) :
    ReturnsInHanded {} Try.checked os 4 .any (Rows.windowNilSpec.pre6 enc Try.prog Try.f4 Rows.windowNilRow.domain false) (Rows.windowNilSpec.post enc Try.prog Try.f4 false true false false) := by
  refine returnsInHanded_of_change (C := Try.checked) ownT started (by kernel_rfl) Try.func4
    (ChangeSpec.witness6 (enc := enc) (C := Try.checked) false ⟨#[], #[.int .i64 0, .int .i64 0], []⟩ 8 (by kernel_rfl) (by kernel_rfl) (by kernel_rfl) (by kernel_rfl)) ?_
  intro W base args ds gs before hval0 hW hcnd _
  have hval : ∀ (j : Nat) t v, Try.f4.params[j]? = some t → args[j]? = some v → Value.okWide Try.prog W .any base t v := hval0
  have hW' := hW
  obtain ⟨p, q, hA0, hV, rfl, hfz, hnd⟩ := hW
  have hA : DataW.TrodAll enc Try.prog W 0 (fun _ => true) true Try.f4.params.toList args.toList ds p := hA0
  rw [Try.params4] at hA hval
  obtain ⟨v0, vs0, d0, ds0, p0, q0, hargs, rfl, rfl, h0, r0⟩ := trodAll_cons hA
  obtain ⟨v1, vs1, d1, ds1, p1, q1, rfl, rfl, rfl, h1, r1⟩ := trodAll_cons r0
  obtain ⟨rfl, rfl, rfl⟩ := trodAll_nil r1
  obtain rfl : args = #[v0, v1] := by cases args; simp_all
  obtain ⟨rfl, rfl⟩ := trodVars_none hV
  have k0 := h0
  have k1 := h1
  have lt0 : ∀ x ∈ p0, x.block < W.heap.size := by obtain ⟨m, hm⟩ := k0; exact DataW.trod_lt m _ _ _ hm
  have lt1 : ∀ x ∈ p1, x.block < W.heap.size := by obtain ⟨m, hm⟩ := k1; exact DataW.trod_lt m _ _ _ hm
  obtain ⟨a, rfl, -, -, -⟩ := open_int Try.underlying2 (hval 0 2 v0 rfl rfl) h0
  obtain ⟨n, rfl, -, -, -⟩ := open_int Try.underlying2 (hval 1 2 v1 rfl rfl) h1
  clear hA0 hval0
  refine (windowNil_walk a n W).mono fun e W' ⟨he, bel⟩ => ?_
  subst he
  exact ⟨_, rfl, _, _, _, [], _, [], hW', trodAll_mk1 (shut_bool Try.underlying4 _), (trodAll_cons_mk (Below.trod laidOutT (by kernel_rfl) (of_decide_eq_true (by kernel_rfl)) k0 bel lt0) (trodAll_cons_mk (Below.trod laidOutT (by kernel_rfl) (of_decide_eq_true (by kernel_rfl)) k1 bel lt1) trodAll_mk0)), rfl, bel.frame _, fun h => by cases h⟩

theorem windowNil_holds : Rows.WindowNilSaid :=
  OpenClaim.holds_of_wide 4 Try.f4 rfl rfl rfl rfl rfl rfl rfl ⟨rfl, rfl, rfl, rfl, rfl⟩ rfl rfl rfl rfl rfl (by kernel_rfl) Try.func4 (by kernel_rfl)
    (of_decide_eq_true (by kernel_rfl)) (by unfold Func.isWrapper; first | (rw [if_pos (by decide +kernel)]; kernel_rfl) | (rw [if_neg (by decide +kernel)]; exact ⟨rfl, rfl⟩))
    (fun os started H enc _ => windowNil_lifted os started H enc)

#print axioms windowNil_holds
end Go.Proofs.Ytpbblgcnbgdejaa
