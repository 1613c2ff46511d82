/-
  MemoryNil: of no bytes Of answers no handle and ErrNil, of no handle All answers no bytes and ErrNil, whatever the set; for every input, with no condition of ours.
-/
import Derived.Test.YtgmalgfgealdcaaRows
import Derived.Test.YtgmalgfgealdcaaAsk
import Derived.ProofKit
import Derived.OpenShut
import Derived.ShutString
import Derived.ChangeOld
import Derived.Below
import Derived.Lib.SmallJoins
namespace Go.Proofs.Ytgmalgfgealdcaa
open Go.ChangeShapes Go.WideShapes Go.ChangeAt Go.RowKit Go.Joins
attribute [local simp] lcells_nil readB_length bcells_length

theorem own_cells {w : World} {g n cap : Nat} {l : List UInt8} (h : w.ownsRow 0 5 1 (.slice (some ⟨g, 0, none⟩) n cap) n (bcells l)) : ∀ j v, (bcells l)[j]? = some v → w.cell? ((⟨g, 0, none⟩ : Addr).add j) = some v := fun j v hj => by
  have hl := h.1
  have hjl : j < (bcells l).length := (List.getElem?_eq_some_iff.1 hj).1
  rw [Addr.add_lit, Nat.zero_add, h.cellAt j (by omega)]; exact hj

theorem ownT : ownKnob Try.prog.godebug = none := by kernel_rfl
theorem laidOutT : laidOutB Try.prog = true := by kernel_rfl

set_option maxRecDepth 20000 in
set_option maxHeartbeats 2000000 in
theorem wakes_any (w : World) : Calls Try.prog 9 #[] w fun e w' => e = .returned (.bool true) ∧ Below w.heap.size w w' := by
  have hcv := fun (w : World) (C : Array Value) (n c : Nat) => Lib.run_convert_bytes_const (P := Try.prog) w 22 5 C n c Try.underlying22 Try.underlying5
  have hcv2 : ∀ (w : World) (A : Obj) (C : Array Value) (n c : Nat), (convert 22 22 (.slice (some ⟨w.heap.size + 1, 0, none⟩) n c)).run Try.prog ((w.alloc A).alloc (.cells C 5)) = .ok (.slice (some ⟨w.heap.size + 1, 0, none⟩) n c) ((w.alloc A).alloc (.cells C 5 (C.size, C.size + 1))) := fun w A C n c => by
    have := hcv (w.alloc A) C n c
    rwa [World.size_alloc] at this
  go_enter Try.func9, Try.ntmps9
  go_wp2_with fail
  refine (new_none w.heap.size _ (heap_alloc_new w _)).mono ?_
  rintro e w1 ⟨hb, fb, m, b, lv, g, cap, rfl, q1, q2, q3, q4, hA, hF, hR, hb1⟩
  have HA := aside hA
  have HF := aside hF
  have HR := aside hR
  have HW := aside (below_tr (below_al w _) hb1)
  clear hA hF hR hb1 q1 q2 q3 q4
  go_wp2_with fail
  refine (new_all w1.heap.size _ (heap_alloc_new w1 _)).mono ?_
  rintro e w2 ⟨hb2, fb2, m2, b2, lv2, g2, cap2, rfl, q1, q2, q3, q4, n1, n2, n3, hA2, hF2, hR2, hbb⟩
  have hbe := below_tr (below_al w1 _) hbb
  have HA0 := aside (HA.out.below hbe)
  have HF0 := aside (HF.out.below hbe)
  have HR0 := aside (HR.out.below hbe)
  have HW2 := aside (below_tr HW.out hbe)
  have hbq : w1.heap.size < b2 := by rw [World.size_alloc] at q4; omega
  have hbw : w.heap.size ≤ b2 := by have := HW.out.size; omega
  have HA2 := aside hA2
  have HF2 := aside hF2
  have HR2 := aside hR2
  have l1 : hb < w1.heap.size := (Array.getElem?_eq_some_iff.1 HA.out.han).1
  have l2 : fb < w1.heap.size := (Array.getElem?_eq_some_iff.1 HA.out.fil).1
  clear hA2 hF2 hR2 hbb hbe HA HF HR HW q1 q2 q3 q4
  go_wp2_with fail
  refine (doRead_none hb fb m b 3 lv [⟨0, g, cap, [97, 98, 99]⟩] 1 9 w2 HA0.out HF0.out HR0.out (by decide) (by decide) (by decide)).mono ?_
  rintro e w3 ⟨k, dg, dcap, hk, rfl, hdg, hown, hb3⟩
  obtain rfl : k = 2 := by omega
  rw [show readB [⟨0, g, cap, [97, 98, 99]⟩] 1 2 = [98, 99] from rfl] at hown
  have hdb : b2 < w2.heap.size := World.block_lt_of_cell? w2 _ HR2.out.cells.1
  have hdgb : dg ≠ b2 := by omega
  have HO := aside hown
  have HA3 := aside (HA0.out.below hb3)
  have HB3 := aside (HA2.out.below hb3)
  have HF3 := aside (HF2.out.below hb3)
  have HR3 := aside (HR2.out.below hb3)
  have HW3 := aside (below_tr HW2.out hb3)
  have hs3 := hb3.size
  clear hk hown hb3
  go_wp2_with fail
  refine (doWrite_none hb fb ⟨m, 0, none⟩ _ _ (HA3.out.below (below_tr (below_al w3 _) (below_al _ _))) ⟨_, _, _, rfl⟩).mono ?_
  rintro e w4 ⟨rfl, hb4⟩
  have hbe := below_tr (below_tr (below_al w3 _) (below_al _ _)) hb4
  have ha3 : w4.heap[w3.heap.size]? = some (.cells #[.int .i64 0, .int .i64 0, .int .i64 0, .slice (some ⟨dg, 0, none⟩) 2 dcap] 38 (0, 0)) :=
    (hb4.block _ (by simp only [World.size_alloc]; omega)).trans (((below_al _ _).block _ (by simp only [World.size_alloc]; omega)).trans (heap_alloc_new w3 _))
  have HV3 := aside ha3
  have HO4 := aside (row_below HO.out hbe)
  have HA4 := aside (HA3.out.below hbe)
  have HB4 := aside (HB3.out.below hbe)
  have HF4 := aside (HF3.out.below hbe)
  have HR4 := aside (HR3.out.below hbe)
  have HW4 := aside (below_tr HW3.out hbe)
  have hs4 := hbe.size
  have l3 : w3.heap.size < w4.heap.size := (Array.getElem?_eq_some_iff.1 ha3).1
  clear ha3 hb4 hbe
  go_wp2_with fail
  have hal := below_al w4 (.cells #[.int .i64 5, .int .i64 0, .int .i64 0, .slice none 0 0] 38)
  refine (doCut_all hb2 fb2 m2 b2 3 lv2 [⟨0, g2, cap2, [97, 98, 99]⟩] 5 _ (HB4.out.below hal) (HF4.out.below hal) (HR4.out.below hal) (by decide) (by decide)).mono ?_
  rintro e w5 ⟨rfl, hR5, hu5⟩
  have hu : Upd (fun k => k = b2) w4 w5 := (Upd.of_below hal).trans hu5 (fun _ _ h => h)
  have hv4 : w5.heap[w4.heap.size]? = some (.cells #[.int .i64 5, .int .i64 0, .int .i64 0, .slice none 0 0] 38 (0, 0)) :=
    (hu5.block _ (by simp only [World.size_alloc]; omega) (by omega)).trans (heap_alloc_new w4 _)
  have hv3 := (hu.block _ l3 (by omega)).trans HV3.out
  have HV5 := aside hv3
  have HV4 := aside hv4
  have HO5 := aside (hu.row HO4.out (fun k hk => by simp only [Value.ownBlock, Option.some.injEq] at hk; omega))
  have HA5 := aside (HA4.out.upd hu (by omega) (by omega))
  have HB5 := aside (HB4.out.upd hu n1 n2)
  have HF5 := aside (HF4.out.upd hu n3)
  have HR5 := aside hR5
  have HW5 : Aside (Below w.heap.size w w5) := HW4.out.trans (hu.below HW4.out.size (fun k hk => by omega))
  have l4 : w4.heap.size < w5.heap.size := (Array.getElem?_eq_some_iff.1 hv4).1
  clear hv3 hv4 hu5 hu hal hR5
  go_wp2_with fail
  have hal := below_al w5 (.cells #[.int .i64 0, .int .i64 0, .int .i64 0, .slice none 0 0] 38)
  refine (all_any hb2 fb2 m2 b2 5 lv2 [⟨0, g2, cap2, [97, 98, 99]⟩] _ (HB5.out.below hal) (HF5.out.below hal) (HR5.out.below hal) (by decide) (by decide)).mono ?_
  rintro e w6 ⟨xg, xcap, rfl, -, hown, hb6⟩
  rw [show readB [⟨0, g2, cap2, [97, 98, 99]⟩] 0 5 = [97, 98, 99, 0, 0] from rfl] at hown
  have hbe := below_tr hal hb6
  have v5 : w6.cell? ⟨w5.heap.size, 0, none⟩ = some (.int .i64 0) := (hb6.cell (p := ⟨w5.heap.size, 0, none⟩) (by simp)).trans (by go_simp)
  have v4 : w6.cell? ⟨w4.heap.size, 0, none⟩ = some (.int .i64 5) := by rw [cell_of_row w6 w4.heap.size 0 _ _ _ ((hbe.block _ l4).trans HV4.out)]; rfl
  have v3 : w6.cell? ⟨w3.heap.size, 3, none⟩ = some (.slice (some ⟨dg, 0, none⟩) 2 dcap) := by rw [cell_of_row w6 w3.heap.size 3 _ _ _ ((hbe.block _ (by omega)).trans HV5.out)]; rfl
  have hd := str_of_bytes w6 ⟨dg, 0, none⟩ [98, 99] 2 dcap rfl (own_cells (row_below HO5.out hbe))
  have hx := str_of_bytes w6 ⟨xg, 0, none⟩ [97, 98, 99, 0, 0] 5 xcap rfl (own_cells hown)
  have HA6 := aside (HA5.out.below hbe)
  have HB6 := aside (HB5.out.below hbe)
  have HW6 := aside (below_tr HW5.out hbe)
  clear hown hb6 hbe hal
  go_wp2_with fail
  refine (can_none_any hb fb ⟨m, 0, none⟩ w6 HA6.out).mono ?_
  rintro e w7 ⟨rfl, rfl⟩
  go_wp2_with fail
  refine (can_all_any hb2 fb2 ⟨m2, 0, none⟩ w7 HB6.out).mono ?_
  rintro e w8 ⟨rfl, rfl⟩
  go_wp2_with fail
  go_ret
  exact ⟨rfl, HW6.out⟩

set_option maxRecDepth 20000 in
set_option maxHeartbeats 1000000 in
theorem memoryNil_walk (c : Int) (w : World) : Calls Try.prog 6 #[.int .u8 c] w fun e w' => e = .returned (.bool true) ∧ Below w.heap.size w w' := by
  go_enter Try.func6, Try.ntmps6
  go_wp2_with fail
  refine (of_nil c w).mono ?_
  rintro e w1 ⟨rfl, rfl⟩
  go_wp2_with fail
  refine (all_nil w1).mono ?_
  rintro e w2 ⟨rfl, rfl⟩
  go_wp2_with fail
  refine (wakes_any w2).mono ?_
  rintro e w3 ⟨rfl, hb⟩
  go_wp2_with fail
  go_ret
  exact ⟨rfl, hb⟩

set_option maxRecDepth 100000 in
theorem memoryNil_lifted (os : Os) (started : os.Started) (H : Type) (enc : TypeId × Value → H) :
    ReturnsInHanded {} Try.checked os 6 .any (Rows.memoryNilSpec.pre6 enc Try.prog Try.f6 Rows.memoryNilRow.domain false) (Rows.memoryNilSpec.post enc Try.prog Try.f6 false true false false) := by
  refine returnsInHanded_of_change (C := Try.checked) ownT started (by kernel_rfl) Try.func6
    (ChangeSpec.witness6 (enc := enc) (C := Try.checked) false ⟨#[], #[.int .u8 0], []⟩ 8 (by kernel_rfl) (by kernel_rfl) (by kernel_rfl) (by kernel_rfl)) ?_
  intro W base args ds gs before hval0 hW hcnd _
  have hval : ∀ (j : Nat) t v, Try.f6.params[j]? = some t → args[j]? = some v → Value.okWide Try.prog W .any base t v := hval0
  have hW' := hW
  obtain ⟨p, q, hA0, hV, rfl, hfz, hnd⟩ := hW
  have hA : DataW.TrodAll enc Try.prog W 0 (fun _ => true) true Try.f6.params.toList args.toList ds p := hA0
  rw [Try.params6] at hA hval
  obtain ⟨v0, vs0, d0, ds0, p0, q0, hargs, rfl, rfl, h0, r0⟩ := trodAll_cons hA
  obtain ⟨rfl, rfl, rfl⟩ := trodAll_nil r0
  obtain rfl : args = #[v0] := by cases args; simp_all
  obtain ⟨rfl, rfl⟩ := trodVars_none hV
  have k0 := h0
  have lt0 : ∀ x ∈ p0, x.block < W.heap.size := by obtain ⟨m, hm⟩ := k0; exact DataW.trod_lt m _ _ _ hm
  obtain ⟨c, rfl, -, -, -⟩ := open_int Try.underlying5 (hval 0 5 v0 rfl rfl) h0
  clear hA0 hval0
  refine (memoryNil_walk c W).mono fun e W' ⟨he, bel⟩ => ?_
  subst he
  exact ⟨_, rfl, _, _, _, [], _, [], hW', trodAll_mk1 (shut_bool Try.underlying4 _), (trodAll_cons_mk (Below.trod laidOutT (by kernel_rfl) (of_decide_eq_true (by kernel_rfl)) k0 bel lt0) trodAll_mk0), rfl, bel.frame _, fun h => by cases h⟩

theorem memoryNil_holds : Rows.MemoryNilSaid :=
  OpenClaim.holds_of_wide 6 Try.f6 rfl rfl rfl rfl rfl rfl rfl ⟨rfl, rfl, rfl, rfl, rfl⟩ rfl rfl rfl rfl rfl (by kernel_rfl) Try.func6 (by kernel_rfl)
    (of_decide_eq_true (by kernel_rfl)) (by unfold Func.isWrapper; first | (rw [if_pos (by decide +kernel)]; kernel_rfl) | (rw [if_neg (by decide +kernel)]; exact ⟨rfl, rfl⟩))
    (fun os started H enc _ => memoryNil_lifted os started H enc)

#print axioms memoryNil_holds
end Go.Proofs.Ytgmalgfgealdcaa
