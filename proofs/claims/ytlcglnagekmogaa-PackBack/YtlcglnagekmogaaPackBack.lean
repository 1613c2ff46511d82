/-
  PackBack: what was packed is unpacked, for all bytes of at most 65536, and has not many bytes more; more are refused; for every input, with no condition of ours.
-/
import Derived.Test.YtlcglnagekmogaaOpen
import Derived.Test.YtlcglnagekmogaaEq
namespace Go.Proofs.Ytlcglnagekmogaa
open Go.ChangeShapes Go.WideShapes Go.ChangeAt Go.RowKit Go.Joins
attribute [local simp] lcells_nil readB_length bcells_length
set_option maxRecDepth 20000

set_option maxHeartbeats 4000000 in
theorem packBack_walk (a : Option Addr) (l : List UInt8) (c : Nat) (w : World) (h : BsAt w a l) (hlc : l.length ≤ c) (hc : c ≤ 140737488351232) :
    Calls Try.prog 5 #[.slice a l.length c] w fun e w' => e = .returned (.bool true) ∧ Below w.heap.size w w' := by
  have HBS := aside h
  clear h
  go_enter Try.func5, Try.ntmps5
  go_wp2_with fail
  refine (works_any w).mono ?_
  rintro e w1 ⟨rfl, hb1⟩
  have HB1 := aside hb1
  have HBS1 := aside (HBS.out.below hb1)
  clear hb1 HBS
  by_cases h20 : 1048576 < l.length
  · have t1 : (1048576 : Int) < (l.length : Int) := by omega
    go_wp2_with fail
    refine (works_any w1).mono ?_
    rintro e w2 ⟨rfl, hb2⟩
    have HB2 := aside (below_tr HB1.out hb2)
    clear hb2
    go_wp2_with fail
    go_ret
    exact ⟨rfl, HB2.out⟩
  · have t1 : ¬ ((1048576 : Int) < (l.length : Int)) := by omega
    have P1 := aside (pack_any a l c w1 HBS1.out hlc (by omega))
    go_wp2_with fail
    refine P1.out.mono ?_
    rintro e w2 ⟨⟨a2, rfl, h2⟩, hb2⟩
    have HB2 := aside (below_tr HB1.out hb2)
    have HBS2 := aside (HBS1.out.below hb2)
    clear P1 hb2
    by_cases h16 : 65536 < l.length
    · have t2 : (65536 : Int) < (l.length : Int) := by omega
      have e1 : pkB l = [] := by unfold pkB; rw [if_pos h16]
      have e2 : pkE l = 3 := by unfold pkE; rw [if_pos h16]
      rw [e1, e2]
      rw [e1] at h2
      clear h2 e1 e2
      go_wp2_with fail
      go_ret
      exact ⟨rfl, HB2.out⟩
    · have t2 : ¬ ((65536 : Int) < (l.length : Int)) := by omega
      have e1 : pkB l = pck l := by unfold pkB; rw [if_neg h16]
      have e2 : pkE l = 0 := by unfold pkE; rw [if_neg h16]
      have e3 := unp_pck (b := l) (by omega)
      have e4 := pck_length l
      rw [e1, e2]
      rw [e1] at h2
      have P2 := aside (unpack_any a2 (pck l) (pck l).length w2 h2.bs (Nat.le_refl _) (by omega))
      rw [e3] at P2
      have t5 : ((pck l).length : Int) ≤ 4 + (l.length : Int) + ((l.length : Int) + 127) / 128 := by omega
      generalize pck l = pl at *
      clear e1 e2 e3 e4 h2
      go_wp2_with fail
      refine P2.out.mono ?_
      rintro e w3 ⟨⟨a3, rfl, h3⟩, hb3⟩
      simp only [Un.ok] at h3 ⊢
      have E1 := aside (equal_same a a3 l c l.length w3 (HBS2.out.below hb3) h3.bs)
      have HB3 := aside (below_tr HB2.out hb3)
      clear hb3 h3
      go_wp2_with fail
      refine E1.out.mono ?_
      rintro e w4 ⟨rfl, rfl⟩
      go_wp2_with fail
      go_ret
      exact ⟨rfl, HB3.out⟩

set_option maxRecDepth 100000 in
theorem packBack_lifted (os : Os) (started : os.Started) (H : Type) (enc : TypeId × Value → H) :
    ReturnsInHanded {} Try.checked os 5 .any (Rows.packBackSpec.pre6 enc Try.prog Try.f5 Rows.packBackRow.domain false) (Rows.packBackSpec.post enc Try.prog Try.f5 false true false false) := by
  refine returnsInHanded_of_change_sized (C := Try.checked) ownT started (by kernel_rfl) Try.func5
    (ChangeSpec.witness6 (enc := enc) (C := Try.checked) false ⟨#[], #[.slice none 0 0], []⟩ 8 (by kernel_rfl) (by kernel_rfl) (by kernel_rfl) (by kernel_rfl)) ?_
  intro W base args ds gs before hval0 hW hcnd hsz0 _
  have hval : ∀ (j : Nat) t v, Try.f5.params[j]? = some t → args[j]? = some v → Value.okWide Try.prog W .any base t v := hval0
  have hsz : (DataW.weightsEach Try.prog (Try.f5.params.toList ++ Rows.packBackSpec.plain.varTypes Try.prog) (ds ++ gs)).all (· ≤ reachBytes) = true := hsz0
  have hW' := hW
  obtain ⟨p, q, hA0, hV, rfl, hfz, hnd⟩ := hW
  have hA : DataW.TrodAll enc Try.prog W 0 (fun _ => true) true Try.f5.params.toList args.toList ds p := hA0
  rw [Try.params5] at hA hval hsz
  obtain ⟨v0, vs0, d0, ds0, p0, q0, hargs, rfl, rfl, h0, r0⟩ := trodAll_cons hA
  obtain ⟨rfl, rfl, rfl⟩ := trodAll_nil r0
  obtain rfl : args = #[v0] := by cases args; simp_all
  obtain ⟨rfl, rfl⟩ := trodVars_none hV
  have k0 := h0
  have lt0 : ∀ x ∈ p0, x.block < W.heap.size := by obtain ⟨m, hm⟩ := k0; exact DataW.trod_lt m _ _ _ hm
  have ww : ∀ (j : Nat) (t : TypeId) (d : DataW H), ([22] : List TypeId)[j]? = some t → ([d0] : List (DataW H))[j]? = some d → ∀ n ∈ d.weights Try.prog t, n ≤ reachBytes := fun j t d ht hd n hn => by
    have hall := List.all_eq_true.1 hsz n (DataW.weights_mem_each (j := j) (t := t) (d := d) (by
      rw [List.getElem?_append_left (by have := (List.getElem?_eq_some_iff.1 ht).1; simpa using this)]; exact ht) (by simpa using hd) n hn)
    simpa using hall
  obtain ⟨a0, c0, l0, rfl, hb0, hlc, hc0⟩ : ∃ (a : Option Addr) (c : Nat) (l : List UInt8), v0 = .slice a l.length c ∧ BsAt W a l ∧ l.length ≤ c ∧ c ≤ 140737488351232 := by
    obtain ⟨x0, x1, x2, rfl⟩ := okWide_slice Try.underlying22 (hval 0 22 v0 rfl rfl)
    obtain ⟨fuel, hf⟩ := h0
    exact open_bs hf (ww 0 22 d0 rfl rfl)
  clear hA0 hval0
  refine (packBack_walk a0 l0 c0 W hb0 hlc hc0).mono fun e W' ⟨he, bel⟩ => ?_
  subst he
  exact ⟨_, rfl, _, _, _, [], _, [], hW', trodAll_mk1 (shut_bool Try.underlying4 _), (trodAll_cons_mk (Below.trod laidOutT (by kernel_rfl) (of_decide_eq_true (by kernel_rfl)) k0 bel lt0) trodAll_mk0), rfl, bel.frame _, fun h => by cases h⟩

theorem packBack_holds : Rows.PackBackSaid :=
  OpenClaim.holds_of_wide 5 Try.f5 rfl rfl rfl rfl rfl rfl rfl ⟨rfl, rfl, rfl, rfl, rfl⟩ rfl rfl rfl rfl rfl (by kernel_rfl) Try.func5 (by kernel_rfl)
    (of_decide_eq_true (by kernel_rfl)) (by unfold Func.isWrapper; first | (rw [if_pos (by decide +kernel)]; kernel_rfl) | (rw [if_neg (by decide +kernel)]; exact ⟨rfl, rfl⟩))
    (fun os started H enc _ => packBack_lifted os started H enc)

#print axioms packBack_holds
end Go.Proofs.Ytlcglnagekmogaa
