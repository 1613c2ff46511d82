/-
  SpanReads: what was put is read there, and beside it what was read ahead; two Puts that do not meet leave the same either way round; for every input, with no condition of ours.
-/
import Derived.Test.YtkekaljcbmkomaaOpen
import Derived.Test.YtkekaljcbmkomaaSpanReads
namespace Go.Proofs.Ytkekaljcbmkomaa
set_option linter.unusedVariables false
set_option linter.unusedSimpArgs false
open Go.ChangeShapes Go.WideShapes Go.ChangeAt Go.RowKit Go.Joins

theorem ownRe : ownKnob Try.prog.godebug = none := by kernel_rfl
theorem laidOutRe : laidOutB Try.prog = true := by kernel_rfl

theorem four_cells {l : List Value} {a b c d : Value} (h0 : l[0]? = some a) (h1 : l[1]? = some b) (h2 : l[2]? = some c) (h3 : l[3]? = some d) (h4 : l.length = 4) : l = [a, b, c, d] := by
  rcases l with _ | ⟨x0, _ | ⟨x1, _ | ⟨x2, _ | ⟨x3, _ | ⟨x4, r⟩⟩⟩⟩⟩ <;> simp_all

theorem open_one {H : Type} {enc : TypeId × Value → H} {W : World} {fuel : Nat} {cs : Array Value} {x : DataW H × List MemPlace} (h : DataW.trod enc Try.prog W 0 (fun _ => true) true fuel 34 cs.toList = some x) (hw : ∀ n ∈ x.1.weights Try.prog 34, n ≤ reachBytes) :
    ∃ m : Mv, Value.agg cs = .agg #[.int .i64 m.d, .int .i64 m.t, .int .i64 m.n, .slice m.a m.bs.length m.c] ∧ BsAt W m.a m.bs ∧ m.bs.length ≤ 140737488351232 ∧ (m.t ≤ 9223372036854775807 ∧ -9223372036854775808 ≤ m.t) := by
  obtain ⟨m, c0, c1, c2, c3, c4, hbs, hlc, hcc, ht, -, ht2, -⟩ := open_move h hw
  refine ⟨m, ?_, hbs, by omega, ht, ht2⟩
  have := four_cells c0 c1 c2 c3 c4
  cases cs
  simp only at this
  rw [this]

set_option maxRecDepth 100000 in
theorem spanReads_lifted (os : Os) (started : os.Started) (H : Type) (enc : TypeId × Value → H) :
    ReturnsInHanded {} Try.checked os 7 .any (Rows.spanReadsSpec.pre6 enc Try.prog Try.f7 Rows.spanReadsRow.domain false) (Rows.spanReadsSpec.post enc Try.prog Try.f7 false true false false) := by
  refine returnsInHanded_of_change_sized (C := Try.checked) ownRe started (by kernel_rfl) Try.func7
    (ChangeSpec.witness6 (enc := enc) (C := Try.checked) false ⟨#[], #[.slice none 0 0, .slice none 0 0, .agg #[.int .i64 0, .int .i64 0, .int .i64 0, .slice none 0 0], .agg #[.int .i64 0, .int .i64 0, .int .i64 0, .slice none 0 0]], []⟩ 8 (by kernel_rfl) (by kernel_rfl) (by kernel_rfl) (by kernel_rfl)) ?_
  intro W base args ds gs before hval0 hW hcnd hsz0 _
  have hval : ∀ (j : Nat) t v, Try.f7.params[j]? = some t → args[j]? = some v → Value.okWide Try.prog W .any base t v := hval0
  have hsz : (DataW.weightsEach Try.prog (Try.f7.params.toList ++ Rows.spanReadsSpec.plain.varTypes Try.prog) (ds ++ gs)).all (· ≤ reachBytes) = true := hsz0
  have hW' := hW
  obtain ⟨p, q, hA0, hV, rfl, hfz, hnd⟩ := hW
  have hA : DataW.TrodAll enc Try.prog W 0 (fun _ => true) true Try.f7.params.toList args.toList ds p := hA0
  rw [Try.params7] at hA hval hsz
  obtain ⟨v0, vs0, d0, ds0, p0, q0, hargs, rfl, rfl, h0, r0⟩ := trodAll_cons hA
  obtain ⟨v1, vs1, d1, ds1, p1, q1, hargs1, rfl, rfl, h1, r1⟩ := trodAll_cons r0
  obtain ⟨v2, vs2, d2, ds2, p2, q2, hargs2, rfl, rfl, h2, r2⟩ := trodAll_cons r1
  obtain ⟨v3, vs3, d3, ds3, p3, q3, hargs3, rfl, rfl, h3, r3⟩ := trodAll_cons r2
  obtain ⟨rfl, rfl, rfl⟩ := trodAll_nil r3
  obtain rfl : args = #[v0, v1, v2, v3] := by cases args; simp_all
  obtain ⟨rfl, rfl⟩ := trodVars_none hV
  have k0 := h0
  have k1 := h1
  have k2 := h2
  have k3 := h3
  have lt0 : ∀ x ∈ p0, x.block < W.heap.size := by obtain ⟨m, hm⟩ := k0; exact DataW.trod_lt m _ _ _ hm
  have lt1 : ∀ x ∈ p1, x.block < W.heap.size := by obtain ⟨m, hm⟩ := k1; exact DataW.trod_lt m _ _ _ hm
  have lt2 : ∀ x ∈ p2, x.block < W.heap.size := by obtain ⟨m, hm⟩ := k2; exact DataW.trod_lt m _ _ _ hm
  have lt3 : ∀ x ∈ p3, x.block < W.heap.size := by obtain ⟨m, hm⟩ := k3; exact DataW.trod_lt m _ _ _ hm
  have ww : ∀ (j : Nat) (t : TypeId) (d : DataW H), ([22, 23, 34, 34] : List TypeId)[j]? = some t → ([d0, d1, d2, d3] : List (DataW H))[j]? = some d → ∀ n ∈ d.weights Try.prog t, n ≤ reachBytes := fun j t d ht hd n hn => by
    have hall := List.all_eq_true.1 hsz n (DataW.weights_mem_each (j := j) (t := t) (d := d) (by
      rw [List.getElem?_append_left (by have := (List.getElem?_eq_some_iff.1 ht).1; simpa using this)]; exact ht) (by simpa using hd) n hn)
    simpa using hall
  obtain ⟨a0, c0, l0, rfl, hb0, hlc, hc0⟩ : ∃ (a : Option Addr) (c : Nat) (l : List UInt8), v0 = .slice a l.length c ∧ BsAt W a l ∧ l.length ≤ c ∧ c ≤ 140737488351232 := by
    obtain ⟨x0, x1, x2, rfl⟩ := okWide_slice Try.underlying22 (hval 0 22 v0 rfl rfl)
    obtain ⟨fuel, hf⟩ := h0
    exact open_bs hf (ww 0 22 d0 rfl rfl)
  obtain ⟨am, cm, ms, rfl, hms⟩ : ∃ (a : Option Addr) (c : Nat) (ms : List Mv), v1 = .slice a ms.length c ∧ Mvs W a ms := by
    obtain ⟨x0, x1, x2, rfl⟩ := okWide_slice Try.underlying23 (hval 1 23 v1 rfl rfl)
    obtain ⟨fuel, hf⟩ := h1
    exact open_moves hf (ww 1 23 d1 rfl rfl)
  obtain ⟨m1, rfl, hb2, hl2, ht2⟩ : ∃ m : Mv, v2 = .agg #[.int .i64 m.d, .int .i64 m.t, .int .i64 m.n, .slice m.a m.bs.length m.c] ∧ BsAt W m.a m.bs ∧ m.bs.length ≤ 140737488351232 ∧ (m.t ≤ 9223372036854775807 ∧ -9223372036854775808 ≤ m.t) := by
    obtain ⟨cs, rfl, -⟩ := okWide_struct Try.underlying34 (hval 2 34 v2 rfl rfl)
    obtain ⟨fuel, hf⟩ := h2
    exact open_one hf (ww 2 34 d2 rfl rfl)
  obtain ⟨m2, rfl, hb3, hl3, ht3⟩ : ∃ m : Mv, v3 = .agg #[.int .i64 m.d, .int .i64 m.t, .int .i64 m.n, .slice m.a m.bs.length m.c] ∧ BsAt W m.a m.bs ∧ m.bs.length ≤ 140737488351232 ∧ (m.t ≤ 9223372036854775807 ∧ -9223372036854775808 ≤ m.t) := by
    obtain ⟨cs, rfl, -⟩ := okWide_struct Try.underlying34 (hval 3 34 v3 rfl rfl)
    obtain ⟨fuel, hf⟩ := h3
    exact open_one hf (ww 3 34 d3 rfl rfl)
  clear hA0 hval0
  refine (spanReads_walk a0 l0 c0 am cm ms m1 m2 W hb0 hlc (by omega) hms hb2 hb3 ht2 ht3 hl2 hl3).mono fun e W' ⟨he, bel⟩ => ?_
  subst he
  exact ⟨_, rfl, _, _, _, [], _, [], hW', trodAll_mk1 (shut_bool Try.underlying4 _), (trodAll_cons_mk (Below.trod laidOutRe (by kernel_rfl) (of_decide_eq_true (by kernel_rfl)) k0 bel lt0) (trodAll_cons_mk (Below.trod laidOutRe (by kernel_rfl) (of_decide_eq_true (by kernel_rfl)) k1 bel lt1) (trodAll_cons_mk (Below.trod laidOutRe (by kernel_rfl) (of_decide_eq_true (by kernel_rfl)) k2 bel lt2) (trodAll_cons_mk (Below.trod laidOutRe (by kernel_rfl) (of_decide_eq_true (by kernel_rfl)) k3 bel lt3) trodAll_mk0)))), rfl, bel.frame _, fun h => by cases h⟩

theorem spanReads_holds : Rows.SpanReadsSaid :=
  OpenClaim.holds_of_wide 7 Try.f7 rfl rfl rfl rfl rfl rfl rfl ⟨rfl, rfl, rfl, rfl, rfl⟩ rfl rfl rfl rfl rfl (by kernel_rfl) Try.func7 (by kernel_rfl)
    (of_decide_eq_true (by kernel_rfl)) (by unfold Func.isWrapper; first | (rw [if_pos (by decide +kernel)]; kernel_rfl) | (rw [if_neg (by decide +kernel)]; exact ⟨rfl, rfl⟩))
    (fun os started H enc _ => spanReads_lifted os started H enc)

#print axioms spanReads_holds
end Go.Proofs.Ytkekaljcbmkomaa
