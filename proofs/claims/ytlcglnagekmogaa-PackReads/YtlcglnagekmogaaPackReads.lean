/-
  PackReads: the file of what was packed can nothing but be read, has the Size of the bytes, and reads as they were, in any pieces, and whole; for every input, with no condition of ours.
-/
import Derived.Test.YtlcglnagekmogaaOpen
import Derived.Test.YtlcglnagekmogaaReadsW
namespace Go.Proofs.Ytlcglnagekmogaa
open Go.ChangeShapes Go.WideShapes Go.ChangeAt Go.RowKit Go.Joins

theorem cells50 : Try.prog.cellsOf 50 = 1 := by kernel_rfl
/-- Numbers of 16 bits, opened. -/
theorem open_us {H : Type} {enc : TypeId × Value → H} {W : World} {fuel : Nat} {v : Value} {x : DataW H × List MemPlace} (h : DataW.trod enc Try.prog W 0 (fun _ => true) true fuel 49 [v] = some x) :
    ∃ (a : Option Addr) (c : Nat) (ns : List Nat), v = .slice a ns.length c ∧ UsAt W a ns ∧ ∀ n, n ∈ ns → n ≤ 65535 := by
  rcases open_ints Try.underlying49 Try.underlying50 cells50 h with ⟨hc, rfl⟩ | ⟨a, len, cap, zs, hc, -, hl, hm, hzl, rfl, hcell, hwf⟩
  · simp only [List.cons.injEq, and_true] at hc
    subst hc
    exact ⟨none, 0, [], rfl, fun h => absurd rfl h, fun n hn => by simp at hn⟩
  · simp only [List.cons.injEq, and_true] at hc
    subst hc
    simp only [if_true] at hzl
    have hbl : ((zs.take len).map fun z => z.toNat).length = len := by simp; omega
    refine ⟨some a, cap, (zs.take len).map fun z => z.toNat, by rw [hbl], fun hne => ?_, fun n hn => ?_⟩
    · have hcl : ∀ j z, (zs.take len)[j]? = some z → W.cell? (a.add j) = some (.int .u16 z) ∧ 0 ≤ z := fun j z hz => by
        rw [List.getElem?_take] at hz
        split at hz
        · have hjz : j < zs.length := (List.getElem?_eq_some_iff.1 hz).1
          have hzm : z ∈ zs := List.mem_of_getElem? hz
          have e1 : zs.getD j 0 = z := by rw [List.getD_eq_getElem?_getD, hz]; rfl
          rw [hcell j hjz, e1]
          exact ⟨rfl, (bounds_u16 (hwf z hzm)).1⟩
        · cases hz
      have h0 : 0 < (zs.take len).length := by
        have := List.length_pos_iff.2 hne
        simpa using this
      obtain ⟨z0, hz0⟩ : ∃ z, (zs.take len)[0]? = some z := ⟨_, List.getElem?_eq_getElem h0⟩
      have hp := (hcl 0 z0 hz0).1
      rw [add_zero'] at hp
      have hap := addr_plain hp
      refine ⟨a.block, a.off, by rw [← hap], fun j n hj => ?_⟩
      simp only [List.getElem?_map, Option.map_eq_some_iff] at hj
      obtain ⟨z, hz, rfl⟩ := hj
      have := hcl j z hz
      rw [hap, Addr.add_lit] at this
      rw [this.1, Int.toNat_of_nonneg this.2]
    · simp only [List.mem_map] at hn
      obtain ⟨z, hz, rfl⟩ := hn
      have := bounds_u16 (hwf z (List.mem_of_mem_take hz))
      omega

set_option maxRecDepth 100000 in
theorem packReads_lifted (os : Os) (started : os.Started) (H : Type) (enc : TypeId × Value → H) :
    ReturnsInHanded {} Try.checked os 7 .any (Rows.packReadsSpec.pre6 enc Try.prog Try.f7 Rows.packReadsRow.domain false) (Rows.packReadsSpec.post enc Try.prog Try.f7 false true false false) := by
  refine returnsInHanded_of_change_sized (C := Try.checked) ownT started (by kernel_rfl) Try.func7
    (ChangeSpec.witness6 (enc := enc) (C := Try.checked) false ⟨#[], #[.slice none 0 0, .slice none 0 0], []⟩ 8 (by kernel_rfl) (by kernel_rfl) (by kernel_rfl) (by kernel_rfl)) ?_
  intro W base args ds gs before hval0 hW hcnd hsz0 _
  have hval : ∀ (j : Nat) t v, Try.f7.params[j]? = some t → args[j]? = some v → Value.okWide Try.prog W .any base t v := hval0
  have hsz : (DataW.weightsEach Try.prog (Try.f7.params.toList ++ Rows.packReadsSpec.plain.varTypes Try.prog) (ds ++ gs)).all (· ≤ reachBytes) = true := hsz0
  have hW' := hW
  obtain ⟨p, q, hA0, hV, rfl, hfz, hnd⟩ := hW
  have hA : DataW.TrodAll enc Try.prog W 0 (fun _ => true) true Try.f7.params.toList args.toList ds p := hA0
  rw [Try.params7] at hA hval hsz
  obtain ⟨v0, vs0, d0, ds0, p0, q0, hargs0, rfl, rfl, h0, r0⟩ := trodAll_cons hA
  obtain ⟨v1, vs1, d1, ds1, p1, q1, hargs1, rfl, rfl, h1, r1⟩ := trodAll_cons r0
  obtain ⟨rfl, rfl, rfl⟩ := trodAll_nil r1
  obtain rfl : args = #[v0, v1] := by cases args; simp_all
  obtain ⟨rfl, rfl⟩ := trodVars_none hV
  have k0 := h0
  have k1 := h1
  have lt0 : ∀ x ∈ p0, x.block < W.heap.size := by obtain ⟨m, hm⟩ := k0; exact DataW.trod_lt m _ _ _ hm
  have lt1 : ∀ x ∈ p1, x.block < W.heap.size := by obtain ⟨m, hm⟩ := k1; exact DataW.trod_lt m _ _ _ hm
  have ww : ∀ (j : Nat) (t : TypeId) (d : DataW H), ([22, 49] : List TypeId)[j]? = some t → ([d0, d1] : List (DataW H))[j]? = some d → ∀ n ∈ d.weights Try.prog t, n ≤ reachBytes := fun j t d ht hd n hn => by
    have hall := List.all_eq_true.1 hsz n (DataW.weights_mem_each (j := j) (t := t) (d := d) (by
      rw [List.getElem?_append_left (by have := (List.getElem?_eq_some_iff.1 ht).1; simpa using this)]; exact ht) (by simpa using hd) n hn)
    simpa using hall
  obtain ⟨a0, c0, l0, rfl, hb0, hlc0, hc0⟩ : ∃ (a : Option Addr) (c : Nat) (l : List UInt8), v0 = .slice a l.length c ∧ BsAt W a l ∧ l.length ≤ c ∧ c ≤ 140737488351232 := by
    obtain ⟨x0, x1, x2, rfl⟩ := okWide_slice Try.underlying22 (hval 0 22 v0 rfl rfl)
    obtain ⟨fuel, hf⟩ := h0
    exact open_bs hf (ww 0 22 d0 rfl rfl)
  obtain ⟨a1, c1, n1, rfl, hb1, hns⟩ : ∃ (a : Option Addr) (c : Nat) (ns : List Nat), v1 = .slice a ns.length c ∧ UsAt W a ns ∧ ∀ n, n ∈ ns → n ≤ 65535 := by
    obtain ⟨x0, x1, x2, rfl⟩ := okWide_slice Try.underlying49 (hval 1 49 v1 rfl rfl)
    obtain ⟨fuel, hf⟩ := h1
    exact open_us hf
  clear hA0 hval0
  refine (packReads_walk a0 a1 l0 n1 c0 c1 W hb0 hlc0 hc0 hb1 hns).mono fun e W' ⟨he, bel⟩ => ?_
  subst he
  exact ⟨_, rfl, _, _, _, [], _, [], hW', trodAll_mk1 (shut_bool Try.underlying4 _), (trodAll_cons_mk (Below.trod laidOutT (by kernel_rfl) (of_decide_eq_true (by kernel_rfl)) k0 bel lt0) (trodAll_cons_mk (Below.trod laidOutT (by kernel_rfl) (of_decide_eq_true (by kernel_rfl)) k1 bel lt1) trodAll_mk0)), rfl, bel.frame _, fun h => by cases h⟩

theorem packReads_holds : Rows.PackReadsSaid :=
  OpenClaim.holds_of_wide 7 Try.f7 rfl rfl rfl rfl rfl rfl rfl ⟨rfl, rfl, rfl, rfl, rfl⟩ rfl rfl rfl rfl rfl (by kernel_rfl) Try.func7 (by kernel_rfl)
    (of_decide_eq_true (by kernel_rfl)) (by unfold Func.isWrapper; first | (rw [if_pos (by decide +kernel)]; kernel_rfl) | (rw [if_neg (by decide +kernel)]; exact ⟨rfl, rfl⟩))
    (fun os started H enc _ => packReads_lifted os started H enc)

#print axioms packReads_holds
end Go.Proofs.Ytlcglnagekmogaa
