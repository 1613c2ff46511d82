/-
  CapsFolds, where what it reads is of bulk at most 1048576: the card. No condition beside that bound.
-/
import Derived.Test.YtniohiepnojjbaaDoorCapsFolds
namespace Go.Proofs.YtniohiepnojjbaaDoor
open Go.ChangeShapes Go.WideShapes Go.ChangeAt Go.RowKit

theorem bulk_one {H : Type} (d : DataW H) : 1 ≤ Rows.uptoBulk d := by
  cases d with
  | lit l => cases l <;> simp [Rows.uptoBulk]
  | nil => simp [Rows.uptoBulk]
  | ptr d => simp [Rows.uptoBulk]
  | slice elems spare => simp [Rows.uptoBulk]
  | agg parts => simp [Rows.uptoBulk]
  | iface t d => simp [Rows.uptoBulk]
  | map entries => simp [Rows.uptoBulk]
  | held h => simp [Rows.uptoBulk]
theorem bulk_len {H : Type} (l : List (DataW H)) : l.length ≤ Rows.uptoBulkAll l := by
  induction l with
  | nil => simp [Rows.uptoBulkAll]
  | cons x r ih => have := bulk_one x; simp only [Rows.uptoBulkAll, List.length_cons]; omega

theorem folds_met (os : Os) (args : Array Value) : laidMet Tryd.prog laidW ((World.doorLaid Tryd.prog 400 os).forCall (fun _ _ => 0) ⟨#[], args, []⟩).memory :=
  laidMet_of_run' 8 (by kernel_rfl) (by kernel_rfl)
theorem folds_reads (os : Os) {H : Type} (enc : TypeId × Value → H) : ∃ places, DataW.whole enc Tryd.prog ((World.doorLaid Tryd.prog 400 os).forCall (fun _ _ => 0) ⟨#[], #[.slice none 0 0, .slice none 0 0, .int .u8 0], []⟩).memory Tryd.f8.params.toList Rows.capsFoldsSpec.vars false #[Value.slice none 0 0, .slice none 0 0, .int .u8 0].toList 8 = some ([.nil, .nil, .lit (.int .u8 0)], [], places) :=
  ⟨[], by kernel_rfl⟩

set_option maxRecDepth 100000 in
theorem capsFolds_lifted (os : Os) (started : os.Started) (H : Type) (enc : TypeId × Value → H) (F : Stop.Interp) :
    ReturnsInHanded {} Tryd.checked os 8 .any ((Rows.OpenSpec.upto Rows.capsFoldsSpec).preRow enc Tryd.prog Tryd.f8 Rows.capsFoldsUptoRow.domain false Rows.capsFoldsUptoRow.laid) (((Rows.OpenSpec.upto Rows.capsFoldsSpec).at F).post enc Tryd.prog Tryd.f8 false true false false) := by
  obtain ⟨places, hx⟩ := folds_reads os enc
  refine returnsInHanded_of_row (C := Tryd.checked) (s := Rows.OpenSpec.upto Rows.capsFoldsSpec) own started (by kernel_rfl) Tryd.func8
    (witness_row_at (enc := enc) (C := Tryd.checked) false (World.doorLaid Tryd.prog 400 os) #[.slice none 0 0, .slice none 0 0, .int .u8 0] rfl (by kernel_rfl) (by kernel_rfl) (by kernel_rfl)
      (OpenSpec.preRow_of_cond 8 hx (by kernel_rfl) (fun k hk => by cases hk; kernel_rfl) (by kernel_rfl) (folds_met os _))) ?_
  intro W base args ds gs before hval0 hW _ hcond _ hL _ _
  have hbound := hcond _ rfl
  have hval : ∀ (j : Nat) t v, Tryd.f8.params[j]? = some t → args[j]? = some v → Value.okWide Tryd.prog W .any base t v := hval0
  have hW' := hW
  obtain ⟨p, q, hA0, hV, rfl, hfz, hnd⟩ := hW
  have hA : DataW.TrodAll enc Tryd.prog W 0 (fun _ => true) true Tryd.f8.params.toList args.toList ds p := hA0
  rw [Tryd.params8] at hA hval
  obtain ⟨v0, vs0, d0, ds0, p0, q0, hargs, rfl, rfl, h0, r0⟩ := trodAll_cons hA
  obtain ⟨v1, vs1, d1, ds1, p1, q1, hargs1, rfl, rfl, h1, r1⟩ := trodAll_cons r0
  obtain ⟨v2, vs2, d2, ds2, p2, q2, hargs2, rfl, rfl, h2, r2⟩ := trodAll_cons r1
  obtain ⟨rfl, rfl, rfl⟩ := trodAll_nil r2
  obtain rfl : args = #[v0, v1, v2] := by cases args; simp_all
  obtain ⟨rfl, rfl⟩ := trodVars_none hV
  have hbd : Rows.uptoBulk d0 + (Rows.uptoBulk d1 + (Rows.uptoBulk d2 + 0)) ≤ 1048576 := by
    have := of_decide_eq_true hbound
    simpa only [List.cons_append, List.nil_append, List.append_nil, Rows.uptoBulkAll] using this
  have k0 := h0
  have k1 := h1
  have k2 := h2
  have lt0 : ∀ x ∈ p0, x.block < W.heap.size := by obtain ⟨m, hm⟩ := k0; exact DataW.trod_lt m _ _ _ hm
  have lt1 : ∀ x ∈ p1, x.block < W.heap.size := by obtain ⟨m, hm⟩ := k1; exact DataW.trod_lt m _ _ _ hm
  have lt2 : ∀ x ∈ p2, x.block < W.heap.size := by obtain ⟨m, hm⟩ := k2; exact DataW.trod_lt m _ _ _ hm
  obtain ⟨leaf0, rfl, -, -, hwl⟩ := open_int Tryd.underlying5 (hval 2 5 v2 rfl rfl) h2
  obtain ⟨leaf, rfl, hleaf⟩ := open_u8 hwl
  have opn : ∀ (j : Nat) (v : Value) (d : DataW H) (pl : List MemPlace), Value.okWide Tryd.prog W .any base 47 v → DataW.Trod enc Tryd.prog W 0 (fun _ => true) true 47 v d pl → Rows.uptoBulk d ≤ 1048576 →
      ∃ (a : Option Addr) (c : Nat) (ws : List Wr), v = .slice a ws.length c ∧ (ws ≠ [] → ∃ blk off, a = some ⟨blk, off, none⟩ ∧ RdW W blk off ws) ∧ (∀ z ∈ ws, -128 ≤ z.kind ∧ z.kind < 128) ∧ ws.length ≤ 1048576 := by
    intro j v d pl hok ht hb
    obtain ⟨a0, l0, c0, rfl⟩ := okWide_slice Tryd.underlying47 hok
    obtain ⟨fuel, hf⟩ := ht
    obtain ⟨a, c, ws, hv, ha, hk, es, sp, hx⟩ := open_wraps hf
    refine ⟨a, c, ws, hv, ha, hk, ?_⟩
    rcases hx with ⟨hx, hle⟩ | hx
    · simp only at hx
      subst hx
      simp only [Rows.uptoBulk] at hb
      have := bulk_len es
      omega
    · subst hx; simp
  obtain ⟨al, cl, ws, rfl, hla, hlk, hll⟩ := opn 0 v0 d0 p0 (hval 0 47 v0 rfl rfl) h0 (by omega)
  obtain ⟨am, cm, ms, rfl, hma, hmk, hml⟩ := opn 1 v1 d1 p1 (hval 1 47 v1 rfl rfl) h1 (by omega)
  clear hA0 hval0
  refine (capsFolds_walk al am cl cm ws ms leaf W (words_of_laid hL) hla hma hlk hmk hll hml hleaf).mono fun e W' ⟨he, bel⟩ => ?_
  subst he
  exact ⟨_, rfl, _, _, _, [], _, [], hW', trodAll_mk1 (shut_bool Tryd.underlying4 _), (trodAll_cons_mk (Below.trod laidOut (by kernel_rfl) (of_decide_eq_true (by kernel_rfl)) k0 bel lt0) (trodAll_cons_mk (Below.trod laidOut (by kernel_rfl) (of_decide_eq_true (by kernel_rfl)) k1 bel lt1) (trodAll_cons_mk (Below.trod laidOut (by kernel_rfl) (of_decide_eq_true (by kernel_rfl)) k2 bel lt2) trodAll_mk0))), rfl, bel.frame _, fun h => by cases h⟩

theorem capsFolds_row : Rows.CapsFoldsUptoSaid :=
  OpenClaim.holds_of_cond 8 Tryd.f8 rfl rfl rfl rfl rfl rfl rfl ⟨rfl, rfl, rfl, rfl, rfl⟩ rfl rfl rfl rfl rfl (by kernel_rfl) Tryd.func8 (by kernel_rfl)
    (of_decide_eq_true (by kernel_rfl)) (by unfold Func.isWrapper; first | (rw [if_pos (by decide +kernel)]; kernel_rfl) | (rw [if_neg (by decide +kernel)]; exact ⟨rfl, rfl⟩))
    (fun os started H enc _ F => by rw [OpenClaim.pre_eq_preRow]; exact capsFolds_lifted os started H enc F)

theorem capsFolds_holds : Rows.CapsFoldsUptoCardSaid :=
  Claim7.holds_tied_plain_at .later [] [.data] true Rows.capsFoldsUptoCard.stood.harness true
    capsFolds_row (fun _ h => by cases h) (by kernel_rfl) (fun _ h => by cases h) capsFoldsUpto_row_tie rfl ⟨rfl, rfl⟩ (by kernel_rfl) rfl
    (fun f fn hf hfn => by
      obtain rfl : f = 8 := Option.some.inj ((show Tryd.prog.funcNamed Rows.capsFoldsUptoRow.func = some 8 by kernel_rfl).symm.trans hf) |>.symm
      obtain rfl : fn = Tryd.f8 := (Option.some.inj (Tryd.func8.symm.trans hfn)).symm
      exact ⟨by kernel_rfl, fun j t ht => by
        rw [Tryd.params8] at ht
        match j, ht with
        | 0, ht => simp at ht; subst ht; exact (show Tryd.prog.wantsStandIn 47 = false by kernel_rfl)
        | 1, ht => simp at ht; subst ht; exact (show Tryd.prog.wantsStandIn 47 = false by kernel_rfl)
        | 2, ht => simp at ht; subst ht; exact (show Tryd.prog.wantsStandIn 5 = false by kernel_rfl)
        | j + 3, ht => simp at ht⟩)
    (by kernel_rfl)

#print axioms capsFolds_holds
end Go.Proofs.YtniohiepnojjbaaDoor
