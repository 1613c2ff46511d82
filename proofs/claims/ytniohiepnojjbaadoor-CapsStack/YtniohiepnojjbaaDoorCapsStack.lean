/-
  CapsStack: Stack answers as the document does for any wrappers over any leaf, and leaves the list as it was; for every input, with no condition of ours.
-/
import Derived.Test.YtniohiepnojjbaaDoorWraps
import Derived.Test.YtniohiepnojjbaaDoorRefStack
import Derived.Test.YtniohiepnojjbaaDoorCards
import Derived.Test.YtniohiepnojjbaaDoorTie
namespace Go.Proofs.YtniohiepnojjbaaDoor
open Go.ChangeShapes Go.WideShapes Go.ChangeAt Go.RowKit

set_option maxHeartbeats 4000000 in
set_option maxRecDepth 100000 in
theorem capsStack_some (ws : List Wr) (leaf : Nat) (blk off c : Nat) (w : World) (hw : WordsAt w) (hr : RdW w blk off ws) (hk : ∀ x ∈ ws, -128 ≤ x.kind ∧ x.kind < 128) (hpos : 0 < ws.length) (hlen : ws.length * 32 ≤ 140737488351232) :
    Calls Tryd.prog 6 #[.slice (some ⟨blk, off, none⟩) ws.length c, .int .u8 (leaf : Int)] w fun e w' => e = .returned (.bool true) ∧ Below w.heap.size w w' := by
  obtain ⟨i, hi, hz, hs, hb⟩ : ∃ i, Tryd.prog.info? 43 = some i ∧ i.zero = some (.agg #[.int .i8 0, .int .i64 0, .int .i64 0, .int .u64 0]) ∧ i.size = 4 ∧ i.bytes = 32 := by
    have h5 := info43
    cases hi : Tryd.prog.info? 43 with
    | none => simp [hi] at h5
    | some i => simp only [hi, Option.map_some, Option.some.injEq, Prod.mk.injEq] at h5; exact ⟨i, rfl, h5.1, h5.2.1, h5.2.2⟩
  have Hi := aside hi
  have Hz := aside hz
  have Hs := aside hs
  have Hb := aside hb
  have HW := aside hw
  have HR := aside hr
  have HK := aside hk
  clear hw hr hk hi hz hs hb
  go_enter Tryd.func6, Tryd.ntmps6
  go_wp2_with (at_builtin; refine wpList_append_own _ rfl _ _ 47 rfl w.heap.size 43 i (.agg #[.int .i8 0, .int .i64 0, .int .i64 0, .int .u64 0]) 4 32 Tryd.underlying47 Hi.out Hz.out Hs.out Hb.out rfl (by decide) (.slice none 0 0) 0 [] rfl (World.ownsRow_nil _ _ _ _) ⟨blk, off, none⟩ ws.length c (wcells ws) rfl (wcells_length ws) (wcells_rd HR.out) (wcells_one ws) (by unfold maxLen; omega) (by omega) (Nat.le_refl _) ?_)
  intro v' w1 ho1 hg1 hn1
  replace ho1 : w1.ownsRow w.heap.size 43 4 v' ws.length (wcells ws) := by simpa using ho1
  have hb1 : Below w.heap.size w w1 := (Below.refl _ _).grown hg1 (Nat.le_refl _) (fun q hq => by cases hq)
  rcases ho1.2 with ⟨-, hz0⟩ | ⟨g, cap, cur, rfl, hgb, hheap, hnc, hcm, -, -⟩
  · omega
  have O1 := aside ho1
  have B1 := aside hb1
  clear ho1 hb1 hg1 hn1 hheap hcm
  have S22 := aside (stack_any ws leaf (some ⟨g, 0, none⟩) cap w1 (fun _ => ⟨g, 0, rfl, row_rdw O1.out⟩) HK.out)
  have S23 := aside (fun W (hW : Below w.heap.size w W) => refStack_any ws leaf (some ⟨blk, off, none⟩) c W (fun _ => ⟨blk, off, rfl, HR.out.below hW⟩))
  generalize stackN (ws.map (·.kind)) leaf = p at S22 S23
  obtain ⟨r, e⟩ := p
  go_wp2_with fail
  refine S22.out.mono ?_
  rintro e2 w2 ⟨rfl, b2⟩
  have B2 := aside (below_tr B1.out b2)
  have O2 := aside (row_below O1.out b2)
  clear b2
  go_wp2_with fail
  refine (S23.out w2 B2.out).mono ?_
  rintro e3 w3 ⟨rfl, b3⟩
  have B3 := aside (below_tr B2.out b3)
  have O3 := aside (row_below O2.out b3)
  clear b3
  go_wp2
  go_loopg [27] ws.length (fun kx s27 wr => ∃ j : Nat, s27 = .int .i64 j ∧ j ≤ ws.length ∧ ws.length - j ≤ kx ∧ Aside (Below w3.heap.size w3 wr))
  case atStart => exact ⟨0, rfl, Nat.zero_le _, by omega, Below.refl _ _⟩
  case round =>
    obtain ⟨j, rfl, hj, hkk, hbw⟩ := hrel
    by_cases hlt : j < ws.length
    · obtain ⟨x, hx⟩ : ∃ x, ws[j]? = some x := ⟨ws[j], List.getElem?_eq_getElem hlt⟩
      obtain ⟨xk, xn, xm, xy⟩ := x
      obtain ⟨d0, d1, d2, d3⟩ := (row_rdw O3.out).below hbw.out j _ hx
      obtain ⟨f0, f1, f2, f3⟩ := HR.out.below (below_tr B3.out hbw.out) j _ hx
      simp only [Nat.zero_add] at d0 d1 d2 d3 f0 f1 f2 f3
      have d0' := fun d os => ext_cell d0 d os
      have d1' := fun d os => ext_cell d1 d os
      have d2' := fun d os => ext_cell d2 d os
      have d3' := fun d os => ext_cell d3 d os
      have f0' := fun d os => ext_cell f0 d os
      have f1' := fun d os => ext_cell f1 d os
      have f2' := fun d os => ext_cell f2 d os
      have f3' := fun d os => ext_cell f3 d os
      clear hx d0 d1 d2 d3 f0 f1 f2 f3
      go_wp2
      refine region_ext (by kernel_rfl) (by kernel_rfl) ?_
      repeat (any_goals (first | go_big_quiet_step (fail) | quiet_step (fail)))
      refine wpQuiet_nil ?_
      intro wq hq
      have HQ := aside (below_tr hbw.out hq)
      clear hq
      go_wp2
      go_roundg (ws.length - (j + 1))
      case measure => omega
      case rel => exact ⟨j + 1, by go_num, by omega, by omega, HQ⟩
    · obtain rfl : j = ws.length := by omega
      go_wp2_with fail
      refine (works_any wr (HW.out.below (below_tr B3.out hbw.out))).mono ?_
      rintro e6 w6 ⟨rfl, b6⟩
      go_wp2
      go_ret
      exact ⟨rfl, below_tr B3.out (below_tr hbw.out b6)⟩

set_option maxHeartbeats 4000000 in
set_option maxRecDepth 100000 in
theorem capsStack_none (leaf : Nat) (a : Option Addr) (c : Nat) (w : World) (hw : WordsAt w) :
    Calls Tryd.prog 6 #[.slice a 0 c, .int .u8 (leaf : Int)] w fun e w' => e = .returned (.bool true) ∧ Below w.heap.size w w' := by
  have HW := aside hw
  have S22 := aside (fun W => stack_any [] leaf none 0 W (fun h => absurd rfl h) (by simp))
  have S23 := aside (fun W => refStack_any [] leaf a c W (fun h => absurd rfl h))
  simp only [List.map_nil] at S22 S23
  generalize stackN [] leaf = p at S22 S23
  obtain ⟨r, e⟩ := p
  clear hw
  go_enter Tryd.func6, Tryd.ntmps6
  go_wp2_with (at_builtin; (with_reducible refine wpList_append_to _ rfl _ _ 47 47 rfl (.slice none 0 0) (.slice a 0 c) ?_ ?_ (append_nothing47 _ _ _ _) ?_); rfl; rfl)
  refine (S22.out _).mono ?_
  rintro e2 w2 ⟨rfl, b2⟩
  have B2 := aside b2
  clear b2
  go_wp2_with fail
  refine (S23.out w2).mono ?_
  rintro e3 w3 ⟨rfl, b3⟩
  have B3 := aside (below_tr B2.out b3)
  clear b3
  go_wp2
  go_loopg [27] 0 (fun kx s27 wr => s27 = .int .i64 0 ∧ wr = w3)
  case atStart => exact ⟨rfl, rfl⟩
  case round =>
    obtain ⟨rfl, rfl⟩ := hrel
    go_wp2_with fail
    refine (works_any wr (HW.out.below B3.out)).mono ?_
    rintro e6 w6 ⟨rfl, b6⟩
    go_wp2
    go_ret
    exact ⟨rfl, below_tr B3.out b6⟩


set_option maxRecDepth 100000 in
theorem capsStack_lifted (os : Os) (started : os.Started) (H : Type) (enc : TypeId × Value → H) :
    ReturnsInHanded {} Tryd.checked os 6 .any (fun w args => (Rows.capsStackSpec.pre enc Tryd.prog Tryd.f6 [] false w args ∧ laidMetH Tryd.prog laidW w) ∧ sizedMet enc Tryd.prog Tryd.f6 (OpenSpec.ofChange Rows.capsStackSpec) false w args)
      (Rows.capsStackSpec.post enc Tryd.prog Tryd.f6 false true false false) := by
  refine returnsInHanded_of_change_and (C := Tryd.checked) (X := fun w _ => laidMetH Tryd.prog laidW w) (fun _ _ _ hh h => h.of_heap hh) own started (by kernel_rfl) Tryd.func6
    (ChangeSpec.witness_shaped (enc := enc) (C := Tryd.checked) (os := os) (X := fun w _ => laidMetH Tryd.prog laidW w) false (World.doorLaid Tryd.prog 400 os) #[.slice none 0 0, .int .u8 0] 8 rfl (World.shaped_of_RefB (by kernel_rfl) (by kernel_rfl)) (by kernel_rfl) (by kernel_rfl) (by kernel_rfl) (door_met os _)) ?_
  intro W base args ds gs before hval0 hW _ hsz0 hL _
  have hval : ∀ (j : Nat) t v, Tryd.f6.params[j]? = some t → args[j]? = some v → Value.okWide Tryd.prog W .any base t v := hval0
  have hsz : (DataW.weightsEach Tryd.prog (Tryd.f6.params.toList ++ Rows.capsStackSpec.plain.varTypes Tryd.prog) (ds ++ gs)).all (· ≤ reachBytes) = true := hsz0
  have hW' := hW
  obtain ⟨p, q, hA0, hV, rfl, hfz, hnd⟩ := hW
  have hA : DataW.TrodAll enc Tryd.prog W 0 (fun _ => true) true Tryd.f6.params.toList args.toList ds p := hA0
  rw [Tryd.params6] at hA hval hsz
  obtain ⟨v0, vs0, d0, ds0, p0, q0, hargs, rfl, rfl, h0, r0⟩ := trodAll_cons hA
  obtain ⟨v1, vs1, d1, ds1, p1, q1, hargs1, rfl, rfl, h1, r1⟩ := trodAll_cons r0
  obtain ⟨rfl, rfl, rfl⟩ := trodAll_nil r1
  obtain rfl : args = #[v0, v1] := by cases args; simp_all
  obtain ⟨rfl, rfl⟩ := trodVars_none hV
  have k0 := h0
  have k1 := h1
  have lt0 : ∀ x ∈ p0, x.block < W.heap.size := by obtain ⟨m, hm⟩ := k0; exact DataW.trod_lt m _ _ _ hm
  have lt1 : ∀ x ∈ p1, x.block < W.heap.size := by obtain ⟨m, hm⟩ := k1; exact DataW.trod_lt m _ _ _ hm
  obtain ⟨leaf0, rfl, -, -, hwl⟩ := open_int Tryd.underlying5 (hval 1 5 v1 rfl rfl) h1
  obtain ⟨leaf, rfl, hleaf⟩ := open_u8 hwl
  obtain ⟨a, c, ws, rfl, ha, hk, hsl⟩ : ∃ (a : Option Addr) (c : Nat) (ws : List Wr), v0 = .slice a ws.length c ∧ (ws ≠ [] → ∃ blk off, a = some ⟨blk, off, none⟩ ∧ RdW W blk off ws) ∧ (∀ z ∈ ws, -128 ≤ z.kind ∧ z.kind < 128) ∧ ws.length * 32 ≤ 140737488351232 := by
    obtain ⟨a0, l0, c0, rfl⟩ := okWide_slice Tryd.underlying47 (hval 0 47 v0 rfl rfl)
    obtain ⟨fuel, hf⟩ := h0
    obtain ⟨a, c, ws, hv, ha, hb, es, sp, hx⟩ := open_wraps hf
    refine ⟨a, c, ws, hv, ha, hb, ?_⟩
    rcases hx with ⟨hx, hle⟩ | hx
    · simp only at hx
      subst hx
      have := sized_slice hsz (j := 0) (t := 47) (e := 43) rfl rfl Tryd.underlying47
      rw [bytes43] at this
      unfold reachBytes at this
      omega
    · subst hx; simp
  clear hA0 hval0
  have hwl : Calls Tryd.prog 6 #[.slice a ws.length c, .int .u8 (leaf : Int)] W fun e w' => e = .returned (.bool true) ∧ Below W.heap.size W w' := by
    by_cases hbs : ws = []
    · subst hbs; exact capsStack_none leaf a c W (words_of_laid hL)
    · obtain ⟨blk, off, rfl, hr⟩ := ha hbs
      exact capsStack_some ws leaf blk off c W (words_of_laid hL) hr hk (List.length_pos_iff.2 hbs) hsl
  refine hwl.mono fun e W' ⟨he, bel⟩ => ?_
  subst he
  exact ⟨_, rfl, _, _, _, [], _, [], hW', trodAll_mk1 (shut_bool Tryd.underlying4 _), (trodAll_cons_mk (Below.trod laidOut (by kernel_rfl) (of_decide_eq_true (by kernel_rfl)) k0 bel lt0) (trodAll_cons_mk (Below.trod laidOut (by kernel_rfl) (of_decide_eq_true (by kernel_rfl)) k1 bel lt1) trodAll_mk0)), rfl, bel.frame _, fun h => by cases h⟩

theorem capsStack_row : Rows.CapsStackSaid :=
  OpenClaim.holds_of_wide 6 Tryd.f6 rfl rfl rfl rfl rfl rfl rfl ⟨rfl, rfl, rfl, rfl, rfl⟩ rfl rfl rfl rfl rfl (by kernel_rfl) Tryd.func6 (by kernel_rfl)
    (of_decide_eq_true (by kernel_rfl)) (by unfold Func.isWrapper; first | (rw [if_pos (by decide +kernel)]; kernel_rfl) | (rw [if_neg (by decide +kernel)]; exact ⟨rfl, rfl⟩))
    (fun os started H enc _ => capsStack_lifted os started H enc)

theorem capsStack_holds : Rows.CapsStackCardSaid :=
  Claim7.holds_tied_plain_at .later [] [.data] true Rows.capsStackCard.stood.harness true
    capsStack_row (fun _ h => by cases h) (by kernel_rfl) (fun _ h => by cases h) capsStack_row_tie rfl ⟨rfl, rfl⟩ (by kernel_rfl) rfl
    (fun f fn hf hfn => by
      obtain rfl : f = 6 := Option.some.inj ((show Tryd.prog.funcNamed Rows.capsStackRow.func = some 6 by kernel_rfl).symm.trans hf) |>.symm
      obtain rfl : fn = Tryd.f6 := (Option.some.inj (Tryd.func6.symm.trans hfn)).symm
      exact ⟨by kernel_rfl, fun j t ht => by
        rw [Tryd.params6] at ht
        match j, ht with
        | 0, ht => simp at ht; subst ht; exact (show Tryd.prog.wantsStandIn 47 = false by kernel_rfl)
        | 1, ht => simp at ht; subst ht; exact (show Tryd.prog.wantsStandIn 5 = false by kernel_rfl)
        | j + 2, ht => simp at ht⟩)
    (by kernel_rfl)

#print axioms capsStack_holds
end Go.Proofs.YtniohiepnojjbaaDoor
