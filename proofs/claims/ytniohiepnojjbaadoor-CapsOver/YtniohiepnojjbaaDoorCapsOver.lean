/-
  CapsOver: Over answers as the document does for every wrapper over any sets, and leaves the list as it was; for every input, with no condition of ours.
-/
import Derived.Test.YtniohiepnojjbaaDoorArgs
import Derived.Test.YtniohiepnojjbaaDoorRefOver
import Derived.Test.YtniohiepnojjbaaDoorCards
import Derived.Test.YtniohiepnojjbaaDoorTie
namespace Go.Proofs.YtniohiepnojjbaaDoor
open Go.ChangeShapes Go.WideShapes Go.ChangeAt Go.RowKit

set_option maxHeartbeats 4000000 in
set_option maxRecDepth 100000 in
theorem capsOver_some (k n m y : Int) (h1 : -128 ≤ k) (h2 : k < 128) (blk off c : Nat) (bs : List Nat) (w : World) (hw : WordsAt w) (hr : RdB w blk off bs) (hv : ∀ x ∈ bs, x < 256) (hpos : 0 < bs.length) (hlen : bs.length ≤ 140737488351232) :
    Calls Tryd.prog 5 #[.agg #[.int .i8 k, .int .i64 n, .int .i64 m, .int .u64 y], .slice (some ⟨blk, off, none⟩) bs.length c] w fun e w' => e = .returned (.bool true) ∧ Below w.heap.size w w' := by
  obtain ⟨i, hi, hz, hs, hb⟩ : ∃ i, Tryd.prog.info? 5 = some i ∧ i.zero = some (.int .u8 0) ∧ i.size = 1 ∧ i.bytes = 1 := by
    have h5 := info5
    cases hi : Tryd.prog.info? 5 with
    | none => simp [hi] at h5
    | some i => simp only [hi, Option.map_some, Option.some.injEq, Prod.mk.injEq] at h5; exact ⟨i, rfl, h5.1, h5.2.1, h5.2.2⟩
  have Hi := aside hi
  have Hz := aside hz
  have Hs := aside hs
  have Hb := aside hb
  have HW := aside hw
  have HR := aside hr
  have HV := aside hv
  have B0 := aside (below_al w (.cells #[.int .i8 k, .int .i64 n, .int .i64 m, .int .u64 y] 43))
  have HR0 := aside (hr.below B0.out)
  have k0 : ∀ W, Below (w.heap.size + 1) (w.alloc (.cells #[.int .i8 k, .int .i64 n, .int .i64 m, .int .u64 y] 43)) W → W.cell? ⟨w.heap.size, 0, none⟩ = some (.int .i8 k) ∧ W.cell? ⟨w.heap.size, 1, none⟩ = some (.int .i64 n) ∧ W.cell? ⟨w.heap.size, 2, none⟩ = some (.int .i64 m) ∧ W.cell? ⟨w.heap.size, 3, none⟩ = some (.int .u64 y) := fun W h =>
    ⟨(h.cell (p := ⟨w.heap.size, 0, none⟩) (Nat.lt_succ_self _)).trans (by go_simp), (h.cell (p := ⟨w.heap.size, 1, none⟩) (Nat.lt_succ_self _)).trans (by go_simp), (h.cell (p := ⟨w.heap.size, 2, none⟩) (Nat.lt_succ_self _)).trans (by go_simp), (h.cell (p := ⟨w.heap.size, 3, none⟩) (Nat.lt_succ_self _)).trans (by go_simp)⟩
  have K0 := aside k0
  clear hw hr hv hi hz hs hb k0
  go_enter Tryd.func5, Tryd.ntmps5
  go_wp2_with (at_builtin; refine wpList_append_own _ rfl _ _ 35 rfl (w.heap.size + 1) 5 i (.int .u8 0) 1 1 Tryd.underlying35 Hi.out Hz.out Hs.out Hb.out rfl (by decide) (.slice none 0 0) 0 [] rfl (World.ownsRow_nil _ _ _ _) ⟨blk, off, none⟩ bs.length c (u8s bs) rfl (by simp [u8s]) ?_ (u8s_one bs) (by unfold maxLen; omega) (by omega) (by simp) ?_)
  · intro j u hj
    obtain ⟨x, hx, rfl⟩ := u8s_at hj
    rw [Addr.add_mid]
    exact HR0.out j x hx
  intro v' w1 ho1 hg1 hn1
  have hb1 : Below (w.heap.size + 1) (w.alloc (.cells #[.int .i8 k, .int .i64 n, .int .i64 m, .int .u64 y] 43)) w1 := (Below.refl _ _).grown hg1 (by simp) (fun q hq => by cases hq)
  obtain ⟨a1, c1, rfl, -, -⟩ := row_form ho1
  have O1 := aside ho1
  have B1 := aside hb1
  have s1 := hb1.size
  simp only [World.size_alloc] at s1
  clear ho1 hg1 hn1 hb1
  have B1a := aside (below_al w1 (.cells #[.int .u8 78] 5))
  have O1a := aside (row_below O1.out B1a.out)
  go_wp2_with (at_builtin; refine wpList_append_own _ rfl _ _ 35 rfl (w.heap.size + 1) 5 i (.int .u8 0) 1 1 Tryd.underlying35 Hi.out Hz.out Hs.out Hb.out rfl (by decide) (.slice a1 bs.length c1) bs.length (u8s bs) rfl O1a.out ⟨w1.heap.size, 0, none⟩ 1 1 (u8s [78]) rfl (by simp [u8s]) ?_ (u8s_one [78]) (by unfold maxLen; omega) (by omega) (by simp; omega) ?_)
  · intro j u hj
    match j, hj with
    | 0, hj => simp [u8s] at hj; subst hj; rw [Addr.add_mid]; go_simp
    | j + 1, hj => simp [u8s] at hj
  intro v' w2 ho2 hg2 hn2
  have hb2 : Below (w.heap.size + 1) (w1.alloc (.cells #[.int .u8 78] 5)) w2 := (Below.refl _ _).grown hg2 (by simp; omega) (row_own O1a.out)
  have hb2' := B1.out.trans ((B1a.out.mono s1).trans hb2)
  replace ho2 : w2.ownsRow (w.heap.size + 1) 5 1 v' (bs.length + 1) (u8s (bs ++ [78])) := by simpa [u8s] using ho2
  rcases ho2.2 with ⟨-, hz0⟩ | ⟨g, cap, cur, rfl, hgb, hheap, hnc, hcm, -, -⟩
  · omega
  obtain ⟨q0, q1, q2, q3⟩ := K0.out w2 hb2'
  have O2 := aside ho2
  have B2 := aside (show Below w.heap.size w w2 from B0.out.trans (hb2'.mono (Nat.le_succ _)))
  clear ho2 hg2 hn2 hb2 hb2' hheap hcm
  have hrow : RdB w2 g 0 bs := row_rd O2.out
  have C20 := aside (fun d os => over_any k n m y h1 h2 (some ⟨g, 0, none⟩) cap bs (ext w2 d os) (fun _ => ⟨g, 0, rfl, hrow.below (below_ext _ _ _)⟩) HV.out)
  have HROW := aside hrow
  have C21 := aside (fun W (hW : Below w.heap.size w W) => refOver_any k n m y (some ⟨blk, off, none⟩) c bs W (fun _ => ⟨blk, off, rfl, HR.out.below hW⟩) HV.out)
  generalize overN k bs = p at C20 C21
  obtain ⟨r, e⟩ := p
  have x0 := fun d os => ext_cell q0 d os
  have x1 := fun d os => ext_cell q1 d os
  have x2 := fun d os => ext_cell q2 d os
  have x3 := fun d os => ext_cell q3 d os
  have Q0 := aside q0
  have Q1 := aside q1
  have Q2 := aside q2
  have Q3 := aside q3
  clear q0 q1 q2 q3 hrow
  have hlc : bs.length ≤ cap := by omega
  go_wp2
  refine region_ext (by kernel_rfl) (by kernel_rfl) ?_
  repeat (any_goals (first | go_big_quiet_step ((go_at_call 20; exact calls_ext (C20.out _ _))) | quiet_step ((go_at_call 20; exact calls_ext (C20.out _ _)))))
  refine wpQuiet_nil ?_
  intro w3 hq3
  have B23 := aside hq3
  have B3 := aside (below_tr B2.out hq3)
  have O3 := aside (row_below O2.out hq3)
  have q0 := (hq3.cell (World.block_lt_of_cell? w2 _ Q0.out)).trans Q0.out
  have q1 := (hq3.cell (World.block_lt_of_cell? w2 _ Q1.out)).trans Q1.out
  have q2 := (hq3.cell (World.block_lt_of_cell? w2 _ Q2.out)).trans Q2.out
  have q3 := (hq3.cell (World.block_lt_of_cell? w2 _ Q3.out)).trans Q3.out
  clear hq3
  go_wp2_with fail
  refine (C21.out w3 B3.out).mono ?_
  rintro e4 w4 ⟨rfl, b4⟩
  have B4 := aside (below_tr B3.out b4)
  have O4 := aside (row_below O3.out b4)
  have hrd4 := aside (row_rd O4.out)
  clear b4 q0 q1 q2 q3 x0 x1 x2 x3
  go_wp2_with fail
  refine (same_any bs bs _ _ cap c w4 (fun _ => ⟨g, 0, rfl, hrd4.out⟩) (fun _ => ⟨blk, off, rfl, HR.out.below B4.out⟩) (by omega) (by omega)).mono ?_
  rintro e5 w5 ⟨rfl, b5⟩
  rw [beq_self_eq_true]
  have O5 := row_below O4.out b5
  have c78 : w5.cell? ⟨g, bs.length, none⟩ = some (.int .u8 78) := by
    have := O5.cells (g := g) rfl bs.length (.int .u8 78) (by simp [u8s])
    rw [Addr.add_mid, Nat.zero_add] at this
    exact this
  have B5 := aside (below_tr B4.out b5)
  clear b5 O5
  go_wp2_with fail
  refine (works_any w5 (HW.out.below B5.out)).mono ?_
  rintro e6 w6 ⟨rfl, b6⟩
  go_wp2
  go_ret
  exact ⟨rfl, below_tr B5.out b6⟩

set_option maxHeartbeats 4000000 in
set_option maxRecDepth 100000 in
theorem capsOver_none (k n m y : Int) (h1 : -128 ≤ k) (h2 : k < 128) (a : Option Addr) (c : Nat) (w : World) (hw : WordsAt w) :
    Calls Tryd.prog 5 #[.agg #[.int .i8 k, .int .i64 n, .int .i64 m, .int .u64 y], .slice a 0 c] w fun e w' => e = .returned (.bool true) ∧ Below w.heap.size w w' := by
  have HW := aside hw
  have B0 := aside (below_al w (.cells #[.int .i8 k, .int .i64 n, .int .i64 m, .int .u64 y] 43))
  have B0a := aside (below_al (w.alloc (.cells #[.int .i8 k, .int .i64 n, .int .i64 m, .int .u64 y] 43)) (.cells #[.int .u8 78] 5))
  have k0 : ∀ W, Below (w.heap.size + 1) (w.alloc (.cells #[.int .i8 k, .int .i64 n, .int .i64 m, .int .u64 y] 43)) W → W.cell? ⟨w.heap.size, 0, none⟩ = some (.int .i8 k) ∧ W.cell? ⟨w.heap.size, 1, none⟩ = some (.int .i64 n) ∧ W.cell? ⟨w.heap.size, 2, none⟩ = some (.int .i64 m) ∧ W.cell? ⟨w.heap.size, 3, none⟩ = some (.int .u64 y) := fun W h =>
    ⟨(h.cell (p := ⟨w.heap.size, 0, none⟩) (Nat.lt_succ_self _)).trans (by go_simp), (h.cell (p := ⟨w.heap.size, 1, none⟩) (Nat.lt_succ_self _)).trans (by go_simp), (h.cell (p := ⟨w.heap.size, 2, none⟩) (Nat.lt_succ_self _)).trans (by go_simp), (h.cell (p := ⟨w.heap.size, 3, none⟩) (Nat.lt_succ_self _)).trans (by go_simp)⟩
  have K0 := aside k0
  clear hw k0
  go_enter Tryd.func5, Tryd.ntmps5
  go_wp2_with (at_builtin; first
    | ((with_reducible refine wpList_append_to _ rfl _ _ 35 35 rfl (.slice none 0 0) (.slice a 0 c) ?_ ?_ (append_nothing _ _ _ _) ?_); rfl; rfl)
    | (refine wpList_push _ rfl _ _ 35 rfl (w.heap.size + 1) 5 (.int .u8 0) 1 Tryd.underlying35 info5 rfl (.slice none 0 0) 0 [] rfl (World.ownsRow_nil _ _ _ _) (w.heap.size + 1) 1 (.int .u8 78) (by simp [Act.eval]) (by go_simp) rfl (by omega) (by decide) (by simp) ?_; intro a' cap' w2 ho2 hb2 hs2))
  simp only [Nat.zero_add, List.nil_append] at ho2
  have hb2' := (B0a.out.mono (by simp)).trans hb2
  rcases ho2.2 with ⟨-, hz0⟩ | ⟨g, cap, cur, hv', hgb, hheap, hnc, hcm, -, -⟩
  · omega
  simp only [Value.slice.injEq, true_and] at hv'
  obtain ⟨rfl, rfl⟩ := hv'
  obtain ⟨q0, q1, q2, q3⟩ := K0.out w2 hb2'
  have O2 := aside ho2
  have B2 := aside (show Below w.heap.size w w2 from B0.out.trans (hb2'.mono (Nat.le_succ _)))
  clear ho2 hb2 hb2' hheap hcm
  have C20 := aside (fun d os => over_any k n m y h1 h2 (some ⟨g, 0, none⟩) cap' [] (ext w2 d os) (fun h => absurd rfl h) (by simp))
  have C21 := aside (fun W => refOver_any k n m y a c [] W (fun h => absurd rfl h) (by simp))
  generalize overN k [] = p at C20 C21
  obtain ⟨r, e⟩ := p
  have x0 := fun d os => ext_cell q0 d os
  have x1 := fun d os => ext_cell q1 d os
  have x2 := fun d os => ext_cell q2 d os
  have x3 := fun d os => ext_cell q3 d os
  have Q0 := aside q0
  have Q1 := aside q1
  have Q2 := aside q2
  have Q3 := aside q3
  clear q0 q1 q2 q3
  go_wp2
  refine region_ext (by kernel_rfl) (by kernel_rfl) ?_
  repeat (any_goals (first | go_big_quiet_step ((go_at_call 20; exact calls_ext (C20.out _ _))) | quiet_step ((go_at_call 20; exact calls_ext (C20.out _ _)))))
  refine wpQuiet_nil ?_
  intro w3 hq3
  have B3 := aside (below_tr B2.out hq3)
  have O3 := aside (row_below O2.out hq3)
  have q0 := (hq3.cell (World.block_lt_of_cell? w2 _ Q0.out)).trans Q0.out
  have q1 := (hq3.cell (World.block_lt_of_cell? w2 _ Q1.out)).trans Q1.out
  have q2 := (hq3.cell (World.block_lt_of_cell? w2 _ Q2.out)).trans Q2.out
  have q3 := (hq3.cell (World.block_lt_of_cell? w2 _ Q3.out)).trans Q3.out
  clear hq3
  go_wp2_with fail
  refine (C21.out w3).mono ?_
  rintro e4 w4 ⟨rfl, b4⟩
  have B4 := aside (below_tr B3.out b4)
  have O4 := aside (row_below O3.out b4)
  clear b4 q0 q1 q2 q3 x0 x1 x2 x3
  go_wp2_with fail
  refine (same_any [] [] _ _ cap' c w4 (fun h => absurd rfl h) (fun h => absurd rfl h) (by simp) (by simp)).mono ?_
  rintro e5 w5 ⟨rfl, b5⟩
  rw [beq_self_eq_true]
  have O5 := row_below O4.out b5
  have c78 : w5.cell? ⟨g, 0, none⟩ = some (.int .u8 78) := by
    have := O5.cells (g := g) rfl 0 (.int .u8 78) (by simp)
    rw [Addr.add_mid] at this
    exact this
  have B5 := aside (below_tr B4.out b5)
  clear b5 O5
  go_wp2_with fail
  refine (works_any w5 (HW.out.below B5.out)).mono ?_
  rintro e6 w6 ⟨rfl, b6⟩
  go_wp2
  go_ret
  exact ⟨rfl, below_tr B5.out b6⟩

set_option maxRecDepth 100000 in
theorem capsOver_lifted (os : Os) (started : os.Started) (H : Type) (enc : TypeId × Value → H) :
    ReturnsInHanded {} Tryd.checked os 5 .any (fun w args => (Rows.capsOverSpec.pre enc Tryd.prog Tryd.f5 [] false w args ∧ laidMetH Tryd.prog laidW w) ∧ sizedMet enc Tryd.prog Tryd.f5 (OpenSpec.ofChange Rows.capsOverSpec) false w args)
      (Rows.capsOverSpec.post enc Tryd.prog Tryd.f5 false true false false) := by
  refine returnsInHanded_of_change_and (C := Tryd.checked) (X := fun w _ => laidMetH Tryd.prog laidW w) (fun _ _ _ hh h => h.of_heap hh) own started (by kernel_rfl) Tryd.func5
    (ChangeSpec.witness_shaped (enc := enc) (C := Tryd.checked) (os := os) (X := fun w _ => laidMetH Tryd.prog laidW w) false (World.doorLaid Tryd.prog 400 os) #[.agg #[.int .i8 0, .int .i64 0, .int .i64 0, .int .u64 0], .slice none 0 0] 8 rfl (World.shaped_of_RefB (by kernel_rfl) (by kernel_rfl)) (by kernel_rfl) (by kernel_rfl) (by kernel_rfl) (door_met os _)) ?_
  intro W base args ds gs before hval0 hW _ hsz0 hL _
  have hval : ∀ (j : Nat) t v, Tryd.f5.params[j]? = some t → args[j]? = some v → Value.okWide Tryd.prog W .any base t v := hval0
  have hsz : (DataW.weightsEach Tryd.prog (Tryd.f5.params.toList ++ Rows.capsOverSpec.plain.varTypes Tryd.prog) (ds ++ gs)).all (· ≤ reachBytes) = true := hsz0
  have hW' := hW
  obtain ⟨p, q, hA0, hV, rfl, hfz, hnd⟩ := hW
  have hA : DataW.TrodAll enc Tryd.prog W 0 (fun _ => true) true Tryd.f5.params.toList args.toList ds p := hA0
  rw [Tryd.params5] at hA hval hsz
  obtain ⟨v0, vs0, d0, ds0, p0, q0, hargs, rfl, rfl, h0, r0⟩ := trodAll_cons hA
  obtain ⟨v1, vs1, d1, ds1, p1, q1, hargs1, rfl, rfl, h1, r1⟩ := trodAll_cons r0
  obtain ⟨rfl, rfl, rfl⟩ := trodAll_nil r1
  obtain rfl : args = #[v0, v1] := by cases args; simp_all
  obtain ⟨rfl, rfl⟩ := trodVars_none hV
  have k0 := h0
  have k1 := h1
  have lt0 : ∀ x ∈ p0, x.block < W.heap.size := by obtain ⟨m, hm⟩ := k0; exact DataW.trod_lt m _ _ _ hm
  have lt1 : ∀ x ∈ p1, x.block < W.heap.size := by obtain ⟨m, hm⟩ := k1; exact DataW.trod_lt m _ _ _ hm
  obtain ⟨k, n, m, y, rfl, hk1, hk2⟩ : ∃ (k n m y : Int), v0 = .agg #[.int .i8 k, .int .i64 n, .int .i64 m, .int .u64 y] ∧ -128 ≤ k ∧ k < 128 := by
    obtain ⟨c0, c1, c2, c3, y0, y1, y2, y3, m, rfl, -, -, g0, g1, g2, g3⟩ := Go.Joins.open_agg4 Tryd.underlying43 (by kernel_rfl) cells43 (hval 0 43 v0 rfl rfl) h0
    obtain ⟨d, e0, -, hwf⟩ := DataW.trod_int Tryd.underlying40 g0
    obtain ⟨t, e1, -, -⟩ := DataW.trod_int Tryd.underlying2 g1
    obtain ⟨n, e2, -, -⟩ := DataW.trod_int Tryd.underlying2 g2
    obtain ⟨u, e3, -, -⟩ := DataW.trod_int (k := .u64) (by kernel_rfl) g3
    simp only [List.cons.injEq, and_true] at e0 e1 e2 e3
    subst e0 e1 e2 e3
    have := bounds_i8 hwf
    exact ⟨d, t, n, u, rfl, by omega, by omega⟩
  obtain ⟨a, c, bs, rfl, ha, hv, hsl⟩ : ∃ (a : Option Addr) (c : Nat) (bs : List Nat), v1 = .slice a bs.length c ∧ (bs ≠ [] → ∃ blk off, a = some ⟨blk, off, none⟩ ∧ RdB W blk off bs) ∧ (∀ z ∈ bs, z < 256) ∧ bs.length ≤ 140737488351232 := by
    obtain ⟨a0, l0, c0, rfl⟩ := okWide_slice Tryd.underlying35 (hval 1 35 v1 rfl rfl)
    obtain ⟨fuel, hf⟩ := h1
    obtain ⟨a, c, bs, hv, ha, hb, es, sp, hx⟩ := open_bytes hf
    refine ⟨a, c, bs, hv, ha, hb, ?_⟩
    rcases hx with ⟨hx, hle⟩ | hx
    · simp only at hx
      subst hx
      have := sized_slice hsz (j := 1) (t := 35) (e := 5) rfl rfl Tryd.underlying35
      rw [bytes5] at this
      unfold reachBytes at this
      omega
    · subst hx; simp
  clear hA0 hval0
  have hwl : Calls Tryd.prog 5 #[.agg #[.int .i8 k, .int .i64 n, .int .i64 m, .int .u64 y], .slice a bs.length c] W fun e w' => e = .returned (.bool true) ∧ Below W.heap.size W w' := by
    by_cases hbs : bs = []
    · subst hbs; exact capsOver_none k n m y hk1 hk2 a c W (words_of_laid hL)
    · obtain ⟨blk, off, rfl, hr⟩ := ha hbs
      exact capsOver_some k n m y hk1 hk2 blk off c bs W (words_of_laid hL) hr hv (List.length_pos_iff.2 hbs) hsl
  refine hwl.mono fun e W' ⟨he, bel⟩ => ?_
  subst he
  exact ⟨_, rfl, _, _, _, [], _, [], hW', trodAll_mk1 (shut_bool Tryd.underlying4 _), (trodAll_cons_mk (Below.trod laidOut (by kernel_rfl) (of_decide_eq_true (by kernel_rfl)) k0 bel lt0) (trodAll_cons_mk (Below.trod laidOut (by kernel_rfl) (of_decide_eq_true (by kernel_rfl)) k1 bel lt1) trodAll_mk0)), rfl, bel.frame _, fun h => by cases h⟩

theorem capsOver_row : Rows.CapsOverSaid :=
  OpenClaim.holds_of_wide 5 Tryd.f5 rfl rfl rfl rfl rfl rfl rfl ⟨rfl, rfl, rfl, rfl, rfl⟩ rfl rfl rfl rfl rfl (by kernel_rfl) Tryd.func5 (by kernel_rfl)
    (of_decide_eq_true (by kernel_rfl)) (by unfold Func.isWrapper; first | (rw [if_pos (by decide +kernel)]; kernel_rfl) | (rw [if_neg (by decide +kernel)]; exact ⟨rfl, rfl⟩))
    (fun os started H enc _ => capsOver_lifted os started H enc)

theorem capsOver_holds : Rows.CapsOverCardSaid :=
  Claim7.holds_tied_plain_at .later [] [.data] true Rows.capsOverCard.stood.harness true
    capsOver_row (fun _ h => by cases h) (by kernel_rfl) (fun _ h => by cases h) capsOver_row_tie rfl ⟨rfl, rfl⟩ (by kernel_rfl) rfl
    (fun f fn hf hfn => by
      obtain rfl : f = 5 := Option.some.inj ((show Tryd.prog.funcNamed Rows.capsOverRow.func = some 5 by kernel_rfl).symm.trans hf) |>.symm
      obtain rfl : fn = Tryd.f5 := (Option.some.inj (Tryd.func5.symm.trans hfn)).symm
      exact ⟨by kernel_rfl, fun j t ht => by
        rw [Tryd.params5] at ht
        match j, ht with
        | 0, ht => simp at ht; subst ht; exact (show Tryd.prog.wantsStandIn 43 = false by kernel_rfl)
        | 1, ht => simp at ht; subst ht; exact (show Tryd.prog.wantsStandIn 35 = false by kernel_rfl)
        | j + 2, ht => simp at ht⟩)
    (by kernel_rfl)

#print axioms capsOver_holds
end Go.Proofs.YtniohiepnojjbaaDoor
