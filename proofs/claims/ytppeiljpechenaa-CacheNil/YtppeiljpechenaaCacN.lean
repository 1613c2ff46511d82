/- A cache over a file of memory: New, Can, Hits, Blocks, and reads through its handle's Do. -/
import Derived.Test.YtppeiljpechenaaCacQ
import Derived.Carry
namespace Go.Proofs.Ytppeiljpechenaa
open Go.RowKit Go.MapLit Go.ChangeMaps
attribute [local simp] lcells_nil readB_length bcells_length

theorem heap_alloc_first (w : World) (a b : Array Value) (s t : TypeId) : ((w.alloc (.cells a s)).alloc (.cells b t)).heap[w.heap.size]? = some (.cells a s (0, 0)) :=
  ((below_al (w.alloc (.cells a s)) _).block _ (by simp)).trans (heap_alloc_new w _)

set_option maxRecDepth 20000 in
set_option maxHeartbeats 1000000 in
theorem ask_any (d : Nat) (w : World) : Calls Try.prog 29 #[FSy d] w fun e w' => e = .returned (.agg #[FSy d, FSy d, FSy d, FSy d, FSy d]) ∧ Below w.heap.size w w' := by
  have n1 := yesW
  have n2 := yesC
  have n3 := yesH
  have n4 := yesS
  go_enter Try.func29, Try.ntmps29
  go_wp2
  refine bodyPost_ret (results_cell_row rfl _ _ w.heap.size 87 _ (0, 0) _ rfl (heap_alloc_first w _ _ _ _) Try.underlying87 rfl (by kernel_rfl)) rfl ?_
  exact ⟨rfl, below_tr (below_al w _) (below_al _ _)⟩

set_option maxRecDepth 20000 in
set_option maxHeartbeats 1000000 in
theorem cacNew_nil (n : Int) (w : World) : Calls Try.prog 12 #[.pointer none, .int .i64 n] w fun e w' => e = .returned (.tuple #[.pointer none, .pointer none, .int .i64 1]) ∧ w' = w := by
  go_enter Try.func12, Try.ntmps12
  go_wp2_with fail
  refine (file_nil w).mono ?_
  rintro e w' ⟨rfl, rfl⟩
  go_wp2
  go_ret3
  exact ⟨rfl, rfl⟩

set_option maxRecDepth 20000 in
set_option maxHeartbeats 1000000 in
theorem hits_nil (w : World) : Calls Try.prog 21 #[.pointer none] w fun e w' => e = .returned (.tuple #[.int .i64 0, .int .i64 0]) ∧ w' = w := by
  go_enter Try.func21, Try.ntmps21
  go_wp2
  go_ret2
  exact ⟨rfl, rfl⟩

set_option maxRecDepth 20000 in
set_option maxHeartbeats 1000000 in
theorem blocks_nil (w : World) : Calls Try.prog 22 #[.pointer none] w fun e w' => e = .returned (.slice none 0 0) ∧ w' = w := by
  go_enter Try.func22, Try.ntmps22
  go_wp2
  go_ret
  exact ⟨rfl, rfl⟩

set_option maxRecDepth 20000 in
set_option maxHeartbeats 1000000 in
theorem hits_any (c mb h m : Nat) (nw ol : Value) (w : World) (hC : Cac w c mb nw ol h m) : Calls Try.prog 21 #[pt c] w fun e w' => e = .returned (.tuple #[.int .i64 h, .int .i64 m]) ∧ Below w.heap.size w w' := by
  obtain ⟨-, -, -, -, c4, c5⟩ := hC.cells
  clear hC
  go_enter Try.func21, Try.ntmps21
  go_wp2_with fail
  go_region
  go_wp2_with fail
  go_ret2
  exact ⟨rfl, below_dr w⟩

set_option maxRecDepth 20000 in
set_option maxHeartbeats 2000000 in
theorem cacNew_any (hb d : Nat) (p : Addr) (w : World) (h : All15 w hb d p) : Calls Try.prog 12 #[pt hb, .int .i64 2] w fun e w' => ∃ hb' fb' f c mb, e = .returned (.tuple #[pt hb', pt c, .int .i64 0]) ∧
    AllT 77 w' hb' fb' ⟨f, 0, none⟩ ∧ Fl w' f d c ∧ Cac w' c mb (.pointer none) (.pointer none) 0 0 ∧ w'.heap[mb]? = some (.map #[] 0) ∧ (w.heap.size ≤ c ∧ w.heap.size ≤ mb) ∧ Below w.heap.size w w' := by
  have c5 := (han_cells h.han).2.2.2.2.2
  have F1 := aside (file_any hb _ w c5)
  have HH := aside h
  have hmk := fun w => run_makeMap (P := Try.prog) 73 w
  clear h c5
  go_enter Try.func12, Try.ntmps12
  go_wp2_with fail
  refine F1.out.mono ?_
  rintro e w' ⟨rfl, rfl⟩
  go_wp2_with fail
  obtain ⟨U, hU⟩ : ∃ U, U = (w'.alloc (.map #[] 0)).alloc (.cells #[.int .i64 2, .map (some w'.heap.size), .pointer none, .pointer none, .int .i64 0, .int .i64 0] 76) := ⟨_, rfl⟩
  have hMU : U.heap[w'.heap.size]? = some (.map #[] 0) := by rw [hU]; exact ((below_al _ _).block _ (by simp)).trans (heap_alloc_new w' _)
  have hCU : Cac U (w'.heap.size + 1) w'.heap.size (.pointer none) (.pointer none) 0 0 := by rw [hU]; exact heap_alloc2_new w' _ _
  have hBU : Below w'.heap.size w' U := by rw [hU]; exact below_tr (below_al w' _) (below_al _ _)
  have HM := aside hMU
  have HC := aside hCU
  have HB := aside hBU
  rw [← hU]
  clear hU hMU hCU hBU
  refine (ask_any d U).mono ?_
  rintro e w1 ⟨rfl, hb1⟩
  have HB1 := aside (below_tr HB.out hb1)
  have HM1 : Aside (w1.heap[w'.heap.size]? = some (.map #[] 0)) := (hb1.block _ (Array.getElem?_eq_some_iff.1 HM.out).1).trans HM.out
  have HC1 : Aside (Cac w1 (w'.heap.size + 1) w'.heap.size (.pointer none) (.pointer none) 0 0) := (hb1.block _ (Array.getElem?_eq_some_iff.1 HC.out).1).trans HC.out
  clear hb1 HM HC HB
  go_wp2_with fail
  obtain ⟨V, hV⟩ : ∃ V, V = w1.alloc (.cells #[FSy d, FSy d, FSy d, FSy d, FSy d, pt (w'.heap.size + 1)] 90) := ⟨_, rfl⟩
  have hFV : Fl V w1.heap.size d (w'.heap.size + 1) := by rw [hV]; exact heap_alloc_new w1 _
  have hbV : Below w1.heap.size w1 V := by rw [hV]; exact below_al w1 _
  rw [← hV]
  clear hV
  refine (make_allT 77 ⟨w1.heap.size, 0, none⟩ V).mono ?_
  rintro e w2 ⟨hb', fb', rfl, h1, h2, h3, h4, hb2⟩
  have hb12 := below_tr hbV hb2
  have HB2 := aside (below_tr HB1.out hb12)
  have HM2 : Aside (w2.heap[w'.heap.size]? = some (.map #[] 0)) := (hb12.block _ (Array.getElem?_eq_some_iff.1 HM1.out).1).trans HM1.out
  have HC2 : Aside (Cac w2 (w'.heap.size + 1) w'.heap.size (.pointer none) (.pointer none) 0 0) := (hb12.block _ (Array.getElem?_eq_some_iff.1 HC1.out).1).trans HC1.out
  have HF2 : Aside (Fl w2 w1.heap.size d (w'.heap.size + 1)) := (hb2.block _ (Array.getElem?_eq_some_iff.1 hFV).1).trans hFV
  have HA2 : Aside (AllT 77 w2 hb' fb' ⟨w1.heap.size, 0, none⟩) := ⟨h3, h4⟩
  have F3 := aside (can_all_any hb d p w2 (HH.out.below HB2.out))
  clear h1 h2 h3 h4 hb2 hbV hFV hb12 HM1 HC1 HB1
  go_wp2_with fail
  refine F3.out.mono ?_
  rintro e w3 ⟨rfl, rfl⟩
  go_wp2_with fail
  refine (Only_allT 77 _ hb' fb' w3 HA2.out).mono ?_
  rintro e w4 ⟨hb2, fb2, rfl, h1, h2, h3, hb4⟩
  have HM4 : Aside (w4.heap[w'.heap.size]? = some (.map #[] 0)) := (hb4.block _ (Array.getElem?_eq_some_iff.1 HM2.out).1).trans HM2.out
  have HC4 : Aside (Cac w4 (w'.heap.size + 1) w'.heap.size (.pointer none) (.pointer none) 0 0) := (hb4.block _ (Array.getElem?_eq_some_iff.1 HC2.out).1).trans HC2.out
  have HF4 : Aside (Fl w4 w1.heap.size d (w'.heap.size + 1)) := (hb4.block _ (Array.getElem?_eq_some_iff.1 HF2.out).1).trans HF2.out
  have HA4 := aside h3
  have HB4 := aside (below_tr HB2.out hb4)
  clear h1 h2 h3 hb4
  go_wp2_with fail
  go_ret3
  exact ⟨hb2, fb2, _, _, _, rfl, HA4.out, HF4.out, HC4.out, HM4.out, ⟨by omega, by omega⟩, HB4.out⟩

theorem below_grown {w w' : World} (h : w.grownBy w' none) : Below w.heap.size w w' :=
  (Upd.of_grown (F := fun _ => False) h (fun _ hk => by cases hk)).below (Nat.le_refl _) (fun _ h => h.elim)

theorem info2 : (Try.prog.info? 2).map (fun i => (i.zero, i.size, i.bytes)) = some (some (.int .i64 0), 1, 8) := by kernel_rfl
theorem int_one (x : Int) : ∀ u ∈ [Value.int .i64 x], u.oneCell' = true := by
  intro u hu
  simp only [List.mem_cons, List.not_mem_nil, or_false] at hu
  subst hu; rfl

set_option maxRecDepth 20000 in
set_option maxHeartbeats 2000000 in
theorem blocks_two (c mb b b' h m : Nat) (w : World) (hT : Two w c mb b b' h m) : Calls Try.prog 22 #[pt c] w fun e w' => ∃ o cap, e = .returned (.slice (some ⟨o, 0, none⟩) 2 cap) ∧ w'.ownsRow 0 2 1 (.slice (some ⟨o, 0, none⟩) 2 cap) 2 [.int .i64 1, .int .i64 0] ∧ Below w.heap.size w w' := by
  obtain ⟨dv, hN⟩ := hT.new
  obtain ⟨dv', hO⟩ := hT.old
  have c2 := hT.cac.cells.2.2.1
  obtain ⟨n0, -, -, n3⟩ := hN.cells
  have HO := aside hO
  have HN := aside hN
  clear hT hN hO
  go_enter Try.func22, Try.ntmps22
  go_wp2_with fail
  refine wp_loop_rounds 3 ?_
  rw [rounds_succ]
  have HS1 : Aside (∀ j v, [Value.int .i64 1][j]? = some v → (w.alloc (.cells #[.int .i64 1] 2)).cell? ((⟨w.heap.size, 0, none⟩ : Addr).add j) = some v) := cells_lit (cs := [.int .i64 1]) (heap_alloc_new w _)
  have HE1 : Aside ((w.alloc (.cells #[.int .i64 1] 2)).ownsRow 0 2 1 (.slice none 0 0) 0 []) := ⟨rfl, .inl ⟨rfl, rfl⟩⟩
  go_wp2_with (at_builtin; refine wpList_append_where _ rfl _ _ 56 rfl 2 (.int .i64 0) 1 8 Try.underlying56 info2 rfl (by decide) (.slice none 0 0) 0 [] rfl HE1.out ⟨w.heap.size, 0, none⟩ 1 _ [.int .i64 1] rfl rfl HS1.out (int_one _) (by decide) (by decide) (by decide) ?_; intro v' w1 ho hg hwh; have hb1 := below_tr (below_al w _) (below_grown hg); have e3 := (Blk.cells ((hb1.block b' (Array.getElem?_eq_some_iff.1 HN.out).1).trans HN.out)).2.2.2; have HB1 := aside hb1; have HO1 := aside ho; have HW1 := aside hwh; clear ho hg hwh hb1)
  rw [rounds_succ]
  have ho := HO1.out
  simp only [Nat.zero_add, List.nil_append] at ho
  obtain ⟨o, ocap, cur, rfl, r⟩ := ho.2.resolve_left (fun h => by omega)
  have hwo : w.heap.size ≤ o := by
    rcases HW1.out with ⟨-, g0, e1⟩ | ⟨e1, -⟩
    · simp [Value.ownBlock] at e1
    · simp only [Value.ownBlock, Option.some.injEq, World.size_alloc] at e1; omega
  obtain ⟨d0, -, -, d3⟩ := Blk.cells ((HB1.out.block b (Array.getElem?_eq_some_iff.1 HO.out).1).trans HO.out)
  have HS2 : Aside (∀ j v, [Value.int .i64 0][j]? = some v → (w1.alloc (.cells #[.int .i64 0] 2)).cell? ((⟨w1.heap.size, 0, none⟩ : Addr).add j) = some v) := cells_lit (cs := [.int .i64 0]) (heap_alloc_new w1 _)
  have HE2 := aside (row_below ho (below_al w1 (.cells #[.int .i64 0] 2)))
  have hbo : ¬ b = o := by have := (Array.getElem?_eq_some_iff.1 HO.out).1; omega
  clear ho r HO1 HW1 HS1 HE1 n0 n3 c2 e3
  go_wp2_with (at_builtin; refine wpList_append_where _ rfl _ _ 56 rfl 2 (.int .i64 0) 1 8 Try.underlying56 info2 rfl (by decide) (.slice (some ⟨o, 0, none⟩) 1 ocap) 1 [.int .i64 1] rfl HE2.out ⟨w1.heap.size, 0, none⟩ 1 _ [.int .i64 0] rfl rfl HS2.out (int_one _) (by decide) (by decide) (by decide) ?_; intro v' w2 ho hg hwh; have hu2 := (Upd.of_below (F := fun j => j = o) (below_al w1 _)).trans (Upd.of_grown (F := fun j => j = o) hg (fun k hk => by simpa [Value.ownBlock, eq_comm] using hk)) (fun _ _ h => h); have hb2 := HB1.out.trans (hu2.below HB1.out.size (fun j hj => by omega)); have e3 := (Blk.cells ((hb2.block b (Array.getElem?_eq_some_iff.1 HO.out).1).trans HO.out)).2.2.2; have HB2 := aside hb2; have HO2 := aside ho; clear ho hg hwh hb2 hu2)
  rw [rounds_succ]
  have ho := HO2.out
  obtain ⟨o2, ocap2, cur, rfl, r⟩ := ho.2.resolve_left (fun h => by omega)
  clear ho r
  go_wp2_with fail
  go_ret
  exact ⟨o2, ocap2, rfl, HO2.out, HB2.out⟩
end Go.Proofs.Ytppeiljpechenaa
