/-
  CacheNil: over no file New answers no handle, no cache and ErrNil, and that cache tells no hits, no misses and no blocks; for every input, with no condition of ours.
-/
import Derived.Test.YtppeiljpechenaaRows
import Derived.Test.YtppeiljpechenaaCacD
import Derived.ProofKit
import Derived.OpenShut
import Derived.ShutString
import Derived.ChangeOld
import Derived.Below
import Derived.Lib.SmallJoins
namespace Go.Proofs.Ytppeiljpechenaa
open Go.ChangeShapes Go.WideShapes Go.ChangeAt Go.RowKit Go.Joins
attribute [local simp] lcells_nil readB_length bcells_length

theorem ownT : ownKnob Try.prog.godebug = none := by kernel_rfl
theorem laidOutT : laidOutB Try.prog = true := by kernel_rfl

set_option maxRecDepth 20000 in
set_option maxHeartbeats 1000000 in
theorem canT_any (t : TypeId) (hb fb : Nat) (m : Addr) (w : World) (h : AllT t w hb fb m) : Calls Try.prog 14 #[.pointer (some ⟨hb, 0, none⟩)] w fun e w' => e = .returned (.int .u8 15) ∧ w' = w := by
  obtain ⟨c0, c1, c2, c3, c4, c5⟩ := han_cells h.han
  have n1 := yesW
  have n2 := yesC
  have n3 := yesH
  have n4 := yesS
  clear h c0 c1 c2 c3 c4
  go_enter Try.func14, Try.ntmps14
  go_wp2_with fail
  refine (file_any hb _ w c5).mono ?_
  rintro e w' ⟨rfl, rfl⟩
  go_wp2
  go_ret
  exact ⟨rfl, rfl⟩

theorem make200 (w : World) : ∃ W, (Instr.makeSlice 22 (.int .i64 200) (.int .i64 200)).run Try.prog w = .ok (.slice (some ⟨w.heap.size, 0, none⟩) 200 200) W ∧ W.heap[w.heap.size]? = some (.cells (bcells (List.replicate 200 0)).toArray 5 (0, 0)) ∧ Below w.heap.size w W :=
  ⟨_, make_bytes w 200 (by decide), heap_alloc_new w _, below_al w _⟩

theorem AllT.updT {t : TypeId} {w w' : World} {hb fb : Nat} {m : Addr} {F : Nat → Prop} (h : AllT t w hb fb m) (k : Upd F w w') (h1 : ¬ F hb) (h2 : ¬ F fb) : AllT t w' hb fb m := h.upd k h1 h2

/-- How it stands behind New: the file below in w0, the cache's handle over it. -/
structure Hd (w0 w : World) (hb fb f c mb d : Nat) : Prop where
  bel : Below w0.heap.size w0 w
  all : AllT 77 w hb fb ⟨f, 0, none⟩
  fl : Fl w f d c
  lc : w0.heap.size ≤ c
  lm : w0.heap.size ≤ mb

theorem Hd.upd {w0 w w' : World} {hb fb f c mb d : Nat} {F : Nat → Prop} (h : Hd w0 w hb fb f c mb d) (k : Upd F w w') (h0 : ∀ j, F j → w0.heap.size ≤ j) (h1 : ¬ F hb) (h2 : ¬ F fb) (h3 : ¬ F f) : Hd w0 w' hb fb f c mb d :=
  ⟨h.bel.trans (k.below h.bel.size h0), h.all.upd k h1 h2, (k.block f (Array.getElem?_eq_some_iff.1 h.fl).1 h3).trans h.fl, h.lc, h.lm⟩

theorem cells_ne {w : World} {a b : Nat} {ca cb : Array Value} {A B : TypeId} (ha : w.heap[a]? = some (.cells ca A (0, 0))) (hb : w.heap[b]? = some (.cells cb B (0, 0))) (h : A ≠ B) : ¬ a = b := by
  rintro rfl; rw [ha] at hb; simp only [Option.some.injEq, Obj.cells.injEq] at hb; exact h hb.2.1
theorem cellsM_ne {w : World} {a b : Nat} {ca : Array Value} {A : TypeId} {es : Array MapEntry} {t : Nat} (ha : w.heap[a]? = some (.cells ca A (0, 0))) (hb : w.heap[b]? = some (.map es t)) : ¬ a = b := by
  rintro rfl; rw [ha] at hb; simp at hb

/-- The first read through the handle. -/
theorem do1 (w0 : World) (hb fb f c mb d ha ms s : Nat) (lv : Value) (L : List Piece) (w : World) (hm0 : Mem0 w0 ha d ms s lv L) (hH : Hd w0 w hb fb f c mb d) (hC : Cac w c mb (.pointer none) (.pointer none) 0 0) (hM : w.heap[mb]? = some (.map #[] 0)) :
    Calls Try.prog 23 #[pt hb, .agg #[.int .i8 1, .int .i64 0, .int .i64 10, .slice none 0 0]] w fun e w' => ∃ v b g cap, e = .returned v ∧ w.heap.size ≤ b ∧ One w' c mb b g cap 0 0 ∧ Hd w0 w' hb fb f c mb d := by
  have lc : c < w.heap.size := (Array.getElem?_eq_some_iff.1 hC).1
  have lm : mb < w.heap.size := (Array.getElem?_eq_some_iff.1 hM).1
  refine (cacDo hb fb f 0 10 10 w hH.all (by decide) (fun w' => ∃ b g cap, w.heap.size ≤ b ∧ One w' c mb b g cap 0 0) (fun j => j = c ∨ j = mb) (fun j hj => by omega) ?_ ?_ ?_).mono ?_
  · intro W hW
    refine (read1 w0 f c mb d ha ms s lv L W hm0 (hH.bel.trans (hW.mono hH.bel.size)) hH.lc ((hW.block f (Array.getElem?_eq_some_iff.1 hH.fl).1).trans hH.fl) ((hW.block c lc).trans hC) ((hW.block mb lm).trans hM)).mono ?_
    rintro e w' ⟨b, g, cap, o, ocap, l, rfl, h1, h2, h3, h4⟩
    exact ⟨o, ocap, l, rfl, h3, ⟨b, g, cap, Nat.le_trans hW.size h1, h2⟩, h4⟩
  · rintro w1 w2 ⟨b, g, cap, h1, h2⟩ hb
    exact ⟨b, g, cap, h1, h2.upd (Upd.of_below (F := fun _ => False) hb) (fun h => h) (fun h => h) (fun h => h) (fun h => h)⟩
  · rintro w1 cs cs0 hr ⟨b, g, cap, h1, h2⟩
    exact ⟨b, g, cap, h1, h2.upd (Upd.setRow (F := fun j => j = w.heap.size + 1) w1 _ _ rfl) (by omega) (by omega) (cells_ne h2.blk hr (by decide)) (h2.dat.ne hr (by decide))⟩
  · rintro e w' ⟨v, rfl, ⟨b, g, cap, h1, h2⟩, h3⟩
    refine ⟨v, b, g, cap, rfl, h1, h2, hH.upd h3 (fun j hj => by have := hH.lc; have := hH.lm; omega) ?_ ?_ ?_⟩
    · rintro (e | e)
      · exact cells_ne hH.all.han hC (by decide) e
      · exact cellsM_ne hH.all.han hM e
    · rintro (e | e)
      · exact cells_ne hH.all.fil hC (by decide) e
      · exact cellsM_ne hH.all.fil hM e
    · rintro (e | e)
      · exact cells_ne hH.fl hC (by decide) e
      · exact cellsM_ne hH.fl hM e

/-- The second read. -/
theorem do2 (w0 : World) (hb fb f c mb d ha ms s : Nat) (lv : Value) (L : List Piece) (b g cap : Nat) (w : World) (hm0 : Mem0 w0 ha d ms s lv L) (hH : Hd w0 w hb fb f c mb d) (hO : One w c mb b g cap 0 0) (hb0 : w0.heap.size ≤ b) :
    Calls Try.prog 23 #[pt hb, .agg #[.int .i8 1, .int .i64 60, .int .i64 8, .slice none 0 0]] w fun e w' => ∃ v b', e = .returned v ∧ Two w' c mb b b' 1 2 ∧ Hd w0 w' hb fb f c mb d := by
  have lc : c < w.heap.size := (Array.getElem?_eq_some_iff.1 hO.cac).1
  have lm : mb < w.heap.size := (Array.getElem?_eq_some_iff.1 hO.map).1
  have lb : b < w.heap.size := (Array.getElem?_eq_some_iff.1 hO.blk).1
  refine (cacDo hb fb f 60 8 8 w hH.all (by decide) (fun w' => ∃ b', Two w' c mb b b' 1 2) (fun j => j = b ∨ j = c ∨ j = mb) (fun j hj => by omega) ?_ ?_ ?_).mono ?_
  · intro W hW
    refine (read2 w0 f c mb d ha ms s lv L b g cap W hm0 (hH.bel.trans (hW.mono hH.bel.size)) ⟨hH.lc, hH.lm, hb0⟩ ((hW.block f (Array.getElem?_eq_some_iff.1 hH.fl).1).trans hH.fl) (hO.upd (Upd.of_below (F := fun _ => False) hW) (fun h => h) (fun h => h) (fun h => h) (fun h => h))).mono ?_
    rintro e w' ⟨b', o, ocap, l, rfl, h1, h2, h3⟩
    exact ⟨o, ocap, l, rfl, h2, ⟨b', h1⟩, h3⟩
  · rintro w1 w2 ⟨b', h2⟩ hb
    exact ⟨b', h2.upd (Upd.of_below (F := fun _ => False) hb) (fun h => h) (fun h => h) (fun h => h)⟩
  · rintro w1 cs cs0 hr ⟨b', h2⟩
    obtain ⟨dv, hn⟩ := h2.new
    exact ⟨b', h2.upd (Upd.setRow (F := fun j => j = w.heap.size + 1) w1 _ _ rfl) (by omega) (by omega) (cells_ne hn hr (by decide))⟩
  · rintro e w' ⟨v, rfl, ⟨b', h2⟩, h3⟩
    refine ⟨v, b', rfl, h2, hH.upd h3 (fun j hj => by have := hH.lc; have := hH.lm; omega) ?_ ?_ ?_⟩
    · rintro (e | e | e)
      · exact cells_ne hH.all.han hO.blk (by decide) e
      · exact cells_ne hH.all.han hO.cac (by decide) e
      · exact cellsM_ne hH.all.han hO.map e
    · rintro (e | e | e)
      · exact cells_ne hH.all.fil hO.blk (by decide) e
      · exact cells_ne hH.all.fil hO.cac (by decide) e
      · exact cellsM_ne hH.all.fil hO.map e
    · rintro (e | e | e)
      · exact cells_ne hH.fl hO.blk (by decide) e
      · exact cells_ne hH.fl hO.cac (by decide) e
      · exact cellsM_ne hH.fl hO.map e

set_option maxRecDepth 20000 in
set_option maxHeartbeats 4000000 in
theorem works_any (w : World) : Calls Try.prog 8 #[] w fun e w' => e = .returned (.bool true) ∧ Below w.heap.size w w' := by
  obtain ⟨W1, hmk, hrow, hbW⟩ := make200 w
  have F0 : Aside (Calls Try.prog 10 #[.slice (some ⟨w.heap.size, 0, none⟩) 200 200, .int .u8 15] W1 fun e w' => ∃ hb fb m b lv g cap, e = .returned (.tuple #[.pointer (some ⟨hb, 0, none⟩), .int .i64 0]) ∧ Mem0 w' hb fb m b lv [⟨0, g, cap, List.replicate 200 0⟩] ∧ Below W1.heap.size W1 w') := by
    have h := new_allL w.heap.size (List.replicate 200 0) W1 (0, 0) (by decide) (by decide) hrow
    rw [List.length_replicate] at h
    refine h.mono ?_
    rintro e w' ⟨hb, fb, m, b, lv, g, cap, rfl, h1, h2, h3, h4⟩
    exact ⟨hb, fb, m, b, lv, g, cap, rfl, ⟨h1, h2, h3⟩, h4⟩
  have HW := aside hbW
  clear hrow hbW
  go_enter Try.func8, Try.ntmps8
  go_wp2_with fail
  refine F0.out.mono ?_
  rintro e w0 ⟨ha, d, ms, s, lv, g0, cap0, rfl, hm0, hb0⟩
  have HM0 := aside hm0
  have HW0 := aside (below_tr HW.out hb0)
  have F1 := aside (cacNew_any ha d _ w0 hm0.all)
  clear hm0 hb0 HW F0 hmk
  go_wp2_with fail
  refine F1.out.mono ?_
  rintro e w2 ⟨hb, fb, f, c, mb, rfl, h1, h2, h3, h4, ⟨h5, h6⟩, h7⟩
  have HH2 : Aside (Hd w0 w2 hb fb f c mb d) := ⟨h7, h1, h2, h5, h6⟩
  have F2 := aside (do1 w0 hb fb f c mb d ha ms s lv _ w2 HM0.out HH2.out h3 h4)
  have HS2 := aside h7.size
  clear h1 h2 h3 h4 h5 h6 h7 F1
  go_wp2_with fail
  refine F2.out.mono ?_
  rintro e w3 ⟨v3, b, g, cap, rfl, hb3, hO3, hH3⟩
  have F3 := aside (do2 w0 hb fb f c mb d ha ms s lv _ b g cap w3 HM0.out hH3 hO3 (Nat.le_trans HS2.out hb3))
  clear hb3 hO3 hH3 F2
  go_wp2_with fail
  refine F3.out.mono ?_
  rintro e w4 ⟨v4, b', rfl, hT4, hH4⟩
  have HT4 := aside hT4
  have HH4 := aside hH4
  have F4 := aside (hits_any c mb 1 2 _ _ w4 hT4.cac)
  clear hT4 hH4 F3
  go_wp2_with fail
  refine F4.out.mono ?_
  rintro e w5 ⟨rfl, hb5⟩
  have hu5 := Upd.of_below (F := fun _ => False) hb5
  have F5 := aside (blocks_two c mb b b' 1 2 w5 (HT4.out.upd hu5 (fun h => h) (fun h => h) (fun h => h)))
  have HH5 := aside (HH4.out.upd hu5 (fun j h => h.elim) (fun h => h) (fun h => h) (fun h => h))
  clear hb5 hu5 F4
  go_wp2_with fail
  refine F5.out.mono ?_
  rintro e w6 ⟨o, ocap, rfl, hown, hb6⟩
  have hu6 := Upd.of_below (F := fun _ => False) hb6
  have HH6 := aside (HH5.out.upd hu6 (fun j h => h.elim) (fun h => h) (fun h => h) (fun h => h))
  have o0 : w6.cell? ⟨o, 0, none⟩ = some (.int .i64 1) := by rw [hown.cellAt 0 (by omega)]; rfl
  have o1 : w6.cell? ⟨o, 1, none⟩ = some (.int .i64 0) := by rw [hown.cellAt 1 (by omega)]; rfl
  have F6 := aside (canT_any 77 hb fb _ w6 HH6.out.all)
  clear hb6 hu6 hown F5
  go_wp2_with fail
  refine F6.out.mono ?_
  rintro e w7 ⟨rfl, rfl⟩
  go_wp2_with fail
  go_ret
  exact ⟨rfl, HW0.out.trans (HH6.out.bel.mono HW0.out.size)⟩

set_option maxRecDepth 20000 in
set_option maxHeartbeats 1000000 in
theorem cacheNil_walk (n : Int) (w : World) : Calls Try.prog 4 #[.int .i64 n] w fun e w' => e = .returned (.bool true) ∧ Below w.heap.size w w' := by
  go_enter Try.func4, Try.ntmps4
  go_wp2_with fail
  refine (cacNew_nil n w).mono ?_
  rintro e w1 ⟨rfl, rfl⟩
  go_wp2_with fail
  refine (hits_nil w1).mono ?_
  rintro e w2 ⟨rfl, rfl⟩
  go_wp2_with fail
  refine (blocks_nil w2).mono ?_
  rintro e w3 ⟨rfl, rfl⟩
  go_wp2_with fail
  refine (works_any w3).mono ?_
  rintro e w4 ⟨rfl, hb⟩
  go_wp2_with fail
  go_ret
  exact ⟨rfl, hb⟩

set_option maxRecDepth 100000 in
theorem cacheNil_lifted (os : Os) (started : os.Started) (H : Type) (enc : TypeId × Value → H) :
    ReturnsInHanded {} Try.checked os 4 .any (Rows.cacheNilSpec.pre6 enc Try.prog Try.f4 Rows.cacheNilRow.domain false) (Rows.cacheNilSpec.post enc Try.prog Try.f4 false true false false) := by
  refine returnsInHanded_of_change (C := Try.checked) ownT started (by kernel_rfl) Try.func4
    (ChangeSpec.witness6 (enc := enc) (C := Try.checked) false ⟨#[], #[.int .i64 0], []⟩ 8 (by kernel_rfl) (by kernel_rfl) (by kernel_rfl) (by kernel_rfl)) ?_
  intro W base args ds gs before hval0 hW hcnd _
  have hval : ∀ (j : Nat) t v, Try.f4.params[j]? = some t → args[j]? = some v → Value.okWide Try.prog W .any base t v := hval0
  have hW' := hW
  obtain ⟨p, q, hA0, hV, rfl, hfz, hnd⟩ := hW
  have hA : DataW.TrodAll enc Try.prog W 0 (fun _ => true) true Try.f4.params.toList args.toList ds p := hA0
  rw [Try.params4] at hA hval
  obtain ⟨v0, vs0, d0, ds0, p0, q0, hargs, rfl, rfl, h0, r0⟩ := trodAll_cons hA
  obtain ⟨rfl, rfl, rfl⟩ := trodAll_nil r0
  obtain rfl : args = #[v0] := by cases args; simp_all
  obtain ⟨rfl, rfl⟩ := trodVars_none hV
  have k0 := h0
  have lt0 : ∀ x ∈ p0, x.block < W.heap.size := by obtain ⟨m, hm⟩ := k0; exact DataW.trod_lt m _ _ _ hm
  obtain ⟨a, rfl, -, -, -⟩ := open_int Try.underlying3 (hval 0 3 v0 rfl rfl) h0
  clear hA0 hval0
  refine (cacheNil_walk a W).mono fun e W' ⟨he, bel⟩ => ?_
  subst he
  exact ⟨_, rfl, _, _, _, [], _, [], hW', trodAll_mk1 (shut_bool Try.underlying4 _), (trodAll_cons_mk (Below.trod laidOutT (by kernel_rfl) (of_decide_eq_true (by kernel_rfl)) k0 bel lt0) trodAll_mk0), rfl, bel.frame _, fun h => by cases h⟩

theorem cacheNil_holds : Rows.CacheNilSaid :=
  OpenClaim.holds_of_wide 4 Try.f4 rfl rfl rfl rfl rfl rfl rfl ⟨rfl, rfl, rfl, rfl, rfl⟩ rfl rfl rfl rfl rfl (by kernel_rfl) Try.func4 (by kernel_rfl)
    (of_decide_eq_true (by kernel_rfl)) (by unfold Func.isWrapper; first | (rw [if_pos (by decide +kernel)]; kernel_rfl) | (rw [if_neg (by decide +kernel)]; exact ⟨rfl, rfl⟩))
    (fun os started H enc _ => cacheNil_lifted os started H enc)

#print axioms cacheNil_holds
end Go.Proofs.Ytppeiljpechenaa
