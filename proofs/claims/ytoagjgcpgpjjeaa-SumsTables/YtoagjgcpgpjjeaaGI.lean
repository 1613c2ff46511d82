/- Merged: OnlyAny, OfSub. -/
import Derived.Test.YtoagjgcpgpjjeaaGG
import Derived.Test.YtoagjgcpgpjjeaaGH
namespace Go.Proofs.Ytoagjgcpgpjjeaa
open Go.RowKit
attribute [local simp] lcells_nil readB_length bcells_length

set_option maxRecDepth 20000 in
set_option maxHeartbeats 8000000 in
theorem only_sub (b1 b2 b3 b4 : Bool) (p : Addr) (w : World) : Calls Try.prog 58 #[.agg #[I p, I p, I p, I p, I p], .int .u8 (num b1 b2 b3 b4 : Nat)] w fun e w' => e = .returned (.agg #[I p, opt b1 p, opt b2 p, opt b3 p, opt b4 p]) ∧ Below w.heap.size w w' := by
  cases b1 <;> cases b2 <;> cases b3 <;> cases b4 <;> simp only [opt, cond_true, cond_false]
  · rw [show ((num false false false false : Nat) : Int) = 0 from rfl]
    go_enter Try.func58, Try.ntmps58
    go_wp2
    refine bodyPost_ret (results_cell_row rfl _ _ (w.heap.size + 1) 115 _ (0, 0) _ rfl (heap_alloc2_new w _ _) Try.underlying115 rfl (by kernel_rfl)) rfl ?_
    exact ⟨rfl, below_tr (below_al w _) (below_al _ _)⟩
  · rw [show ((num false false false true : Nat) : Int) = 8 from rfl]
    go_enter Try.func58, Try.ntmps58
    go_wp2
    refine bodyPost_ret (results_cell_row rfl _ _ (w.heap.size + 1) 115 _ (0, 0) _ rfl (heap_alloc2_new w _ _) Try.underlying115 rfl (by kernel_rfl)) rfl ?_
    exact ⟨rfl, below_tr (below_al w _) (below_al _ _)⟩
  · rw [show ((num false false true false : Nat) : Int) = 4 from rfl]
    go_enter Try.func58, Try.ntmps58
    go_wp2
    refine bodyPost_ret (results_cell_row rfl _ _ (w.heap.size + 1) 115 _ (0, 0) _ rfl (heap_alloc2_new w _ _) Try.underlying115 rfl (by kernel_rfl)) rfl ?_
    exact ⟨rfl, below_tr (below_al w _) (below_al _ _)⟩
  · rw [show ((num false false true true : Nat) : Int) = 12 from rfl]
    go_enter Try.func58, Try.ntmps58
    go_wp2
    refine bodyPost_ret (results_cell_row rfl _ _ (w.heap.size + 1) 115 _ (0, 0) _ rfl (heap_alloc2_new w _ _) Try.underlying115 rfl (by kernel_rfl)) rfl ?_
    exact ⟨rfl, below_tr (below_al w _) (below_al _ _)⟩
  · rw [show ((num false true false false : Nat) : Int) = 2 from rfl]
    go_enter Try.func58, Try.ntmps58
    go_wp2
    refine bodyPost_ret (results_cell_row rfl _ _ (w.heap.size + 1) 115 _ (0, 0) _ rfl (heap_alloc2_new w _ _) Try.underlying115 rfl (by kernel_rfl)) rfl ?_
    exact ⟨rfl, below_tr (below_al w _) (below_al _ _)⟩
  · rw [show ((num false true false true : Nat) : Int) = 10 from rfl]
    go_enter Try.func58, Try.ntmps58
    go_wp2
    refine bodyPost_ret (results_cell_row rfl _ _ (w.heap.size + 1) 115 _ (0, 0) _ rfl (heap_alloc2_new w _ _) Try.underlying115 rfl (by kernel_rfl)) rfl ?_
    exact ⟨rfl, below_tr (below_al w _) (below_al _ _)⟩
  · rw [show ((num false true true false : Nat) : Int) = 6 from rfl]
    go_enter Try.func58, Try.ntmps58
    go_wp2
    refine bodyPost_ret (results_cell_row rfl _ _ (w.heap.size + 1) 115 _ (0, 0) _ rfl (heap_alloc2_new w _ _) Try.underlying115 rfl (by kernel_rfl)) rfl ?_
    exact ⟨rfl, below_tr (below_al w _) (below_al _ _)⟩
  · rw [show ((num false true true true : Nat) : Int) = 14 from rfl]
    go_enter Try.func58, Try.ntmps58
    go_wp2
    refine bodyPost_ret (results_cell_row rfl _ _ (w.heap.size + 1) 115 _ (0, 0) _ rfl (heap_alloc2_new w _ _) Try.underlying115 rfl (by kernel_rfl)) rfl ?_
    exact ⟨rfl, below_tr (below_al w _) (below_al _ _)⟩
  · rw [show ((num true false false false : Nat) : Int) = 1 from rfl]
    go_enter Try.func58, Try.ntmps58
    go_wp2
    refine bodyPost_ret (results_cell_row rfl _ _ (w.heap.size + 1) 115 _ (0, 0) _ rfl (heap_alloc2_new w _ _) Try.underlying115 rfl (by kernel_rfl)) rfl ?_
    exact ⟨rfl, below_tr (below_al w _) (below_al _ _)⟩
  · rw [show ((num true false false true : Nat) : Int) = 9 from rfl]
    go_enter Try.func58, Try.ntmps58
    go_wp2
    refine bodyPost_ret (results_cell_row rfl _ _ (w.heap.size + 1) 115 _ (0, 0) _ rfl (heap_alloc2_new w _ _) Try.underlying115 rfl (by kernel_rfl)) rfl ?_
    exact ⟨rfl, below_tr (below_al w _) (below_al _ _)⟩
  · rw [show ((num true false true false : Nat) : Int) = 5 from rfl]
    go_enter Try.func58, Try.ntmps58
    go_wp2
    refine bodyPost_ret (results_cell_row rfl _ _ (w.heap.size + 1) 115 _ (0, 0) _ rfl (heap_alloc2_new w _ _) Try.underlying115 rfl (by kernel_rfl)) rfl ?_
    exact ⟨rfl, below_tr (below_al w _) (below_al _ _)⟩
  · rw [show ((num true false true true : Nat) : Int) = 13 from rfl]
    go_enter Try.func58, Try.ntmps58
    go_wp2
    refine bodyPost_ret (results_cell_row rfl _ _ (w.heap.size + 1) 115 _ (0, 0) _ rfl (heap_alloc2_new w _ _) Try.underlying115 rfl (by kernel_rfl)) rfl ?_
    exact ⟨rfl, below_tr (below_al w _) (below_al _ _)⟩
  · rw [show ((num true true false false : Nat) : Int) = 3 from rfl]
    go_enter Try.func58, Try.ntmps58
    go_wp2
    refine bodyPost_ret (results_cell_row rfl _ _ (w.heap.size + 1) 115 _ (0, 0) _ rfl (heap_alloc2_new w _ _) Try.underlying115 rfl (by kernel_rfl)) rfl ?_
    exact ⟨rfl, below_tr (below_al w _) (below_al _ _)⟩
  · rw [show ((num true true false true : Nat) : Int) = 11 from rfl]
    go_enter Try.func58, Try.ntmps58
    go_wp2
    refine bodyPost_ret (results_cell_row rfl _ _ (w.heap.size + 1) 115 _ (0, 0) _ rfl (heap_alloc2_new w _ _) Try.underlying115 rfl (by kernel_rfl)) rfl ?_
    exact ⟨rfl, below_tr (below_al w _) (below_al _ _)⟩
  · rw [show ((num true true true false : Nat) : Int) = 7 from rfl]
    go_enter Try.func58, Try.ntmps58
    go_wp2
    refine bodyPost_ret (results_cell_row rfl _ _ (w.heap.size + 1) 115 _ (0, 0) _ rfl (heap_alloc2_new w _ _) Try.underlying115 rfl (by kernel_rfl)) rfl ?_
    exact ⟨rfl, below_tr (below_al w _) (below_al _ _)⟩
  · rw [show ((num true true true true : Nat) : Int) = 15 from rfl]
    go_enter Try.func58, Try.ntmps58
    go_wp2
    refine bodyPost_ret (results_cell_row rfl _ _ (w.heap.size + 1) 115 _ (0, 0) _ rfl (heap_alloc2_new w _ _) Try.underlying115 rfl (by kernel_rfl)) rfl ?_
    exact ⟨rfl, below_tr (below_al w _) (below_al _ _)⟩
end Go.Proofs.Ytoagjgcpgpjjeaa

namespace Go.Proofs.Ytoagjgcpgpjjeaa
open Go.RowKit
attribute [local simp] lcells_nil readB_length bcells_length

/-- How a handle's file comes to the file of memory, by its cells. -/
structure Way2 (w : World) (hb t fb m : Nat) : Prop where
  c5 : w.cell? ⟨hb, 5, none⟩ = some (.iface t (.pointer (some ⟨fb, 0, none⟩)))
  c0 : w.cell? ⟨fb, 0, none⟩ = some (I ⟨m, 0, none⟩)
  ups : Ups t
theorem Way2.upd {w w' : World} {hb t fb m : Nat} {F : Nat → Prop} (h : Way2 w hb t fb m) (hu : Upd F w w') (h1 : ¬ F hb) (h2 : ¬ F fb) : Way2 w' hb t fb m :=
  ⟨(World.cell?_of_block (hu.block _ (World.block_lt_of_cell? w _ h.c5) h1)).trans h.c5, (World.cell?_of_block (hu.block _ (World.block_lt_of_cell? w _ h.c0) h2)).trans h.c0, h.ups⟩
theorem Way2.below {w w' : World} {hb t fb m : Nat} (h : Way2 w hb t fb m) (hb' : Below w.heap.size w w') : Way2 w' hb t fb m :=
  h.upd (Upd.of_below (F := fun _ => False) hb') (fun h => h) (fun h => h)
theorem Way2.way {w : World} {hb t fb m : Nat} (h : Way2 w hb t fb m) : Way w hb t fb m :=
  ⟨h.c5, fun W hW => (h.ups W fb _ (h.below hW).c0).1, fun W hW => (h.ups W fb _ (h.below hW).c0).2⟩

theorem opt_or (b : Bool) (p : Addr) : opt b p = I p ∨ opt b p = .nilIface := by cases b <;> simp [opt]

set_option maxRecDepth 20000 in
set_option maxHeartbeats 2000000 in
theorem Only_sub (b1 b2 b3 b4 : Bool) (p : Addr) (hb fb : Nat) (w : World) (h : All15 w hb fb p) : Calls Try.prog 38 #[.pointer (some ⟨hb, 0, none⟩), .int .u8 (num b1 b2 b3 b4 : Nat)] w fun e w' => ∃ hb' t fb', e = .returned (.pointer (some ⟨hb', 0, none⟩)) ∧ Ups t ∧ w'.cell? ⟨hb', 5, none⟩ = some (.iface t (.pointer (some ⟨fb', 0, none⟩))) ∧ w'.cell? ⟨fb', 0, none⟩ = some (I p) ∧ Below w.heap.size w w' := by
  obtain ⟨c0, c1, c2, c3, c4, c5⟩ := han_cells h.han
  have HO := aside (only_sub b1 b2 b3 b4 p w)
  have o1 := opt_or b1 p
  have o2 := opt_or b2 p
  have o3 := opt_or b3 p
  have o4 := opt_or b4 p
  have HT := aside (fun W => together_sub b1 b2 b3 b4 p W)
  generalize num b1 b2 b3 b4 = nn at *
  generalize opt b1 p = x1 at *
  generalize opt b2 p = x2 at *
  generalize opt b3 p = x3 at *
  generalize opt b4 p = x4 at *
  have HM := aside (fun W => make_sub p x1 x2 x3 x4 W HT.out o1 o2 o3 o4)
  have q1 : x1.oneCell' = true := by rcases o1 with rfl | rfl <;> rfl
  clear h HT
  rcases o1 with rfl | rfl <;> rcases o2 with rfl | rfl <;> rcases o3 with rfl | rfl <;> rcases o4 with rfl | rfl
  all_goals
    go_enter Try.func38, Try.ntmps38
    go_wp2_with fail
    refine HO.out.mono ?_
    rintro e w1 ⟨rfl, hb1⟩
    have HB1 := aside hb1
    clear hb1
    go_wp2_with fail
    refine (HM.out _).mono ?_
    rintro e w2 ⟨hb', t, fb', rfl, h1, h2, h3, hb2⟩
    have H4 := aside (And.intro h1 (And.intro h2 (And.intro h3 hb2)))
    clear h1 h2 h3 hb2
    go_wp2
    go_ret
    exact ⟨hb', t, fb', rfl, H4.out.1, H4.out.2.1, H4.out.2.2.1, below_tr (below_tr HB1.out (below_al _ _)) H4.out.2.2.2⟩

set_option maxRecDepth 20000 in
set_option maxHeartbeats 2000000 in
theorem of_sub (b1 b2 b3 b4 : Bool) (b : Nat) (w : World) : Calls Try.prog 28 #[.pointer (some ⟨b, 0, none⟩), .int .u8 (num b1 b2 b3 b4 : Nat)] w fun e w' => ∃ hb t fb m, e = .returned (.tuple #[.pointer (some ⟨hb, 0, none⟩), .int .i64 0]) ∧ Way2 w' hb t fb m ∧ Fil w' m b ∧ Below w.heap.size w w' := by
  have hn : num b1 b2 b3 b4 ≤ 15 := by cases b1 <;> cases b2 <;> cases b3 <;> cases b4 <;> decide
  have HO := aside (fun p hb fb W h => Only_sub b1 b2 b3 b4 p hb fb W h)
  generalize num b1 b2 b3 b4 = nn at *
  have h15 : ¬ ((15 : Int) < (nn : Int)) := by omega
  go_enter Try.func28, Try.ntmps28
  go_wp2_with fail
  refine (make_all _ _).mono ?_
  rintro e w1 ⟨hb, fb, rfl, h1, h2, h3, h4, hb1⟩
  have HA : Aside (All15 w1 hb fb ⟨w.heap.size, 0, none⟩) := ⟨h3, h4⟩
  have HM : Aside (Fil w1 w.heap.size b) := (hb1.block w.heap.size (by simp)).trans (heap_alloc_new w _)
  have HW := aside (below_tr (below_al w _) hb1)
  clear h1 h2 h3 h4 hb1
  go_wp2_with fail
  refine (HO.out _ hb fb w1 HA.out).mono ?_
  rintro e w2 ⟨hb', t, fb', rfl, hU, h5, h0, hb2⟩
  have H5 := aside h5
  have H0 := aside h0
  have HU := aside hU
  have HB2 := aside hb2
  clear hU h5 h0 hb2
  go_wp2
  go_ret2
  exact ⟨hb', t, fb', w.heap.size, rfl, ⟨H5.out, H0.out, HU.out⟩, HM.out.below HB2.out, below_tr HW.out HB2.out⟩
end Go.Proofs.Ytoagjgcpgpjjeaa
