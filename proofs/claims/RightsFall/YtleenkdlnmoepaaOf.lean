/- Handles: only, Only, and what memory.Of lays. -/
import Derived.Test.YtleenkdlnmoepaaFace
namespace Go.Proofs.Ytleenkdlnmoepaa
open Go.RowKit
set_option maxRecDepth 20000 in
set_option maxHeartbeats 1000000 in
theorem only_all (p : Addr) (w : World) : Calls Try.prog 37 #[.agg #[I p, I p, I p, I p, I p], .int .u8 15] w fun e w' => e = .returned (.agg #[I p, I p, I p, I p, I p]) ∧ Below w.heap.size w w' := by
  go_enter Try.func37, Try.ntmps37
  go_wp2
  refine bodyPost_ret (results_cell_row rfl _ _ (w.heap.size + 1) 117 _ (0, 0) _ rfl (heap_alloc2_new w _ _) Try.underlying117 rfl (by kernel_rfl)) rfl ?_
  exact ⟨rfl, below_tr (below_al w _) (below_al _ _)⟩

set_option maxRecDepth 20000 in
set_option maxHeartbeats 1000000 in
theorem only_none (p : Addr) (w : World) : Calls Try.prog 37 #[.agg #[I p, I p, I p, I p, I p], .int .u8 0] w fun e w' => e = .returned (.agg #[I p, .nilIface, .nilIface, .nilIface, .nilIface]) ∧ Below w.heap.size w w' := by
  go_enter Try.func37, Try.ntmps37
  go_wp2
  refine bodyPost_ret (results_cell_row rfl _ _ (w.heap.size + 1) 117 _ (0, 0) _ rfl (heap_alloc2_new w _ _) Try.underlying117 rfl (by kernel_rfl)) rfl ?_
  exact ⟨rfl, below_tr (below_al w _) (below_al _ _)⟩

/-- Of a handle with all parts. -/
structure All15 (w : World) (hb fb : Nat) (p : Addr) : Prop where
  han : Han w hb (I p) (I p) (I p) (I p) (I p) (.iface 175 (.pointer (some ⟨fb, 0, none⟩)))
  fil : w.heap[fb]? = some (.cells #[I p, I p, I p, I p, I p] 176 (0, 0))
/-- Of a handle with the file alone. -/
structure All0 (w : World) (hb fb : Nat) (p : Addr) : Prop where
  han : Han w hb (I p) .nilIface .nilIface .nilIface .nilIface (.iface 130 (.pointer (some ⟨fb, 0, none⟩)))
  fil : w.heap[fb]? = some (.cells #[I p] 132 (0, 0))

theorem han_cells {w : World} {hb : Nat} {a b c d e f : Value} (h : Han w hb a b c d e f) :
    w.cell? ⟨hb, 0, none⟩ = some a ∧ w.cell? ⟨hb, 1, none⟩ = some b ∧ w.cell? ⟨hb, 2, none⟩ = some c ∧ w.cell? ⟨hb, 3, none⟩ = some d ∧ w.cell? ⟨hb, 4, none⟩ = some e ∧ w.cell? ⟨hb, 5, none⟩ = some f := by
  unfold Han at h
  refine ⟨?_, ?_, ?_, ?_, ?_, ?_⟩ <;> (rw [cell_of_row w hb _ _ _ _ h]; rfl)

theorem All15.below {w w' : World} {hb fb : Nat} {p : Addr} (h : All15 w hb fb p) (k : Below w.heap.size w w') : All15 w' hb fb p :=
  ⟨(k.block hb (Array.getElem?_eq_some_iff.1 h.han).1).trans h.han, (k.block fb (Array.getElem?_eq_some_iff.1 h.fil).1).trans h.fil⟩
theorem All0.below {w w' : World} {hb fb : Nat} {p : Addr} (h : All0 w hb fb p) (k : Below w.heap.size w w') : All0 w' hb fb p :=
  ⟨(k.block hb (Array.getElem?_eq_some_iff.1 h.han).1).trans h.han, (k.block fb (Array.getElem?_eq_some_iff.1 h.fil).1).trans h.fil⟩

set_option maxRecDepth 20000 in
set_option maxHeartbeats 1000000 in
theorem Only_all (p : Addr) (hb fb : Nat) (w : World) (h : All15 w hb fb p) : Calls Try.prog 28 #[.pointer (some ⟨hb, 0, none⟩), .int .u8 15] w fun e w' => ∃ hb' fb', e = .returned (.pointer (some ⟨hb', 0, none⟩)) ∧ w.heap.size ≤ hb' ∧ w.heap.size ≤ fb' ∧ All15 w' hb' fb' p ∧ Below w.heap.size w w' := by
  obtain ⟨c0, c1, c2, c3, c4, c5⟩ := han_cells h.han
  clear h
  go_enter Try.func28, Try.ntmps28
  go_wp2_with fail
  refine (only_all p w).mono ?_
  rintro e w1 ⟨rfl, hb1⟩
  go_wp2_with fail
  refine (make_all p _).mono ?_
  rintro e w2 ⟨hb', fb', rfl, h1, h2, h3, h4, hb2⟩
  rw [World.size_alloc] at h1 h2
  have := hb1.size
  go_wp2
  go_ret
  exact ⟨_, _, rfl, by omega, by omega, ⟨h3, h4⟩, below_tr (below_tr hb1 (below_al _ _)) hb2⟩

set_option maxRecDepth 20000 in
set_option maxHeartbeats 1000000 in
theorem Only_none (p : Addr) (hb fb : Nat) (w : World) (h : All15 w hb fb p) : Calls Try.prog 28 #[.pointer (some ⟨hb, 0, none⟩), .int .u8 0] w fun e w' => ∃ hb' fb', e = .returned (.pointer (some ⟨hb', 0, none⟩)) ∧ w.heap.size ≤ hb' ∧ w.heap.size ≤ fb' ∧ All0 w' hb' fb' p ∧ Below w.heap.size w w' := by
  obtain ⟨c0, c1, c2, c3, c4, c5⟩ := han_cells h.han
  clear h
  go_enter Try.func28, Try.ntmps28
  go_wp2_with fail
  refine (only_none p w).mono ?_
  rintro e w1 ⟨rfl, hb1⟩
  go_wp2_with fail
  refine (make_none p _).mono ?_
  rintro e w2 ⟨hb', fb', rfl, h1, h2, h3, h4, hb2⟩
  rw [World.size_alloc] at h1 h2
  have := hb1.size
  go_wp2
  go_ret
  exact ⟨_, _, rfl, by omega, by omega, ⟨h3, h4⟩, below_tr (below_tr hb1 (below_al _ _)) hb2⟩

set_option maxRecDepth 20000 in
set_option maxHeartbeats 1000000 in
theorem of_nil (c : Int) (w : World) : Calls Try.prog 22 #[.pointer none, .int .u8 c] w fun e w' => e = .returned (.tuple #[.pointer none, .int .i64 1]) ∧ w' = w := by
  go_enter Try.func22, Try.ntmps22
  go_wp2
  go_ret2
  exact ⟨rfl, rfl⟩

set_option maxRecDepth 20000 in
set_option maxHeartbeats 1000000 in
theorem of_all (b : Nat) (w : World) : Calls Try.prog 22 #[.pointer (some ⟨b, 0, none⟩), .int .u8 15] w fun e w' => ∃ hb fb m, e = .returned (.tuple #[.pointer (some ⟨hb, 0, none⟩), .int .i64 0]) ∧ w.heap.size ≤ hb ∧ w.heap.size ≤ fb ∧ w.heap.size ≤ m ∧ All15 w' hb fb ⟨m, 0, none⟩ ∧ w'.heap[m]? = some (.cells #[.pointer (some ⟨b, 0, none⟩)] 112 (0, 0)) ∧ Below w.heap.size w w' := by
  go_enter Try.func22, Try.ntmps22
  go_wp2_with fail
  refine (make_all _ _).mono ?_
  rintro e w1 ⟨hb, fb, rfl, h1, h2, h3, h4, hb1⟩
  have HA : Aside (All15 w1 hb fb ⟨w.heap.size, 0, none⟩) := ⟨h3, h4⟩
  have HM : Aside (w1.heap[w.heap.size]? = some (.cells #[.pointer (some ⟨b, 0, none⟩)] 112 (0, 0))) := (hb1.block w.heap.size (by simp)).trans (heap_alloc_new w _)
  have HW := aside (below_tr (below_al w _) hb1)
  clear h1 h2 h3 h4 hb1
  go_wp2_with fail
  refine (Only_all _ hb fb w1 HA.out).mono ?_
  rintro e w2 ⟨hb', fb', rfl, h1, h2, h3, hb2⟩
  have := HW.out.size
  go_wp2
  go_ret2
  exact ⟨_, _, w.heap.size, rfl, by omega, by omega, by omega, h3, (hb2.block _ (Array.getElem?_eq_some_iff.1 HM.out).1).trans HM.out, below_tr HW.out hb2⟩

set_option maxRecDepth 20000 in
set_option maxHeartbeats 1000000 in
theorem of_none (b : Nat) (w : World) : Calls Try.prog 22 #[.pointer (some ⟨b, 0, none⟩), .int .u8 0] w fun e w' => ∃ hb fb m, e = .returned (.tuple #[.pointer (some ⟨hb, 0, none⟩), .int .i64 0]) ∧ w.heap.size ≤ hb ∧ w.heap.size ≤ fb ∧ w.heap.size ≤ m ∧ All0 w' hb fb ⟨m, 0, none⟩ ∧ w'.heap[m]? = some (.cells #[.pointer (some ⟨b, 0, none⟩)] 112 (0, 0)) ∧ Below w.heap.size w w' := by
  go_enter Try.func22, Try.ntmps22
  go_wp2_with fail
  refine (make_all _ _).mono ?_
  rintro e w1 ⟨hb, fb, rfl, h1, h2, h3, h4, hb1⟩
  have HA : Aside (All15 w1 hb fb ⟨w.heap.size, 0, none⟩) := ⟨h3, h4⟩
  have HM : Aside (w1.heap[w.heap.size]? = some (.cells #[.pointer (some ⟨b, 0, none⟩)] 112 (0, 0))) := (hb1.block w.heap.size (by simp)).trans (heap_alloc_new w _)
  have HW := aside (below_tr (below_al w _) hb1)
  clear h1 h2 h3 h4 hb1
  go_wp2_with fail
  refine (Only_none _ hb fb w1 HA.out).mono ?_
  rintro e w2 ⟨hb', fb', rfl, h1, h2, h3, hb2⟩
  have := HW.out.size
  go_wp2
  go_ret2
  exact ⟨_, _, w.heap.size, rfl, by omega, by omega, by omega, h3, (hb2.block _ (Array.getElem?_eq_some_iff.1 HM.out).1).trans HM.out, below_tr HW.out hb2⟩
end Go.Proofs.Ytleenkdlnmoepaa
