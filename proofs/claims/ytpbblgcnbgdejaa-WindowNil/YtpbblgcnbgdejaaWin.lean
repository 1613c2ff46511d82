/- A window over a file of memory: what over and New lay, of a window from 3 on, 4 long. -/
import Derived.Test.YtpbblgcnbgdejaaAsk
namespace Go.Proofs.Ytpbblgcnbgdejaa
open Go.RowKit

abbrev WF (a : Nat) : Value := .iface 128 (.pointer (some ⟨a, 0, none⟩))
abbrev WW (a : Nat) : Value := .iface 122 (.pointer (some ⟨a, 0, none⟩))
abbrev WH (a : Nat) : Value := .iface 125 (.pointer (some ⟨a, 0, none⟩))
abbrev FSy (a : Nat) : Value := .iface 180 (.pointer (some ⟨a, 0, none⟩))

set_option maxRecDepth 20000 in
set_option maxHeartbeats 1000000 in
theorem can_13 (a b c d : Nat) (w : World) : Calls Try.prog 57 #[.agg #[WF a, WW b, .nilIface, WH c, FSy d]] w fun e w' => e = .returned (.int .u8 13) ∧ Below w.heap.size w w' := by
  go_enter Try.func57, Try.ntmps57
  go_wp2
  go_ret
  exact ⟨rfl, below_al w _⟩

set_option maxRecDepth 20000 in
set_option maxHeartbeats 1000000 in
theorem together_13 (a b c d : Nat) (w : World) : Calls Try.prog 45 #[.agg #[WF a, WW b, .nilIface, WH c, FSy d]] w fun e w' => ∃ fb, e = .returned (.iface 174 (.pointer (some ⟨fb, 0, none⟩))) ∧ w.heap.size < fb ∧ w'.heap[fb]? = some (.cells #[WF a, WW b, WH c, FSy d] 176 (0, 0)) ∧ Below w.heap.size w w' := by
  have hA := aside (below_al w (.cells #[WF a, WW b, .nilIface, WH c, FSy d] 117))
  go_enter Try.func45, Try.ntmps45
  go_wp2_with fail
  refine (can_13 a b c d _).mono ?_
  rintro e w1 ⟨rfl, hb1⟩
  obtain ⟨c0, c1, c2, c3, c4⟩ := five_cells hb1
  have HB := aside hb1
  have hs := hb1.size
  rw [World.size_alloc] at hs
  clear hb1
  go_wp2
  go_ret
  exact ⟨_, rfl, hs, heap_alloc_new w1 _, below_tr (below_tr hA.out HB.out) (below_al w1 _)⟩

set_option maxRecDepth 20000 in
set_option maxHeartbeats 2000000 in
theorem make_13 (a b c d : Nat) (w : World) : Calls Try.prog 29 #[WF a, WW b, .nilIface, WH c, FSy d] w fun e w' => ∃ hb fb, e = .returned (.pointer (some ⟨hb, 0, none⟩)) ∧ w.heap.size ≤ hb ∧ w.heap.size ≤ fb ∧ Han w' hb (WF a) (WW b) .nilIface (WH c) (FSy d) (.iface 174 (.pointer (some ⟨fb, 0, none⟩))) ∧ w'.heap[fb]? = some (.cells #[WF a, WW b, WH c, FSy d] 176 (0, 0)) ∧ Below w.heap.size w w' := by
  go_enter Try.func29, Try.ntmps29
  go_wp2_with fail
  go_region_with (go_at_call 45; refine (together_13 a b c d _).mono ?_; rintro e w1 ⟨fb, rfl, hs, hrow, hb1⟩; have hc := fun o => hb1.cell (p := ⟨w.heap.size, o, none⟩) (by simp); have c0 : w1.cell? ⟨w.heap.size, 0, none⟩ = some (WF a) := (hc 0).trans (by go_simp); have c1 : w1.cell? ⟨w.heap.size, 1, none⟩ = some (WW b) := (hc 1).trans (by go_simp); have c2 : w1.cell? ⟨w.heap.size, 2, none⟩ = some .nilIface := (hc 2).trans (by go_simp); have c3 : w1.cell? ⟨w.heap.size, 3, none⟩ = some (WH c) := (hc 3).trans (by go_simp); have c4 : w1.cell? ⟨w.heap.size, 4, none⟩ = some (FSy d) := (hc 4).trans (by go_simp); have HB := aside hb1; have HR := aside hrow; have HS := aside hs; clear hb1 hrow hc hs)
  all_goals
    go_wp2
    go_ret
    have hs := HS.out
    have hfb : fb < w1.heap.size := (Array.getElem?_eq_some_iff.1 HR.out).1
    simp only [World.drew, World.size_alloc] at hs
    have hW := below_tr (below_tr (below_al w _) (below_dr _)) HB.out
    refine ⟨_, fb, rfl, hW.size, by omega, heap_alloc_new w1 _, ?_, below_tr hW (below_al w1 _)⟩
    rw [(below_al w1 _).block fb hfb]
    exact HR.out

/-- Of a window's handle: its parts, its file, the window's own cells, the file below. -/
structure Win (w : World) (hb fb f b c d : Nat) : Prop where
  han : Han w hb (WF f) (WW b) .nilIface (WH c) (FSy d) (.iface 174 (.pointer (some ⟨fb, 0, none⟩)))
  fil : w.heap[fb]? = some (.cells #[WF f, WW b, WH c, FSy d] 176 (0, 0))
  win : w.heap[f]? = some (.cells #[.int .i64 3, .int .i64 4, FSy d] 121 (0, 0))

theorem Win.below {w w' : World} {hb fb f b c d : Nat} (h : Win w hb fb f b c d) (k : Below w.heap.size w w') : Win w' hb fb f b c d :=
  ⟨(k.block hb (Array.getElem?_eq_some_iff.1 h.han).1).trans h.han, (k.block fb (Array.getElem?_eq_some_iff.1 h.fil).1).trans h.fil, (k.block f (Array.getElem?_eq_some_iff.1 h.win).1).trans h.win⟩

set_option maxRecDepth 20000 in
set_option maxHeartbeats 2000000 in
theorem over_any (d : Nat) (w : World) : Calls Try.prog 28 #[FSy d, .agg #[.int .i64 3, .int .i64 4]] w fun e w' => ∃ hb fb f b c, e = .returned (.pointer (some ⟨hb, 0, none⟩)) ∧ Win w' hb fb f b c d ∧ Below w.heap.size w w' := by
  have n1 := yesW
  have n3 := yesH
  have n4 := yesS
  go_enter Try.func28, Try.ntmps28
  go_wp2_with fail
  refine (make_13 _ _ _ d _).mono ?_
  rintro e w1 ⟨hb, fb, rfl, h1, h2, h3, h4, hb1⟩
  have h5 := hb1.block (w.heap.size + 1) (by simp)
  go_wp2
  go_ret
  refine ⟨hb, fb, _, _, _, rfl, ⟨h3, h4, h5.trans (((below_al _ _).block _ (by simp only [World.size_alloc]; omega)).trans (((below_al _ _).block _ (by simp only [World.size_alloc]; omega)).trans (heap_alloc2_new w _ _)))⟩, below_tr (below_tr (below_tr (below_tr (below_al w _) (below_al _ _)) (below_al _ _)) (below_al _ _)) hb1⟩

set_option maxRecDepth 20000 in
set_option maxHeartbeats 1000000 in
theorem winNew_nil (a n : Int) (w : World) : Calls Try.prog 12 #[.pointer none, .int .i64 a, .int .i64 n] w fun e w' => e = .returned (.tuple #[.pointer none, .int .i64 1]) ∧ w' = w := by
  go_enter Try.func12, Try.ntmps12
  go_wp2_with fail
  refine (file_nil w).mono ?_
  rintro e w' ⟨rfl, rfl⟩
  go_wp2
  go_ret2
  exact ⟨rfl, rfl⟩

set_option maxRecDepth 20000 in
set_option maxHeartbeats 1000000 in
theorem winRead_nil (w : World) : Calls Try.prog 14 #[.pointer none] w fun e w' => e = .returned (.pointer none) ∧ w' = w := by
  go_enter Try.func14, Try.ntmps14
  go_wp2_with fail
  refine (file_nil w).mono ?_
  rintro e w' ⟨rfl, rfl⟩
  go_wp2
  go_ret
  exact ⟨rfl, rfl⟩

set_option maxRecDepth 20000 in
set_option maxHeartbeats 1000000 in
theorem winNew_any (hb d : Nat) (p : Addr) (w : World) (h : All15 w hb d p) : Calls Try.prog 12 #[.pointer (some ⟨hb, 0, none⟩), .int .i64 3, .int .i64 4] w fun e w' => ∃ hb fb f b c, e = .returned (.tuple #[.pointer (some ⟨hb, 0, none⟩), .int .i64 0]) ∧ Win w' hb fb f b c d ∧ Below w.heap.size w w' := by
  obtain ⟨c0, c1, c2, c3, c4, c5⟩ := han_cells h.han
  clear h c0 c1 c2 c3 c4
  go_enter Try.func12, Try.ntmps12
  go_wp2_with fail
  refine (file_any hb _ w c5).mono ?_
  rintro e w' ⟨rfl, rfl⟩
  go_wp2_with fail
  refine (over_any d _).mono ?_
  rintro e w1 ⟨hb', fb, f, b, c, rfl, h1, h2⟩
  go_wp2
  go_ret2
  exact ⟨_, _, _, _, _, rfl, h1, h2⟩

set_option maxRecDepth 20000 in
set_option maxHeartbeats 1000000 in
theorem new_allL (src : Nat) (l : List UInt8) (w : World) (fr : Nat × Nat) (h0 : 0 < l.length) (h1 : l.length ≤ 65536) (hsrc : w.heap[src]? = some (.cells (bcells l).toArray 5 fr)) :
    Calls Try.prog 10 #[.slice (some ⟨src, 0, none⟩) l.length l.length, .int .u8 15] w fun e w' => ∃ hb fb m b lv g cap, e = .returned (.tuple #[.pointer (some ⟨hb, 0, none⟩), .int .i64 0]) ∧ All15 w' hb fb ⟨m, 0, none⟩ ∧ Fil w' m b ∧ Rep w' b l.length lv [⟨0, g, cap, l⟩] ∧ Below w.heap.size w w' := by
  have N1 := new_any ⟨src, 0, none⟩ l l.length w h0 (by omega) (by omega) (cells_lit (cs := bcells l) hsrc)
  rw [List.take_of_length_le (by omega)] at N1
  have HN := aside N1
  have h2 : ¬ ((4194304 : Int) < l.length) := by omega
  have h3 : ¬ (4194304 < l.length) := by omega
  clear N1
  go_enter Try.func10, Try.ntmps10
  go_wp2_with fail
  refine HN.out.mono ?_
  rintro e w1 ⟨rfl, lv, g, cap, hR, hb1, -⟩
  have HR := aside hR
  have HB := aside hb1
  clear hR hb1
  go_wp2_with fail
  refine (of_all w.heap.size w1).mono ?_
  rintro e w2 ⟨hb, fb, m, rfl, h1, h2, h3, h4, h5, hb2⟩
  go_wp2_with fail
  go_ret2
  exact ⟨hb, fb, m, w.heap.size, lv, g, cap, rfl, h4, h5, HR.out.below hb2, below_tr HB.out hb2⟩
end Go.Proofs.Ytpbblgcnbgdejaa
