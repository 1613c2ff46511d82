/- told: the fault that an error is. -/
import Derived.Test.YtniohiepnojjbaaDoorAs
import Derived.Test.YtniohiepnojjbaaDoorParse
namespace Go.Proofs.YtniohiepnojjbaaDoor
open Go.RowKit

/-- The handle of the type error stands in its variable. -/
def HandleAt (w : World) : Prop := w.cell? ⟨1, 0, none⟩ = some (.iface 99 (.agg #[.pointer (some ⟨3, 23, none⟩)]))
theorem HandleAt.below {w w' : World} (h : HandleAt w) (hb : Below w.heap.size w w') : HandleAt w' := (hb.cell (World.block_lt_of_cell? w _ h)).trans h

theorem told_nil (w : World) : Calls Tryd.prog 11 #[.nilIface] w fun e w' => e = .returned (.tuple #[.agg #[.int .i64 0, .int .i64 0, .string ⟨#[]⟩], .bool true]) ∧ Below w.heap.size w w' := by
  go_enter Tryd.func11, Tryd.ntmps11
  go_wp2
  refine bodyPost_ret (v := .tuple #[.agg #[.int .i64 0, .int .i64 0, .string ⟨#[]⟩], .bool true]) ?_ rfl ⟨rfl, ?_⟩
  · simp [results, Tryd.results11, go_sem]
  · first
      | exact below_al w _
      | exact (((below_al w _).setCell (p := ⟨w.heap.size, 0, none⟩) (Nat.le_refl _) _).setCell (p := ⟨w.heap.size, 1, none⟩) (Nat.le_refl _) _).setCell (p := ⟨w.heap.size, 2, none⟩) (Nat.le_refl _) _

/-- errors.As at a fault and a new target. -/
theorem as_new (g tb : Nat) (W : World) (hh : HandleAt W) (ht : W.heap[tb]? = some (.cells #[.pointer none] 56 (0, 0))) :
    Calls Tryd.prog 28 #[.iface 56 (.pointer (some ⟨g, 0, none⟩)), .iface 61 (.pointer (some ⟨tb, 0, none⟩))] W fun e w' => e = .returned (.bool true) ∧ (∀ B, B ≤ W.heap.size → B ≤ tb → Below B W w') ∧ w'.cell? ⟨tb, 0, none⟩ = some (.pointer (some ⟨g, 0, none⟩)) ∧ ∀ k, k < W.heap.size → k ≠ tb → w'.heap[k]? = W.heap[k]? := by
  have c0 : W.cell? ⟨tb, 0, none⟩ = some (.pointer none) := by rw [cell_of_row W tb 0 _ _ _ ht]; rfl
  have f0 : W.frozen? ⟨tb, 0, none⟩ = false := frozen_of_row W tb 0 _ _ ht
  have hlt : tb < W.heap.size := (Array.getElem?_eq_some_iff.1 ht).1
  refine (as_hit ⟨g, 0, none⟩ ⟨tb, 0, none⟩ (.pointer none) W hh c0 f0).mono ?_
  rintro e w' ⟨rfl, hw⟩
  generalize hW4 : (((W.alloc _).alloc _).alloc _).alloc _ = W4 at hw
  have b4 : Below W.heap.size W W4 := by
    rw [← hW4]
    exact below_tr (below_tr (below_tr (below_al _ _) (below_al _ _)) (below_al _ _)) (below_al _ _)
  subst hw
  clear hW4
  refine ⟨rfl, fun B h1 h2 => (b4.mono h1).setCell h2 _, ?_, fun k h1 h2 => ?_⟩
  · rw [cell_of_row _ tb 0 _ _ _ (heap_setCell_same W4 tb 0 _ _ _ ((b4.block _ hlt).trans ht))]; rfl
  · rw [heap_setCell_other _ _ _ _ h2]; exact b4.block k h1

set_option maxHeartbeats 4000000 in
theorem told_fault (g p : Nat) (s : ByteArray) (w : World) (hg : w.heap[g]? = some (.cells #[.int .i64 2, .int .i64 (p : Int), .string s] 28 (0, 0))) (hh : HandleAt w) :
    Calls Tryd.prog 11 #[.iface 56 (.pointer (some ⟨g, 0, none⟩))] w fun e w' => e = .returned (.tuple #[.agg #[.int .i64 2, .int .i64 (p : Int), .string s], .bool true]) ∧ Below w.heap.size w w' := by
  have hgl : g < w.heap.size := (Array.getElem?_eq_some_iff.1 hg).1
  have AH : Aside (Calls Tryd.prog 28 #[.iface 56 (.pointer (some ⟨g, 0, none⟩)), .iface 61 (.pointer (some ⟨w.heap.size + 1, 0, none⟩))] ((w.alloc (.cells #[.int .i64 0, .int .i64 0, .string ⟨#[]⟩] 28)).alloc (.cells #[.pointer none] 56)) fun e w' => e = .returned (.bool true) ∧ Aside (Below w.heap.size w w') ∧ w'.heap[w.heap.size]? = some (.cells #[.int .i64 0, .int .i64 0, .string ⟨#[]⟩] 28 (0, 0)) ∧ w'.cell? ⟨w.heap.size + 1, 0, none⟩ = some (.pointer (some ⟨g, 0, none⟩)) ∧ w'.heap[g]? = some (.cells #[.int .i64 2, .int .i64 (p : Int), .string s] 28 (0, 0))) := by
    have b0 := below_al w (.cells #[.int .i64 0, .int .i64 0, .string ⟨#[]⟩] 28)
    have b1 := below_tr b0 (below_al _ (.cells #[.pointer none] 56))
    have hs : ((w.alloc (.cells #[.int .i64 0, .int .i64 0, .string ⟨#[]⟩] 28)).alloc (.cells #[.pointer none] 56)).heap.size = w.heap.size + 2 := by simp
    have h1 : ((w.alloc (.cells #[.int .i64 0, .int .i64 0, .string ⟨#[]⟩] 28)).alloc (.cells #[.pointer none] 56)).heap[w.heap.size + 1]? = some (.cells #[.pointer none] 56 (0, 0)) := by
      have := heap_alloc_new (w.alloc (.cells #[.int .i64 0, .int .i64 0, .string ⟨#[]⟩] 28)) (.cells #[.pointer none] 56)
      simpa using this
    have h2 : ((w.alloc (.cells #[.int .i64 0, .int .i64 0, .string ⟨#[]⟩] 28)).alloc (.cells #[.pointer none] 56)).heap[w.heap.size]? = some (.cells #[.int .i64 0, .int .i64 0, .string ⟨#[]⟩] 28 (0, 0)) :=
      ((below_al (w.alloc (.cells #[.int .i64 0, .int .i64 0, .string ⟨#[]⟩] 28)) (.cells #[.pointer none] 56)).block w.heap.size (by simp)).trans (heap_alloc_new w _)
    refine (as_new g (w.heap.size + 1) _ (hh.below b1) h1).mono ?_
    rintro e w' ⟨rfl, hb, hc, hk⟩
    refine ⟨rfl, b1.trans ?_, (hk w.heap.size (by omega) (by omega)).trans h2, hc, (hk g (by omega) (by omega)).trans ((b1.block g hgl).trans hg)⟩
    exact hb w.heap.size (by omega) (by omega)
  have hg0 := hg
  clear hh
  go_enter Tryd.func11, Tryd.ntmps11
  go_wp2_with fail
  refine AH.out.mono ?_
  rintro e w1 ⟨rfl, hb1, hr1, hc1, hg1⟩
  have r0 : w1.cell? ⟨w.heap.size, 0, none⟩ = some (.int .i64 0) := by rw [cell_of_row _ _ 0 _ _ _ hr1]; rfl
  have r1 : w1.cell? ⟨w.heap.size, 1, none⟩ = some (.int .i64 0) := by rw [cell_of_row _ _ 1 _ _ _ hr1]; rfl
  have r2 : w1.cell? ⟨w.heap.size, 2, none⟩ = some (.string ⟨#[]⟩) := by rw [cell_of_row _ _ 2 _ _ _ hr1]; rfl
  have f0 := frozen_of_row _ _ 0 _ _ hr1
  have f1 := frozen_of_row _ _ 1 _ _ hr1
  have f2 := frozen_of_row _ _ 2 _ _ hr1
  have g0 : w1.cell? ⟨g, 0, none⟩ = some (.int .i64 2) := by rw [cell_of_row _ _ 0 _ _ _ hg1]; rfl
  have g1 : w1.cell? ⟨g, 1, none⟩ = some (.int .i64 (p : Int)) := by rw [cell_of_row _ _ 1 _ _ _ hg1]; rfl
  have g2 : w1.cell? ⟨g, 2, none⟩ = some (.string s) := by rw [cell_of_row _ _ 2 _ _ _ hg1]; rfl
  have hne : ¬ (g = w.heap.size) := by omega
  clear hr1 hg1 hg hg0
  go_wp2
  refine bodyPost_ret (v := .tuple #[.agg #[.int .i64 2, .int .i64 (p : Int), .string s], .bool true]) ?_ rfl ⟨rfl, ?_⟩
  · simp [results, Tryd.results11, go_sem, r0, r1, r2]
  · exact ((hb1.out.setCell (p := ⟨w.heap.size, 0, none⟩) (Nat.le_refl _) _).setCell (p := ⟨w.heap.size, 1, none⟩) (Nat.le_refl _) _).setCell (p := ⟨w.heap.size, 2, none⟩) (Nat.le_refl _) _
end Go.Proofs.YtniohiepnojjbaaDoor
