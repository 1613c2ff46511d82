/- A guard over a file that can all: over, leaves, Guard. -/
import Derived.Test.YtleenkdlnmoepaaGrd
namespace Go.Proofs.Ytleenkdlnmoepaa
open Go.RowKit Go.MapLit Go.ChangeMaps

/-- A guard: what it asks, and the file below as all that it can. -/
def Gd (w : World) (f d x y : Nat) : Prop := w.heap[f]? = some (.cells #[askF x y, FSy d, FSy d, FSy d, FSy d, FSy d] 121 (0, 0))
theorem Gd.below {w w' : World} {f d x y : Nat} (h : Gd w f d x y) (k : Below w.heap.size w w') : Gd w' f d x y := (k.block _ (Array.getElem?_eq_some_iff.1 h).1).trans h
theorem Gd.upd {F : Nat → Prop} {w w' : World} {f d x y : Nat} (h : Gd w f d x y) (k : Upd F w w') (h1 : ¬ F f) : Gd w' f d x y := (k.block _ (Array.getElem?_eq_some_iff.1 h).1 h1).trans h
theorem Gd.cells {w : World} {f d x y : Nat} (h : Gd w f d x y) : w.cell? ⟨f, 0, none⟩ = some (askF x y) ∧ w.cell? ⟨f, 1, none⟩ = some (FSy d) ∧ w.cell? ⟨f, 5, none⟩ = some (FSy d) := by
  refine ⟨?_, ?_, ?_⟩ <;> (rw [cell_of_row w f _ _ _ _ h]; rfl)

set_option maxRecDepth 20000 in
set_option maxHeartbeats 1000000 in
theorem over_any (d x y : Nat) (w : World) : Calls Try.prog 25 #[FSy d, askF x y] w fun e w' => ∃ f, e = .returned (pt f) ∧ Gd w' f d x y ∧ Below w.heap.size w w' ∧ w.heap.size ≤ f := by
  have n1 := yesW
  have n2 := yesC
  have n3 := yesH
  have n4 := yesS
  have hb1 : ∀ w, (Instr.build 121 #[(0, askF x y), (1, FSy d)]).run Try.prog w = .ok (.agg #[askF x y, FSy d, .nilIface, .nilIface, .nilIface, .nilIface]) w := fun w => run_build w 121 _ _ (by kernel_rfl)
  go_enter Try.func25, Try.ntmps25
  go_wp2
  go_ret
  exact ⟨_, rfl, heap_alloc_new w _, below_al w _, Nat.le_refl _⟩

theorem leaves_any (r : Nat) (w : World) (hr : r = 3 ∨ r = 1) : Calls Try.prog 29 #[.int .u8 (r : Int)] w fun e w' => e = .returned (.int .u8 (if r = 3 then 15 else 12)) ∧ w' = w := by
  rcases hr with rfl | rfl
  · go_enter Try.func29, Try.ntmps29
    go_wp2
    go_ret
    exact ⟨rfl, rfl⟩
  · go_enter Try.func29, Try.ntmps29
    go_wp2
    go_ret
    exact ⟨rfl, rfl⟩
set_option maxRecDepth 20000 in
set_option maxHeartbeats 1000000 in
theorem guard_nilBook (a : Int) (h : Value) (hh : h = .pointer none ∨ ∃ hb, h = pt hb) (w : World) (hf : ∀ hb, h = pt hb → ∃ f, w.cell? ⟨hb, 5, none⟩ = some f) : Calls Try.prog 10 #[.pointer none, .int .i64 a, h] w fun e w' => e = .returned (.tuple #[.pointer none, .int .i64 1]) ∧ w' = w := by
  rcases hh with rfl | ⟨hb, rfl⟩
  · go_enter Try.func10, Try.ntmps10
    go_wp2_with fail
    refine (file_nil w).mono ?_
    rintro e w' ⟨rfl, rfl⟩
    go_wp2
    go_ret2
    exact ⟨rfl, rfl⟩
  · obtain ⟨f, hc⟩ := hf hb rfl
    go_enter Try.func10, Try.ntmps10
    go_wp2_with fail
    refine (file_any hb f w hc).mono ?_
    rintro e w' ⟨rfl, rfl⟩
    go_wp2
    go_ret2
    exact ⟨rfl, rfl⟩
set_option maxRecDepth 20000 in
set_option maxHeartbeats 1000000 in
theorem guard_nilFile (p : Nat) (a : Int) (w : World) : Calls Try.prog 10 #[pt p, .int .i64 a, .pointer none] w fun e w' => e = .returned (.tuple #[.pointer none, .int .i64 1]) ∧ w' = w := by
  go_enter Try.func10, Try.ntmps10
  go_wp2_with fail
  refine (file_nil w).mono ?_
  rintro e w' ⟨rfl, rfl⟩
  go_wp2
  go_ret2
  exact ⟨rfl, rfl⟩
set_option maxRecDepth 20000 in
set_option maxHeartbeats 1000000 in
theorem guard_gone (b : Bok) (a : Int) (hb d : Nat) (w : World) (h : Bk w b) (hw : (Lit.int .i64 a).wf = true) (hl : lk b.L a = none) (hc : w.cell? ⟨hb, 5, none⟩ = some (FSy d)) : Calls Try.prog 10 #[pt b.p, .int .i64 a, pt hb] w fun e w' => e = .returned (.tuple #[.pointer none, .int .i64 6]) ∧ Below w.heap.size w w' := by
  have c0 := h.c0
  have hk := (h.no hw hl).1
  have F := aside (file_any hb (FSy d) w hc)
  clear h hl hc
  go_enter Try.func10, Try.ntmps10
  go_wp2_with fail
  refine F.out.mono ?_
  rintro e w' ⟨rfl, rfl⟩
  go_wp2
  go_ret2
  exact ⟨rfl, below_al w' _⟩
end Go.Proofs.Ytleenkdlnmoepaa
