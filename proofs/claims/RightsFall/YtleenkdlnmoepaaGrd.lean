/- What a guard asks, and what it lays: asker, over, leaves. -/
import Derived.Test.YtleenkdlnmoepaaBack
namespace Go.Proofs.Ytleenkdlnmoepaa
open Go.RowKit Go.MapLit Go.ChangeMaps

abbrev FSy (a : Nat) : Value := .iface 175 (.pointer (some ⟨a, 0, none⟩))
abbrev askF (x y : Nat) : Value := .func (.func 35) #[] #[pt x, pt y]

set_option maxRecDepth 20000 in
set_option maxHeartbeats 1000000 in
theorem asker_any (p : Nat) (a : Int) (w : World) : Calls Try.prog 26 #[pt p, .int .i64 a] w fun e w' => ∃ x y, e = .returned (askF x y) ∧ w'.heap[x]? = some (.cells #[pt p] 22 (0, 0)) ∧ w'.heap[y]? = some (.cells #[.int .i64 a] 3 (0, 0)) ∧ Below w.heap.size w w' ∧ w.heap.size ≤ x ∧ w.heap.size ≤ y := by
  have hmf : ∀ (u v : Value) (W : World), (Instr.makeFunc (.func 35) #[] #[u, v]).run Try.prog W = .ok (.func (.func 35) #[] #[u, v]) W := fun u v W => rfl
  go_enter Try.func26, Try.ntmps26
  go_wp2
  go_ret
  exact ⟨w.heap.size, w.heap.size + 1, rfl, ((below_al _ _).block _ (by simp)).trans (heap_alloc_new w _), heap_alloc2_new w _ _, below_tr (below_al w _) (below_al _ _), Nat.le_refl _, by omega⟩

/-- What a guard asks: its two boxes. -/
structure Ask2 (w : World) (x y p : Nat) (a : Int) : Prop where
  bx : w.heap[x]? = some (.cells #[pt p] 22 (0, 0))
  byy : w.heap[y]? = some (.cells #[.int .i64 a] 3 (0, 0))
theorem Ask2.below {w w' : World} {x y p : Nat} {a : Int} (h : Ask2 w x y p a) (k : Below w.heap.size w w') : Ask2 w' x y p a :=
  ⟨(k.block _ (Array.getElem?_eq_some_iff.1 h.bx).1).trans h.bx, (k.block _ (Array.getElem?_eq_some_iff.1 h.byy).1).trans h.byy⟩
theorem Ask2.upd {F : Nat → Prop} {w w' : World} {x y p : Nat} {a : Int} (h : Ask2 w x y p a) (k : Upd F w w') (h1 : ¬ F x) (h2 : ¬ F y) : Ask2 w' x y p a :=
  ⟨(k.block _ (Array.getElem?_eq_some_iff.1 h.bx).1 h1).trans h.bx, (k.block _ (Array.getElem?_eq_some_iff.1 h.byy).1 h2).trans h.byy⟩

set_option maxRecDepth 20000 in
set_option maxHeartbeats 1000000 in
theorem ask_gone (x y : Nat) (a : Int) (r : Nat) (b : Bok) (w : World) (hA : Ask2 w x y b.p a) (h : Bk w b) (hw : (Lit.int .i64 a).wf = true) (hl : lk b.L a = none) :
    Calls Try.prog 35 #[.int .u8 (r : Int), pt x, pt y] w fun e w' => e = .returned (.int .i64 6) ∧ Below w.heap.size w w' := by
  have cx : w.cell? ⟨x, 0, none⟩ = some (pt b.p) := by rw [cell_of_row w x 0 _ _ _ hA.bx]; rfl
  have cy : w.cell? ⟨y, 0, none⟩ = some (.int .i64 a) := by rw [cell_of_row w y 0 _ _ _ hA.byy]; rfl
  have c0 := h.c0
  have hlp := h.lp
  have hlx : x < w.heap.size := (Array.getElem?_eq_some_iff.1 hA.bx).1
  have hly : y < w.heap.size := (Array.getElem?_eq_some_iff.1 hA.byy).1
  have hk := ((h.below (below_dr w)).no hw hl).1
  have hk2 := ((h.below (below_tr (below_al w (.cells #[.int .u8 0, .int .i64 0] 63)) (below_dr _))).no hw hl).1
  clear h hA hl
  go_enter Try.func35, Try.ntmps35
  go_wp2_with fail
  go_region
  all_goals (
    go_wp2
    go_ret
    exact ⟨rfl, below_tr (below_al w _) (below_dr _)⟩)

set_option maxRecDepth 20000 in
set_option maxHeartbeats 1000000 in
theorem ask_ok (x y : Nat) (a : Int) (r : Nat) (b : Bok) (w : World) (hA : Ask2 w x y b.p a) (h : Bk w b) (hw : (Lit.int .i64 a).wf = true) {g : Gr} (hl : lk b.L a = some g) (hr : r < 256) (hb : ¬ g.r &&& r = 0) :
    Calls Try.prog 35 #[.int .u8 (r : Int), pt x, pt y] w fun e w' => e = .returned (.int .i64 0) ∧ Below w.heap.size w w' := by
  have cx : w.cell? ⟨x, 0, none⟩ = some (pt b.p) := by rw [cell_of_row w x 0 _ _ _ hA.bx]; rfl
  have cy : w.cell? ⟨y, 0, none⟩ = some (.int .i64 a) := by rw [cell_of_row w y 0 _ _ _ hA.byy]; rfl
  have c0 := h.c0
  have hlp := h.lp
  have hlx : x < w.heap.size := (Array.getElem?_eq_some_iff.1 hA.bx).1
  have hly : y < w.heap.size := (Array.getElem?_eq_some_iff.1 hA.byy).1
  have hk := ((h.below (below_dr w)).yes hw hl).1
  have hk2 := ((h.below (below_tr (below_al w (.cells #[.int .u8 0, .int .i64 0] 63)) (below_dr _))).yes hw hl).1
  have hg := h.inv.r63 g (lk_mem hl).1
  have e2 : bits .and .u8 (g.r : Int) (r : Int) = ((g.r &&& r : Nat) : Int) := u8_and_nat g.r r (by omega) hr
  obtain ⟨z, hz⟩ : ∃ z, z = g.r &&& r := ⟨_, rfl⟩
  rw [← hz] at e2 hb
  have hb2 : ((z : Int) == 0) = false := by simpa using hb
  clear h hA hl hz hg
  go_enter Try.func35, Try.ntmps35
  go_wp2_with fail
  go_region
  all_goals (
    go_wp2
    go_ret
    exact ⟨rfl, below_tr (below_al w _) (below_dr _)⟩)

set_option maxRecDepth 20000 in
set_option maxHeartbeats 1000000 in
theorem ask_right (x y : Nat) (a : Int) (r : Nat) (b : Bok) (w : World) (hA : Ask2 w x y b.p a) (h : Bk w b) (hw : (Lit.int .i64 a).wf = true) {g : Gr} (hl : lk b.L a = some g) (hr : r < 256) (hb : g.r &&& r = 0) :
    Calls Try.prog 35 #[.int .u8 (r : Int), pt x, pt y] w fun e w' => e = .returned (.int .i64 170) ∧ Below w.heap.size w w' := by
  have cx : w.cell? ⟨x, 0, none⟩ = some (pt b.p) := by rw [cell_of_row w x 0 _ _ _ hA.bx]; rfl
  have cy : w.cell? ⟨y, 0, none⟩ = some (.int .i64 a) := by rw [cell_of_row w y 0 _ _ _ hA.byy]; rfl
  have c0 := h.c0
  have hlp := h.lp
  have hlx : x < w.heap.size := (Array.getElem?_eq_some_iff.1 hA.bx).1
  have hly : y < w.heap.size := (Array.getElem?_eq_some_iff.1 hA.byy).1
  have hk := ((h.below (below_dr w)).yes hw hl).1
  have hk2 := ((h.below (below_tr (below_al w (.cells #[.int .u8 0, .int .i64 0] 63)) (below_dr _))).yes hw hl).1
  have hg := h.inv.r63 g (lk_mem hl).1
  have e2 : bits .and .u8 (g.r : Int) (r : Int) = ((g.r &&& r : Nat) : Int) := u8_and_nat g.r r (by omega) hr
  obtain ⟨z, hz⟩ : ∃ z, z = g.r &&& r := ⟨_, rfl⟩
  rw [← hz] at e2 hb
  subst hb
  clear h hA hl hz hg
  go_enter Try.func35, Try.ntmps35
  go_wp2_with fail
  go_region
  all_goals (
    go_wp2
    go_ret
    exact ⟨rfl, below_tr (below_al w _) (below_dr _)⟩)
end Go.Proofs.Ytleenkdlnmoepaa
