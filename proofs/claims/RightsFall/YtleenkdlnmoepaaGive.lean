/- New, Rights and Give: what they tell, and what becomes of the book. -/
import Derived.Test.YtleenkdlnmoepaaBk
import Derived.Laws.BitsAll
namespace Go.Proofs.Ytleenkdlnmoepaa
open Go.RowKit Go.MapLit Go.ChangeMaps

theorem heap_set_same {w : World} {b : Nat} {o o' : Obj} (h : w.heap[b]? = some o) : (setBlock w b o').heap[b]? = some o' := by
  have hb := (Array.getElem?_eq_some_iff.1 h).1
  simp [setBlock, hb]
theorem heap_set_far {w : World} {b k : Nat} {o' : Obj} {x : Option Obj} (h : w.heap[k]? = x) (hn : ¬ k = b) : (setBlock w b o').heap[k]? = x := by
  rw [← h]
  show (w.heap.setIfInBounds b o')[k]? = _
  rw [Array.getElem?_setIfInBounds, if_neg (fun e => hn e.symm)]
theorem Upd.setBlock {F : Nat → Prop} (w : World) (b : Nat) (o : Obj) (hF : F b) : Upd F w (setBlock w b o) :=
  ⟨rfl, rfl, rfl, by simp [ChangeMaps.setBlock], fun k _ hk => heap_set_far rfl (fun e => hk (e ▸ hF))⟩
theorem cell_set_far {w : World} {b : Nat} {o : Obj} {a : Addr} {v : Value} (h : w.cell? a = some v) (hn : ¬ a.block = b) : (ChangeMaps.setBlock w b o).cell? a = some v :=
  (World.cell?_of_block (heap_set_far rfl hn)).trans h

abbrev pt (p : Nat) : Value := .pointer (some ⟨p, 0, none⟩)

set_option maxRecDepth 20000 in
set_option maxHeartbeats 1000000 in
theorem new_bk (w : World) : Calls Try.prog 11 #[] w fun e w' => ∃ b : Bok, e = .returned (pt b.p) ∧ Bk w' b ∧ b.made = 1 ∧ b.L = [⟨0, 63, 0⟩] ∧ Below w.heap.size w w' ∧ ∀ k, b.F k → w.heap.size ≤ k := by
  have hmk := fun w => run_makeMap (P := Try.prog) 65 w
  obtain ⟨es', hrun, hE⟩ := put_new (w := w.alloc (.map #[] 0)) (mb := w.heap.size) (es := #[]) (clock := 0) (L := []) (heap_alloc_new w _) rfl (g := ⟨0, 63, 0⟩) (by decide) rfl
  have hb1 : ∀ w, (Instr.build 63 #[(0, .int .u8 63)]).run Try.prog w = .ok (.agg #[.int .u8 63, .int .i64 0]) w := fun w => run_build w 63 _ _ (by kernel_rfl)
  have hrun2 : (Instr.mapUpdate 65 (.map (some w.heap.size)) (.int .i64 0) (.agg #[.int .u8 63, .int .i64 0])).run Try.prog (w.alloc (.map #[] 0)) = .ok () (setBlock (w.alloc (.map #[] 0)) w.heap.size (.map es' 1)) := hrun
  obtain ⟨U, hU⟩ : ∃ U, U = setBlock (w.alloc (.map #[] 0)) w.heap.size (.map es' 1) := ⟨_, rfl⟩
  have HM : Aside (U.heap[w.heap.size]? = some (.map es' 1)) := by rw [hU]; exact heap_set_same (heap_alloc_new w _)
  have HB : Aside (Below w.heap.size w U) := by rw [hU]; exact (below_al w _).trans ((Upd.setBlock (F := fun k => k = w.heap.size) _ _ _ rfl).below (by simp) (fun k hk => by omega))
  rw [← hU] at hrun2
  have HE := aside hE
  clear hE hrun hU
  go_enter Try.func11, Try.ntmps11
  go_wp2_with fail
  go_ret
  have hB2 := below_tr HB.out (below_al U (.cells #[.map (some w.heap.size), .int .i64 1] 67))
  have hlt : w.heap.size < U.heap.size := (Array.getElem?_eq_some_iff.1 HM.out).1
  refine ⟨⟨U.heap.size, w.heap.size, 1, [⟨0, 63, 0⟩]⟩, rfl, ⟨heap_alloc_new U _, ⟨es', 1, ((below_al U _).block _ hlt).trans HM.out, HE.out⟩, inv_new⟩, rfl, rfl, hB2, fun k hk => ?_⟩
  rcases hk with rfl | rfl
  · exact HB.out.size
  · exact Nat.le_refl _

set_option maxRecDepth 20000 in
set_option maxHeartbeats 1000000 in
theorem rights_yes (b : Bok) (a : Int) (w : World) (h : Bk w b) (hw : (Lit.int .i64 a).wf = true) {g : Gr} (hl : lk b.L a = some g) : Calls Try.prog 12 #[pt b.p, .int .i64 a] w fun e w' => e = .returned (.int .u8 (g.r : Int)) ∧ w' = w := by
  have c0 := h.c0
  have hr := (h.yes hw hl).2
  have hf : ∀ w, (Instr.field 63 (.agg #[.int .u8 (g.r : Int), .int .i64 (g.of : Int)]) 0).run Try.prog w = .ok (.int .u8 (g.r : Int)) w := fun w => by kernel_rfl
  clear h hl
  go_enter Try.func12, Try.ntmps12
  go_wp2_with fail
  go_ret
  exact ⟨rfl, rfl⟩
set_option maxRecDepth 20000 in
set_option maxHeartbeats 1000000 in
theorem rights_no (b : Bok) (a : Int) (w : World) (h : Bk w b) (hw : (Lit.int .i64 a).wf = true) (hl : lk b.L a = none) : Calls Try.prog 12 #[pt b.p, .int .i64 a] w fun e w' => e = .returned (.int .u8 0) ∧ w' = w := by
  have c0 := h.c0
  have hr := (h.no hw hl).2
  have hf : ∀ w, (Instr.field 63 (.agg #[.int .u8 0, .int .i64 0]) 0).run Try.prog w = .ok (.int .u8 0) w := fun w => by kernel_rfl
  clear h hl
  go_enter Try.func12, Try.ntmps12
  go_wp2_with fail
  go_ret
  exact ⟨rfl, rfl⟩
/-- The rights of a number: those of the grant, or none. -/
def rof (L : List Gr) (a : Int) : Nat := match lk L a with | some g => g.r | none => 0
theorem rights_any (b : Bok) (a : Int) (w : World) (h : Bk w b) (hw : (Lit.int .i64 a).wf = true) : Calls Try.prog 12 #[pt b.p, .int .i64 a] w fun e w' => e = .returned (.int .u8 (rof b.L a : Int)) ∧ w' = w := by
  unfold rof
  cases hl : lk b.L a with
  | none => exact rights_no b a w h hw hl
  | some g => exact rights_yes b a w h hw hl
theorem rights_nil (a : Int) (w : World) : Calls Try.prog 12 #[.pointer none, .int .i64 a] w fun e w' => e = .returned (.int .u8 0) ∧ w' = w := by
  go_enter Try.func12, Try.ntmps12
  go_wp2
  go_ret
  exact ⟨rfl, rfl⟩
theorem give_nil (a r : Int) (w : World) : Calls Try.prog 8 #[.pointer none, .int .i64 a, .int .u8 r] w fun e w' => e = .returned (.tuple #[.int .i64 0, .int .i64 1]) ∧ w' = w := by
  go_enter Try.func8, Try.ntmps8
  go_wp2
  go_ret2
  exact ⟨rfl, rfl⟩
theorem back_nil (a : Int) (w : World) : Calls Try.prog 9 #[.pointer none, .int .i64 a] w fun e w' => e = .returned (.tuple #[.int .i64 0, .int .i64 1]) ∧ w' = w := by
  go_enter Try.func9, Try.ntmps9
  go_wp2
  go_ret2
  exact ⟨rfl, rfl⟩
theorem below_nil (a : Int) (w : World) : Calls Try.prog 13 #[.pointer none, .int .i64 a] w fun e w' => e = .returned (.slice none 0 0) ∧ w' = w := by
  go_enter Try.func13, Try.ntmps13
  go_wp2
  go_ret
  exact ⟨rfl, rfl⟩

set_option maxRecDepth 20000 in
set_option maxHeartbeats 1000000 in
theorem give_arg (b : Bok) (a : Int) (r : Nat) (w : World) (hr : r < 256) (h1 : ¬ r &&& 192 = 0) : Calls Try.prog 8 #[pt b.p, .int .i64 a, .int .u8 (r : Int)] w fun e w' => e = .returned (.tuple #[.int .i64 0, .int .i64 2]) ∧ w' = w := by
  have e1 : bits .andNot .u8 (r : Int) 63 = ((r &&& 192 : Nat) : Int) := u8_andNot_nat r 63 hr (by decide)
  obtain ⟨x, hx⟩ : ∃ x, x = r &&& 192 := ⟨_, rfl⟩
  rw [← hx] at e1 h1
  clear hx
  go_enter Try.func8, Try.ntmps8
  go_wp2
  go_ret2
  exact ⟨rfl, rfl⟩
end Go.Proofs.Ytleenkdlnmoepaa
