/- Handles of any set over a file of memory: what face.Make and Only lay, and how their files come to it. -/
import Derived.Test.YtoagjgcpgpjjeaaGF
namespace Go.Proofs.Ytoagjgcpgpjjeaa
open Go.RowKit
attribute [local simp] lcells_nil readB_length bcells_length

/-- A part that is there, or is not. -/
abbrev opt (b : Bool) (p : Addr) : Value := bif b then I p else .nilIface
/-- The set's number. -/
def num (b1 b2 b3 b4 : Bool) : Nat := b1.toNat + 2 * b2.toNat + 4 * b3.toNat + 8 * b4.toNat
theorem num_all (x : Nat) (h : x < 16) : ∃ b1 b2 b3 b4, x = num b1 b2 b3 b4 := by
  have : ∀ x : Fin 16, ∃ b1 b2 b3 b4, x.1 = num b1 b2 b3 b4 := by decide
  exact this ⟨x, h⟩

/-- What the sixteen files answer by. -/
def Ups (t : TypeId) : Prop := ∀ (W : World) (fb : Nat) (m : Addr), W.cell? ⟨fb, 0, none⟩ = some (I m) → (method 312 t (.pointer (some ⟨fb, 0, none⟩)) "Size").run Try.prog W = .ok (118, .pointer (some m)) W ∧ (method 312 t (.pointer (some ⟨fb, 0, none⟩)) "ReadAt").run Try.prog W = .ok (117, .pointer (some m)) W
theorem ups130 : Ups 130 := fun W fb m h =>
  ⟨(method_up (n := 311) (st := 132) (ix := 0) (ft := 65) (off := 0) (by kernel_rfl) (by kernel_rfl) (up_size 65 (by kernel_rfl) W) (up_agg 65 Try.underlying65 W) (by simpa [Addr.add] using h)).trans (by kernel_rfl), (method_up (n := 311) (st := 132) (ix := 0) (ft := 65) (off := 0) (by kernel_rfl) (by kernel_rfl) (up_size 65 (by kernel_rfl) W) (up_agg 65 Try.underlying65 W) (by simpa [Addr.add] using h)).trans (by kernel_rfl)⟩
theorem ups133 : Ups 133 := fun W fb m h =>
  ⟨(method_up (n := 311) (st := 135) (ix := 0) (ft := 65) (off := 0) (by kernel_rfl) (by kernel_rfl) (up_size 65 (by kernel_rfl) W) (up_agg 65 Try.underlying65 W) (by simpa [Addr.add] using h)).trans (by kernel_rfl), (method_up (n := 311) (st := 135) (ix := 0) (ft := 65) (off := 0) (by kernel_rfl) (by kernel_rfl) (up_size 65 (by kernel_rfl) W) (up_agg 65 Try.underlying65 W) (by simpa [Addr.add] using h)).trans (by kernel_rfl)⟩
theorem ups136 : Ups 136 := fun W fb m h =>
  ⟨(method_up (n := 311) (st := 138) (ix := 0) (ft := 65) (off := 0) (by kernel_rfl) (by kernel_rfl) (up_size 65 (by kernel_rfl) W) (up_agg 65 Try.underlying65 W) (by simpa [Addr.add] using h)).trans (by kernel_rfl), (method_up (n := 311) (st := 138) (ix := 0) (ft := 65) (off := 0) (by kernel_rfl) (by kernel_rfl) (up_size 65 (by kernel_rfl) W) (up_agg 65 Try.underlying65 W) (by simpa [Addr.add] using h)).trans (by kernel_rfl)⟩
theorem ups139 : Ups 139 := fun W fb m h =>
  ⟨(method_up (n := 311) (st := 141) (ix := 0) (ft := 65) (off := 0) (by kernel_rfl) (by kernel_rfl) (up_size 65 (by kernel_rfl) W) (up_agg 65 Try.underlying65 W) (by simpa [Addr.add] using h)).trans (by kernel_rfl), (method_up (n := 311) (st := 141) (ix := 0) (ft := 65) (off := 0) (by kernel_rfl) (by kernel_rfl) (up_size 65 (by kernel_rfl) W) (up_agg 65 Try.underlying65 W) (by simpa [Addr.add] using h)).trans (by kernel_rfl)⟩
theorem ups142 : Ups 142 := fun W fb m h =>
  ⟨(method_up (n := 311) (st := 144) (ix := 0) (ft := 65) (off := 0) (by kernel_rfl) (by kernel_rfl) (up_size 65 (by kernel_rfl) W) (up_agg 65 Try.underlying65 W) (by simpa [Addr.add] using h)).trans (by kernel_rfl), (method_up (n := 311) (st := 144) (ix := 0) (ft := 65) (off := 0) (by kernel_rfl) (by kernel_rfl) (up_size 65 (by kernel_rfl) W) (up_agg 65 Try.underlying65 W) (by simpa [Addr.add] using h)).trans (by kernel_rfl)⟩
theorem ups145 : Ups 145 := fun W fb m h =>
  ⟨(method_up (n := 311) (st := 147) (ix := 0) (ft := 65) (off := 0) (by kernel_rfl) (by kernel_rfl) (up_size 65 (by kernel_rfl) W) (up_agg 65 Try.underlying65 W) (by simpa [Addr.add] using h)).trans (by kernel_rfl), (method_up (n := 311) (st := 147) (ix := 0) (ft := 65) (off := 0) (by kernel_rfl) (by kernel_rfl) (up_size 65 (by kernel_rfl) W) (up_agg 65 Try.underlying65 W) (by simpa [Addr.add] using h)).trans (by kernel_rfl)⟩
theorem ups148 : Ups 148 := fun W fb m h =>
  ⟨(method_up (n := 311) (st := 150) (ix := 0) (ft := 65) (off := 0) (by kernel_rfl) (by kernel_rfl) (up_size 65 (by kernel_rfl) W) (up_agg 65 Try.underlying65 W) (by simpa [Addr.add] using h)).trans (by kernel_rfl), (method_up (n := 311) (st := 150) (ix := 0) (ft := 65) (off := 0) (by kernel_rfl) (by kernel_rfl) (up_size 65 (by kernel_rfl) W) (up_agg 65 Try.underlying65 W) (by simpa [Addr.add] using h)).trans (by kernel_rfl)⟩
theorem ups151 : Ups 151 := fun W fb m h =>
  ⟨(method_up (n := 311) (st := 153) (ix := 0) (ft := 65) (off := 0) (by kernel_rfl) (by kernel_rfl) (up_size 65 (by kernel_rfl) W) (up_agg 65 Try.underlying65 W) (by simpa [Addr.add] using h)).trans (by kernel_rfl), (method_up (n := 311) (st := 153) (ix := 0) (ft := 65) (off := 0) (by kernel_rfl) (by kernel_rfl) (up_size 65 (by kernel_rfl) W) (up_agg 65 Try.underlying65 W) (by simpa [Addr.add] using h)).trans (by kernel_rfl)⟩
theorem ups154 : Ups 154 := fun W fb m h =>
  ⟨(method_up (n := 311) (st := 156) (ix := 0) (ft := 65) (off := 0) (by kernel_rfl) (by kernel_rfl) (up_size 65 (by kernel_rfl) W) (up_agg 65 Try.underlying65 W) (by simpa [Addr.add] using h)).trans (by kernel_rfl), (method_up (n := 311) (st := 156) (ix := 0) (ft := 65) (off := 0) (by kernel_rfl) (by kernel_rfl) (up_size 65 (by kernel_rfl) W) (up_agg 65 Try.underlying65 W) (by simpa [Addr.add] using h)).trans (by kernel_rfl)⟩
theorem ups157 : Ups 157 := fun W fb m h =>
  ⟨(method_up (n := 311) (st := 159) (ix := 0) (ft := 65) (off := 0) (by kernel_rfl) (by kernel_rfl) (up_size 65 (by kernel_rfl) W) (up_agg 65 Try.underlying65 W) (by simpa [Addr.add] using h)).trans (by kernel_rfl), (method_up (n := 311) (st := 159) (ix := 0) (ft := 65) (off := 0) (by kernel_rfl) (by kernel_rfl) (up_size 65 (by kernel_rfl) W) (up_agg 65 Try.underlying65 W) (by simpa [Addr.add] using h)).trans (by kernel_rfl)⟩
theorem ups160 : Ups 160 := fun W fb m h =>
  ⟨(method_up (n := 311) (st := 162) (ix := 0) (ft := 65) (off := 0) (by kernel_rfl) (by kernel_rfl) (up_size 65 (by kernel_rfl) W) (up_agg 65 Try.underlying65 W) (by simpa [Addr.add] using h)).trans (by kernel_rfl), (method_up (n := 311) (st := 162) (ix := 0) (ft := 65) (off := 0) (by kernel_rfl) (by kernel_rfl) (up_size 65 (by kernel_rfl) W) (up_agg 65 Try.underlying65 W) (by simpa [Addr.add] using h)).trans (by kernel_rfl)⟩
theorem ups163 : Ups 163 := fun W fb m h =>
  ⟨(method_up (n := 311) (st := 165) (ix := 0) (ft := 65) (off := 0) (by kernel_rfl) (by kernel_rfl) (up_size 65 (by kernel_rfl) W) (up_agg 65 Try.underlying65 W) (by simpa [Addr.add] using h)).trans (by kernel_rfl), (method_up (n := 311) (st := 165) (ix := 0) (ft := 65) (off := 0) (by kernel_rfl) (by kernel_rfl) (up_size 65 (by kernel_rfl) W) (up_agg 65 Try.underlying65 W) (by simpa [Addr.add] using h)).trans (by kernel_rfl)⟩
theorem ups166 : Ups 166 := fun W fb m h =>
  ⟨(method_up (n := 311) (st := 168) (ix := 0) (ft := 65) (off := 0) (by kernel_rfl) (by kernel_rfl) (up_size 65 (by kernel_rfl) W) (up_agg 65 Try.underlying65 W) (by simpa [Addr.add] using h)).trans (by kernel_rfl), (method_up (n := 311) (st := 168) (ix := 0) (ft := 65) (off := 0) (by kernel_rfl) (by kernel_rfl) (up_size 65 (by kernel_rfl) W) (up_agg 65 Try.underlying65 W) (by simpa [Addr.add] using h)).trans (by kernel_rfl)⟩
theorem ups169 : Ups 169 := fun W fb m h =>
  ⟨(method_up (n := 311) (st := 171) (ix := 0) (ft := 65) (off := 0) (by kernel_rfl) (by kernel_rfl) (up_size 65 (by kernel_rfl) W) (up_agg 65 Try.underlying65 W) (by simpa [Addr.add] using h)).trans (by kernel_rfl), (method_up (n := 311) (st := 171) (ix := 0) (ft := 65) (off := 0) (by kernel_rfl) (by kernel_rfl) (up_size 65 (by kernel_rfl) W) (up_agg 65 Try.underlying65 W) (by simpa [Addr.add] using h)).trans (by kernel_rfl)⟩
theorem ups172 : Ups 172 := fun W fb m h =>
  ⟨(method_up (n := 311) (st := 174) (ix := 0) (ft := 65) (off := 0) (by kernel_rfl) (by kernel_rfl) (up_size 65 (by kernel_rfl) W) (up_agg 65 Try.underlying65 W) (by simpa [Addr.add] using h)).trans (by kernel_rfl), (method_up (n := 311) (st := 174) (ix := 0) (ft := 65) (off := 0) (by kernel_rfl) (by kernel_rfl) (up_size 65 (by kernel_rfl) W) (up_agg 65 Try.underlying65 W) (by simpa [Addr.add] using h)).trans (by kernel_rfl)⟩
theorem ups175 : Ups 175 := fun W fb m h =>
  ⟨(method_up (n := 311) (st := 177) (ix := 0) (ft := 65) (off := 0) (by kernel_rfl) (by kernel_rfl) (up_size 65 (by kernel_rfl) W) (up_agg 65 Try.underlying65 W) (by simpa [Addr.add] using h)).trans (by kernel_rfl), (method_up (n := 311) (st := 177) (ix := 0) (ft := 65) (off := 0) (by kernel_rfl) (by kernel_rfl) (up_size 65 (by kernel_rfl) W) (up_agg 65 Try.underlying65 W) (by simpa [Addr.add] using h)).trans (by kernel_rfl)⟩
set_option maxRecDepth 20000 in
set_option maxHeartbeats 8000000 in
theorem can_sub (b1 b2 b3 b4 : Bool) (p : Addr) (w : World) : Calls Try.prog 71 #[.agg #[I p, opt b1 p, opt b2 p, opt b3 p, opt b4 p]] w fun e w' => e = .returned (.int .u8 (num b1 b2 b3 b4 : Nat)) ∧ Below w.heap.size w w' := by
  cases b1 <;> cases b2 <;> cases b3 <;> cases b4 <;> simp only [opt, cond_true, cond_false] <;> (go_enter Try.func71, Try.ntmps71; go_wp2; go_ret; exact ⟨rfl, below_al w _⟩)
set_option maxRecDepth 20000 in
set_option maxHeartbeats 1000000 in
theorem together0 (p : Addr) (w : World) : Calls Try.prog 57 #[.agg #[I p, .nilIface, .nilIface, .nilIface, .nilIface]] w fun e w' => ∃ t fb, e = .returned (.iface t (.pointer (some ⟨fb, 0, none⟩))) ∧ Ups t ∧ w.heap.size < fb ∧ w'.cell? ⟨fb, 0, none⟩ = some (I p) ∧ Below w.heap.size w w' := by
  have hA := aside (below_al w (.cells #[I p, .nilIface, .nilIface, .nilIface, .nilIface] 115))
  have hC := aside (can_sub false false false false p (w.alloc (.cells #[I p, .nilIface, .nilIface, .nilIface, .nilIface] 115)))
  go_enter Try.func57, Try.ntmps57
  go_wp2_with fail
  refine hC.out.mono ?_
  rintro e w1 ⟨rfl, hb1⟩
  obtain ⟨c0, c1, c2, c3, c4⟩ := five_cells hb1
  have HB := aside hb1
  have hs := hb1.size
  rw [World.size_alloc] at hs
  have hn : ((num false false false false : Nat) : Int) = 0 := rfl
  rw [hn]
  clear hb1
  go_wp2
  go_ret
  exact ⟨130, _, rfl, ups130, hs, by rw [cell_of_row _ _ 0 _ _ _ (heap_alloc_new w1 (.cells #[I p] 132))]; rfl, below_tr (below_tr hA.out HB.out) (below_al w1 _)⟩
set_option maxRecDepth 20000 in
set_option maxHeartbeats 1000000 in
theorem together1 (p : Addr) (w : World) : Calls Try.prog 57 #[.agg #[I p, I p, .nilIface, .nilIface, .nilIface]] w fun e w' => ∃ t fb, e = .returned (.iface t (.pointer (some ⟨fb, 0, none⟩))) ∧ Ups t ∧ w.heap.size < fb ∧ w'.cell? ⟨fb, 0, none⟩ = some (I p) ∧ Below w.heap.size w w' := by
  have hA := aside (below_al w (.cells #[I p, I p, .nilIface, .nilIface, .nilIface] 115))
  have hC := aside (can_sub true false false false p (w.alloc (.cells #[I p, I p, .nilIface, .nilIface, .nilIface] 115)))
  go_enter Try.func57, Try.ntmps57
  go_wp2_with fail
  refine hC.out.mono ?_
  rintro e w1 ⟨rfl, hb1⟩
  obtain ⟨c0, c1, c2, c3, c4⟩ := five_cells hb1
  have HB := aside hb1
  have hs := hb1.size
  rw [World.size_alloc] at hs
  have hn : ((num true false false false : Nat) : Int) = 1 := rfl
  rw [hn]
  clear hb1
  go_wp2
  go_ret
  exact ⟨133, _, rfl, ups133, hs, by rw [cell_of_row _ _ 0 _ _ _ (heap_alloc_new w1 (.cells #[I p, I p] 135))]; rfl, below_tr (below_tr hA.out HB.out) (below_al w1 _)⟩
set_option maxRecDepth 20000 in
set_option maxHeartbeats 1000000 in
theorem together2 (p : Addr) (w : World) : Calls Try.prog 57 #[.agg #[I p, .nilIface, I p, .nilIface, .nilIface]] w fun e w' => ∃ t fb, e = .returned (.iface t (.pointer (some ⟨fb, 0, none⟩))) ∧ Ups t ∧ w.heap.size < fb ∧ w'.cell? ⟨fb, 0, none⟩ = some (I p) ∧ Below w.heap.size w w' := by
  have hA := aside (below_al w (.cells #[I p, .nilIface, I p, .nilIface, .nilIface] 115))
  have hC := aside (can_sub false true false false p (w.alloc (.cells #[I p, .nilIface, I p, .nilIface, .nilIface] 115)))
  go_enter Try.func57, Try.ntmps57
  go_wp2_with fail
  refine hC.out.mono ?_
  rintro e w1 ⟨rfl, hb1⟩
  obtain ⟨c0, c1, c2, c3, c4⟩ := five_cells hb1
  have HB := aside hb1
  have hs := hb1.size
  rw [World.size_alloc] at hs
  have hn : ((num false true false false : Nat) : Int) = 2 := rfl
  rw [hn]
  clear hb1
  go_wp2
  go_ret
  exact ⟨136, _, rfl, ups136, hs, by rw [cell_of_row _ _ 0 _ _ _ (heap_alloc_new w1 (.cells #[I p, I p] 138))]; rfl, below_tr (below_tr hA.out HB.out) (below_al w1 _)⟩
set_option maxRecDepth 20000 in
set_option maxHeartbeats 1000000 in
theorem together3 (p : Addr) (w : World) : Calls Try.prog 57 #[.agg #[I p, I p, I p, .nilIface, .nilIface]] w fun e w' => ∃ t fb, e = .returned (.iface t (.pointer (some ⟨fb, 0, none⟩))) ∧ Ups t ∧ w.heap.size < fb ∧ w'.cell? ⟨fb, 0, none⟩ = some (I p) ∧ Below w.heap.size w w' := by
  have hA := aside (below_al w (.cells #[I p, I p, I p, .nilIface, .nilIface] 115))
  have hC := aside (can_sub true true false false p (w.alloc (.cells #[I p, I p, I p, .nilIface, .nilIface] 115)))
  go_enter Try.func57, Try.ntmps57
  go_wp2_with fail
  refine hC.out.mono ?_
  rintro e w1 ⟨rfl, hb1⟩
  obtain ⟨c0, c1, c2, c3, c4⟩ := five_cells hb1
  have HB := aside hb1
  have hs := hb1.size
  rw [World.size_alloc] at hs
  have hn : ((num true true false false : Nat) : Int) = 3 := rfl
  rw [hn]
  clear hb1
  go_wp2
  go_ret
  exact ⟨139, _, rfl, ups139, hs, by rw [cell_of_row _ _ 0 _ _ _ (heap_alloc_new w1 (.cells #[I p, I p, I p] 141))]; rfl, below_tr (below_tr hA.out HB.out) (below_al w1 _)⟩
set_option maxRecDepth 20000 in
set_option maxHeartbeats 1000000 in
theorem together4 (p : Addr) (w : World) : Calls Try.prog 57 #[.agg #[I p, .nilIface, .nilIface, I p, .nilIface]] w fun e w' => ∃ t fb, e = .returned (.iface t (.pointer (some ⟨fb, 0, none⟩))) ∧ Ups t ∧ w.heap.size < fb ∧ w'.cell? ⟨fb, 0, none⟩ = some (I p) ∧ Below w.heap.size w w' := by
  have hA := aside (below_al w (.cells #[I p, .nilIface, .nilIface, I p, .nilIface] 115))
  have hC := aside (can_sub false false true false p (w.alloc (.cells #[I p, .nilIface, .nilIface, I p, .nilIface] 115)))
  go_enter Try.func57, Try.ntmps57
  go_wp2_with fail
  refine hC.out.mono ?_
  rintro e w1 ⟨rfl, hb1⟩
  obtain ⟨c0, c1, c2, c3, c4⟩ := five_cells hb1
  have HB := aside hb1
  have hs := hb1.size
  rw [World.size_alloc] at hs
  have hn : ((num false false true false : Nat) : Int) = 4 := rfl
  rw [hn]
  clear hb1
  go_wp2
  go_ret
  exact ⟨142, _, rfl, ups142, hs, by rw [cell_of_row _ _ 0 _ _ _ (heap_alloc_new w1 (.cells #[I p, I p] 144))]; rfl, below_tr (below_tr hA.out HB.out) (below_al w1 _)⟩
set_option maxRecDepth 20000 in
set_option maxHeartbeats 1000000 in
theorem together5 (p : Addr) (w : World) : Calls Try.prog 57 #[.agg #[I p, I p, .nilIface, I p, .nilIface]] w fun e w' => ∃ t fb, e = .returned (.iface t (.pointer (some ⟨fb, 0, none⟩))) ∧ Ups t ∧ w.heap.size < fb ∧ w'.cell? ⟨fb, 0, none⟩ = some (I p) ∧ Below w.heap.size w w' := by
  have hA := aside (below_al w (.cells #[I p, I p, .nilIface, I p, .nilIface] 115))
  have hC := aside (can_sub true false true false p (w.alloc (.cells #[I p, I p, .nilIface, I p, .nilIface] 115)))
  go_enter Try.func57, Try.ntmps57
  go_wp2_with fail
  refine hC.out.mono ?_
  rintro e w1 ⟨rfl, hb1⟩
  obtain ⟨c0, c1, c2, c3, c4⟩ := five_cells hb1
  have HB := aside hb1
  have hs := hb1.size
  rw [World.size_alloc] at hs
  have hn : ((num true false true false : Nat) : Int) = 5 := rfl
  rw [hn]
  clear hb1
  go_wp2
  go_ret
  exact ⟨145, _, rfl, ups145, hs, by rw [cell_of_row _ _ 0 _ _ _ (heap_alloc_new w1 (.cells #[I p, I p, I p] 147))]; rfl, below_tr (below_tr hA.out HB.out) (below_al w1 _)⟩
set_option maxRecDepth 20000 in
set_option maxHeartbeats 1000000 in
theorem together6 (p : Addr) (w : World) : Calls Try.prog 57 #[.agg #[I p, .nilIface, I p, I p, .nilIface]] w fun e w' => ∃ t fb, e = .returned (.iface t (.pointer (some ⟨fb, 0, none⟩))) ∧ Ups t ∧ w.heap.size < fb ∧ w'.cell? ⟨fb, 0, none⟩ = some (I p) ∧ Below w.heap.size w w' := by
  have hA := aside (below_al w (.cells #[I p, .nilIface, I p, I p, .nilIface] 115))
  have hC := aside (can_sub false true true false p (w.alloc (.cells #[I p, .nilIface, I p, I p, .nilIface] 115)))
  go_enter Try.func57, Try.ntmps57
  go_wp2_with fail
  refine hC.out.mono ?_
  rintro e w1 ⟨rfl, hb1⟩
  obtain ⟨c0, c1, c2, c3, c4⟩ := five_cells hb1
  have HB := aside hb1
  have hs := hb1.size
  rw [World.size_alloc] at hs
  have hn : ((num false true true false : Nat) : Int) = 6 := rfl
  rw [hn]
  clear hb1
  go_wp2
  go_ret
  exact ⟨148, _, rfl, ups148, hs, by rw [cell_of_row _ _ 0 _ _ _ (heap_alloc_new w1 (.cells #[I p, I p, I p] 150))]; rfl, below_tr (below_tr hA.out HB.out) (below_al w1 _)⟩
set_option maxRecDepth 20000 in
set_option maxHeartbeats 1000000 in
theorem together7 (p : Addr) (w : World) : Calls Try.prog 57 #[.agg #[I p, I p, I p, I p, .nilIface]] w fun e w' => ∃ t fb, e = .returned (.iface t (.pointer (some ⟨fb, 0, none⟩))) ∧ Ups t ∧ w.heap.size < fb ∧ w'.cell? ⟨fb, 0, none⟩ = some (I p) ∧ Below w.heap.size w w' := by
  have hA := aside (below_al w (.cells #[I p, I p, I p, I p, .nilIface] 115))
  have hC := aside (can_sub true true true false p (w.alloc (.cells #[I p, I p, I p, I p, .nilIface] 115)))
  go_enter Try.func57, Try.ntmps57
  go_wp2_with fail
  refine hC.out.mono ?_
  rintro e w1 ⟨rfl, hb1⟩
  obtain ⟨c0, c1, c2, c3, c4⟩ := five_cells hb1
  have HB := aside hb1
  have hs := hb1.size
  rw [World.size_alloc] at hs
  have hn : ((num true true true false : Nat) : Int) = 7 := rfl
  rw [hn]
  clear hb1
  go_wp2
  go_ret
  exact ⟨151, _, rfl, ups151, hs, by rw [cell_of_row _ _ 0 _ _ _ (heap_alloc_new w1 (.cells #[I p, I p, I p, I p] 153))]; rfl, below_tr (below_tr hA.out HB.out) (below_al w1 _)⟩
set_option maxRecDepth 20000 in
set_option maxHeartbeats 1000000 in
theorem together8 (p : Addr) (w : World) : Calls Try.prog 57 #[.agg #[I p, .nilIface, .nilIface, .nilIface, I p]] w fun e w' => ∃ t fb, e = .returned (.iface t (.pointer (some ⟨fb, 0, none⟩))) ∧ Ups t ∧ w.heap.size < fb ∧ w'.cell? ⟨fb, 0, none⟩ = some (I p) ∧ Below w.heap.size w w' := by
  have hA := aside (below_al w (.cells #[I p, .nilIface, .nilIface, .nilIface, I p] 115))
  have hC := aside (can_sub false false false true p (w.alloc (.cells #[I p, .nilIface, .nilIface, .nilIface, I p] 115)))
  go_enter Try.func57, Try.ntmps57
  go_wp2_with fail
  refine hC.out.mono ?_
  rintro e w1 ⟨rfl, hb1⟩
  obtain ⟨c0, c1, c2, c3, c4⟩ := five_cells hb1
  have HB := aside hb1
  have hs := hb1.size
  rw [World.size_alloc] at hs
  have hn : ((num false false false true : Nat) : Int) = 8 := rfl
  rw [hn]
  clear hb1
  go_wp2
  go_ret
  exact ⟨154, _, rfl, ups154, hs, by rw [cell_of_row _ _ 0 _ _ _ (heap_alloc_new w1 (.cells #[I p, I p] 156))]; rfl, below_tr (below_tr hA.out HB.out) (below_al w1 _)⟩
set_option maxRecDepth 20000 in
set_option maxHeartbeats 1000000 in
theorem together9 (p : Addr) (w : World) : Calls Try.prog 57 #[.agg #[I p, I p, .nilIface, .nilIface, I p]] w fun e w' => ∃ t fb, e = .returned (.iface t (.pointer (some ⟨fb, 0, none⟩))) ∧ Ups t ∧ w.heap.size < fb ∧ w'.cell? ⟨fb, 0, none⟩ = some (I p) ∧ Below w.heap.size w w' := by
  have hA := aside (below_al w (.cells #[I p, I p, .nilIface, .nilIface, I p] 115))
  have hC := aside (can_sub true false false true p (w.alloc (.cells #[I p, I p, .nilIface, .nilIface, I p] 115)))
  go_enter Try.func57, Try.ntmps57
  go_wp2_with fail
  refine hC.out.mono ?_
  rintro e w1 ⟨rfl, hb1⟩
  obtain ⟨c0, c1, c2, c3, c4⟩ := five_cells hb1
  have HB := aside hb1
  have hs := hb1.size
  rw [World.size_alloc] at hs
  have hn : ((num true false false true : Nat) : Int) = 9 := rfl
  rw [hn]
  clear hb1
  go_wp2
  go_ret
  exact ⟨157, _, rfl, ups157, hs, by rw [cell_of_row _ _ 0 _ _ _ (heap_alloc_new w1 (.cells #[I p, I p, I p] 159))]; rfl, below_tr (below_tr hA.out HB.out) (below_al w1 _)⟩
set_option maxRecDepth 20000 in
set_option maxHeartbeats 1000000 in
theorem together10 (p : Addr) (w : World) : Calls Try.prog 57 #[.agg #[I p, .nilIface, I p, .nilIface, I p]] w fun e w' => ∃ t fb, e = .returned (.iface t (.pointer (some ⟨fb, 0, none⟩))) ∧ Ups t ∧ w.heap.size < fb ∧ w'.cell? ⟨fb, 0, none⟩ = some (I p) ∧ Below w.heap.size w w' := by
  have hA := aside (below_al w (.cells #[I p, .nilIface, I p, .nilIface, I p] 115))
  have hC := aside (can_sub false true false true p (w.alloc (.cells #[I p, .nilIface, I p, .nilIface, I p] 115)))
  go_enter Try.func57, Try.ntmps57
  go_wp2_with fail
  refine hC.out.mono ?_
  rintro e w1 ⟨rfl, hb1⟩
  obtain ⟨c0, c1, c2, c3, c4⟩ := five_cells hb1
  have HB := aside hb1
  have hs := hb1.size
  rw [World.size_alloc] at hs
  have hn : ((num false true false true : Nat) : Int) = 10 := rfl
  rw [hn]
  clear hb1
  go_wp2
  go_ret
  exact ⟨160, _, rfl, ups160, hs, by rw [cell_of_row _ _ 0 _ _ _ (heap_alloc_new w1 (.cells #[I p, I p, I p] 162))]; rfl, below_tr (below_tr hA.out HB.out) (below_al w1 _)⟩
set_option maxRecDepth 20000 in
set_option maxHeartbeats 1000000 in
theorem together11 (p : Addr) (w : World) : Calls Try.prog 57 #[.agg #[I p, I p, I p, .nilIface, I p]] w fun e w' => ∃ t fb, e = .returned (.iface t (.pointer (some ⟨fb, 0, none⟩))) ∧ Ups t ∧ w.heap.size < fb ∧ w'.cell? ⟨fb, 0, none⟩ = some (I p) ∧ Below w.heap.size w w' := by
  have hA := aside (below_al w (.cells #[I p, I p, I p, .nilIface, I p] 115))
  have hC := aside (can_sub true true false true p (w.alloc (.cells #[I p, I p, I p, .nilIface, I p] 115)))
  go_enter Try.func57, Try.ntmps57
  go_wp2_with fail
  refine hC.out.mono ?_
  rintro e w1 ⟨rfl, hb1⟩
  obtain ⟨c0, c1, c2, c3, c4⟩ := five_cells hb1
  have HB := aside hb1
  have hs := hb1.size
  rw [World.size_alloc] at hs
  have hn : ((num true true false true : Nat) : Int) = 11 := rfl
  rw [hn]
  clear hb1
  go_wp2
  go_ret
  exact ⟨163, _, rfl, ups163, hs, by rw [cell_of_row _ _ 0 _ _ _ (heap_alloc_new w1 (.cells #[I p, I p, I p, I p] 165))]; rfl, below_tr (below_tr hA.out HB.out) (below_al w1 _)⟩
set_option maxRecDepth 20000 in
set_option maxHeartbeats 1000000 in
theorem together12 (p : Addr) (w : World) : Calls Try.prog 57 #[.agg #[I p, .nilIface, .nilIface, I p, I p]] w fun e w' => ∃ t fb, e = .returned (.iface t (.pointer (some ⟨fb, 0, none⟩))) ∧ Ups t ∧ w.heap.size < fb ∧ w'.cell? ⟨fb, 0, none⟩ = some (I p) ∧ Below w.heap.size w w' := by
  have hA := aside (below_al w (.cells #[I p, .nilIface, .nilIface, I p, I p] 115))
  have hC := aside (can_sub false false true true p (w.alloc (.cells #[I p, .nilIface, .nilIface, I p, I p] 115)))
  go_enter Try.func57, Try.ntmps57
  go_wp2_with fail
  refine hC.out.mono ?_
  rintro e w1 ⟨rfl, hb1⟩
  obtain ⟨c0, c1, c2, c3, c4⟩ := five_cells hb1
  have HB := aside hb1
  have hs := hb1.size
  rw [World.size_alloc] at hs
  have hn : ((num false false true true : Nat) : Int) = 12 := rfl
  rw [hn]
  clear hb1
  go_wp2
  go_ret
  exact ⟨166, _, rfl, ups166, hs, by rw [cell_of_row _ _ 0 _ _ _ (heap_alloc_new w1 (.cells #[I p, I p, I p] 168))]; rfl, below_tr (below_tr hA.out HB.out) (below_al w1 _)⟩
set_option maxRecDepth 20000 in
set_option maxHeartbeats 1000000 in
theorem together13 (p : Addr) (w : World) : Calls Try.prog 57 #[.agg #[I p, I p, .nilIface, I p, I p]] w fun e w' => ∃ t fb, e = .returned (.iface t (.pointer (some ⟨fb, 0, none⟩))) ∧ Ups t ∧ w.heap.size < fb ∧ w'.cell? ⟨fb, 0, none⟩ = some (I p) ∧ Below w.heap.size w w' := by
  have hA := aside (below_al w (.cells #[I p, I p, .nilIface, I p, I p] 115))
  have hC := aside (can_sub true false true true p (w.alloc (.cells #[I p, I p, .nilIface, I p, I p] 115)))
  go_enter Try.func57, Try.ntmps57
  go_wp2_with fail
  refine hC.out.mono ?_
  rintro e w1 ⟨rfl, hb1⟩
  obtain ⟨c0, c1, c2, c3, c4⟩ := five_cells hb1
  have HB := aside hb1
  have hs := hb1.size
  rw [World.size_alloc] at hs
  have hn : ((num true false true true : Nat) : Int) = 13 := rfl
  rw [hn]
  clear hb1
  go_wp2
  go_ret
  exact ⟨169, _, rfl, ups169, hs, by rw [cell_of_row _ _ 0 _ _ _ (heap_alloc_new w1 (.cells #[I p, I p, I p, I p] 171))]; rfl, below_tr (below_tr hA.out HB.out) (below_al w1 _)⟩
set_option maxRecDepth 20000 in
set_option maxHeartbeats 1000000 in
theorem together14 (p : Addr) (w : World) : Calls Try.prog 57 #[.agg #[I p, .nilIface, I p, I p, I p]] w fun e w' => ∃ t fb, e = .returned (.iface t (.pointer (some ⟨fb, 0, none⟩))) ∧ Ups t ∧ w.heap.size < fb ∧ w'.cell? ⟨fb, 0, none⟩ = some (I p) ∧ Below w.heap.size w w' := by
  have hA := aside (below_al w (.cells #[I p, .nilIface, I p, I p, I p] 115))
  have hC := aside (can_sub false true true true p (w.alloc (.cells #[I p, .nilIface, I p, I p, I p] 115)))
  go_enter Try.func57, Try.ntmps57
  go_wp2_with fail
  refine hC.out.mono ?_
  rintro e w1 ⟨rfl, hb1⟩
  obtain ⟨c0, c1, c2, c3, c4⟩ := five_cells hb1
  have HB := aside hb1
  have hs := hb1.size
  rw [World.size_alloc] at hs
  have hn : ((num false true true true : Nat) : Int) = 14 := rfl
  rw [hn]
  clear hb1
  go_wp2
  go_ret
  exact ⟨172, _, rfl, ups172, hs, by rw [cell_of_row _ _ 0 _ _ _ (heap_alloc_new w1 (.cells #[I p, I p, I p, I p] 174))]; rfl, below_tr (below_tr hA.out HB.out) (below_al w1 _)⟩
set_option maxRecDepth 20000 in
set_option maxHeartbeats 1000000 in
theorem together15 (p : Addr) (w : World) : Calls Try.prog 57 #[.agg #[I p, I p, I p, I p, I p]] w fun e w' => ∃ t fb, e = .returned (.iface t (.pointer (some ⟨fb, 0, none⟩))) ∧ Ups t ∧ w.heap.size < fb ∧ w'.cell? ⟨fb, 0, none⟩ = some (I p) ∧ Below w.heap.size w w' := by
  have hA := aside (below_al w (.cells #[I p, I p, I p, I p, I p] 115))
  have hC := aside (can_sub true true true true p (w.alloc (.cells #[I p, I p, I p, I p, I p] 115)))
  go_enter Try.func57, Try.ntmps57
  go_wp2_with fail
  refine hC.out.mono ?_
  rintro e w1 ⟨rfl, hb1⟩
  obtain ⟨c0, c1, c2, c3, c4⟩ := five_cells hb1
  have HB := aside hb1
  have hs := hb1.size
  rw [World.size_alloc] at hs
  have hn : ((num true true true true : Nat) : Int) = 15 := rfl
  rw [hn]
  clear hb1
  go_wp2
  go_ret
  exact ⟨175, _, rfl, ups175, hs, by rw [cell_of_row _ _ 0 _ _ _ (heap_alloc_new w1 (.cells #[I p, I p, I p, I p, I p] 177))]; rfl, below_tr (below_tr hA.out HB.out) (below_al w1 _)⟩
theorem together_sub (b1 b2 b3 b4 : Bool) (p : Addr) (w : World) : Calls Try.prog 57 #[.agg #[I p, opt b1 p, opt b2 p, opt b3 p, opt b4 p]] w fun e w' => ∃ t fb, e = .returned (.iface t (.pointer (some ⟨fb, 0, none⟩))) ∧ Ups t ∧ w.heap.size < fb ∧ w'.cell? ⟨fb, 0, none⟩ = some (I p) ∧ Below w.heap.size w w' := by
  cases b1 <;> cases b2 <;> cases b3 <;> cases b4
  · exact together0 p w
  · exact together8 p w
  · exact together4 p w
  · exact together12 p w
  · exact together2 p w
  · exact together10 p w
  · exact together6 p w
  · exact together14 p w
  · exact together1 p w
  · exact together9 p w
  · exact together5 p w
  · exact together13 p w
  · exact together3 p w
  · exact together11 p w
  · exact together7 p w
  · exact together15 p w
end Go.Proofs.Ytoagjgcpgpjjeaa
