/- memory.Of of any set. -/
import Derived.Test.YtoagjgcpgpjjeaaGG
namespace Go.Proofs.Ytoagjgcpgpjjeaa
open Go.RowKit
attribute [local simp] lcells_nil readB_length bcells_length

theorem five_cells' {w w1 : World} {a b c d e : Value} {T : TypeId} (hb : Below (w.alloc (Obj.cells #[a, b, c, d, e] T)).drew.heap.size (w.alloc (Obj.cells #[a, b, c, d, e] T)).drew w1) :
    w1.cell? ⟨w.heap.size, 0, none⟩ = some a ∧ w1.cell? ⟨w.heap.size, 1, none⟩ = some b ∧ w1.cell? ⟨w.heap.size, 2, none⟩ = some c ∧ w1.cell? ⟨w.heap.size, 3, none⟩ = some d ∧ w1.cell? ⟨w.heap.size, 4, none⟩ = some e :=
  five_cells (below_tr (below_dr _) hb)

set_option maxRecDepth 20000 in
set_option maxHeartbeats 8000000 in
theorem make_sub (p : Addr) (x1 x2 x3 x4 : Value) (w : World)
    (htog : ∀ W, Calls Try.prog 57 #[.agg #[I p, x1, x2, x3, x4]] W fun e w' => ∃ t fb, e = .returned (.iface t (.pointer (some ⟨fb, 0, none⟩))) ∧ Ups t ∧ W.heap.size < fb ∧ w'.cell? ⟨fb, 0, none⟩ = some (I p) ∧ Below W.heap.size W w')
    (h1 : x1 = I p ∨ x1 = .nilIface) (h2 : x2 = I p ∨ x2 = .nilIface) (h3 : x3 = I p ∨ x3 = .nilIface) (h4 : x4 = I p ∨ x4 = .nilIface) :
    Calls Try.prog 37 #[I p, x1, x2, x3, x4] w fun e w' => ∃ hb t fb, e = .returned (.pointer (some ⟨hb, 0, none⟩)) ∧ Ups t ∧ w'.cell? ⟨hb, 5, none⟩ = some (.iface t (.pointer (some ⟨fb, 0, none⟩))) ∧ w'.cell? ⟨fb, 0, none⟩ = some (I p) ∧ Below w.heap.size w w' := by
  have HT := aside htog
  clear htog
  rcases h1 with rfl | rfl <;> rcases h2 with rfl | rfl <;> rcases h3 with rfl | rfl <;> rcases h4 with rfl | rfl
  all_goals
    go_enter Try.func37, Try.ntmps37
    go_wp2_with fail
    go_region_with (go_at_call 57; refine (HT.out _).mono ?_; rintro e w1 ⟨t, fb, rfl, hU, hs, hc0, hb1⟩; obtain ⟨c0, c1, c2, c3, c4⟩ := five_cells' hb1; have HB := aside hb1; have HC := aside hc0; have HU := aside hU; clear hb1 hc0 hs hU)
    all_goals
      go_wp2
      go_ret
      have hW := below_tr (below_tr (below_al w _) (below_dr _)) HB.out
      refine ⟨_, t, fb, rfl, HU.out, by rw [cell_of_row _ _ 5 _ _ _ (heap_alloc_new w1 _)]; rfl, ((below_al w1 _).cell (World.block_lt_of_cell? w1 _ HC.out)).trans HC.out, below_tr hW (below_al w1 _)⟩
end Go.Proofs.Ytoagjgcpgpjjeaa
