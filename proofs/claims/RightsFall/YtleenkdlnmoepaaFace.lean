/- Handles over one part: what face.Make and Only lay, for all five parts and for the file alone. -/
import Derived.Test.YtleenkdlnmoepaaNext
import Derived.Stop.Asserts
import Derived.Deep.RegionWith
namespace Go.Proofs.Ytleenkdlnmoepaa
open Go.RowKit

abbrev I (p : Addr) : Value := .iface 110 (.pointer (some p))

set_option maxRecDepth 20000 in
set_option maxHeartbeats 1000000 in
theorem can_all (p : Addr) (w : World) : Calls Try.prog 43 #[.agg #[I p, I p, I p, I p, I p]] w fun e w' => e = .returned (.int .u8 15) ∧ Below w.heap.size w w' := by
  go_enter Try.func43, Try.ntmps43
  go_wp2
  go_ret
  exact ⟨rfl, below_al w _⟩

set_option maxRecDepth 20000 in
set_option maxHeartbeats 1000000 in
theorem can_none (p : Addr) (w : World) : Calls Try.prog 43 #[.agg #[I p, .nilIface, .nilIface, .nilIface, .nilIface]] w fun e w' => e = .returned (.int .u8 0) ∧ Below w.heap.size w w' := by
  go_enter Try.func43, Try.ntmps43
  go_wp2
  go_ret
  exact ⟨rfl, below_al w _⟩


theorem five_cells {w w1 : World} {a b c d e : Value} {T : TypeId} (hb : Below (w.alloc (Obj.cells #[a, b, c, d, e] T)).heap.size (w.alloc (Obj.cells #[a, b, c, d, e] T)) w1) :
    w1.cell? ⟨w.heap.size, 0, none⟩ = some a ∧ w1.cell? ⟨w.heap.size, 1, none⟩ = some b ∧ w1.cell? ⟨w.heap.size, 2, none⟩ = some c ∧ w1.cell? ⟨w.heap.size, 3, none⟩ = some d ∧ w1.cell? ⟨w.heap.size, 4, none⟩ = some e := by
  have hc := fun o => hb.cell (p := ⟨w.heap.size, o, none⟩) (by simp)
  refine ⟨(hc 0).trans (by go_simp), (hc 1).trans (by go_simp), (hc 2).trans (by go_simp), (hc 3).trans (by go_simp), (hc 4).trans (by go_simp)⟩

set_option maxRecDepth 20000 in
set_option maxHeartbeats 1000000 in
theorem together_all (p : Addr) (w : World) : Calls Try.prog 36 #[.agg #[I p, I p, I p, I p, I p]] w fun e w' => ∃ fb, e = .returned (.iface 175 (.pointer (some ⟨fb, 0, none⟩))) ∧ w.heap.size < fb ∧ w'.heap[fb]? = some (.cells #[I p, I p, I p, I p, I p] 176 (0, 0)) ∧ Below w.heap.size w w' := by
  have hA := aside (below_al w (.cells #[I p, I p, I p, I p, I p] 117))
  go_enter Try.func36, Try.ntmps36
  go_wp2_with fail
  refine (can_all p _).mono ?_
  rintro e w1 ⟨rfl, hb1⟩
  obtain ⟨c0, c1, c2, c3, c4⟩ := five_cells hb1
  have HB := aside hb1
  have hs := hb1.size
  rw [World.size_alloc] at hs
  clear hb1
  go_wp2
  go_ret
  exact ⟨_, rfl, hs, heap_alloc_new w1 _, below_tr (below_tr hA.out HB.out) (below_al w1 _)⟩

set_option maxRecDepth 20000 in
set_option maxHeartbeats 1000000 in
theorem together_none (p : Addr) (w : World) : Calls Try.prog 36 #[.agg #[I p, .nilIface, .nilIface, .nilIface, .nilIface]] w fun e w' => ∃ fb, e = .returned (.iface 130 (.pointer (some ⟨fb, 0, none⟩))) ∧ w.heap.size < fb ∧ w'.heap[fb]? = some (.cells #[I p] 132 (0, 0)) ∧ Below w.heap.size w w' := by
  have hA := aside (below_al w (.cells #[I p, .nilIface, .nilIface, .nilIface, .nilIface] 117))
  go_enter Try.func36, Try.ntmps36
  go_wp2_with fail
  refine (can_none p _).mono ?_
  rintro e w1 ⟨rfl, hb1⟩
  obtain ⟨c0, c1, c2, c3, c4⟩ := five_cells hb1
  have HB := aside hb1
  have hs := hb1.size
  rw [World.size_alloc] at hs
  clear hb1
  go_wp2
  go_ret
  exact ⟨_, rfl, hs, heap_alloc_new w1 _, below_tr (below_tr hA.out HB.out) (below_al w1 _)⟩

/-- A handle: its five parts and its file. -/
def Han (w : World) (hb : Nat) (a b c d e f : Value) : Prop := w.heap[hb]? = some (.cells #[a, b, c, d, e, f] 119 (0, 0))

set_option maxRecDepth 20000 in
set_option maxHeartbeats 2000000 in
theorem make_all (p : Addr) (w : World) : Calls Try.prog 27 #[I p, I p, I p, I p, I p] w fun e w' => ∃ hb fb, e = .returned (.pointer (some ⟨hb, 0, none⟩)) ∧ w.heap.size ≤ hb ∧ w.heap.size ≤ fb ∧ Han w' hb (I p) (I p) (I p) (I p) (I p) (.iface 175 (.pointer (some ⟨fb, 0, none⟩))) ∧ w'.heap[fb]? = some (.cells #[I p, I p, I p, I p, I p] 176 (0, 0)) ∧ Below w.heap.size w w' := by
  go_enter Try.func27, Try.ntmps27
  go_wp2_with fail
  go_region_with (go_at_call 36; refine (together_all p _).mono ?_; rintro e w1 ⟨fb, rfl, hs, hrow, hb1⟩; have hc := fun o => hb1.cell (p := ⟨w.heap.size, o, none⟩) (by simp); have c0 : w1.cell? ⟨w.heap.size, 0, none⟩ = some (I p) := (hc 0).trans (by go_simp); have c1 : w1.cell? ⟨w.heap.size, 1, none⟩ = some (I p) := (hc 1).trans (by go_simp); have c2 : w1.cell? ⟨w.heap.size, 2, none⟩ = some (I p) := (hc 2).trans (by go_simp); have c3 : w1.cell? ⟨w.heap.size, 3, none⟩ = some (I p) := (hc 3).trans (by go_simp); have c4 : w1.cell? ⟨w.heap.size, 4, none⟩ = some (I p) := (hc 4).trans (by go_simp); have HB := aside hb1; have HR := aside hrow; have HS := aside hs; clear hb1 hrow hc hs)
  all_goals
    go_wp2
    go_ret
    have hs := HS.out
    have hfb : fb < w1.heap.size := (Array.getElem?_eq_some_iff.1 HR.out).1
    simp only [World.drew, World.size_alloc] at hs
    have hW := below_tr (below_tr (below_al w _) (below_dr _)) HB.out
    refine ⟨_, fb, rfl, hW.size, by omega, heap_alloc_new w1 _, ?_, below_tr hW (below_al w1 _)⟩
    rw [(below_al w1 _).block fb hfb]
    exact HR.out

set_option maxRecDepth 20000 in
set_option maxHeartbeats 2000000 in
theorem make_none (p : Addr) (w : World) : Calls Try.prog 27 #[I p, .nilIface, .nilIface, .nilIface, .nilIface] w fun e w' => ∃ hb fb, e = .returned (.pointer (some ⟨hb, 0, none⟩)) ∧ w.heap.size ≤ hb ∧ w.heap.size ≤ fb ∧ Han w' hb (I p) .nilIface .nilIface .nilIface .nilIface (.iface 130 (.pointer (some ⟨fb, 0, none⟩))) ∧ w'.heap[fb]? = some (.cells #[I p] 132 (0, 0)) ∧ Below w.heap.size w w' := by
  go_enter Try.func27, Try.ntmps27
  go_wp2_with fail
  go_region_with (go_at_call 36; refine (together_none p _).mono ?_; rintro e w1 ⟨fb, rfl, hs, hrow, hb1⟩; have hc := fun o => hb1.cell (p := ⟨w.heap.size, o, none⟩) (by simp); have c0 : w1.cell? ⟨w.heap.size, 0, none⟩ = some (I p) := (hc 0).trans (by go_simp); have c1 : w1.cell? ⟨w.heap.size, 1, none⟩ = some .nilIface := (hc 1).trans (by go_simp); have c2 : w1.cell? ⟨w.heap.size, 2, none⟩ = some .nilIface := (hc 2).trans (by go_simp); have c3 : w1.cell? ⟨w.heap.size, 3, none⟩ = some .nilIface := (hc 3).trans (by go_simp); have c4 : w1.cell? ⟨w.heap.size, 4, none⟩ = some .nilIface := (hc 4).trans (by go_simp); have HB := aside hb1; have HR := aside hrow; have HS := aside hs; clear hb1 hrow hc hs)
  all_goals
    go_wp2
    go_ret
    have hs := HS.out
    have hfb : fb < w1.heap.size := (Array.getElem?_eq_some_iff.1 HR.out).1
    simp only [World.drew, World.size_alloc] at hs
    have hW := below_tr (below_tr (below_al w _) (below_dr _)) HB.out
    refine ⟨_, fb, rfl, hW.size, by omega, heap_alloc_new w1 _, ?_, below_tr hW (below_al w1 _)⟩
    rw [(below_al w1 _).block fb hfb]
    exact HR.out


end Go.Proofs.Ytleenkdlnmoepaa
