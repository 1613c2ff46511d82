/- Handles over one part of whatever type: what face.Make lays, for all five parts. -/
import Derived.Test.YtamngnndodjcoabGreatMoo2
namespace Go.Proofs.YtamngnndodjcoabGreat
open Go.RowKit

def Han (w : World) (hb : Nat) (a b c d e f : Value) : Prop := w.heap[hb]? = some (.cells #[a, b, c, d, e, f] 120 (0, 0))
abbrev J (t : TypeId) (p : Addr) : Value := .iface t (.pointer (some p))

set_option maxRecDepth 20000 in
set_option maxHeartbeats 1000000 in
theorem can_allT (t : TypeId) (p : Addr) (w : World) : Calls Tryz.prog 46 #[.agg #[J t p, J t p, J t p, J t p, J t p]] w fun e w' => e = .returned (.int .u8 15) ∧ Below w.heap.size w w' := by
  go_enter Tryz.func46, Tryz.ntmps46
  go_wp2
  go_ret
  exact ⟨rfl, below_al w _⟩

set_option maxRecDepth 20000 in
set_option maxHeartbeats 1000000 in
theorem together_allT (t : TypeId) (p : Addr) (w : World) : Calls Tryz.prog 39 #[.agg #[J t p, J t p, J t p, J t p, J t p]] w fun e w' => ∃ fb, e = .returned (.iface 175 (.pointer (some ⟨fb, 0, none⟩))) ∧ w.heap.size < fb ∧ w'.heap[fb]? = some (.cells #[J t p, J t p, J t p, J t p, J t p] 177 (0, 0)) ∧ Below w.heap.size w w' := by
  have hA := aside (below_al w (.cells #[J t p, J t p, J t p, J t p, J t p] 117))
  go_enter Tryz.func39, Tryz.ntmps39
  go_wp2_with fail
  refine (can_allT t p _).mono ?_
  rintro e w1 ⟨rfl, hb1⟩
  obtain ⟨c0, c1, c2, c3, c4⟩ := five_cells hb1
  have HB := aside hb1
  have hs := hb1.size
  rw [World.size_alloc] at hs
  clear hb1
  go_wp2
  go_ret
  exact ⟨_, rfl, hs, heap_alloc_new w1 _, below_tr (below_tr hA.out HB.out) (below_al w1 _)⟩

set_option maxRecDepth 20000 in
set_option maxHeartbeats 2000000 in
theorem make_allT (t : TypeId) (p : Addr) (w : World) : Calls Tryz.prog 29 #[J t p, J t p, J t p, J t p, J t p] w fun e w' => ∃ hb fb, e = .returned (.pointer (some ⟨hb, 0, none⟩)) ∧ w.heap.size ≤ hb ∧ w.heap.size ≤ fb ∧ Han w' hb (J t p) (J t p) (J t p) (J t p) (J t p) (.iface 175 (.pointer (some ⟨fb, 0, none⟩))) ∧ w'.heap[fb]? = some (.cells #[J t p, J t p, J t p, J t p, J t p] 177 (0, 0)) ∧ Below w.heap.size w w' := by
  go_enter Tryz.func29, Tryz.ntmps29
  go_wp2_with fail
  go_region_with (go_at_call 39; refine (together_allT t p _).mono ?_; rintro e w1 ⟨fb, rfl, hs, hrow, hb1⟩; have hc := fun o => hb1.cell (p := ⟨w.heap.size, o, none⟩) (by simp); have c0 : w1.cell? ⟨w.heap.size, 0, none⟩ = some (J t p) := (hc 0).trans (by go_simp); have c1 : w1.cell? ⟨w.heap.size, 1, none⟩ = some (J t p) := (hc 1).trans (by go_simp); have c2 : w1.cell? ⟨w.heap.size, 2, none⟩ = some (J t p) := (hc 2).trans (by go_simp); have c3 : w1.cell? ⟨w.heap.size, 3, none⟩ = some (J t p) := (hc 3).trans (by go_simp); have c4 : w1.cell? ⟨w.heap.size, 4, none⟩ = some (J t p) := (hc 4).trans (by go_simp); have HB := aside hb1; have HR := aside hrow; have HS := aside hs; clear hb1 hrow hc hs)
  all_goals
    go_wp2
    go_ret
    have hs := HS.out
    have hfb : fb < w1.heap.size := (Array.getElem?_eq_some_iff.1 HR.out).1
    simp only [World.drew, World.size_alloc] at hs
    have hW := below_tr (below_tr (below_al w _) (below_dr _)) HB.out
    refine ⟨_, fb, rfl, hW.size, by omega, heap_alloc_new w1 _, ?_, below_tr hW (below_al w1 _)⟩
    rw [(below_al w1 _).block fb hfb]
    exact HR.out

/-- Of a handle with all parts, one value of type t. -/
structure AllT (t : TypeId) (w : World) (hb fb : Nat) (p : Addr) : Prop where
  han : Han w hb (J t p) (J t p) (J t p) (J t p) (J t p) (.iface 175 (.pointer (some ⟨fb, 0, none⟩)))
  fil : w.heap[fb]? = some (.cells #[J t p, J t p, J t p, J t p, J t p] 177 (0, 0))
theorem AllT.below {t : TypeId} {w w' : World} {hb fb : Nat} {p : Addr} (h : AllT t w hb fb p) (k : Below w.heap.size w w') : AllT t w' hb fb p :=
  ⟨(k.block hb (Array.getElem?_eq_some_iff.1 h.han).1).trans h.han, (k.block fb (Array.getElem?_eq_some_iff.1 h.fil).1).trans h.fil⟩
theorem AllT.upd {t : TypeId} {w w' : World} {hb fb : Nat} {m : Addr} {F : Nat → Prop} (h : AllT t w hb fb m) (k : Upd F w w') (h1 : ¬ F hb) (h2 : ¬ F fb) : AllT t w' hb fb m :=
  ⟨(k.block hb (Array.getElem?_eq_some_iff.1 h.han).1 h1).trans h.han, (k.block fb (Array.getElem?_eq_some_iff.1 h.fil).1 h2).trans h.fil⟩
theorem AllT.c0 {t : TypeId} {w : World} {hb fb : Nat} {m : Addr} (h : AllT t w hb fb m) : w.cell? ⟨fb, 0, none⟩ = some (J t m) := by
  rw [cell_of_row w fb _ _ _ _ h.fil]; rfl

end Go.Proofs.YtamngnndodjcoabGreat
