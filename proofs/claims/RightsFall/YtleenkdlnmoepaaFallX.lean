/- RightsFall: the book, the two rows, the step's box and what Below told, beside each other. -/
import Derived.Test.YtleenkdlnmoepaaBeyond
namespace Go.Proofs.Ytleenkdlnmoepaa
open Go.RowKit

structure FX (w0 w : World) (b : Bok) (n : Nat) (Of : List Int) (Al : List Bool) (oa : Option Addr) (oc : Nat) (aa : Option Addr) (ac : Nat) (bx : Nat) (bc : Array Value) (dv : Value) (D : List Int) : Prop where
  fr : FR w0 w b n Of Al oa oc aa ac
  box : w.heap[bx]? = some (.cells bc 45 (0, 0))
  dd : OwnI w dv D
section
variable {w0 w w' : World} {b b' : Bok} {n : Nat} {Of : List Int} {Al : List Bool} {oa aa : Option Addr} {oc ac bx : Nat} {bc : Array Value} {dv : Value} {D : List Int}
theorem FX.next (h : FX w0 w b n Of Al oa oc aa ac bx bc dv D) (k : NxB w w' b b') : FX w0 w' b' n Of Al oa oc aa ac bx bc dv D :=
  ⟨h.fr.next k, (k.upd.block _ (Array.getElem?_eq_some_iff.1 h.box).1 (fun hf => by
    rcases hf with e | e
    · have h1 := h.box; rw [e, h.fr.st.bk.blk] at h1; simp at h1
    · obtain ⟨es, c, h2, -⟩ := h.fr.st.bk.map
      have h1 := h.box; rw [e, h2] at h1; simp at h1)).trans h.box, h.dd.upd k.upd (row_book h.dd h.fr.st.bk (by decide))⟩
theorem FX.cell (h : FX w0 w b n Of Al oa oc aa ac bx bc dv D) (j : Nat) : w.cell? ⟨bx, j, none⟩ = bc[j]? := cell_of_row w bx j _ _ _ h.box
theorem FX.atA (h : FX w0 w b n Of Al oa oc aa ac bx bc dv D) {i : Nat} {x : Bool} (hx : Al[i]? = some x) : ∃ g, aa = some ⟨g, 0, none⟩ ∧ w.cell? ⟨g, i, none⟩ = some (.bool x) ∧ w.frozen? ⟨g, i, none⟩ = false ∧ FX w0 (w.setCell ⟨g, i, none⟩ (.bool false)) b n Of (Al.set i false) oa oc aa ac bx bc dv D := by
  obtain ⟨g, rfl, h1, h2, h3⟩ := h.fr.atA hx
  have hu : Upd (fun k => k = g) w (w.setCell ⟨g, i, none⟩ (.bool false)) := Upd.setCell (F := fun k => k = g) (p := ⟨g, i, none⟩) rfl _
  refine ⟨g, rfl, h1, h2, h3, ?_, h.dd.upd hu (fun k hk e => rows_ne h.dd h.fr.ob k hk (by subst e; rfl))⟩
  refine (hu.block _ (Array.getElem?_eq_some_iff.1 h.box).1 (fun e => ?_)).trans h.box
  obtain ⟨cur, hg⟩ := row_ty h.fr.ob (k := g) rfl
  have h4 := h.box
  rw [e, hg] at h4
  simp at h4
end
theorem offs_cons (Al : List Bool) (x : Int) (l : List Int) : offs Al (x :: l) = offs (Al.set x.toNat false) l := rfl
theorem offs_one (Al : List Bool) (x : Int) : offs Al [x] = Al.set x.toNat false := rfl
/-- In the midst of Back: the next one is still there. -/
theorem next_there {L : List Gr} {made : Nat} {Of : List Int} {Al : List Bool} (hI : BInv L made) (h : FI L made Of Al) {a : Int} {q : Gr} (hq : lk L a = some q) {k : Nat} {x : Int} (hx : (belowL L made a)[k]? = some x) :
    a < x ∧ x < made ∧ (offs Al (a :: (belowL L made a).take k))[x.toNat]? = some true ∧ (offs Al (a :: (belowL L made a).take k)).set x.toNat false = offs Al (a :: (belowL L made a).take (k + 1)) := by
  obtain ⟨h1, h2, y, hy⟩ := below_mem hI (List.mem_of_getElem? hx)
  have ha := lk_lt hI hq
  refine ⟨h1, h2, ?_, ?_⟩
  · have hpos : ∀ z ∈ a :: (belowL L made a).take k, 0 ≤ z := fun z hz => by
      rcases List.mem_cons.1 hz with rfl | hz
      · exact ha.1
      · have := (below_mem hI (List.mem_of_mem_take hz)).1; omega
    rw [offs_at _ _ hpos _ (by rw [h.la]; omega), if_neg, h.al _ (by omega), show ((x.toNat : Nat) : Int) = x by omega, hy]
    · rfl
    · rw [show ((x.toNat : Nat) : Int) = x by omega]
      have hn := gone_nodup L made a hI
      rw [List.nodup_cons] at hn
      simp only [List.mem_cons, not_or]
      refine ⟨by omega, fun hm => ?_⟩
      exact not_take hn.2 hx hm
  · rw [take_snoc hx, ← List.cons_append, offs_snoc]
end Go.Proofs.Ytleenkdlnmoepaa
