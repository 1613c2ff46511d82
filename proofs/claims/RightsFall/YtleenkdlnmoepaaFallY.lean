/- RightsFall: one grant more: the two rows grow. -/
import Derived.Test.YtleenkdlnmoepaaFallX
namespace Go.Proofs.Ytleenkdlnmoepaa
open Go.RowKit

/-- The first row has grown, the second one not yet. -/
structure FH (w0 w : World) (b : Bok) (n : Nat) (Of : List Int) (Al : List Bool) (oa : Option Addr) (oc : Nat) (aa : Option Addr) (ac : Nat) : Prop where
  st : St w0 w b
  oo : OwnI w (.slice oa (n + 1) oc) Of
  ob : OwnB w (.slice aa n ac) Al
  no : ∀ k, (Value.slice oa (n + 1) oc).ownBlock = some k → w0.heap.size ≤ k
  nb : ∀ k, (Value.slice aa n ac).ownBlock = some k → w0.heap.size ≤ k
section
variable {w0 w w' V : World} {b : Bok} {n : Nat} {Of : List Int} {Al : List Bool} {oa aa a' : Option Addr} {oc ac c' : Nat} {x : Int} {y : Bool}
theorem St.upd {F : Nat → Prop} (h : St w0 w b) (hu : Upd F w w') (h0 : ∀ k, F k → w0.heap.size ≤ k) (hF : ∀ k, b.F k → ¬ F k) : St w0 w' b :=
  ⟨h.bl.trans (hu.below h.bl.size h0), h.bk.upd hu hF, h.nw⟩
theorem push_o (h : FR w0 w b n Of Al oa oc aa ac) (hV : Below w.heap.size w V) (ho : w'.ownsRow 0 3 1 (.slice a' (n + 1) c') (n + 1) (nums Of ++ [.int .i64 x])) (hu : Upd (fun k => (Value.slice oa n oc).ownBlock = some k) V w') (hf : (Value.slice a' (n + 1) c').ownBlock = (Value.slice oa n oc).ownBlock ∨ (Value.slice a' (n + 1) c').ownBlock = some V.heap.size) :
    FH w0 w' b n (Of ++ [x]) Al a' c' aa ac := by
  have g := h.below hV
  refine ⟨g.st.upd hu g.no (fun k hk hk2 => row_book g.oo g.st.bk (by decide) k hk2 hk), ownI_push g.lens.1 ho, g.ob.upd hu (fun k hk hk2 => rows_ne g.oo g.ob k hk2 hk), fun k hk => ?_, g.nb⟩
  rcases hf with e | e
  · exact g.no k (by rw [← e]; exact hk)
  · rw [hk] at e; simp only [Option.some.injEq] at e; rw [e]; exact g.st.bl.size
theorem FH.below (h : FH w0 w b n Of Al oa oc aa ac) (k : Below w.heap.size w w') : FH w0 w' b n Of Al oa oc aa ac := ⟨h.st.below k, h.oo.below k, h.ob.below k, h.no, h.nb⟩
theorem ownB_len {w : World} {a : Option Addr} {n c : Nat} {l : List Bool} (h : OwnB w (.slice a n c) l) : n = l.length := by
  rcases h.2 with ⟨he, hz⟩ | ⟨g, cap, cur, he, -⟩
  · simp only [Value.slice.injEq] at he; omega
  · simp only [Value.slice.injEq] at he; exact he.2.1
theorem push_a (h : FH w0 w b n Of Al oa oc aa ac) (hV : Below w.heap.size w V) (ho : w'.ownsRow 0 4 1 (.slice a' (n + 1) c') (n + 1) (bools Al ++ [.bool y])) (hu : Upd (fun k => (Value.slice aa n ac).ownBlock = some k) V w') (hf : (Value.slice a' (n + 1) c').ownBlock = (Value.slice aa n ac).ownBlock ∨ (Value.slice a' (n + 1) c').ownBlock = some V.heap.size) :
    FR w0 w' b (n + 1) Of (Al ++ [y]) oa oc a' c' := by
  have g := h.below hV
  refine ⟨g.st.upd hu g.nb (fun k hk hk2 => row_book g.ob g.st.bk (by decide) k hk2 hk), g.oo.upd hu (fun k hk hk2 => rows_ne g.oo g.ob k hk hk2), ?_, g.no, fun k hk => ?_⟩
  · unfold OwnB
    rw [List.length_append, show bools (Al ++ [y]) = bools Al ++ [.bool y] by simp [bools], ← ownB_len g.ob]
    exact ho
  · rcases hf with e | e
    · exact g.nb k (by rw [← e]; exact hk)
    · rw [hk] at e; simp only [Option.some.injEq] at e; rw [e]; exact g.st.bl.size
theorem FR.rowO (h : FR w0 w b n Of Al oa oc aa ac) : w.ownsRow 0 3 1 (.slice oa n oc) n (nums Of) := by
  have h1 := h.oo; unfold OwnI at h1; rw [← h.lens.1] at h1; exact h1
theorem FH.rowA (h : FH w0 w b n Of Al oa oc aa ac) : w.ownsRow 0 4 1 (.slice aa n ac) n (bools Al) := by
  have h1 := h.ob; unfold OwnB at h1; rw [← ownB_len h.ob] at h1; exact h1
end
/-- What Give has done where it was taken. -/
theorem give_took {L : List Gr} {made : Nat} {x : Int} {r : Nat} (h : giveE L made x r = 0) : (∃ g, lk L x = some g) ∧ giveN L made x r = made ∧ giveM L made x r = made + 1 ∧ giveL L made x r = L ++ [⟨made, r, x.toNat⟩] := by
  refine ⟨?_, by unfold giveN; rw [if_pos h], by unfold giveM; rw [if_pos h], by unfold giveL; rw [if_pos h]⟩
  unfold giveE at h
  split at h
  · cases hl : lk L x with
    | none => rw [hl] at h; simp at h
    | some g => exact ⟨g, rfl⟩
  · simp at h
theorem give_not {L : List Gr} {made : Nat} {x : Int} {r : Nat} (h : ¬ giveE L made x r = 0) : giveN L made x r = 0 ∧ giveM L made x r = made ∧ giveL L made x r = L :=
  ⟨by unfold giveN; rw [if_neg h], by unfold giveM; rw [if_neg h], by unfold giveL; rw [if_neg h]⟩
end Go.Proofs.Ytleenkdlnmoepaa
