/- made: a node of either side out of a spec. -/
import Derived.Test.YtknjclekfmmfeabGreatDoorQLwb
namespace Go.Proofs.YtknjclekfmmfeabGreatDoor
open Go.RowKit Go.ChangeMaps

set_option maxRecDepth 20000 in
set_option maxHeartbeats 400000 in
theorem white_two (w : World) : Calls Tryz.prog 53 #[] w fun e w' => ∃ nb k, e = .returned (Pt nb) ∧ w.heap.size ≤ nb ∧ w.heap.size ≤ k ∧ Nd w' nb 88 k ∧ Below w.heap.size w w' := by
  go_enter Tryz.func53, Tryz.ntmps53
  go_wp2
  go_ret
  refine ⟨w.heap.size + 1, w.heap.size, by simp, by omega, Nat.le_refl _, ?_, below_tr (below_al w _) (below_al _ _)⟩
  unfold Nd; exact heap_alloc2_new w _ _
/-- A spec: where, what else, its name, its kind, its text. -/
structure Spx where
  i : Int
  o : Int
  nm : B
  k : Int
  to : B
def Spx.val (s : Spx) : Value := .agg #[.int .i64 s.i, .int .i64 s.o, .string (ba s.nm), .int .i8 s.k, .string (ba s.to)]
/-- What made answers. -/
def MadeP (lo : Nat) (S : List Ne) (k : Int) (w : World) (r : Ending) (w' : World) : Prop :=
  Below w.heap.size w w' ∧ ∃ v1 v2 ok, r = .returned (.tuple #[v1, v2, .bool ok]) ∧ (ok = true → (k ≠ 5 ∧ ∃ e, Fresh lo w' S k e ∧ v1 = Pt e.nb ∧ v2 = Pt e.rb) ∨ (k = 5 ∧ ∃ (j : Nat) (e : Ne), S[j]? = some e ∧ v1 = Pt e.nb ∧ v2 = Pt e.rb))
end Go.Proofs.YtknjclekfmmfeabGreatDoor
