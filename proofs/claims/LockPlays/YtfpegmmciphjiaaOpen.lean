/- Arguments opened: a lock, numbers. -/
import Derived.Test.YtfpegmmciphjiaaRows
import Derived.Test.YtfpegmmciphjiaaMeet
import Derived.ProofKit
import Derived.OpenShut
import Derived.ShutString
import Derived.ChangeOld
import Derived.Below
import Derived.SizedLaws
import Derived.Lib.SmallJoins
namespace Go.Proofs.Ytfpegmmciphjiaa
open Go.ChangeShapes Go.WideShapes Go.ChangeAt Go.RowKit Go.Joins

theorem cells2 : Try.prog.cellsOf 2 = 1 := by kernel_rfl
theorem cells3 : Try.prog.cellsOf 3 = 1 := by kernel_rfl
theorem cells4 : Try.prog.cellsOf 4 = 1 := by kernel_rfl
theorem cells29 : Try.prog.cellsOf 29 = 4 := by kernel_rfl
theorem bytes29 : Try.prog.bytesOf 29 = 32 := by kernel_rfl
theorem ownT : ownKnob Try.prog.godebug = none := by kernel_rfl
theorem laidOutT : laidOutB Try.prog = true := by kernel_rfl
theorem reach_le : reachBytes ≤ 140737488351232 := by decide

theorem addr_plain {w : World} {a : Addr} {v : Value} (h : w.cell? a = some v) : a = ⟨a.block, a.off, none⟩ := by
  obtain ⟨b, o, s⟩ := a
  unfold World.cell? at h
  cases s with
  | none => rfl
  | some x => split at h <;> simp at h

/-- A lock, opened. -/
theorem open_lock {H : Type} {enc : TypeId × Value → H} {W : World} {base : Nat} {r : Reach} {v : Value} {d : DataW H} {p : List MemPlace} (hv : Value.okWide Try.prog W r base 29 v) (h : DataW.Trod enc Try.prog W 0 (fun _ => true) true 29 v d p) :
    ∃ l : Lk, v = l.val ∧ InR l := by
  obtain ⟨v0, v1, v2, v3, y0, y1, y2, y3, n, rfl, rfl, rfl, g0, g1, g2, g3⟩ := open_agg4 Try.underlying29 (by kernel_rfl) cells29 hv h
  obtain ⟨a, e0, -, hw0⟩ := DataW.trod_int Try.underlying3 g0
  obtain ⟨b, e1, -, hw1⟩ := DataW.trod_int Try.underlying2 g1
  obtain ⟨c, e2, -, hw2⟩ := DataW.trod_int Try.underlying2 g2
  obtain ⟨s, e3, -⟩ := DataW.trod_bool Try.underlying4 g3
  simp only [List.cons.injEq, and_true] at e0 e1 e2 e3
  subst e0 e1 e2 e3
  have b0 := bounds_i64 hw0
  have b1 := bounds_i64 hw1
  have b2 := bounds_i64 hw2
  exact ⟨⟨a, b, c, s⟩, rfl, ⟨b0.1, b0.2, b1.1, b1.2, b2.1, b2.2⟩⟩
end Go.Proofs.Ytfpegmmciphjiaa
