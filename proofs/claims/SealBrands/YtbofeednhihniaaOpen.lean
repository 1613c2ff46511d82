/- Arguments opened: a maker, strings, numbers. -/
import Derived.Test.YtbofeednhihniaaRows
import Derived.Test.YtbofeednhihniaaMade
import Derived.ProofKit
import Derived.OpenShut
import Derived.ShutString
import Derived.ChangeOld
import Derived.ChangeMaps5
import Derived.Below
import Derived.SizedLaws
import Derived.Lib.SmallJoins
namespace Go.Proofs.Ytbofeednhihniaa
open Go.ChangeShapes Go.WideShapes Go.ChangeAt Go.RowKit Go.Joins

theorem cells34 : Try.prog.cellsOf 34 = 2 := by kernel_rfl
theorem ownT : ownKnob Try.prog.godebug = none := by kernel_rfl
theorem laidOutT : laidOutB Try.prog = true := by kernel_rfl
theorem reach_le : reachBytes ≤ 140737488351232 := by decide

set_option maxRecDepth 100000 in
/-- A maker, opened. -/
theorem open_maker {H : Type} {enc : TypeId × Value → H} {W : World} {base : Nat} {r : Reach} {v : Value} {d : DataW H} {p : List MemPlace} (hv : Value.okWide Try.prog W r base 34 v) (h : DataW.Trod enc Try.prog W 0 (fun _ => true) true 34 v d p) :
    ∃ (k : Int) (s : ByteArray), v = .agg #[.int .i64 k, .string s] := by
  obtain ⟨v0, v1, y0, y1, n, rfl, rfl, rfl, g0, g1⟩ := open_agg2 Try.underlying34 (by kernel_rfl) cells34 hv h
  obtain ⟨a, e0, -, hw0⟩ := DataW.trod_int Try.underlying3 g0
  obtain ⟨s, e1, -, -⟩ := DataW.trod_string Try.underlying9 g1
  simp only [List.cons.injEq, and_true] at e0 e1
  subst e0 e1
  exact ⟨a, s, rfl⟩
end Go.Proofs.Ytbofeednhihniaa
