/- What the rows share: the listed variables, the world's shape, bytes opened. -/
import Derived.Test.YtbnaegoahdcejaaGreatDoorRows
import Derived.Test.YtbnaegoahdcejaaGreatDoorCards
import Derived.Test.YtbnaegoahdcejaaGreatDoorTie
import Derived.Test.YtbnaegoahdcejaaGreatDoorGG
import Derived.ProofKit
import Derived.OpenShut
import Derived.ShutString
import Derived.ChangeOld
import Derived.ChangeMaps5
import Derived.Below
import Derived.SizedLaws
import Derived.Lib.SmallJoins
import Derived.LaidMore
import Derived.Lay
import Derived.SevenTiedAt
import Derived.Stop.Joined
import Derived.JoinedCond
import Derived.Deep.DeepHandedRow
import Derived.Shelf.Vars
namespace Go.Proofs.YtbnaegoahdcejaaGreatDoor
open Go.ChangeShapes Go.WideShapes Go.ChangeAt Go.RowKit Go.Joins

theorem ownT : ownKnob Tryz.prog.godebug = none := by kernel_rfl
theorem laidOutT : laidOutB Tryz.prog = true := by kernel_rfl
theorem reach_le : reachBytes ≤ 140737488351232 := by decide
/-- The variables that the rows list. -/
abbrev laidT : List (String × DataW Unit) := Rows.treeNilRow.laid
theorem laid_met (os : Os) (args : Array Value) : laidMetH Tryz.prog laidT ((World.laidAll Tryz.prog os laidT).forCall (fun _ _ => 0) ⟨#[], args, []⟩).memory := by
  rw [MakeChecks.laidMetH_plain _ _ _ (by kernel_rfl)]
  exact laidMet_laidAll _ (by kernel_rfl) (by kernel_rfl)
theorem laid_plain (os : Os) (args : Array Value) : laidMet Tryz.prog laidT ((World.laidAll Tryz.prog os laidT).forCall (fun _ _ => 0) ⟨#[], args, []⟩).memory := laidMet_laidAll _ (by kernel_rfl) (by kernel_rfl)
theorem mxl_of {W : World} (h : W.ShapedOpen Tryz.prog) : Mxl W :=
  cell_of_shapedOpen_int (P := Tryz.prog) (g := lays146_ren.g 1) (t := 3) (zero := #[.int .i64 0]) h (of_decide_eq_true (by kernel_rfl)) (by kernel_rfl) rfl (by kernel_rfl) (by kernel_rfl) Tryz.underlying3
end Go.Proofs.YtbnaegoahdcejaaGreatDoor
