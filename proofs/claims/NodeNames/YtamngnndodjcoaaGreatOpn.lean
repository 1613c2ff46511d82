/- What the rows share. -/
import Derived.Test.YtamngnndodjcoaaGreatRows
import Derived.Test.YtamngnndodjcoaaGreatWak
import Derived.ProofKit
import Derived.OpenShut
import Derived.ShutString
import Derived.ChangeOld
import Derived.ChangeMaps5
import Derived.Below
import Derived.SizedLaws
import Derived.Lib.SmallJoins
namespace Go.Proofs.YtamngnndodjcoaaGreat
open Go.ChangeShapes Go.WideShapes Go.ChangeAt Go.RowKit Go.Joins

theorem ownT : ownKnob Tryz.prog.godebug = none := by kernel_rfl
theorem laidOutT : laidOutB Tryz.prog = true := by kernel_rfl
theorem reach_le : reachBytes ≤ 140737488351232 := by decide
theorem cells5 : Tryz.prog.cellsOf 5 = 1 := by kernel_rfl
theorem bytes5 : Tryz.prog.bytesOf 5 = 1 := by kernel_rfl
/-- Bytes, opened. -/
theorem open_bs {H : Type} {enc : TypeId × Value → H} {W : World} {fuel : Nat} {v : Value} {x : DataW H × List MemPlace} (h : DataW.trod enc Tryz.prog W 0 (fun _ => true) true fuel 52 [v] = some x) (hw : ∀ n ∈ x.1.weights Tryz.prog 52, n ≤ reachBytes) :
    ∃ (a : Option Addr) (c : Nat) (l : List UInt8), v = .slice a l.length c ∧ BsAt W a l ∧ l.length ≤ c ∧ c ≤ 140737488351232 := by
  rcases open_ints Tryz.underlying52 Tryz.underlying5 cells5 h with ⟨hc, rfl⟩ | ⟨a, len, cap, zs, hc, -, hl, hm, hzl, rfl, hcell, hwf⟩
  · simp only [List.cons.injEq, and_true] at hc
    subst hc
    exact ⟨none, 0, [], rfl, fun h => absurd rfl h, by simp, by decide⟩
  · simp only [List.cons.injEq, and_true] at hc
    subst hc
    simp only [if_true] at hzl
    have hcap : cap ≤ reachBytes := by
      have := hw ((lits (H := H) .u8 (zs.take len)).length + (lits (H := H) .u8 (zs.drop len)).length) (by simp [DataW.weights, Tryz.underlying52, bytes5])
      simp only [lits, List.length_map, List.length_take, List.length_drop] at this
      omega
    have hbl : ((zs.take len).map fun z => UInt8.ofNat z.toNat).length = len := by simp; omega
    refine ⟨some a, cap, (zs.take len).map fun z => UInt8.ofNat z.toNat, by rw [hbl], fun _ => ⟨a, rfl, fun j v hj => ?_⟩, by rw [hbl]; exact hl, Nat.le_trans hcap reach_le⟩
    simp only [bcells, List.getElem?_map, Option.map_map, Option.map_eq_some_iff] at hj
    obtain ⟨z, hz, rfl⟩ := hj
    rw [List.getElem?_take] at hz
    split at hz
    · rename_i hjl
      have hjz : j < zs.length := (List.getElem?_eq_some_iff.1 hz).1
      rw [hcell j hjz]
      have hzm : z ∈ zs := List.mem_of_getElem? hz
      have hb := bounds_u8 (hwf z hzm)
      have e1 : zs.getD j 0 = z := by rw [List.getD_eq_getElem?_getD, hz]; rfl
      rw [e1]
      have e2 : ((UInt8.ofNat z.toNat).toNat : Int) = z := by
        have e3 : (UInt8.ofNat z.toNat).toNat = z.toNat % 256 := by simp
        omega
      simp only [Function.comp, e2]
    · simp at hz
end Go.Proofs.YtamngnndodjcoaaGreat
