/- Arguments opened: bytes. -/
import Derived.Test.YtfpegmmciphjiaaOpen3
import Derived.Test.YtfpegmmciphjiaaLeavesW
namespace Go.Proofs.Ytfpegmmciphjiaa
open Go.ChangeShapes Go.WideShapes Go.ChangeAt Go.RowKit Go.Joins

set_option maxRecDepth 20000
theorem cells5 : Try.prog.cellsOf 5 = 1 := by kernel_rfl
theorem bytes5 : Try.prog.bytesOf 5 = 1 := by kernel_rfl

/-- Bytes, opened. -/
theorem open_bytes {H : Type} {enc : TypeId × Value → H} {W : World} {base : Nat} {r : Reach} {v : Value} {d : DataW H} {p : List MemPlace} (hv : Value.okWide Try.prog W r base 50 v) (h : DataW.Trod enc Try.prog W 0 (fun _ => true) true 50 v d p) (hw : ∀ n ∈ d.weights Try.prog 50, n ≤ reachBytes) :
    ∃ (a : Option Addr) (c : Nat) (l : List UInt8), v = .slice a l.length c ∧ OsAt W a l ∧ l.length ≤ 140737488351232 := by
  obtain ⟨x0, x1, x2, rfl⟩ := okWide_slice Try.underlying50 hv
  obtain ⟨fuel, hf⟩ := h
  have hf2 : DataW.trod enc Try.prog W 0 (fun _ => true) true fuel 50 [.slice x0 x1 x2] = some (d, p) := hf
  rcases open_ints Try.underlying50 Try.underlying5 cells5 hf2 with ⟨hc, -⟩ | ⟨a, len, cap, zs, hc, -, hl, hm, hzl, he, hcell, hwf⟩
  · simp only [List.cons.injEq, and_true] at hc
    rw [hc]
    exact ⟨none, 0, [], rfl, fun h => absurd rfl h, by simp⟩
  · simp only [List.cons.injEq, and_true] at hc
    rw [hc]
    simp only [if_true] at hzl
    have hcap : cap ≤ reachBytes := by
      have hd : d = _ := congrArg Prod.fst he
      rw [hd] at hw
      have := hw ((lits (H := H) .u8 (zs.take len)).length + (lits (H := H) .u8 (zs.drop len)).length) (by simp [DataW.weights, Try.underlying50, bytes5])
      simp only [lits, List.length_map, List.length_take, List.length_drop] at this
      omega
    have hr := reach_le
    have hbl : ((zs.take len).map fun z => UInt8.ofNat z.toNat).length = len := by simp; omega
    refine ⟨some a, cap, (zs.take len).map fun z => UInt8.ofNat z.toNat, by rw [hbl], fun hne => ?_, by rw [hbl]; omega⟩
    have each : ∀ (j : Nat) (x : UInt8), ((zs.take len).map fun z => UInt8.ofNat z.toNat)[j]? = some x → W.cell? (a.add j) = some (.int .u8 (x.toNat : Nat)) := fun j x hj => by
      simp only [List.getElem?_map, Option.map_eq_some_iff] at hj
      obtain ⟨z, hz, rfl⟩ := hj
      rw [List.getElem?_take] at hz
      split at hz
      · have hjz : j < zs.length := (List.getElem?_eq_some_iff.1 hz).1
        rw [hcell j hjz]
        have hzm : z ∈ zs := List.mem_of_getElem? hz
        have hb := bounds_u8 (hwf z hzm)
        have e1 : zs.getD j 0 = z := by rw [List.getD_eq_getElem?_getD, hz]; rfl
        rw [e1]
        have e2 : ((UInt8.ofNat z.toNat).toNat : Int) = z := by
          have e3 : (UInt8.ofNat z.toNat).toNat = z.toNat % 256 := by simp
          omega
        rw [e2]
      · simp at hz
    have hap : a = ⟨a.block, a.off, none⟩ := by
      obtain ⟨x, hx⟩ : ∃ x, ((zs.take len).map fun z => UInt8.ofNat z.toNat)[0]? = some x := ⟨_, List.getElem?_eq_getElem (List.length_pos_iff.2 hne)⟩
      have := each 0 x hx
      exact addr_plain (show W.cell? a = _ from this)
    refine ⟨a.block, a.off, by rw [← hap], fun j x hj => ?_⟩
    have := each j x hj
    rw [hap, Addr.add_lit] at this
    exact this
end Go.Proofs.Ytfpegmmciphjiaa
