/- What the listed variable gives the walks; how arguments are opened. -/
import Derived.Test.YtniohiepnojjbaaDoorRows
import Derived.Test.YtniohiepnojjbaaDoorWorks
import Derived.ProofKit
import Derived.LaidMore
import Derived.OpenShut
import Derived.Stop.Joined
import Derived.Below
namespace Go.Proofs.YtniohiepnojjbaaDoor
open Go.ChangeShapes Go.WideShapes Go.ChangeAt Go.RowKit

theorem own : ownKnob Tryd.prog.godebug = none := by kernel_rfl
theorem laidOut : laidOutB Tryd.prog = true := by kernel_rfl
theorem tWords : (Tryd.prog.globals[0]?).map (·.type) = some 64 := by kernel_rfl
theorem cells63 : Tryd.prog.cellsOf 63 = 2 := by kernel_rfl
theorem cells64 : Tryd.prog.cellsOf 64 = 8 := by kernel_rfl
theorem cells5 : Tryd.prog.cellsOf 5 = 1 := by kernel_rfl
theorem cells9 : Tryd.prog.cellsOf 9 = 1 := by kernel_rfl

/-- The variable that the rows list: the words. -/
abbrev laidW : List (String × DataW Unit) := Rows.capsOverRow.laid
theorem gWords : Tryd.prog.globalNamed ((laidW.map (·.1)).headD "") = some 0 := by kernel_rfl

theorem door_met (os : Os) (args : Array Value) : laidMetH Tryd.prog laidW ((World.doorLaid Tryd.prog 400 os).forCall (fun _ _ => 0) ⟨#[], args, []⟩).memory :=
  laidMetH_of_parts3 (fuel := 8) (laidMet_of_run' 8 (by kernel_rfl) (by kernel_rfl)) (by kernel_rfl) (by kernel_rfl)

theorem data_eq (s : ByteArray) (l : List UInt8) (h : s.data.toList = l) : s = ⟨l.toArray⟩ := by subst h; cases s; simp

theorem words_of_laid {W : World} (h : laidMetH Tryd.prog laidW W) : WordsAt W := by
  rw [MakeChecks.laidMetH_plain _ _ _ (by kernel_rfl)] at h
  obtain ⟨ps, ⟨g0, t0, cs0, f0, p0, q0, hg0, ht0, hv0, hd0, _, _⟩, _, _⟩ := h
  obtain rfl := Option.some.inj (gWords.symm.trans hg0)
  obtain rfl := Option.some.inj (tWords.symm.trans ht0)
  obtain ⟨xs, m1, rfl, hx1, hlen, hn, hel⟩ := DataW.trod_array Tryd.underlying64 hd0
  rw [cells64] at hlen
  simp only [cells63] at hel
  simp only [Rows.laid_mantle_caps_words, Prod.mk.injEq, DataW.agg.injEq] at hx1
  obtain ⟨hx, -⟩ := hx1
  have key : ∀ (i : Nat) (x : DataW Unit × List MemPlace) (l : List Value) (n : Int) (t : List UInt8), DataW.trod (fun _ => ()) Tryd.prog W 0 (fun _ => true) false m1 63 ((l.drop (i * 2)).take 2) = some x → DataW.agg [.lit (.int .u8 n), .lit (.string t)] = x.1 →
      l[i * 2]? = some (.int .u8 n) ∧ l[i * 2 + 1]? = some (.string ⟨t.toArray⟩) := by
    intro i x l n t hx he
    obtain ⟨y0, y1, k, rfl, _, hy0, hy1⟩ := trod_struct2 Tryd.underlying63 hx
    simp only [DataW.agg.injEq, List.cons.injEq, and_true] at he
    obtain ⟨n', hc0, hz0, -⟩ := DataW.trod_int Tryd.underlying5 hy0
    obtain ⟨s', hc1, hz1, -⟩ := DataW.trod_string Tryd.underlying9 hy1
    rw [hz0, hz1] at he
    simp only [DataW.lit.injEq, Lit.int.injEq, true_and, Lit.string.injEq] at he
    obtain ⟨rfl, ht⟩ := he
    have hs := data_eq s' t ht.symm
    subst hs
    have g0 := congrArg (fun l => l[0]?) hc0
    have g1 := congrArg (fun l => l[0]?) hc1
    simp only [cells5, cells9, List.getElem?_take, List.getElem?_drop] at g0 g1
    simp at g0 g1
    exact ⟨g0, g1⟩
  match xs, hn, hx, hel with
  | [x0, x1, x2, x3], _, hx, hel =>
    simp only [List.map_cons, List.map_nil, List.cons.injEq, and_true] at hx
    obtain ⟨e0, e1, e2, e3⟩ := hx
    obtain ⟨k0, k1⟩ := key 0 x0 _ _ _ (hel 0 (by decide)) e0
    obtain ⟨k2, k3⟩ := key 1 x1 _ _ _ (hel 1 (by decide)) e1
    obtain ⟨k4, k5⟩ := key 2 x2 _ _ _ (hel 2 (by decide)) e2
    obtain ⟨k6, k7⟩ := key 3 x3 _ _ _ (hel 3 (by decide)) e3
    intro j v hj
    have hc := World.var?_cell hg0 hv0
    match j, hj with
    | 0, hj => simp at hj; subst hj; simpa using (hc 0).trans (by simpa using k0)
    | 1, hj => simp at hj; subst hj; simpa using (hc 1).trans (by simpa using k1)
    | 2, hj => simp at hj; subst hj; simpa using (hc 2).trans (by simpa using k2)
    | 3, hj => simp at hj; subst hj; simpa using (hc 3).trans (by simpa using k3)
    | 4, hj => simp at hj; subst hj; simpa using (hc 4).trans (by simpa using k4)
    | 5, hj => simp at hj; subst hj; simpa using (hc 5).trans (by simpa using k5)
    | 6, hj => simp at hj; subst hj; simpa using (hc 6).trans (by simpa using k6)
    | 7, hj => simp at hj; subst hj; simpa using (hc 7).trans (by simpa using k7)
    | j + 8, hj => simp at hj
end Go.Proofs.YtniohiepnojjbaaDoor
