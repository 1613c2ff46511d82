/- What the rows of the second seat share: the listed variables, the world's shape, specs opened. -/
import Derived.Test.YtknjclekfmmfeaaGreatDoorRows
import Derived.Test.YtknjclekfmmfeaaGreatDoorCards
import Derived.Test.YtknjclekfmmfeaaGreatDoorTie
import Derived.Test.YtknjclekfmmfeaaGreatDoorQLrf
import Derived.Deep.Strs
import Derived.ProofKit
import Derived.OpenShut
import Derived.ShutString
import Derived.ChangeOld
import Derived.ChangeMaps5
import Derived.Below
import Derived.SizedLaws
import Derived.Lib.SmallJoins
import Derived.LaidMore
import Derived.Lay
import Derived.SevenTiedAt
import Derived.Stop.Joined
import Derived.JoinedCond
import Derived.Deep.DeepHandedRow
import Derived.Shelf.Vars
namespace Go.Proofs.YtknjclekfmmfeaaGreatDoor
open Go.ChangeShapes Go.WideShapes Go.ChangeAt Go.RowKit Go.Joins

theorem ownT : ownKnob Tryz.prog.godebug = none := by kernel_rfl
theorem laidOutT : laidOutB Tryz.prog = true := by kernel_rfl
theorem reach_le : reachBytes ≤ 140737488351232 := by decide
/-- The variables that the rows list. -/
abbrev laidT : List (String × DataW Unit) := Rows.pathRealRow.laid
theorem laid_met (os : Os) (args : Array Value) : laidMetH Tryz.prog laidT ((World.laidAll Tryz.prog os laidT).forCall (fun _ _ => 0) ⟨#[], args, []⟩).memory := by
  rw [MakeChecks.laidMetH_plain _ _ _ (by kernel_rfl)]
  exact laidMet_laidAll _ (by kernel_rfl) (by kernel_rfl)
theorem laid_plain (os : Os) (args : Array Value) : laidMet Tryz.prog laidT ((World.laidAll Tryz.prog os laidT).forCall (fun _ _ => 0) ⟨#[], args, []⟩).memory := laidMet_laidAll _ (by kernel_rfl) (by kernel_rfl)
theorem mxl_of {W : World} (h : W.ShapedOpen Tryz.prog) : Mxl W :=
  cell_of_shapedOpen_int (P := Tryz.prog) (g := lays146_ren.g 1) (t := 3) (zero := #[.int .i64 0]) h (of_decide_eq_true (by kernel_rfl)) (by kernel_rfl) rfl (by kernel_rfl) (by kernel_rfl) Tryz.underlying3
theorem cellsI : Tryz.prog.cellsOf 3 = 1 := by kernel_rfl
theorem cellsI8 : Tryz.prog.cellsOf 53 = 1 := by kernel_rfl
theorem cellsS : Tryz.prog.cellsOf 9 = 1 := by kernel_rfl
theorem cellsSp : Tryz.prog.cellsOf 55 = 5 := by kernel_rfl
theorem bytesSp : Tryz.prog.bytesOf 55 = 56 := by kernel_rfl
theorem addr_plain {w : World} {a : Addr} {v : Value} (h : w.cell? a = some v) : a = ⟨a.block, a.off, none⟩ := by
  obtain ⟨b, o, s⟩ := a
  unfold World.cell? at h
  cases s with
  | none => rfl
  | some x => split at h <;> simp at h
theorem weightsAll_mem {H : Type} {P : Program} {e : TypeId} {d : DataW H} : ∀ {l : List (DataW H)}, d ∈ l → ∀ n ∈ d.weights P e, n ∈ DataW.weightsAll P e l := by
  intro l
  induction l with
  | nil => intro h; simp at h
  | cons x l ih =>
    intro h n hn
    simp only [DataW.weightsAll, List.mem_append]
    rcases List.mem_cons.1 h with rfl | h
    · exact .inl hn
    · exact .inr (ih h n hn)
theorem struct5 {H : Type} {enc : TypeId × Value → H} {P : Program} {w : World} {base : Nat} {spare : Nat → Bool} {held : Bool} {t : TypeId} {f0 f1 f2 f3 f4 : Field} {fuel : Nat} {cs : List Value} {x : DataW H × List MemPlace} (ht : P.underlying t = some (.struct #[f0, f1, f2, f3, f4])) (h : DataW.trod enc P w base spare held fuel t cs = some x) :
    ∃ y0 y1 y2 y3 y4 n, x.1 = .agg [y0.1, y1.1, y2.1, y3.1, y4.1] ∧ cs.length = P.cellsOf t ∧ DataW.trod enc P w base spare held n f0.type ((cs.drop f0.offset).take (P.cellsOf f0.type)) = some y0 ∧ DataW.trod enc P w base spare held n f1.type ((cs.drop f1.offset).take (P.cellsOf f1.type)) = some y1 ∧ DataW.trod enc P w base spare held n f2.type ((cs.drop f2.offset).take (P.cellsOf f2.type)) = some y2 ∧ DataW.trod enc P w base spare held n f3.type ((cs.drop f3.offset).take (P.cellsOf f3.type)) = some y3 ∧ DataW.trod enc P w base spare held n f4.type ((cs.drop f4.offset).take (P.cellsOf f4.type)) = some y4 := by
  obtain ⟨xs, n, _, rfl, hl, hlen, hf⟩ := DataW.trod_struct ht h
  match xs, hlen with
  | [y0, y1, y2, y3, y4], _ => exact ⟨y0, y1, y2, y3, y4, n, by simp, hl, by simpa using hf 0 f0 rfl, by simpa using hf 1 f1 rfl, by simpa using hf 2 f2 rfl, by simpa using hf 3 f3 rfl, by simpa using hf 4 f4 rfl⟩
theorem ba_open (s : ByteArray) : ∃ l : B, s = ba l ∧ l.length = s.data.toList.length := ⟨s.data.toList, by simp [ba], rfl⟩
set_option maxRecDepth 20000 in
/-- One spec, opened. -/
theorem open_spec {H : Type} {enc : TypeId × Value → H} {W : World} {fuel : Nat} {cs : List Value} {x : DataW H × List MemPlace} (h : DataW.trod enc Tryz.prog W 0 (fun _ => true) true fuel 55 cs = some x) (hw : ∀ n ∈ x.1.weights Tryz.prog 55, n ≤ reachBytes) :
    ∃ m : Spx, cs[0]? = some (.int .i64 m.i) ∧ cs[1]? = some (.int .i64 m.o) ∧ cs[2]? = some (.string (ba m.nm)) ∧ cs[3]? = some (.int .i8 m.k) ∧ cs[4]? = some (.string (ba m.to)) ∧ m.to.length ≤ 140737488351232 ∧ m.nm.length ≤ 140737488351232 := by
  obtain ⟨y0, y1, y2, y3, y4, k, hx, hcl, g0, g1, g2, g3, g4⟩ := struct5 Tryz.underlying55 h
  rw [cellsSp] at hcl
  rw [hx] at hw
  obtain ⟨t0, e0, -, -⟩ := DataW.trod_int Tryz.underlying3 g0
  obtain ⟨t1, e1, -, -⟩ := DataW.trod_int Tryz.underlying3 g1
  obtain ⟨s2, e2, z2, -⟩ := DataW.trod_string Tryz.underlying9 g2
  obtain ⟨t3, e3, -, -⟩ := DataW.trod_int Tryz.underlying53 g3
  obtain ⟨s4, e4, z4, -⟩ := DataW.trod_string Tryz.underlying9 g4
  match cs, hcl with
  | [q0, q1, q2, q3, q4], _ =>
    simp only [cellsS, cellsI8, cellsI] at e0 e1 e2 e3 e4
    simp at e0 e1 e2 e3 e4
    subst e0 e1 e2 e3 e4
    have hs2 : s2.data.toList.length ≤ reachBytes := hw _ (by
      simp only [DataW.weights, Tryz.underlying55]
      refine DataW.weights_mem_each (j := 2) (t := 9) (d := y2.1) rfl rfl _ ?_
      rw [z2]
      simp [DataW.weights])
    have hs4 : s4.data.toList.length ≤ reachBytes := hw _ (by
      simp only [DataW.weights, Tryz.underlying55]
      refine DataW.weights_mem_each (j := 4) (t := 9) (d := y4.1) rfl rfl _ ?_
      rw [z4]
      simp [DataW.weights])
    obtain ⟨l2, rfl, n2⟩ := ba_open s2
    obtain ⟨l4, rfl, n4⟩ := ba_open s4
    exact ⟨⟨t0, t1, l2, t3, l4⟩, rfl, rfl, rfl, rfl, rfl, by rw [n4]; exact Nat.le_trans hs4 reach_le, by rw [n2]; exact Nat.le_trans hs2 reach_le⟩
theorem spc_length : ∀ L : List Spx, (spc L).length = L.length * 5
  | [] => rfl
  | q :: L => by
    have e : spc (q :: L) = [.int .i64 q.i, .int .i64 q.o, .string (ba q.nm), .int .i8 q.k, .string (ba q.to)] ++ spc L := rfl
    rw [e, List.length_append, spc_length L]
    simp
    omega
set_option maxRecDepth 20000 in
/-- A list of specs, opened. -/
theorem open_specs {H : Type} {enc : TypeId × Value → H} {W : World} {fuel : Nat} {v : Value} {x : DataW H × List MemPlace} (h : DataW.trod enc Tryz.prog W 0 (fun _ => true) true fuel 22 [v] = some x) (hw : ∀ n ∈ x.1.weights Tryz.prog 22, n ≤ reachBytes) :
    ∃ (a : Option Addr) (c : Nat) (ms : List Spx), v = .slice a ms.length c ∧ ms.length ≤ 140737488351232 ∧ SpAt W a ms ∧ ∀ s ∈ ms, s.to.length ≤ 140737488351232 ∧ s.nm.length ≤ 140737488351232 := by
  rcases DataW.trod_slice Tryz.underlying22 h with ⟨hc, rfl⟩ | ⟨a, len, cap, elems, rest, n, _, hc, rfl, hb, hl, hm, hlen, hel, -, -⟩
  · simp only [List.cons.injEq, and_true] at hc
    subst hc
    exact ⟨none, 0, [], rfl, by simp, fun h => absurd rfl h, fun m hm => by simp at hm⟩
  · simp only [List.cons.injEq, and_true] at hc
    subst hc
    have hcount : len ≤ 140737488351232 := by
      have := hw (((elems.map (·.1)).length + (rest.map (·.1)).length) * 56) (by simp [DataW.weights, Tryz.underlying22, bytesSp])
      have h2 := reach_le
      simp only [List.length_map] at this
      omega
    have each : ∀ i, i < len → ∃ m : Spx, (W.cell? (a.add (i * 5)) = some (.int .i64 m.i) ∧ W.cell? ((a.add (i * 5)).add 1) = some (.int .i64 m.o) ∧ W.cell? ((a.add (i * 5)).add 2) = some (.string (ba m.nm)) ∧ W.cell? ((a.add (i * 5)).add 3) = some (.int .i8 m.k) ∧ W.cell? ((a.add (i * 5)).add 4) = some (.string (ba m.to))) ∧ m.to.length ≤ 140737488351232 ∧ m.nm.length ≤ 140737488351232 := by
      intro i hi
      have hy := hel i hi
      rw [cellsSp, List.getElem?_eq_getElem (by omega : i < elems.length), Option.bind_eq_some_iff] at hy
      obtain ⟨cs, hcs, hy⟩ := hy
      have hwi : ∀ n ∈ (elems[i].1).weights Tryz.prog 55, n ≤ reachBytes := fun n hn => hw n (by
        simp only [DataW.weights, Tryz.underlying22, List.mem_cons, List.mem_append]
        exact .inr (.inl (weightsAll_mem (List.mem_map.2 ⟨elems[i], List.getElem_mem _, rfl⟩) n hn)))
      obtain ⟨m, c0, c1, c2, c3, c4, hbs⟩ := open_spec hy hwi
      obtain ⟨-, -, hce⟩ := World.cells?_some hcs
      have ha0 : (a.add (i * 5)).add 0 = a.add (i * 5) := rfl
      exact ⟨m, ⟨by rw [← ha0]; exact (hce 0 (by decide)).trans c0, (hce 1 (by decide)).trans c1, (hce 2 (by decide)).trans c2, (hce 3 (by decide)).trans c3, (hce 4 (by decide)).trans c4⟩, hbs⟩
    by_cases h0 : len = 0
    · subst h0
      exact ⟨some a, cap, [], rfl, by simp, fun h => absurd rfl h, fun m hm => by simp at hm⟩
    · let ms : List Spx := (List.finRange len).map (fun i => (each i.1 i.2).choose)
      have hms : ∀ (i : Nat) (z : Spx), ms[i]? = some z → ∃ hi : i < len, z = (each i hi).choose := by
        intro i z hz
        simp only [ms, List.getElem?_map, Option.map_eq_some_iff] at hz
        obtain ⟨q, hq, rfl⟩ := hz
        have hq2 := List.getElem?_eq_some_iff.1 hq
        obtain ⟨hlt, hqe⟩ := hq2
        rw [List.getElem_finRange] at hqe
        subst hqe
        exact ⟨by simpa using hlt, rfl⟩
      have hwl : ms.length = len := by simp [ms]
      have hap : a = ⟨a.block, a.off, none⟩ := by
        obtain ⟨z, ⟨hc, -⟩, -⟩ := each 0 (by omega)
        exact addr_plain (show W.cell? a = _ from hc)
      refine ⟨some a, cap, ms, by rw [hwl], by rw [hwl]; exact hcount, fun _ => ⟨a.block, a.off, by rw [← hap], fun j v hj => ?_⟩, fun z hz => ?_⟩
      · have hjl : j < ms.length * 5 := by
          have := (List.getElem?_eq_some_iff.1 hj).1
          rwa [spc_length] at this
        obtain ⟨z, hz⟩ : ∃ z, ms[j / 5]? = some z := ⟨_, List.getElem?_eq_getElem (by omega)⟩
        obtain ⟨i0, i1, i2, i3, i4⟩ := spc_at hz
        obtain ⟨hi, rfl⟩ := hms _ z hz
        obtain ⟨⟨c0, c1, c2, c3, c4⟩, -⟩ := (each _ hi).choose_spec
        generalize (each _ hi).choose = z at *
        rw [hap, Addr.add_mid] at c0 c1 c2 c3 c4
        rw [Addr.add_mid] at c1 c2 c3 c4
        have hr : j % 5 = 0 ∨ j % 5 = 1 ∨ j % 5 = 2 ∨ j % 5 = 3 ∨ j % 5 = 4 := by omega
        rcases hr with hr | hr | hr | hr | hr
        · rw [show j = j / 5 * 5 by omega] at hj ⊢
          rw [i0] at hj
          exact c0.trans hj
        · have e : j = j / 5 * 5 + 1 := by omega
          rw [e] at hj ⊢
          rw [i1] at hj
          rw [← Nat.add_assoc]
          exact c1.trans hj
        · have e : j = j / 5 * 5 + 2 := by omega
          rw [e] at hj ⊢
          rw [i2] at hj
          rw [← Nat.add_assoc]
          exact c2.trans hj
        · have e : j = j / 5 * 5 + 3 := by omega
          rw [e] at hj ⊢
          rw [i3] at hj
          rw [← Nat.add_assoc]
          exact c3.trans hj
        · have e : j = j / 5 * 5 + 4 := by omega
          rw [e] at hj ⊢
          rw [i4] at hj
          rw [← Nat.add_assoc]
          exact c4.trans hj
      · obtain ⟨j, hj⟩ := List.getElem?_of_mem hz
        obtain ⟨hi, rfl⟩ := hms j z hj
        obtain ⟨-, s1, s2⟩ := (each j hi).choose_spec
        exact ⟨s1, s2⟩
end Go.Proofs.YtknjclekfmmfeaaGreatDoor
