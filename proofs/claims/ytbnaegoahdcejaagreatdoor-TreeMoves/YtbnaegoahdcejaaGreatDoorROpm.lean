/- Lists of steps, opened. -/
import Derived.Test.YtbnaegoahdcejaaGreatDoorROpi
import Derived.Test.YtbnaegoahdcejaaGreatDoorGZ
namespace Go.Proofs.YtbnaegoahdcejaaGreatDoor
open Go.ChangeShapes Go.WideShapes Go.ChangeAt Go.RowKit Go.Joins

theorem cellsI : Tryz.prog.cellsOf 3 = 1 := by kernel_rfl
theorem cellsTn : Tryz.prog.cellsOf 37 = 5 := by kernel_rfl
theorem bytesTn : Tryz.prog.bytesOf 37 = 72 := by kernel_rfl
theorem struct5 {H : Type} {enc : TypeId × Value → H} {P : Program} {w : World} {base : Nat} {spare : Nat → Bool} {held : Bool} {t : TypeId} {f0 f1 f2 f3 f4 : Field} {fuel : Nat} {cs : List Value} {x : DataW H × List MemPlace} (ht : P.underlying t = some (.struct #[f0, f1, f2, f3, f4])) (h : DataW.trod enc P w base spare held fuel t cs = some x) :
    ∃ y0 y1 y2 y3 y4 n, x.1 = .agg [y0.1, y1.1, y2.1, y3.1, y4.1] ∧ cs.length = P.cellsOf t ∧ DataW.trod enc P w base spare held n f0.type ((cs.drop f0.offset).take (P.cellsOf f0.type)) = some y0 ∧ DataW.trod enc P w base spare held n f1.type ((cs.drop f1.offset).take (P.cellsOf f1.type)) = some y1 ∧ DataW.trod enc P w base spare held n f2.type ((cs.drop f2.offset).take (P.cellsOf f2.type)) = some y2 ∧ DataW.trod enc P w base spare held n f3.type ((cs.drop f3.offset).take (P.cellsOf f3.type)) = some y3 ∧ DataW.trod enc P w base spare held n f4.type ((cs.drop f4.offset).take (P.cellsOf f4.type)) = some y4 := by
  obtain ⟨xs, n, _, rfl, hl, hlen, hf⟩ := DataW.trod_struct ht h
  match xs, hlen with
  | [y0, y1, y2, y3, y4], _ => exact ⟨y0, y1, y2, y3, y4, n, by simp, hl, by simpa using hf 0 f0 rfl, by simpa using hf 1 f1 rfl, by simpa using hf 2 f2 rfl, by simpa using hf 3 f3 rfl, by simpa using hf 4 f4 rfl⟩
set_option maxRecDepth 20000 in
/-- One step, opened. -/
theorem open_turn {H : Type} {enc : TypeId × Value → H} {W : World} {fuel : Nat} {cs : List Value} {x : DataW H × List MemPlace} (h : DataW.trod enc Tryz.prog W 0 (fun _ => true) true fuel 37 cs = some x) (hw : ∀ n ∈ x.1.weights Tryz.prog 37, n ≤ reachBytes) :
    ∃ m : Tn, cs[0]? = some (.int .i64 m.d) ∧ cs[1]? = some (.string m.f) ∧ cs[2]? = some (.string m.n) ∧ cs[3]? = some (.string m.t) ∧ cs[4]? = some (.string m.s) ∧ m.f.size ≤ 140737488351232 ∧ m.n.size ≤ 140737488351232 ∧ m.t.size ≤ 140737488351232 ∧ m.s.size ≤ 140737488351232 := by
  obtain ⟨y0, y1, y2, y3, y4, k, hx, hcl, g0, g1, g2, g3, g4⟩ := struct5 Tryz.underlying37 h
  rw [cellsTn] at hcl
  rw [hx] at hw
  obtain ⟨t0, e0, -, -⟩ := DataW.trod_int Tryz.underlying3 g0
  obtain ⟨s1, e1, z1, -⟩ := DataW.trod_string Tryz.underlying9 g1
  obtain ⟨s2, e2, z2, -⟩ := DataW.trod_string Tryz.underlying9 g2
  obtain ⟨s3, e3, z3, -⟩ := DataW.trod_string Tryz.underlying9 g3
  obtain ⟨s4, e4, z4, -⟩ := DataW.trod_string Tryz.underlying9 g4
  match cs, hcl with
  | [q0, q1, q2, q3, q4], _ =>
    simp only [cellsS, cellsI] at e0 e1 e2 e3 e4
    simp at e0 e1 e2 e3 e4
    subst e0 e1 e2 e3 e4
    have hs1 : s1.data.toList.length ≤ reachBytes := hw _ (by
      simp only [DataW.weights, Tryz.underlying37]
      refine DataW.weights_mem_each (j := 1) (t := 9) (d := y1.1) rfl rfl _ ?_
      rw [z1]
      simp [DataW.weights])
    have hs2 : s2.data.toList.length ≤ reachBytes := hw _ (by
      simp only [DataW.weights, Tryz.underlying37]
      refine DataW.weights_mem_each (j := 2) (t := 9) (d := y2.1) rfl rfl _ ?_
      rw [z2]
      simp [DataW.weights])
    have hs3 : s3.data.toList.length ≤ reachBytes := hw _ (by
      simp only [DataW.weights, Tryz.underlying37]
      refine DataW.weights_mem_each (j := 3) (t := 9) (d := y3.1) rfl rfl _ ?_
      rw [z3]
      simp [DataW.weights])
    have hs4 : s4.data.toList.length ≤ reachBytes := hw _ (by
      simp only [DataW.weights, Tryz.underlying37]
      refine DataW.weights_mem_each (j := 4) (t := 9) (d := y4.1) rfl rfl _ ?_
      rw [z4]
      simp [DataW.weights])
    have hsz : ∀ b : ByteArray, b.data.toList.length ≤ reachBytes → b.size ≤ 140737488351232 := fun b hb => by rw [Lib.size_eq]; exact Nat.le_trans hb reach_le
    exact ⟨⟨t0, s1, s2, s3, s4⟩, rfl, rfl, rfl, rfl, rfl, hsz _ hs1, hsz _ hs2, hsz _ hs3, hsz _ hs4⟩
set_option maxRecDepth 20000 in
/-- A list of steps, opened. -/
theorem open_turns {H : Type} {enc : TypeId × Value → H} {W : World} {fuel : Nat} {v : Value} {x : DataW H × List MemPlace} (h : DataW.trod enc Tryz.prog W 0 (fun _ => true) true fuel 35 [v] = some x) (hw : ∀ n ∈ x.1.weights Tryz.prog 35, n ≤ reachBytes) :
    ∃ (a : Option Addr) (c : Nat) (ms : List Tn), v = .slice a ms.length c ∧ ms.length ≤ 140737488351232 ∧ Tnp W a ms := by
  rcases DataW.trod_slice Tryz.underlying35 h with ⟨hc, rfl⟩ | ⟨a, len, cap, elems, rest, n, _, hc, rfl, hb, hl, hm, hlen, hel, -, -⟩
  · simp only [List.cons.injEq, and_true] at hc
    subst hc
    exact ⟨none, 0, [], rfl, by simp, fun h => absurd rfl h, fun m hm => by simp at hm⟩
  · simp only [List.cons.injEq, and_true] at hc
    subst hc
    have hcount : len ≤ 140737488351232 := by
      have := hw (((elems.map (·.1)).length + (rest.map (·.1)).length) * 72) (by simp [DataW.weights, Tryz.underlying35, bytesTn])
      have h2 := reach_le
      simp only [List.length_map] at this
      omega
    have each : ∀ i, i < len → ∃ m : Tn, (W.cell? (a.add (i * 5)) = some (.int .i64 m.d) ∧ W.cell? ((a.add (i * 5)).add 1) = some (.string m.f) ∧ W.cell? ((a.add (i * 5)).add 2) = some (.string m.n) ∧ W.cell? ((a.add (i * 5)).add 3) = some (.string m.t) ∧ W.cell? ((a.add (i * 5)).add 4) = some (.string m.s)) ∧ m.f.size ≤ 140737488351232 ∧ m.n.size ≤ 140737488351232 ∧ m.t.size ≤ 140737488351232 ∧ m.s.size ≤ 140737488351232 := by
      intro i hi
      have hy := hel i hi
      rw [cellsTn, List.getElem?_eq_getElem (by omega : i < elems.length), Option.bind_eq_some_iff] at hy
      obtain ⟨cs, hcs, hy⟩ := hy
      have hwi : ∀ n ∈ (elems[i].1).weights Tryz.prog 37, n ≤ reachBytes := fun n hn => hw n (by
        simp only [DataW.weights, Tryz.underlying35, List.mem_cons, List.mem_append]
        exact .inr (.inl (weightsAll_mem (List.mem_map.2 ⟨elems[i], List.getElem_mem _, rfl⟩) n hn)))
      obtain ⟨m, c0, c1, c2, c3, c4, hbs⟩ := open_turn hy hwi
      obtain ⟨-, -, hce⟩ := World.cells?_some hcs
      have ha0 : (a.add (i * 5)).add 0 = a.add (i * 5) := rfl
      exact ⟨m, ⟨by rw [← ha0]; exact (hce 0 (by decide)).trans c0, (hce 1 (by decide)).trans c1, (hce 2 (by decide)).trans c2, (hce 3 (by decide)).trans c3, (hce 4 (by decide)).trans c4⟩, hbs⟩
    by_cases h0 : len = 0
    · subst h0
      exact ⟨some a, cap, [], rfl, by simp, fun h => absurd rfl h, fun m hm => by simp at hm⟩
    · let ms : List Tn := (List.finRange len).map (fun i => (each i.1 i.2).choose)
      have hms : ∀ (i : Nat) (z : Tn), ms[i]? = some z → ∃ hi : i < len, z = (each i hi).choose := by
        intro i z hz
        simp only [ms, List.getElem?_map, Option.map_eq_some_iff] at hz
        obtain ⟨q, hq, rfl⟩ := hz
        have hq2 := List.getElem?_eq_some_iff.1 hq
        obtain ⟨hlt, hqe⟩ := hq2
        rw [List.getElem_finRange] at hqe
        subst hqe
        exact ⟨by simpa using hlt, rfl⟩
      have hwl : ms.length = len := by simp [ms]
      have hap := addr_plain ((each 0 (by omega)).choose_spec.1.1)
      have hap2 : a = ⟨a.block, a.off, none⟩ := by
        have e : a.add (0 * 5) = a := rfl
        rw [e] at hap
        exact hap
      refine ⟨some a, cap, ms, by rw [hwl], by rw [hwl]; exact hcount, fun _ => ⟨a.block, a.off, by rw [← hap2], fun i t ht => ?_⟩, fun t ht => ?_⟩
      · obtain ⟨hi, rfl⟩ := hms i t ht
        obtain ⟨⟨z0, z1, z2, z3, z4⟩, -⟩ := (each i hi).choose_spec
        generalize (each i hi).choose = z at *
        rw [hap2, Addr.add_mid] at z0 z1 z2 z3 z4
        rw [Addr.add_mid] at z1 z2 z3 z4
        exact ⟨z0, z1, z2, z3, z4⟩
      · obtain ⟨i, hi⟩ := List.getElem?_of_mem ht
        obtain ⟨hi2, rfl⟩ := hms i t hi
        exact (each i hi2).choose_spec.2
end Go.Proofs.YtbnaegoahdcejaaGreatDoor
