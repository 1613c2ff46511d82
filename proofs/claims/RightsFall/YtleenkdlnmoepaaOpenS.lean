/- Arguments opened: a list of steps. -/
import Derived.Test.YtleenkdlnmoepaaOpen
import Derived.Test.YtleenkdlnmoepaaSteps
namespace Go.Proofs.Ytleenkdlnmoepaa
open Go.ChangeShapes Go.WideShapes Go.ChangeAt Go.RowKit Go.Joins

set_option maxRecDepth 20000
theorem reach_le : reachBytes ≤ 140737488351232 := by decide
theorem cells2 : Try.prog.cellsOf 2 = 1 := by kernel_rfl
theorem cells3 : Try.prog.cellsOf 3 = 1 := by kernel_rfl
theorem cells5 : Try.prog.cellsOf 5 = 1 := by kernel_rfl
theorem cells40 : Try.prog.cellsOf 40 = 1 := by kernel_rfl
theorem cells41 : Try.prog.cellsOf 41 = 1 := by kernel_rfl
theorem cells43 : Try.prog.cellsOf 43 = 4 := by kernel_rfl
theorem cells45 : Try.prog.cellsOf 45 = 8 := by kernel_rfl
theorem bytes5 : Try.prog.bytesOf 5 = 1 := by kernel_rfl

theorem addr_plain {w : World} {a : Addr} {v : Value} (h : w.cell? a = some v) : a = ⟨a.block, a.off, none⟩ := by
  obtain ⟨b, o, s⟩ := a
  unfold World.cell? at h
  cases s with
  | none => rfl
  | some x => split at h <;> simp at h
theorem weightsAll_mem {H : Type} {P : Program} {e : TypeId} {d : DataW H} : ∀ {l : List (DataW H)}, d ∈ l → ∀ n ∈ d.weights P e, n ∈ DataW.weightsAll P e l := by
  intro l
  induction l with
  | nil => intro h; simp at h
  | cons x l ih =>
    intro h n hn
    simp only [DataW.weightsAll, List.mem_append]
    rcases List.mem_cons.1 h with rfl | h
    · exact .inl hn
    · exact .inr (ih h n hn)

/-- Bytes, opened: how many they are. -/
theorem open_len {H : Type} {enc : TypeId × Value → H} {W : World} {fuel : Nat} {v : Value} {x : DataW H × List MemPlace} (h : DataW.trod enc Try.prog W 0 (fun _ => true) true fuel 41 [v] = some x) (hw : ∀ n ∈ x.1.weights Try.prog 41, n ≤ reachBytes) :
    ∃ (a : Option Addr) (n c : Nat), v = .slice a n c ∧ n ≤ 140737488351232 := by
  rcases open_ints Try.underlying41 Try.underlying5 cells5 h with ⟨hc, rfl⟩ | ⟨a, len, cap, zs, hc, -, hl, hm, hzl, rfl, hcell, hwf⟩
  · simp only [List.cons.injEq, and_true] at hc
    exact ⟨none, 0, 0, hc, by decide⟩
  · simp only [List.cons.injEq, and_true] at hc
    subst hc
    simp only [if_true] at hzl
    have hcap : cap ≤ reachBytes := by
      have := hw ((lits (H := H) .u8 (zs.take len)).length + (lits (H := H) .u8 (zs.drop len)).length) (by simp [DataW.weights, Try.underlying41, bytes5])
      simp only [lits, List.length_map, List.length_take, List.length_drop] at this
      omega
    exact ⟨some a, len, cap, rfl, Nat.le_trans hl (Nat.le_trans hcap reach_le)⟩

theorem trod_struct5 {H : Type} {enc : TypeId × Value → H} {P : Program} {w : World} {base : Nat} {spare : Nat → Bool} {held : Bool} {t : TypeId} {f0 f1 f2 f3 f4 : Field} {fuel : Nat} {cs : List Value} {x : DataW H × List MemPlace} (ht : P.underlying t = some (.struct #[f0, f1, f2, f3, f4])) (h : DataW.trod enc P w base spare held fuel t cs = some x) :
    ∃ y0 y1 y2 y3 y4 n, x = (.agg [y0.1, y1.1, y2.1, y3.1, y4.1], y0.2 ++ (y1.2 ++ (y2.2 ++ (y3.2 ++ y4.2)))) ∧ cs.length = P.cellsOf t ∧ DataW.trod enc P w base spare held n f0.type ((cs.drop f0.offset).take (P.cellsOf f0.type)) = some y0 ∧
      DataW.trod enc P w base spare held n f1.type ((cs.drop f1.offset).take (P.cellsOf f1.type)) = some y1 ∧ DataW.trod enc P w base spare held n f2.type ((cs.drop f2.offset).take (P.cellsOf f2.type)) = some y2 ∧
      DataW.trod enc P w base spare held n f3.type ((cs.drop f3.offset).take (P.cellsOf f3.type)) = some y3 ∧ DataW.trod enc P w base spare held n f4.type ((cs.drop f4.offset).take (P.cellsOf f4.type)) = some y4 := by
  obtain ⟨xs, n, _, rfl, hl, hlen, hf⟩ := DataW.trod_struct ht h
  match xs, hlen with
  | [y0, y1, y2, y3, y4], _ => exact ⟨y0, y1, y2, y3, y4, n, by simp, hl, by simpa using hf 0 f0 rfl, by simpa using hf 1 f1 rfl, by simpa using hf 2 f2 rfl, by simpa using hf 3 f3 rfl, by simpa using hf 4 f4 rfl⟩

theorem bounds_u8' {z : Int} (h : (Lit.int .u8 z).wf = true) : 0 ≤ z ∧ z ≤ 255 := by
  have e1 : IntKind.u8.min = 0 := by decide
  have e2 : IntKind.u8.max = 255 := by decide
  simp [Lit.wf, e1, e2] at h; exact h

/-- A step's cells, opened. -/
theorem open_sp {H : Type} {enc : TypeId × Value → H} {W : World} (fuel : Nat) (cs : List Value) (x : DataW H × List MemPlace) (h : DataW.trod enc Try.prog W 0 (fun _ => true) true fuel 45 cs = some x) (hw : ∀ n ∈ x.1.weights Try.prog 45, n ≤ reachBytes) : ∃ s : Sp, (cs = spc s ∧ SpOk s) ∧ cs.length = 8 := by
  obtain ⟨y0, y1, y2, y3, y4, k, rfl, hcl, g0, g1, g2, g3, g4⟩ := trod_struct5 Try.underlying45 h
  rw [cells45] at hcl
  obtain ⟨d, e0, -, -⟩ := DataW.trod_int Try.underlying40 g0
  obtain ⟨id, e1, -, hw1⟩ := DataW.trod_int Try.underlying3 g1
  obtain ⟨r, e2, -, hw2⟩ := DataW.trod_int Try.underlying5 g2
  obtain ⟨gu, e3, -, -⟩ := DataW.trod_int Try.underlying3 g3
  have hsub : ∀ n ∈ y4.1.weights Try.prog 43, n ≤ reachBytes := fun n hn => hw n (by
    simp only [DataW.weights, Try.underlying45]
    exact DataW.weights_mem_each (j := 4) (t := 43) (d := y4.1) rfl rfl n hn)
  obtain ⟨z0, z1, z2, z3, k2, rfl, hcl2, f0, f1, f2, f3⟩ := trod_struct4 Try.underlying43 g4
  obtain ⟨od, i0, -, -⟩ := DataW.trod_int Try.underlying40 f0
  obtain ⟨ot, i1, -, -⟩ := DataW.trod_int Try.underlying2 f1
  obtain ⟨n, i2, -, -⟩ := DataW.trod_int Try.underlying3 f2
  have hsub2 : ∀ n ∈ z3.1.weights Try.prog 41, n ≤ reachBytes := fun n hn => hsub n (by
    simp only [DataW.weights, Try.underlying43]
    exact DataW.weights_mem_each (j := 3) (t := 41) (d := z3.1) rfl rfl n hn)
  clear h hw hsub g0 g1 g2 g3 g4 f0 f1 f2 hcl2
  match cs, hcl with
  | [q0, q1, q2, q3, q4, q5, q6, q7], _ =>
    simp only [cells40, cells3, cells5, cells2, cells41, cells43] at e0 e1 e2 e3 i0 i1 i2 f3
    simp at e0 e1 e2 e3 i0 i1 i2 f3
    subst e0 e1 e2 e3 i0 i1 i2
    obtain ⟨a, bn, bc, rfl, hb⟩ := open_len f3 hsub2
    have hr := bounds_u8' hw2
    obtain ⟨rn, rfl⟩ : ∃ rn : Nat, r = rn := ⟨r.toNat, by omega⟩
    exact ⟨⟨d, id, rn, gu, od, ot, n, a, bn, bc⟩, ⟨rfl, hw1, by simp only; omega, hb⟩, rfl⟩

/-- A list of steps, opened. -/
theorem open_steps {H : Type} {enc : TypeId × Value → H} {W : World} {fuel : Nat} {v : Value} {x : DataW H × List MemPlace} (h : DataW.trod enc Try.prog W 0 (fun _ => true) true fuel 37 [v] = some x) (hw : ∀ n ∈ x.1.weights Try.prog 37, n ≤ reachBytes) :
    ∃ (a : Option Addr) (c : Nat) (ss : List Sp), v = .slice a ss.length c ∧ SpsAt W a ss ∧ (∀ s ∈ ss, SpOk s) ∧ ss.length ≤ 9223372036854775807 := by
  rcases DataW.trod_slice Try.underlying37 h with ⟨hcc, rfl⟩ | ⟨a, len, cap, elems, rest, n, _, hcc, rfl, hb, hl, hm, hlen, hel, -, -⟩
  · simp only [List.cons.injEq, and_true] at hcc
    subst hcc
    exact ⟨none, 0, [], rfl, fun h => absurd rfl h, by simp, by decide⟩
  · simp only [List.cons.injEq, and_true] at hcc
    subst hcc
    have each : ∀ i, i < len → ∃ z : Sp, SpOk z ∧ ∀ k v, (spc z)[k]? = some v → W.cell? ((a.add (i * 8)).add k) = some v := by
      intro i hi
      have hy := hel i hi
      rw [cells45, List.getElem?_eq_getElem (by omega : i < elems.length), Option.bind_eq_some_iff] at hy
      obtain ⟨cs, hcs, hy⟩ := hy
      have hwi : ∀ n ∈ (elems[i].1).weights Try.prog 45, n ≤ reachBytes := fun n hn => hw n (by
        simp only [DataW.weights, Try.underlying37, List.mem_cons, List.mem_append]
        exact .inr (.inl (weightsAll_mem (List.mem_map.2 ⟨elems[i], List.getElem_mem _, rfl⟩) n hn)))
      obtain ⟨z, ⟨rfl, hz⟩, hzl⟩ := open_sp _ _ _ hy hwi
      obtain ⟨-, -, hce⟩ := World.cells?_some hcs
      refine ⟨z, hz, fun k v hv => ?_⟩
      have hk : k < 8 := by have := (List.getElem?_eq_some_iff.1 hv).1; omega
      exact (hce k hk).trans hv
    have hlm : len ≤ 9223372036854775807 := by unfold maxLen at hm; omega
    by_cases h0 : len = 0
    · subst h0
      exact ⟨some a, cap, [], rfl, fun h => absurd rfl h, by simp, by decide⟩
    · let zs : List Sp := (List.finRange len).map (fun i => (each i.1 i.2).choose)
      have hzs : ∀ (i : Nat) (z : Sp), zs[i]? = some z → ∃ hi : i < len, z = (each i hi).choose := by
        intro i z hz
        simp only [zs, List.getElem?_map, Option.map_eq_some_iff] at hz
        obtain ⟨q, hq, rfl⟩ := hz
        obtain ⟨hlt, hqe⟩ := List.getElem?_eq_some_iff.1 hq
        rw [List.getElem_finRange] at hqe
        subst hqe
        exact ⟨by simpa using hlt, rfl⟩
      have hwl : zs.length = len := by simp [zs]
      have hap : a = ⟨a.block, a.off, none⟩ := by
        obtain ⟨z, -, hk⟩ := each 0 (by omega)
        have h1 := hk 0 _ rfl
        rw [Nat.zero_mul] at h1
        exact addr_plain (show W.cell? a = _ from h1)
      refine ⟨some a, cap, zs, by rw [hwl], fun _ => ⟨a.block, a.off, by rw [← hap], fun j z hz k v hv => ?_⟩, fun z hz => ?_, by rw [hwl]; exact hlm⟩
      · obtain ⟨hi, rfl⟩ := hzs j z hz
        obtain ⟨-, h3⟩ := (each j hi).choose_spec
        have := h3 k v hv
        rw [hap, Addr.add_mid, Addr.add_mid] at this
        exact this
      · obtain ⟨j, hj⟩ := List.getElem?_of_mem hz
        obtain ⟨hi, rfl⟩ := hzs j z hj
        exact (each j hi).choose_spec.1
end Go.Proofs.Ytleenkdlnmoepaa
