/- Lists of items, opened. -/
import Derived.Test.YtbnaegoahdcejaaGreatDoorROpt
import Derived.Test.YtbnaegoahdcejaaGreatDoorGI
import Derived.Deep.Strs
namespace Go.Proofs.YtbnaegoahdcejaaGreatDoor
open Go.ChangeShapes Go.WideShapes Go.ChangeAt Go.RowKit Go.Joins

theorem cells5 : Tryz.prog.cellsOf 5 = 1 := by kernel_rfl
theorem bytes5 : Tryz.prog.bytesOf 5 = 1 := by kernel_rfl
theorem cellsI8 : Tryz.prog.cellsOf 49 = 1 := by kernel_rfl
theorem cellsS : Tryz.prog.cellsOf 9 = 1 := by kernel_rfl
theorem cellsB : Tryz.prog.cellsOf 48 = 1 := by kernel_rfl
theorem cellsIt : Tryz.prog.cellsOf 51 = 3 := by kernel_rfl
theorem bytesIt : Tryz.prog.bytesOf 51 = 48 := by kernel_rfl
theorem addr_plain {w : World} {a : Addr} {v : Value} (h : w.cell? a = some v) : a = ⟨a.block, a.off, none⟩ := by
  obtain ⟨b, o, s⟩ := a
  unfold World.cell? at h
  cases s with
  | none => rfl
  | some x => split at h <;> simp at h
theorem weightsAll_mem {H : Type} {P : Program} {e : TypeId} {d : DataW H} : ∀ {l : List (DataW H)}, d ∈ l → ∀ n ∈ d.weights P e, n ∈ DataW.weightsAll P e l := by
  intro l
  induction l with
  | nil => intro h; simp at h
  | cons x l ih =>
    intro h n hn
    simp only [DataW.weightsAll, List.mem_append]
    rcases List.mem_cons.1 h with rfl | h
    · exact .inl hn
    · exact .inr (ih h n hn)
/-- Bytes, opened. -/
theorem open_bs {H : Type} {enc : TypeId × Value → H} {W : World} {fuel : Nat} {v : Value} {x : DataW H × List MemPlace} (h : DataW.trod enc Tryz.prog W 0 (fun _ => true) true fuel 48 [v] = some x) (hw : ∀ n ∈ x.1.weights Tryz.prog 48, n ≤ reachBytes) :
    ∃ (a : Option Addr) (c : Nat) (l : List UInt8), v = .slice a l.length c ∧ BsAt W a l ∧ l.length ≤ c ∧ c ≤ 140737488351232 := by
  rcases open_ints Tryz.underlying48 Tryz.underlying5 cells5 h with ⟨hc, rfl⟩ | ⟨a, len, cap, zs, hc, -, hl, hm, hzl, rfl, hcell, hwf⟩
  · simp only [List.cons.injEq, and_true] at hc
    subst hc
    exact ⟨none, 0, [], rfl, fun h => absurd rfl h, by simp, by decide⟩
  · simp only [List.cons.injEq, and_true] at hc
    subst hc
    simp only [if_true] at hzl
    have hcap : cap ≤ reachBytes := by
      have := hw ((lits (H := H) .u8 (zs.take len)).length + (lits (H := H) .u8 (zs.drop len)).length) (by simp [DataW.weights, Tryz.underlying48, bytes5])
      simp only [lits, List.length_map, List.length_take, List.length_drop] at this
      omega
    have hbl : ((zs.take len).map fun z => UInt8.ofNat z.toNat).length = len := by simp; omega
    refine ⟨some a, cap, (zs.take len).map fun z => UInt8.ofNat z.toNat, by rw [hbl], fun _ => ⟨a, rfl, fun j v hj => ?_⟩, by rw [hbl]; exact hl, Nat.le_trans hcap reach_le⟩
    simp only [bcells, List.getElem?_map, Option.map_map, Option.map_eq_some_iff] at hj
    obtain ⟨z, hz, rfl⟩ := hj
    rw [List.getElem?_take] at hz
    split at hz
    · rename_i hjl
      have hjz : j < zs.length := (List.getElem?_eq_some_iff.1 hz).1
      rw [hcell j hjz]
      have hzm : z ∈ zs := List.mem_of_getElem? hz
      have hb := bounds_u8 (hwf z hzm)
      have e1 : zs.getD j 0 = z := by rw [List.getD_eq_getElem?_getD, hz]; rfl
      rw [e1]
      have e2 : ((UInt8.ofNat z.toNat).toNat : Int) = z := by
        have e3 : (UInt8.ofNat z.toNat).toNat = z.toNat % 256 := by simp
        omega
      simp only [Function.comp, e2]
    · simp at hz
set_option maxRecDepth 20000 in
/-- One item, opened. -/
theorem open_item {H : Type} {enc : TypeId × Value → H} {W : World} {fuel : Nat} {cs : List Value} {x : DataW H × List MemPlace} (h : DataW.trod enc Tryz.prog W 0 (fun _ => true) true fuel 51 cs = some x) (hw : ∀ n ∈ x.1.weights Tryz.prog 51, n ≤ reachBytes) :
    ∃ m : Im, cs[0]? = some (.string m.p) ∧ cs[1]? = some (.int .i8 m.k) ∧ cs[2]? = some (.slice m.a m.x.length m.c) ∧ BsAt W m.a m.x ∧ m.x.length ≤ m.c ∧ m.c ≤ 140737488351232 ∧ m.p.size ≤ 140737488351232 := by
  obtain ⟨y0, y1, y2, k, rfl, hcl, g0, g1, g2⟩ := Go.Deep.trod_struct3 Tryz.underlying51 h
  rw [cellsIt] at hcl
  obtain ⟨s, e0, z0, -⟩ := DataW.trod_string Tryz.underlying9 g0
  obtain ⟨t, e1, -, -⟩ := DataW.trod_int Tryz.underlying49 g1
  match cs, hcl with
  | [q0, q1, q2], _ =>
    simp only [cellsS, cellsI8, cellsB] at e0 e1 g2
    simp at e0 e1 g2
    subst e0 e1
    have hsub : ∀ n ∈ y2.1.weights Tryz.prog 48, n ≤ reachBytes := fun n hn => hw n (by
      simp only [DataW.weights, Tryz.underlying51]
      exact DataW.weights_mem_each (j := 2) (t := 48) (d := y2.1) rfl rfl n hn)
    have hs0 : s.data.toList.length ≤ reachBytes := hw _ (by
      simp only [DataW.weights, Tryz.underlying51]
      refine DataW.weights_mem_each (j := 0) (t := 9) (d := y0.1) rfl rfl _ ?_
      rw [z0]
      simp [DataW.weights])
    obtain ⟨a, c, l, rfl, hb, hlc, hc⟩ := open_bs g2 hsub
    exact ⟨⟨s, t, l, a, c⟩, rfl, rfl, rfl, hb, hlc, hc, by rw [Lib.size_eq]; exact Nat.le_trans hs0 reach_le⟩
set_option maxRecDepth 20000 in
/-- A list of items, opened. -/
theorem open_items {H : Type} {enc : TypeId × Value → H} {W : World} {fuel : Nat} {v : Value} {x : DataW H × List MemPlace} (h : DataW.trod enc Tryz.prog W 0 (fun _ => true) true fuel 22 [v] = some x) (hw : ∀ n ∈ x.1.weights Tryz.prog 22, n ≤ reachBytes) :
    ∃ (a : Option Addr) (c : Nat) (ms : List Im), v = .slice a ms.length c ∧ ms.length ≤ c ∧ ms.length ≤ 140737488351232 ∧ Inp W a ms ∧ Fits ms := by
  rcases DataW.trod_slice Tryz.underlying22 h with ⟨hc, rfl⟩ | ⟨a, len, cap, elems, rest, n, _, hc, rfl, hb, hl, hm, hlen, hel, -, -⟩
  · simp only [List.cons.injEq, and_true] at hc
    subst hc
    exact ⟨none, 0, [], rfl, by simp, by simp, ⟨fun h => absurd rfl h, fun m hm => by simp at hm⟩, fun m hm => by simp at hm⟩
  · simp only [List.cons.injEq, and_true] at hc
    subst hc
    have hcount : len ≤ 140737488351232 := by
      have := hw (((elems.map (·.1)).length + (rest.map (·.1)).length) * 48) (by simp [DataW.weights, Tryz.underlying22, bytesIt])
      have h2 := reach_le
      simp only [List.length_map] at this
      omega
    have each : ∀ i, i < len → ∃ m : Im, (W.cell? (a.add (i * 3)) = some (.string m.p) ∧ W.cell? ((a.add (i * 3)).add 1) = some (.int .i8 m.k) ∧ W.cell? ((a.add (i * 3)).add 2) = some (.slice m.a m.x.length m.c)) ∧ BsAt W m.a m.x ∧ m.x.length ≤ m.c ∧ m.c ≤ 140737488351232 ∧ m.p.size ≤ 140737488351232 := by
      intro i hi
      have hy := hel i hi
      rw [cellsIt, List.getElem?_eq_getElem (by omega : i < elems.length), Option.bind_eq_some_iff] at hy
      obtain ⟨cs, hcs, hy⟩ := hy
      have hwi : ∀ n ∈ (elems[i].1).weights Tryz.prog 51, n ≤ reachBytes := fun n hn => hw n (by
        simp only [DataW.weights, Tryz.underlying22, List.mem_cons, List.mem_append]
        exact .inr (.inl (weightsAll_mem (List.mem_map.2 ⟨elems[i], List.getElem_mem _, rfl⟩) n hn)))
      obtain ⟨m, c0, c1, c2, hbs⟩ := open_item hy hwi
      obtain ⟨-, -, hce⟩ := World.cells?_some hcs
      have ha0 : (a.add (i * 3)).add 0 = a.add (i * 3) := rfl
      exact ⟨m, ⟨by rw [← ha0]; exact (hce 0 (by decide)).trans c0, (hce 1 (by decide)).trans c1, (hce 2 (by decide)).trans c2⟩, hbs⟩
    by_cases h0 : len = 0
    · subst h0
      exact ⟨some a, cap, [], rfl, by simp, by simp, ⟨fun h => absurd rfl h, fun m hm => by simp at hm⟩, fun m hm => by simp at hm⟩
    · let ms : List Im := (List.finRange len).map (fun i => (each i.1 i.2).choose)
      have hms : ∀ (i : Nat) (z : Im), ms[i]? = some z → ∃ hi : i < len, z = (each i hi).choose := by
        intro i z hz
        simp only [ms, List.getElem?_map, Option.map_eq_some_iff] at hz
        obtain ⟨q, hq, rfl⟩ := hz
        have hq2 := List.getElem?_eq_some_iff.1 hq
        obtain ⟨hlt, hqe⟩ := hq2
        rw [List.getElem_finRange] at hqe
        subst hqe
        exact ⟨by simpa using hlt, rfl⟩
      have hwl : ms.length = len := by simp [ms]
      have hap : a = ⟨a.block, a.off, none⟩ := by
        obtain ⟨z, ⟨hc, -⟩, -⟩ := each 0 (by omega)
        exact addr_plain (show W.cell? a = _ from hc)
      refine ⟨some a, cap, ms, by rw [hwl], by rw [hwl]; exact hl, by rw [hwl]; exact hcount, ⟨fun _ => ⟨a.block, a.off, by rw [← hap], fun j v hj => ?_⟩, fun z hz => ?_⟩, fun z hz => ?_⟩
      · have hjl : j < ms.length * 3 := by
          have := (List.getElem?_eq_some_iff.1 hj).1
          rwa [ims_length] at this
        obtain ⟨z, hz⟩ : ∃ z, ms[j / 3]? = some z := ⟨_, List.getElem?_eq_getElem (by omega)⟩
        obtain ⟨i0, i1, i2⟩ := ims_at hz
        obtain ⟨hi, rfl⟩ := hms _ z hz
        obtain ⟨⟨c0, c1, c2⟩, -⟩ := (each _ hi).choose_spec
        generalize (each _ hi).choose = z at *
        rw [hap, Addr.add_mid] at c0 c1 c2
        rw [Addr.add_mid] at c1 c2
        have hr : j % 3 = 0 ∨ j % 3 = 1 ∨ j % 3 = 2 := by omega
        rcases hr with hr | hr | hr
        · rw [show j = j / 3 * 3 by omega] at hj ⊢
          rw [i0] at hj
          exact c0.trans hj
        · have e : j = j / 3 * 3 + 1 := by omega
          rw [e] at hj ⊢
          rw [i1] at hj
          rw [← Nat.add_assoc]
          exact c1.trans hj
        · have e : j = j / 3 * 3 + 2 := by omega
          rw [e] at hj ⊢
          rw [i2] at hj
          rw [← Nat.add_assoc]
          exact c2.trans hj
      · obtain ⟨j, hj⟩ := List.getElem?_of_mem hz
        obtain ⟨hi, rfl⟩ := hms j z hj
        obtain ⟨-, s1, s2, s3, -⟩ := (each j hi).choose_spec
        exact ⟨s1, s2, by omega⟩
      · obtain ⟨j, hj⟩ := List.getElem?_of_mem hz
        obtain ⟨hi, rfl⟩ := hms j z hj
        obtain ⟨-, s1, s2, s3, s4⟩ := (each j hi).choose_spec
        exact ⟨s4, by omega⟩
end Go.Proofs.YtbnaegoahdcejaaGreatDoor
