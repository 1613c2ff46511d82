/- Arguments opened: bytes, a move, a list of moves. -/
import Derived.Test.YtkekaljcbmkomaaRows
import Derived.Test.YtkekaljcbmkomaaMoves
import Derived.ProofKit
import Derived.OpenShut
import Derived.ShutString
import Derived.ChangeOld
import Derived.Below
import Derived.SizedLaws
import Derived.Lib.SmallJoins
namespace Go.Proofs.Ytkekaljcbmkomaa
open Go.ChangeShapes Go.WideShapes Go.ChangeAt Go.RowKit Go.Joins

theorem cells5 : Try.prog.cellsOf 5 = 1 := by kernel_rfl
theorem cells2 : Try.prog.cellsOf 2 = 1 := by kernel_rfl
theorem cells3 : Try.prog.cellsOf 3 = 1 := by kernel_rfl
theorem cells22 : Try.prog.cellsOf 22 = 1 := by kernel_rfl
theorem cells34 : Try.prog.cellsOf 34 = 4 := by kernel_rfl
theorem bytes5 : Try.prog.bytesOf 5 = 1 := by kernel_rfl
theorem bytes34 : Try.prog.bytesOf 34 = 48 := by kernel_rfl
theorem reach_le : reachBytes ≤ 140737488351232 := by decide

theorem addr_plain {w : World} {a : Addr} {v : Value} (h : w.cell? a = some v) : a = ⟨a.block, a.off, none⟩ := by
  obtain ⟨b, o, s⟩ := a
  unfold World.cell? at h
  cases s with
  | none => rfl
  | some x => split at h <;> simp at h

theorem weightsAll_mem {H : Type} {P : Program} {e : TypeId} {d : DataW H} : ∀ {l : List (DataW H)}, d ∈ l → ∀ n ∈ d.weights P e, n ∈ DataW.weightsAll P e l := by
  intro l
  induction l with
  | nil => intro h; simp at h
  | cons x l ih =>
    intro h n hn
    simp only [DataW.weightsAll, List.mem_append]
    rcases List.mem_cons.1 h with rfl | h
    · exact .inl hn
    · exact .inr (ih h n hn)

/-- Bytes, opened. -/
theorem open_bs {H : Type} {enc : TypeId × Value → H} {W : World} {fuel : Nat} {v : Value} {x : DataW H × List MemPlace} (h : DataW.trod enc Try.prog W 0 (fun _ => true) true fuel 22 [v] = some x) (hw : ∀ n ∈ x.1.weights Try.prog 22, n ≤ reachBytes) :
    ∃ (a : Option Addr) (c : Nat) (l : List UInt8), v = .slice a l.length c ∧ BsAt W a l ∧ l.length ≤ c ∧ c ≤ 140737488351232 := by
  rcases open_ints Try.underlying22 Try.underlying5 cells5 h with ⟨hc, rfl⟩ | ⟨a, len, cap, zs, hc, -, hl, hm, hzl, rfl, hcell, hwf⟩
  · simp only [List.cons.injEq, and_true] at hc
    subst hc
    exact ⟨none, 0, [], rfl, fun h => absurd rfl h, by simp, by decide⟩
  · simp only [List.cons.injEq, and_true] at hc
    subst hc
    simp only [if_true] at hzl
    have hcap : cap ≤ reachBytes := by
      have := hw ((lits (H := H) .u8 (zs.take len)).length + (lits (H := H) .u8 (zs.drop len)).length) (by simp [DataW.weights, Try.underlying22, bytes5])
      simp only [lits, List.length_map, List.length_take, List.length_drop] at this
      omega
    have hbl : ((zs.take len).map fun z => UInt8.ofNat z.toNat).length = len := by simp; omega
    refine ⟨some a, cap, (zs.take len).map fun z => UInt8.ofNat z.toNat, by rw [hbl], fun _ => ⟨a, rfl, fun j v hj => ?_⟩, by rw [hbl]; exact hl, Nat.le_trans hcap reach_le⟩
    simp only [bcells, List.getElem?_map, Option.map_map, Option.map_eq_some_iff] at hj
    obtain ⟨z, hz, rfl⟩ := hj
    rw [List.getElem?_take] at hz
    split at hz
    · rename_i hjl
      have hjz : j < zs.length := (List.getElem?_eq_some_iff.1 hz).1
      rw [hcell j hjz]
      have hzm : z ∈ zs := List.mem_of_getElem? hz
      have hb := bounds_u8 (hwf z hzm)
      have e1 : zs.getD j 0 = z := by rw [List.getD_eq_getElem?_getD, hz]; rfl
      rw [e1]
      have e2 : ((UInt8.ofNat z.toNat).toNat : Int) = z := by
        have e3 : (UInt8.ofNat z.toNat).toNat = z.toNat % 256 := by simp
        omega
      simp only [Function.comp, e2]
    · simp at hz

/-- One move, opened. -/
theorem open_move {H : Type} {enc : TypeId × Value → H} {W : World} {fuel : Nat} {cs : List Value} {x : DataW H × List MemPlace} (h : DataW.trod enc Try.prog W 0 (fun _ => true) true fuel 34 cs = some x) (hw : ∀ n ∈ x.1.weights Try.prog 34, n ≤ reachBytes) :
    ∃ m : Mv, cs[0]? = some (.int .i64 m.d) ∧ cs[1]? = some (.int .i64 m.t) ∧ cs[2]? = some (.int .i64 m.n) ∧ cs[3]? = some (.slice m.a m.bs.length m.c) ∧ cs.length = 4 ∧ BsAt W m.a m.bs ∧ m.bs.length ≤ m.c ∧ m.c ≤ 140737488351232 ∧ m.t ≤ 9223372036854775807 ∧ m.n ≤ 9223372036854775807 ∧ -9223372036854775808 ≤ m.t ∧ -9223372036854775808 ≤ m.n := by
  obtain ⟨y0, y1, y2, y3, k, rfl, hcl, g0, g1, g2, g3⟩ := trod_struct4 Try.underlying34 h
  rw [cells34] at hcl
  obtain ⟨d, e0, -, hw0⟩ := DataW.trod_int Try.underlying3 g0
  obtain ⟨t, e1, -, hw1⟩ := DataW.trod_int Try.underlying2 g1
  obtain ⟨n, e2, -, hw2⟩ := DataW.trod_int Try.underlying2 g2
  match cs, hcl with
  | [q0, q1, q2, q3], _ =>
    simp only [cells3, cells2, cells22] at e0 e1 e2 g3
    simp at e0 e1 e2 g3
    subst e0 e1 e2
    have hsub : ∀ n ∈ y3.1.weights Try.prog 22, n ≤ reachBytes := fun n hn => hw n (by
      simp only [DataW.weights, Try.underlying34]
      exact DataW.weights_mem_each (j := 3) (t := 22) (d := y3.1) rfl rfl n hn)
    obtain ⟨a, c, l, rfl, hb, hlc, hc⟩ := open_bs g3 hsub
    have b1 := bounds_i64 hw1
    have b2 := bounds_i64 hw2
    exact ⟨⟨d, t, n, a, c, l⟩, rfl, rfl, rfl, rfl, rfl, hb, hlc, hc, b1.2, b2.2, b1.1, b2.1⟩

/-- A list of moves, opened. -/
theorem open_moves {H : Type} {enc : TypeId × Value → H} {W : World} {fuel : Nat} {v : Value} {x : DataW H × List MemPlace} (h : DataW.trod enc Try.prog W 0 (fun _ => true) true fuel 23 [v] = some x) (hw : ∀ n ∈ x.1.weights Try.prog 23, n ≤ reachBytes) :
    ∃ (a : Option Addr) (c : Nat) (ms : List Mv), v = .slice a ms.length c ∧ Mvs W a ms := by
  rcases DataW.trod_slice Try.underlying23 h with ⟨hc, rfl⟩ | ⟨a, len, cap, elems, rest, n, _, hc, rfl, hb, hl, hm, hlen, hel, -, -⟩
  · simp only [List.cons.injEq, and_true] at hc
    subst hc
    exact ⟨none, 0, [], rfl, fun h => absurd rfl h, by simp, by simp, by simp⟩
  · simp only [List.cons.injEq, and_true] at hc
    subst hc
    have hcount : len ≤ 4611686018427387904 := by
      have := hw (((elems.map (·.1)).length + (rest.map (·.1)).length) * 48) (by simp [DataW.weights, Try.underlying23, bytes34])
      have h2 := reach_le
      simp only [List.length_map] at this
      omega
    have each : ∀ i, i < len → ∃ m : Mv, (W.cell? (a.add (i * 4)) = some (.int .i64 m.d) ∧ W.cell? ((a.add (i * 4)).add 1) = some (.int .i64 m.t) ∧ W.cell? ((a.add (i * 4)).add 2) = some (.int .i64 m.n) ∧ W.cell? ((a.add (i * 4)).add 3) = some (.slice m.a m.bs.length m.c)) ∧ BsAt W m.a m.bs ∧ m.t ≤ 9223372036854775807 ∧ m.bs.length ≤ 4611686018427387904 := by
      intro i hi
      have hy := hel i hi
      rw [cells34, List.getElem?_eq_getElem (by omega : i < elems.length), Option.bind_eq_some_iff] at hy
      obtain ⟨cs, hcs, hy⟩ := hy
      have hwi : ∀ n ∈ (elems[i].1).weights Try.prog 34, n ≤ reachBytes := fun n hn => hw n (by
        simp only [DataW.weights, Try.underlying23, List.mem_cons, List.mem_append]
        exact .inr (.inl (weightsAll_mem (List.mem_map.2 ⟨elems[i], List.getElem_mem _, rfl⟩) n hn)))
      obtain ⟨m, c0, c1, c2, c3, -, hbs, hlc, hcc, ht, -⟩ := open_move hy hwi
      obtain ⟨-, -, hce⟩ := World.cells?_some hcs
      have ha0 : (a.add (i * 4)).add 0 = a.add (i * 4) := rfl
      exact ⟨m, ⟨by rw [← ha0]; exact (hce 0 (by decide)).trans c0, (hce 1 (by decide)).trans c1, (hce 2 (by decide)).trans c2, (hce 3 (by decide)).trans c3⟩, hbs, ht, by omega⟩
    by_cases h0 : len = 0
    · subst h0
      exact ⟨some a, cap, [], rfl, fun h => absurd rfl h, by simp, by simp, by simp⟩
    · let ms : List Mv := (List.finRange len).map (fun i => (each i.1 i.2).choose)
      have hms : ∀ (i : Nat) (z : Mv), ms[i]? = some z → ∃ hi : i < len, z = (each i hi).choose := by
        intro i z hz
        simp only [ms, List.getElem?_map, Option.map_eq_some_iff] at hz
        obtain ⟨q, hq, rfl⟩ := hz
        have hq2 := List.getElem?_eq_some_iff.1 hq
        obtain ⟨hlt, hqe⟩ := hq2
        rw [List.getElem_finRange] at hqe
        subst hqe
        exact ⟨by simpa using hlt, rfl⟩
      have hwl : ms.length = len := by simp [ms]
      have hap : a = ⟨a.block, a.off, none⟩ := by
        obtain ⟨z, ⟨hc, -⟩, -⟩ := each 0 (by omega)
        exact addr_plain (show W.cell? a = _ from hc)
      refine ⟨some a, cap, ms, by rw [hwl], fun _ => ⟨a.block, a.off, by rw [← hap], fun j z hz => ?_⟩, fun z hz => ?_, fun z hz => ?_, by rw [hwl]; exact hcount⟩
      · obtain ⟨hi, rfl⟩ := hms j z hz
        obtain ⟨⟨c0, c1, c2, c3⟩, -⟩ := (each j hi).choose_spec
        generalize (each j hi).choose = z at *
        rw [hap, Addr.add_mid] at c0 c1 c2 c3
        rw [Addr.add_mid] at c1 c2 c3
        exact ⟨c0, c1, c2, c3⟩
      · obtain ⟨j, hj⟩ := List.getElem?_of_mem hz
        obtain ⟨hi, rfl⟩ := hms j z hj
        exact (each j hi).choose_spec.2.1
      · obtain ⟨j, hj⟩ := List.getElem?_of_mem hz
        obtain ⟨hi, rfl⟩ := hms j z hj
        exact (each j hi).choose_spec.2.2
end Go.Proofs.Ytkekaljcbmkomaa
