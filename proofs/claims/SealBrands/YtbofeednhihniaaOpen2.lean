/- Arguments opened: lists of makers. -/
import Derived.Test.YtbofeednhihniaaOpen
import Derived.Test.YtbofeednhihniaaGreatW
namespace Go.Proofs.Ytbofeednhihniaa
open Go.ChangeShapes Go.WideShapes Go.ChangeAt Go.RowKit Go.Joins

theorem addr_plain {w : World} {a : Addr} {v : Value} (h : w.cell? a = some v) : a = ⟨a.block, a.off, none⟩ := by
  obtain ⟨b, o, s⟩ := a
  unfold World.cell? at h
  cases s with
  | none => rfl
  | some x => split at h <;> simp at h
theorem cells3 : Try.prog.cellsOf 3 = 1 := by kernel_rfl
theorem cells9 : Try.prog.cellsOf 9 = 1 := by kernel_rfl

set_option maxRecDepth 20000
/-- A list of plain things, opened: each thing by its own cells. -/
theorem open_list {H : Type} {enc : TypeId × Value → H} {W : World} {α : Type} {t e : TypeId} {m : Nat} (hu : Try.prog.underlying t = some (.slice e)) (hc : Try.prog.cellsOf e = m) (hm0 : 0 < m) (Q : α → List Value → Prop)
    (op : ∀ (fuel : Nat) (cs : List Value) (x : DataW H × List MemPlace), DataW.trod enc Try.prog W 0 (fun _ => true) true fuel e cs = some x → ∃ z, Q z cs ∧ cs.length = m)
    {fuel : Nat} {v : Value} {x : DataW H × List MemPlace} (h : DataW.trod enc Try.prog W 0 (fun _ => true) true fuel t [v] = some x) :
    ∃ (a : Option Addr) (c : Nat) (zs : List α), v = .slice a zs.length c ∧ (zs ≠ [] → ∃ g o, a = some ⟨g, o, none⟩ ∧ ∀ j z, zs[j]? = some z → ∃ cs, Q z cs ∧ cs.length = m ∧ ∀ k, k < m → W.cell? ⟨g, o + j * m + k, none⟩ = cs[k]?) ∧ ∀ z ∈ zs, ∃ cs, Q z cs := by
  rcases DataW.trod_slice hu h with ⟨hcc, rfl⟩ | ⟨a, len, cap, elems, rest, n, _, hcc, rfl, hb, hl, hm, hlen, hel, -, -⟩
  · simp only [List.cons.injEq, and_true] at hcc
    subst hcc
    exact ⟨none, 0, [], rfl, fun h => absurd rfl h, by simp⟩
  · simp only [List.cons.injEq, and_true] at hcc
    subst hcc
    have each : ∀ i, i < len → ∃ z : α, ∃ cs, Q z cs ∧ cs.length = m ∧ ∀ k, k < m → W.cell? ((a.add (i * m)).add k) = cs[k]? := by
      intro i hi
      have hy := hel i hi
      rw [hc, List.getElem?_eq_getElem (by omega : i < elems.length), Option.bind_eq_some_iff] at hy
      obtain ⟨cs, hcs, hy⟩ := hy
      obtain ⟨z, hz, hzl⟩ := op _ _ _ hy
      obtain ⟨-, -, hce⟩ := World.cells?_some hcs
      exact ⟨z, cs, hz, hzl, fun k hk => hce k hk⟩
    by_cases h0 : len = 0
    · subst h0
      exact ⟨some a, cap, [], rfl, fun h => absurd rfl h, by simp⟩
    · let zs : List α := (List.finRange len).map (fun i => (each i.1 i.2).choose)
      have hzs : ∀ (i : Nat) (z : α), zs[i]? = some z → ∃ hi : i < len, z = (each i hi).choose := by
        intro i z hz
        simp only [zs, List.getElem?_map, Option.map_eq_some_iff] at hz
        obtain ⟨q, hq, rfl⟩ := hz
        obtain ⟨hlt, hqe⟩ := List.getElem?_eq_some_iff.1 hq
        rw [List.getElem_finRange] at hqe
        subst hqe
        exact ⟨by simpa using hlt, rfl⟩
      have hwl : zs.length = len := by simp [zs]
      have hap : a = ⟨a.block, a.off, none⟩ := by
        obtain ⟨z, cs, -, hcl, hk⟩ := each 0 (by omega)
        have h1 := hk 0 hm0
        rw [List.getElem?_eq_getElem (by omega)] at h1
        rw [Nat.zero_mul] at h1
        exact addr_plain (show W.cell? a = _ from h1)
      refine ⟨some a, cap, zs, by rw [hwl], fun _ => ⟨a.block, a.off, by rw [← hap], fun j z hz => ?_⟩, fun z hz => ?_⟩
      · obtain ⟨hi, rfl⟩ := hzs j z hz
        obtain ⟨cs, h1, h2, h3⟩ := (each j hi).choose_spec
        refine ⟨cs, h1, h2, fun k hk => ?_⟩
        have := h3 k hk
        rw [hap, Addr.add_mid, Addr.add_mid] at this
        exact this
      · obtain ⟨j, hj⟩ := List.getElem?_of_mem hz
        obtain ⟨hi, rfl⟩ := hzs j z hj
        obtain ⟨cs, h1, -⟩ := (each j hi).choose_spec
        exact ⟨cs, h1⟩

/-- A maker's cells, opened. -/
theorem open_mk {H : Type} {enc : TypeId × Value → H} {W : World} (fuel : Nat) (cs : List Value) (x : DataW H × List MemPlace) (h : DataW.trod enc Try.prog W 0 (fun _ => true) true fuel 34 cs = some x) : ∃ y : Int × ByteArray, (cs = [.int .i64 y.1, .string y.2]) ∧ cs.length = 2 := by
  obtain ⟨y0, y1, k, rfl, hcl, g0, g1⟩ := trod_struct2 Try.underlying34 h
  rw [cells34] at hcl
  obtain ⟨a, e0, -, hw0⟩ := DataW.trod_int Try.underlying3 g0
  obtain ⟨s, e1, -, -⟩ := DataW.trod_string Try.underlying9 g1
  match cs, hcl with
  | [q0, q1], _ =>
    simp only [cells3, cells9] at e0 e1
    simp at e0 e1
    subst e0 e1
    exact ⟨⟨a, s⟩, rfl, rfl⟩

/-- A list of makers, opened. -/
theorem open_makers {H : Type} {enc : TypeId × Value → H} {W : World} {base : Nat} {r : Reach} {v : Value} {d : DataW H} {p : List MemPlace} (hv : Value.okWide Try.prog W r base 22 v) (h : DataW.Trod enc Try.prog W 0 (fun _ => true) true 22 v d p) :
    ∃ (a : Option Addr) (c : Nat) (L : List (Int × ByteArray)), v = .slice a L.length c ∧ MkAt W a L := by
  obtain ⟨x0, x1, x2, rfl⟩ := okWide_slice Try.underlying22 hv
  obtain ⟨fuel, hf⟩ := h
  obtain ⟨a, c, zs, he, hz, hi⟩ := open_list Try.underlying22 cells34 (by decide) (fun (y : Int × ByteArray) cs => cs = [.int .i64 y.1, .string y.2]) open_mk hf
  refine ⟨a, c, zs, he, fun hne => ?_⟩
  obtain ⟨g, o, rfl, hc⟩ := hz hne
  refine ⟨g, o, rfl, fun j y hj => ?_⟩
  obtain ⟨cs, rfl, -, hk⟩ := hc j y hj
  exact ⟨hk 0 (by decide), hk 1 (by decide)⟩
end Go.Proofs.Ytbofeednhihniaa
