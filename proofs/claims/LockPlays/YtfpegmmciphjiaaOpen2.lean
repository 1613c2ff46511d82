/- Arguments opened: lists of locks, of steps, of bytes. -/
import Derived.Test.YtfpegmmciphjiaaOpen
namespace Go.Proofs.Ytfpegmmciphjiaa
open Go.ChangeShapes Go.WideShapes Go.ChangeAt Go.RowKit Go.Joins

set_option maxRecDepth 20000
/-- A list of plain things, opened: each thing by its own cells. -/
theorem open_list {H : Type} {enc : TypeId × Value → H} {W : World} {α : Type} {t e : TypeId} {m : Nat} (hu : Try.prog.underlying t = some (.slice e)) (hc : Try.prog.cellsOf e = m) (hm0 : 0 < m) (Q : α → List Value → Prop)
    (op : ∀ (fuel : Nat) (cs : List Value) (x : DataW H × List MemPlace), DataW.trod enc Try.prog W 0 (fun _ => true) true fuel e cs = some x → ∃ z, Q z cs ∧ cs.length = m)
    {fuel : Nat} {v : Value} {x : DataW H × List MemPlace} (h : DataW.trod enc Try.prog W 0 (fun _ => true) true fuel t [v] = some x) :
    ∃ (a : Option Addr) (c : Nat) (zs : List α), v = .slice a zs.length c ∧ (zs ≠ [] → ∃ g o, a = some ⟨g, o, none⟩ ∧ ∀ j z, zs[j]? = some z → ∃ cs, Q z cs ∧ cs.length = m ∧ ∀ k, k < m → W.cell? ⟨g, o + j * m + k, none⟩ = cs[k]?) ∧ ∀ z ∈ zs, ∃ cs, Q z cs := by
  rcases DataW.trod_slice hu h with ⟨hcc, rfl⟩ | ⟨a, len, cap, elems, rest, n, _, hcc, rfl, hb, hl, hm, hlen, hel, -, -⟩
  · simp only [List.cons.injEq, and_true] at hcc
    subst hcc
    exact ⟨none, 0, [], rfl, fun h => absurd rfl h, by simp⟩
  · simp only [List.cons.injEq, and_true] at hcc
    subst hcc
    have each : ∀ i, i < len → ∃ z : α, ∃ cs, Q z cs ∧ cs.length = m ∧ ∀ k, k < m → W.cell? ((a.add (i * m)).add k) = cs[k]? := by
      intro i hi
      have hy := hel i hi
      rw [hc, List.getElem?_eq_getElem (by omega : i < elems.length), Option.bind_eq_some_iff] at hy
      obtain ⟨cs, hcs, hy⟩ := hy
      obtain ⟨z, hz, hzl⟩ := op _ _ _ hy
      obtain ⟨-, -, hce⟩ := World.cells?_some hcs
      exact ⟨z, cs, hz, hzl, fun k hk => hce k hk⟩
    by_cases h0 : len = 0
    · subst h0
      exact ⟨some a, cap, [], rfl, fun h => absurd rfl h, by simp⟩
    · let zs : List α := (List.finRange len).map (fun i => (each i.1 i.2).choose)
      have hzs : ∀ (i : Nat) (z : α), zs[i]? = some z → ∃ hi : i < len, z = (each i hi).choose := by
        intro i z hz
        simp only [zs, List.getElem?_map, Option.map_eq_some_iff] at hz
        obtain ⟨q, hq, rfl⟩ := hz
        obtain ⟨hlt, hqe⟩ := List.getElem?_eq_some_iff.1 hq
        rw [List.getElem_finRange] at hqe
        subst hqe
        exact ⟨by simpa using hlt, rfl⟩
      have hwl : zs.length = len := by simp [zs]
      have hap : a = ⟨a.block, a.off, none⟩ := by
        obtain ⟨z, cs, -, hcl, hk⟩ := each 0 (by omega)
        have h1 := hk 0 hm0
        rw [List.getElem?_eq_getElem (by omega)] at h1
        rw [Nat.zero_mul] at h1
        exact addr_plain (show W.cell? a = _ from h1)
      refine ⟨some a, cap, zs, by rw [hwl], fun _ => ⟨a.block, a.off, by rw [← hap], fun j z hz => ?_⟩, fun z hz => ?_⟩
      · obtain ⟨hi, rfl⟩ := hzs j z hz
        obtain ⟨cs, h1, h2, h3⟩ := (each j hi).choose_spec
        refine ⟨cs, h1, h2, fun k hk => ?_⟩
        have := h3 k hk
        rw [hap, Addr.add_mid, Addr.add_mid] at this
        exact this
      · obtain ⟨j, hj⟩ := List.getElem?_of_mem hz
        obtain ⟨hi, rfl⟩ := hzs j z hj
        obtain ⟨cs, h1, -⟩ := (each j hi).choose_spec
        exact ⟨cs, h1⟩

/-- A lock's cells, opened. -/
theorem open_lk {H : Type} {enc : TypeId × Value → H} {W : World} (fuel : Nat) (cs : List Value) (x : DataW H × List MemPlace) (h : DataW.trod enc Try.prog W 0 (fun _ => true) true fuel 29 cs = some x) : ∃ l : Lk, (cs = lkc l ∧ InR l) ∧ cs.length = 4 := by
  obtain ⟨y0, y1, y2, y3, k, rfl, hcl, g0, g1, g2, g3⟩ := trod_struct4 Try.underlying29 h
  rw [cells29] at hcl
  obtain ⟨a, e0, -, hw0⟩ := DataW.trod_int Try.underlying3 g0
  obtain ⟨b, e1, -, hw1⟩ := DataW.trod_int Try.underlying2 g1
  obtain ⟨n, e2, -, hw2⟩ := DataW.trod_int Try.underlying2 g2
  obtain ⟨s, e3, -⟩ := DataW.trod_bool Try.underlying4 g3
  match cs, hcl with
  | [q0, q1, q2, q3], _ =>
    simp only [cells2, cells3, cells4] at e0 e1 e2 e3
    simp at e0 e1 e2 e3
    subst e0 e1 e2 e3
    have b0 := bounds_i64 hw0
    have b1 := bounds_i64 hw1
    have b2 := bounds_i64 hw2
    exact ⟨⟨a, b, n, s⟩, ⟨rfl, ⟨b0.1, b0.2, b1.1, b1.2, b2.1, b2.2⟩⟩, rfl⟩

/-- A list of locks, opened. -/
theorem open_locks {H : Type} {enc : TypeId × Value → H} {W : World} {base : Nat} {r : Reach} {v : Value} {d : DataW H} {p : List MemPlace} (hv : Value.okWide Try.prog W r base 36 v) (h : DataW.Trod enc Try.prog W 0 (fun _ => true) true 36 v d p) :
    ∃ (a : Option Addr) (c : Nat) (L : List Lk), v = .slice a L.length c ∧ LsAt W a L ∧ ∀ l ∈ L, InR l := by
  obtain ⟨x0, x1, x2, rfl⟩ := okWide_slice Try.underlying36 hv
  obtain ⟨fuel, hf⟩ := h
  obtain ⟨a, c, zs, he, hz, hi⟩ := open_list Try.underlying36 cells29 (by decide) (fun (l : Lk) cs => cs = lkc l ∧ InR l) open_lk hf
  refine ⟨a, c, zs, he, fun hne => ?_, fun l hl => ?_⟩
  · obtain ⟨g, o, rfl, hc⟩ := hz hne
    refine ⟨g, o, rfl, fun j u hj => ?_⟩
    have hjl := (List.getElem?_eq_some_iff.1 hj).1
    rw [lks_length] at hjl
    obtain ⟨z, hzz⟩ : ∃ z, zs[j / 4]? = some z := ⟨_, List.getElem?_eq_getElem (by omega)⟩
    obtain ⟨cs, ⟨rfl, -⟩, -, hk⟩ := hc (j / 4) z hzz
    have h1 := hk (j % 4) (by omega)
    rw [show o + j / 4 * 4 + j % 4 = o + j by omega] at h1
    rw [h1, ← hj]
    obtain ⟨l0, l1, l2, l3⟩ := lks_at zs (j / 4) z hzz
    have hj4 : j = j / 4 * 4 + j % 4 := by omega
    have hr : j % 4 = 0 ∨ j % 4 = 1 ∨ j % 4 = 2 ∨ j % 4 = 3 := by omega
    rcases hr with hr | hr | hr | hr
    · rw [hr] at hj4 ⊢; rw [hj4, Nat.add_zero, show (j / 4 * 4) / 4 * 4 = j / 4 * 4 by omega] at *; rw [l0]; rfl
    · rw [hr]; conv => rhs; rw [hj4, hr]
      rw [l1]; rfl
    · rw [hr]; conv => rhs; rw [hj4, hr]
      rw [l2]; rfl
    · rw [hr]; conv => rhs; rw [hj4, hr]
      rw [l3]; rfl
  · obtain ⟨cs, -, h2⟩ := hi l hl
    exact h2
end Go.Proofs.Ytfpegmmciphjiaa
