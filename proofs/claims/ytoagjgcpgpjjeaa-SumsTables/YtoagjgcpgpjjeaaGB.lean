/- Merged: Ops, Open, Open2. -/
import Derived.Test.YtoagjgcpgpjjeaaGA
import Derived.Deep.RegionHeld3
import Derived.Test.YtoagjgcpgpjjeaaRows
import Derived.ProofKit
import Derived.OpenShut
import Derived.ShutString
import Derived.ChangeOld
import Derived.Below
import Derived.SizedLaws
import Derived.Lib.SmallJoins
namespace Go.Proofs.Ytoagjgcpgpjjeaa
open Go.RowKit
attribute [local simp] lcells_nil readB_length bcells_length

/-- An op as it lies in memory. -/
structure Mv where
  d : Int
  t : Int
  n : Int
  a : Option Addr
  c : Nat
  bs : List UInt8

/-- The cells of some ops. -/
def RdM (w : World) (blk off : Nat) (ms : List Mv) : Prop := ∀ j m, ms[j]? = some m → w.cell? ⟨blk, off + j * 4, none⟩ = some (.int .i8 m.d) ∧ w.cell? ⟨blk, off + j * 4 + 1, none⟩ = some (.int .i64 m.t) ∧ w.cell? ⟨blk, off + j * 4 + 2, none⟩ = some (.int .i64 m.n) ∧ w.cell? ⟨blk, off + j * 4 + 3, none⟩ = some (.slice m.a m.bs.length m.c)
/-- A list of ops. -/
structure Mvs (w : World) (a : Option Addr) (ms : List Mv) : Prop where
  rd : ms ≠ [] → ∃ blk off, a = some ⟨blk, off, none⟩ ∧ RdM w blk off ms
  bs : ∀ m, m ∈ ms → BsAt w m.a m.bs
  le : ∀ m, m ∈ ms → m.t ≤ 9223372036854775807 ∧ m.bs.length ≤ 140737488351232
  cnt : ms.length ≤ 140737488351232
theorem RdM.below {w w' : World} {blk off : Nat} {ms : List Mv} (h : RdM w blk off ms) (hb : Below w.heap.size w w') : RdM w' blk off ms := fun j m hj => by
  obtain ⟨h0, h1, h2, h3⟩ := h j m hj
  have hlt := World.block_lt_of_cell? w _ h0
  exact ⟨(hb.cell hlt).trans h0, (hb.cell (p := ⟨blk, off + j * 4 + 1, none⟩) hlt).trans h1, (hb.cell (p := ⟨blk, off + j * 4 + 2, none⟩) hlt).trans h2, (hb.cell (p := ⟨blk, off + j * 4 + 3, none⟩) hlt).trans h3⟩
theorem Mvs.below {w w' : World} {a : Option Addr} {ms : List Mv} (h : Mvs w a ms) (hb : Below w.heap.size w w') : Mvs w' a ms := by
  refine ⟨fun hne => ?_, fun m hm => (h.bs m hm).below hb, h.le, h.cnt⟩
  obtain ⟨blk, off, rfl, hr⟩ := h.rd hne
  exact ⟨blk, off, rfl, hr.below hb⟩

def lens (ms : List Mv) : Nat := (ms.map fun m => m.bs.length).sum
theorem lens_take_succ {ms : List Mv} {k : Nat} {m : Mv} (h : ms[k]? = some m) : lens (ms.take (k + 1)) = lens (ms.take k) + m.bs.length := by
  unfold lens
  rw [List.take_add_one, h]
  simp
theorem lens_mem {ms : List Mv} {m : Mv} (h : m ∈ ms) : m.bs.length ≤ lens ms := by
  unfold lens
  induction ms with
  | nil => simp at h
  | cons q ms ih =>
    rcases List.mem_cons.1 h with rfl | h
    · simp
    · have := ih h; simp; omega

/-- A file of memory as it is asked for. -/
structure Fm where
  a : Option Addr
  l : List UInt8
  c : Nat
  am : Option Addr
  cm : Nat
  ms : List Mv
  can : Nat
structure Fm.At (f : Fm) (w : World) : Prop where
  bs : BsAt w f.a f.l
  le : f.l.length ≤ f.c ∧ f.c ≤ 140737488351232
  ops : Mvs w f.am f.ms
theorem Fm.At.below {f : Fm} {w w' : World} (h : f.At w) (hb : Below w.heap.size w w') : f.At w' := ⟨h.bs.below hb, h.le, h.ops.below hb⟩
abbrev Fm.cells (f : Fm) : Array Value := #[.slice f.a f.l.length f.c, .slice f.am f.ms.length f.cm, .int .u8 f.can]
/-- What Great counts of it. -/
def Fm.tot (f : Fm) : Nat := f.l.length + f.ms.length + lens f.ms
def tots (fs : List Fm) : Nat := (fs.map Fm.tot).sum
theorem tots_take_succ {fs : List Fm} {k : Nat} {f : Fm} (h : fs[k]? = some f) : tots (fs.take (k + 1)) = tots (fs.take k) + f.tot := by
  unfold tots
  rw [List.take_add_one, h]
  simp
/-- Such files in a row. -/
def RdF (w : World) (blk : Nat) (fs : List Fm) : Prop := ∀ j f, fs[j]? = some f → w.cell? ⟨blk, j * 3, none⟩ = some (.slice f.a f.l.length f.c) ∧ w.cell? ⟨blk, j * 3 + 1, none⟩ = some (.slice f.am f.ms.length f.cm)
theorem RdF.below {w w' : World} {blk : Nat} {fs : List Fm} (h : RdF w blk fs) (hb : Below w.heap.size w w') : RdF w' blk fs := fun j m hj => by
  obtain ⟨h0, h1⟩ := h j m hj
  have hlt := World.block_lt_of_cell? w _ h0
  exact ⟨(hb.cell hlt).trans h0, (hb.cell (p := ⟨blk, j * 3 + 1, none⟩) hlt).trans h1⟩

/-- What Great answers. -/
def GreatEnd (fs : List Fm) (e : Ending) : Prop := ∃ g, e = .returned (.bool g) ∧ (g = false → tots fs ≤ 131072)

set_option maxRecDepth 20000 in
set_option maxHeartbeats 2000000 in
theorem great10_any (blk : Nat) (fs : List Fm) (w : World) (hm : ∀ f, f ∈ fs → f.At w) (hrd : RdF w blk fs) (hne : 0 < fs.length) (hcnt : fs.length ≤ 2) :
    Calls Try.prog 8 #[.int .i64 200, .slice (some ⟨blk, 0, none⟩) fs.length fs.length, .slice none 0 0] w fun e w' => GreatEnd fs e ∧ Below w.heap.size w w' := by
  have HM := aside hm
  have HRD := aside hrd
  clear hm hrd
  go_enter Try.func8, Try.ntmps8
  go_wp2_with fail
  refine wp_loop_rounds 1 ?_
  rw [rounds_succ]
  go_wp2_with fail
  go_loopw [7, 9] (fun s7 s9 wr => ∃ (K i : Nat), i ≤ fs.length ∧ K ≤ 1125899906842624 ∧ s7 = .int .i64 K ∧ s9 = .int .i64 i ∧ Aside (K ≤ 131072 → K = tots (fs.take i)) ∧ Aside (Below w.heap.size w wr)) (fun _ s9 _ => fs.length - (intOf s9).toNat)
  case atStart => exact ⟨0, 0, Nat.zero_le _, by omega, rfl, rfl, aside (fun _ => rfl), aside (Below.refl _ _)⟩
  case round =>
    obtain ⟨K, i, hi, hK, rfl, rfl, hT, hB⟩ := hrel
    by_cases h1 : i < fs.length
    · have t1 : (i : Int) < (fs.length : Int) := by omega
      by_cases h2 : K ≤ 131072
      · have t2 : (K : Int) ≤ 131072 := by omega
        have hkm : fs[i]? = some fs[i] := List.getElem?_eq_getElem h1
        have hF := HM.out fs[i] (List.getElem_mem h1)
        obtain ⟨c0, c1⟩ := (HRD.out.below hB.out) i _ hkm
        have HTS := aside (tots_take_succ hkm)
        have HK2 := aside (hT.out h2)
        have HRi := aside (fun W hW => (HRD.out.below (w' := W) hW i _ hkm).2)
        generalize fs[i] = f at *
        have hl := hF.le
        have hn := hF.ops.cnt
        have HF := aside hF
        clear hF hkm
        go_wp2_with fail
        go_region
        go_wp2_with fail
        have hBd : Below w.heap.size w wr.drew := hB.out.drew
        have r1 := HRi.out wr.drew hBd
        have HBd := aside hBd
        clear c0 c1 hBd
        go_loop [7, 10] (fun s7 s10 => ∃ (Q j : Nat), j ≤ f.ms.length ∧ Q ≤ 1125899906842624 ∧ s7 = .int .i64 Q ∧ s10 = .int .i64 j ∧ Aside (Q ≤ 131072 → Q = K + f.l.length + f.ms.length + lens (f.ms.take j))) (fun _ s10 => f.ms.length - (intOf s10).toNat)
        case atStart => exact ⟨K + f.l.length + f.ms.length, 0, Nat.zero_le _, by omega, by go_num, rfl, aside (fun _ => rfl)⟩
        case round =>
          obtain ⟨Q, j, hj, hQ, rfl, rfl, hS⟩ := hrel
          by_cases h3 : j < f.ms.length
          · have t3 : (j : Int) < (f.ms.length : Int) := by omega
            by_cases h4 : Q ≤ 131072
            · have t4 : (Q : Int) ≤ 131072 := by omega
              have hjm : f.ms[j]? = some f.ms[j] := List.getElem?_eq_getElem h3
              have hle := (HF.out.ops.le f.ms[j] (List.getElem_mem h3)).2
              obtain ⟨bk, off, ham, hrd⟩ := (HF.out.below HBd.out).ops.rd (by intro h; simp [h] at h3)
              obtain ⟨-, -, -, d3⟩ := hrd j _ hjm
              have HLS := aside (lens_take_succ hjm)
              have HS4 := aside (hS.out h4)
              rw [ham] at r1
              generalize f.ms[j] = m at *
              clear hrd hjm
              go_wp2_with fail
              go_round
              case rel => exact ⟨Q + m.bs.length, j + 1, by omega, by omega, by go_num, by go_num, aside (fun _ => by rw [HLS.out]; have := HS4.out; omega)⟩
              case measure => simp [intOf]; omega
            · have t4 : ¬ ((Q : Int) ≤ 131072) := by omega
              go_wp2_with fail
              go_roundw
              case rel => exact ⟨Q, i + 1, by omega, hQ, rfl, by go_num, aside (fun h => absurd h h4), HBd⟩
              case measure => simp [intOf]; omega
          · have t3 : ¬ ((j : Int) < (f.ms.length : Int)) := by omega
            obtain rfl : j = f.ms.length := by omega
            go_wp2_with fail
            go_roundw
            case rel => exact ⟨Q, i + 1, by omega, hQ, rfl, by go_num, aside (fun h => by have := hS.out h; rw [List.take_length] at this; rw [HTS.out, ← HK2.out]; unfold Fm.tot; omega), HBd⟩
            case measure => simp [intOf]; omega
      · have t2 : ¬ ((K : Int) ≤ 131072) := by omega
        have t3 : (131072 : Int) < (K : Int) := by omega
        go_wp2_with fail
        go_ret
        exact ⟨⟨true, rfl, fun h => by cases h⟩, hB.out⟩
    · have t1 : ¬ ((i : Int) < (fs.length : Int)) := by omega
      obtain rfl : i = fs.length := by omega
      by_cases h2 : K ≤ 131072
      · have t3 : ¬ ((131072 : Int) < (K : Int)) := by omega
        go_wp2_with fail
        go_ret
        have := hT.out h2
        rw [List.take_length] at this
        exact ⟨⟨false, rfl, fun _ => by omega⟩, hB.out⟩
      · have t3 : (131072 : Int) < (K : Int) := by omega
        go_wp2_with fail
        go_ret
        exact ⟨⟨true, rfl, fun h => by cases h⟩, hB.out⟩
end Go.Proofs.Ytoagjgcpgpjjeaa

namespace Go.Proofs.Ytoagjgcpgpjjeaa
open Go.ChangeShapes Go.WideShapes Go.ChangeAt Go.RowKit Go.Joins

theorem cells5 : Try.prog.cellsOf 5 = 1 := by kernel_rfl
theorem cells2 : Try.prog.cellsOf 2 = 1 := by kernel_rfl
theorem cells3 : Try.prog.cellsOf 3 = 1 := by kernel_rfl
theorem ownT : ownKnob Try.prog.godebug = none := by kernel_rfl
theorem laidOutT : laidOutB Try.prog = true := by kernel_rfl
theorem cells22 : Try.prog.cellsOf 22 = 1 := by kernel_rfl
theorem bytes5 : Try.prog.bytesOf 5 = 1 := by kernel_rfl
theorem reach_le : reachBytes ≤ 140737488351232 := by decide

theorem addr_plain {w : World} {a : Addr} {v : Value} (h : w.cell? a = some v) : a = ⟨a.block, a.off, none⟩ := by
  obtain ⟨b, o, s⟩ := a
  unfold World.cell? at h
  cases s with
  | none => rfl
  | some x => split at h <;> simp at h

theorem weightsAll_mem {H : Type} {P : Program} {e : TypeId} {d : DataW H} : ∀ {l : List (DataW H)}, d ∈ l → ∀ n ∈ d.weights P e, n ∈ DataW.weightsAll P e l := by
  intro l
  induction l with
  | nil => intro h; simp at h
  | cons x l ih =>
    intro h n hn
    simp only [DataW.weightsAll, List.mem_append]
    rcases List.mem_cons.1 h with rfl | h
    · exact .inl hn
    · exact .inr (ih h n hn)

/-- Bytes, opened. -/
theorem open_bs {H : Type} {enc : TypeId × Value → H} {W : World} {fuel : Nat} {v : Value} {x : DataW H × List MemPlace} (h : DataW.trod enc Try.prog W 0 (fun _ => true) true fuel 22 [v] = some x) (hw : ∀ n ∈ x.1.weights Try.prog 22, n ≤ reachBytes) :
    ∃ (a : Option Addr) (c : Nat) (l : List UInt8), v = .slice a l.length c ∧ BsAt W a l ∧ l.length ≤ c ∧ c ≤ 140737488351232 := by
  rcases open_ints Try.underlying22 Try.underlying5 cells5 h with ⟨hc, rfl⟩ | ⟨a, len, cap, zs, hc, -, hl, hm, hzl, rfl, hcell, hwf⟩
  · simp only [List.cons.injEq, and_true] at hc
    subst hc
    exact ⟨none, 0, [], rfl, fun h => absurd rfl h, by simp, by decide⟩
  · simp only [List.cons.injEq, and_true] at hc
    subst hc
    simp only [if_true] at hzl
    have hcap : cap ≤ reachBytes := by
      have := hw ((lits (H := H) .u8 (zs.take len)).length + (lits (H := H) .u8 (zs.drop len)).length) (by simp [DataW.weights, Try.underlying22, bytes5])
      simp only [lits, List.length_map, List.length_take, List.length_drop] at this
      omega
    have hbl : ((zs.take len).map fun z => UInt8.ofNat z.toNat).length = len := by simp; omega
    refine ⟨some a, cap, (zs.take len).map fun z => UInt8.ofNat z.toNat, by rw [hbl], fun _ => ⟨a, rfl, fun j v hj => ?_⟩, by rw [hbl]; exact hl, Nat.le_trans hcap reach_le⟩
    simp only [bcells, List.getElem?_map, Option.map_map, Option.map_eq_some_iff] at hj
    obtain ⟨z, hz, rfl⟩ := hj
    rw [List.getElem?_take] at hz
    split at hz
    · rename_i hjl
      have hjz : j < zs.length := (List.getElem?_eq_some_iff.1 hz).1
      rw [hcell j hjz]
      have hzm : z ∈ zs := List.mem_of_getElem? hz
      have hb := bounds_u8 (hwf z hzm)
      have e1 : zs.getD j 0 = z := by rw [List.getD_eq_getElem?_getD, hz]; rfl
      rw [e1]
      have e2 : ((UInt8.ofNat z.toNat).toNat : Int) = z := by
        have e3 : (UInt8.ofNat z.toNat).toNat = z.toNat % 256 := by simp
        omega
      simp only [Function.comp, e2]
    · simp at hz

end Go.Proofs.Ytoagjgcpgpjjeaa

namespace Go.Proofs.Ytoagjgcpgpjjeaa
open Go.ChangeShapes Go.WideShapes Go.ChangeAt Go.RowKit Go.Joins

set_option maxRecDepth 20000
theorem cells47 : Try.prog.cellsOf 47 = 1 := by kernel_rfl
theorem cells49 : Try.prog.cellsOf 49 = 4 := by kernel_rfl
theorem bytes49 : Try.prog.bytesOf 49 = 48 := by kernel_rfl
theorem cells25 : Try.prog.cellsOf 25 = 3 := by kernel_rfl

/-- One move, opened. -/
theorem open_move {H : Type} {enc : TypeId × Value → H} {W : World} {fuel : Nat} {cs : List Value} {x : DataW H × List MemPlace} (h : DataW.trod enc Try.prog W 0 (fun _ => true) true fuel 49 cs = some x) (hw : ∀ n ∈ x.1.weights Try.prog 49, n ≤ reachBytes) :
    ∃ m : Mv, cs[0]? = some (.int .i8 m.d) ∧ cs[1]? = some (.int .i64 m.t) ∧ cs[2]? = some (.int .i64 m.n) ∧ cs[3]? = some (.slice m.a m.bs.length m.c) ∧ cs.length = 4 ∧ BsAt W m.a m.bs ∧ m.bs.length ≤ m.c ∧ m.c ≤ 140737488351232 ∧ m.t ≤ 9223372036854775807 ∧ m.n ≤ 9223372036854775807 ∧ -9223372036854775808 ≤ m.t ∧ -9223372036854775808 ≤ m.n := by
  obtain ⟨y0, y1, y2, y3, k, rfl, hcl, g0, g1, g2, g3⟩ := trod_struct4 Try.underlying49 h
  rw [cells49] at hcl
  obtain ⟨d, e0, -, hw0⟩ := DataW.trod_int Try.underlying47 g0
  obtain ⟨t, e1, -, hw1⟩ := DataW.trod_int Try.underlying2 g1
  obtain ⟨n, e2, -, hw2⟩ := DataW.trod_int Try.underlying3 g2
  match cs, hcl with
  | [q0, q1, q2, q3], _ =>
    simp only [cells47, cells2, cells3, cells22] at e0 e1 e2 g3
    simp at e0 e1 e2 g3
    subst e0 e1 e2
    have hsub : ∀ n ∈ y3.1.weights Try.prog 22, n ≤ reachBytes := fun n hn => hw n (by
      simp only [DataW.weights, Try.underlying49]
      exact DataW.weights_mem_each (j := 3) (t := 22) (d := y3.1) rfl rfl n hn)
    obtain ⟨a, c, l, rfl, hb, hlc, hc⟩ := open_bs g3 hsub
    have b1 := bounds_i64 hw1
    have b2 := bounds_i64 hw2
    exact ⟨⟨d, t, n, a, c, l⟩, rfl, rfl, rfl, rfl, rfl, hb, hlc, hc, b1.2, b2.2, b1.1, b2.1⟩

/-- A list of moves, opened. -/
theorem open_moves {H : Type} {enc : TypeId × Value → H} {W : World} {fuel : Nat} {v : Value} {x : DataW H × List MemPlace} (h : DataW.trod enc Try.prog W 0 (fun _ => true) true fuel 23 [v] = some x) (hw : ∀ n ∈ x.1.weights Try.prog 23, n ≤ reachBytes) :
    ∃ (a : Option Addr) (c : Nat) (ms : List Mv), v = .slice a ms.length c ∧ Mvs W a ms := by
  rcases DataW.trod_slice Try.underlying23 h with ⟨hc, rfl⟩ | ⟨a, len, cap, elems, rest, n, _, hc, rfl, hb, hl, hm, hlen, hel, -, -⟩
  · simp only [List.cons.injEq, and_true] at hc
    subst hc
    exact ⟨none, 0, [], rfl, fun h => absurd rfl h, by simp, by simp, by simp⟩
  · simp only [List.cons.injEq, and_true] at hc
    subst hc
    have hcount : len ≤ 140737488351232 := by
      have := hw (((elems.map (·.1)).length + (rest.map (·.1)).length) * 48) (by simp [DataW.weights, Try.underlying23, bytes49])
      have h2 := reach_le
      simp only [List.length_map] at this
      omega
    have each : ∀ i, i < len → ∃ m : Mv, (W.cell? (a.add (i * 4)) = some (.int .i8 m.d) ∧ W.cell? ((a.add (i * 4)).add 1) = some (.int .i64 m.t) ∧ W.cell? ((a.add (i * 4)).add 2) = some (.int .i64 m.n) ∧ W.cell? ((a.add (i * 4)).add 3) = some (.slice m.a m.bs.length m.c)) ∧ BsAt W m.a m.bs ∧ m.t ≤ 9223372036854775807 ∧ m.bs.length ≤ 140737488351232 := by
      intro i hi
      have hy := hel i hi
      rw [cells49, List.getElem?_eq_getElem (by omega : i < elems.length), Option.bind_eq_some_iff] at hy
      obtain ⟨cs, hcs, hy⟩ := hy
      have hwi : ∀ n ∈ (elems[i].1).weights Try.prog 49, n ≤ reachBytes := fun n hn => hw n (by
        simp only [DataW.weights, Try.underlying23, List.mem_cons, List.mem_append]
        exact .inr (.inl (weightsAll_mem (List.mem_map.2 ⟨elems[i], List.getElem_mem _, rfl⟩) n hn)))
      obtain ⟨m, c0, c1, c2, c3, -, hbs, hlc, hcc, ht, -⟩ := open_move hy hwi
      obtain ⟨-, -, hce⟩ := World.cells?_some hcs
      have ha0 : (a.add (i * 4)).add 0 = a.add (i * 4) := rfl
      exact ⟨m, ⟨by rw [← ha0]; exact (hce 0 (by decide)).trans c0, (hce 1 (by decide)).trans c1, (hce 2 (by decide)).trans c2, (hce 3 (by decide)).trans c3⟩, hbs, ht, by omega⟩
    by_cases h0 : len = 0
    · subst h0
      exact ⟨some a, cap, [], rfl, fun h => absurd rfl h, by simp, by simp, by simp⟩
    · let ms : List Mv := (List.finRange len).map (fun i => (each i.1 i.2).choose)
      have hms : ∀ (i : Nat) (z : Mv), ms[i]? = some z → ∃ hi : i < len, z = (each i hi).choose := by
        intro i z hz
        simp only [ms, List.getElem?_map, Option.map_eq_some_iff] at hz
        obtain ⟨q, hq, rfl⟩ := hz
        have hq2 := List.getElem?_eq_some_iff.1 hq
        obtain ⟨hlt, hqe⟩ := hq2
        rw [List.getElem_finRange] at hqe
        subst hqe
        exact ⟨by simpa using hlt, rfl⟩
      have hwl : ms.length = len := by simp [ms]
      have hap : a = ⟨a.block, a.off, none⟩ := by
        obtain ⟨z, ⟨hc, -⟩, -⟩ := each 0 (by omega)
        exact addr_plain (show W.cell? a = _ from hc)
      refine ⟨some a, cap, ms, by rw [hwl], fun _ => ⟨a.block, a.off, by rw [← hap], fun j z hz => ?_⟩, fun z hz => ?_, fun z hz => ?_, by rw [hwl]; exact hcount⟩
      · obtain ⟨hi, rfl⟩ := hms j z hz
        obtain ⟨⟨c0, c1, c2, c3⟩, -⟩ := (each j hi).choose_spec
        generalize (each j hi).choose = z at *
        rw [hap, Addr.add_mid] at c0 c1 c2 c3
        rw [Addr.add_mid] at c1 c2 c3
        exact ⟨c0, c1, c2, c3⟩
      · obtain ⟨j, hj⟩ := List.getElem?_of_mem hz
        obtain ⟨hi, rfl⟩ := hms j z hj
        exact (each j hi).choose_spec.2.1
      · obtain ⟨j, hj⟩ := List.getElem?_of_mem hz
        obtain ⟨hi, rfl⟩ := hms j z hj
        exact (each j hi).choose_spec.2.2

/-- A file of memory, opened. -/
theorem open_mem {H : Type} {enc : TypeId × Value → H} {W : World} {base : Nat} {r : Reach} {v : Value} {d : DataW H} {p : List MemPlace} (hv : Value.okWide Try.prog W r base 25 v) (h : DataW.Trod enc Try.prog W 0 (fun _ => true) true 25 v d p) (hw : ∀ n ∈ d.weights Try.prog 25, n ≤ reachBytes) :
    ∃ f : Fm, v = .agg f.cells ∧ f.At W ∧ f.can < 256 := by
  obtain ⟨v0, v1, v2, y0, y1, y2, n, rfl, rfl, rfl, g0, g1, g2⟩ := open_agg3 Try.underlying25 (by kernel_rfl) cells25 hv h
  have hs0 : ∀ n ∈ y0.1.weights Try.prog 22, n ≤ reachBytes := fun n hn => hw n (by
    simp only [DataW.weights, Try.underlying25]
    exact DataW.weights_mem_each (j := 0) (t := 22) (d := y0.1) rfl rfl n hn)
  have hs1 : ∀ n ∈ y1.1.weights Try.prog 23, n ≤ reachBytes := fun n hn => hw n (by
    simp only [DataW.weights, Try.underlying25]
    exact DataW.weights_mem_each (j := 1) (t := 23) (d := y1.1) rfl rfl n hn)
  obtain ⟨a, c, l, rfl, hb, hlc, hc⟩ := open_bs g0 hs0
  obtain ⟨am, cm, ms, rfl, hms⟩ := open_moves g1 hs1
  obtain ⟨z, e2, -, hz⟩ := DataW.trod_int Try.underlying5 g2
  simp only [List.cons.injEq, and_true] at e2
  subst e2
  have hb2 := bounds_u8 hz
  obtain ⟨can, rfl⟩ : ∃ can : Nat, z = can := ⟨z.toNat, by omega⟩
  exact ⟨⟨a, l, c, am, cm, ms, can⟩, rfl, ⟨hb, ⟨hlc, hc⟩, hms⟩, by simp only; omega⟩
end Go.Proofs.Ytoagjgcpgpjjeaa
