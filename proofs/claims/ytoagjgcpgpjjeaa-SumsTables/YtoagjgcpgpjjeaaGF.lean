/- Merged: Face, Of, Do, Ask, FaceT, FaceW, Fnv, Sum, Entry, Read, Table. -/
import Derived.Test.YtoagjgcpgpjjeaaGA
import Derived.Stop.Asserts
import Derived.Deep.RegionWith
import Derived.Test.YtoagjgcpgpjjeaaGD
import Derived.Lib.SlBytesConst
import Derived.Laws.Bits64
import Derived.ProofKit
namespace Go.Proofs.Ytoagjgcpgpjjeaa
open Go.RowKit

abbrev I (p : Addr) : Value := .iface 111 (.pointer (some p))

set_option maxRecDepth 20000 in
set_option maxHeartbeats 1000000 in
theorem can_all (p : Addr) (w : World) : Calls Try.prog 71 #[.agg #[I p, I p, I p, I p, I p]] w fun e w' => e = .returned (.int .u8 15) ∧ Below w.heap.size w w' := by
  go_enter Try.func71, Try.ntmps71
  go_wp2
  go_ret
  exact ⟨rfl, below_al w _⟩

set_option maxRecDepth 20000 in
set_option maxHeartbeats 1000000 in
theorem can_none (p : Addr) (w : World) : Calls Try.prog 71 #[.agg #[I p, .nilIface, .nilIface, .nilIface, .nilIface]] w fun e w' => e = .returned (.int .u8 0) ∧ Below w.heap.size w w' := by
  go_enter Try.func71, Try.ntmps71
  go_wp2
  go_ret
  exact ⟨rfl, below_al w _⟩


theorem five_cells {w w1 : World} {a b c d e : Value} {T : TypeId} (hb : Below (w.alloc (Obj.cells #[a, b, c, d, e] T)).heap.size (w.alloc (Obj.cells #[a, b, c, d, e] T)) w1) :
    w1.cell? ⟨w.heap.size, 0, none⟩ = some a ∧ w1.cell? ⟨w.heap.size, 1, none⟩ = some b ∧ w1.cell? ⟨w.heap.size, 2, none⟩ = some c ∧ w1.cell? ⟨w.heap.size, 3, none⟩ = some d ∧ w1.cell? ⟨w.heap.size, 4, none⟩ = some e := by
  have hc := fun o => hb.cell (p := ⟨w.heap.size, o, none⟩) (by simp)
  refine ⟨(hc 0).trans (by go_simp), (hc 1).trans (by go_simp), (hc 2).trans (by go_simp), (hc 3).trans (by go_simp), (hc 4).trans (by go_simp)⟩

set_option maxRecDepth 20000 in
set_option maxHeartbeats 1000000 in
theorem together_all (p : Addr) (w : World) : Calls Try.prog 57 #[.agg #[I p, I p, I p, I p, I p]] w fun e w' => ∃ fb, e = .returned (.iface 175 (.pointer (some ⟨fb, 0, none⟩))) ∧ w.heap.size < fb ∧ w'.heap[fb]? = some (.cells #[I p, I p, I p, I p, I p] 177 (0, 0)) ∧ Below w.heap.size w w' := by
  have hA := aside (below_al w (.cells #[I p, I p, I p, I p, I p] 115))
  go_enter Try.func57, Try.ntmps57
  go_wp2_with fail
  refine (can_all p _).mono ?_
  rintro e w1 ⟨rfl, hb1⟩
  obtain ⟨c0, c1, c2, c3, c4⟩ := five_cells hb1
  have HB := aside hb1
  have hs := hb1.size
  rw [World.size_alloc] at hs
  clear hb1
  go_wp2
  go_ret
  exact ⟨_, rfl, hs, heap_alloc_new w1 _, below_tr (below_tr hA.out HB.out) (below_al w1 _)⟩

set_option maxRecDepth 20000 in
set_option maxHeartbeats 1000000 in
theorem together_none (p : Addr) (w : World) : Calls Try.prog 57 #[.agg #[I p, .nilIface, .nilIface, .nilIface, .nilIface]] w fun e w' => ∃ fb, e = .returned (.iface 130 (.pointer (some ⟨fb, 0, none⟩))) ∧ w.heap.size < fb ∧ w'.heap[fb]? = some (.cells #[I p] 132 (0, 0)) ∧ Below w.heap.size w w' := by
  have hA := aside (below_al w (.cells #[I p, .nilIface, .nilIface, .nilIface, .nilIface] 115))
  go_enter Try.func57, Try.ntmps57
  go_wp2_with fail
  refine (can_none p _).mono ?_
  rintro e w1 ⟨rfl, hb1⟩
  obtain ⟨c0, c1, c2, c3, c4⟩ := five_cells hb1
  have HB := aside hb1
  have hs := hb1.size
  rw [World.size_alloc] at hs
  clear hb1
  go_wp2
  go_ret
  exact ⟨_, rfl, hs, heap_alloc_new w1 _, below_tr (below_tr hA.out HB.out) (below_al w1 _)⟩

/-- A handle: its five parts and its file. -/
def Han (w : World) (hb : Nat) (a b c d e f : Value) : Prop := w.heap[hb]? = some (.cells #[a, b, c, d, e, f] 117 (0, 0))

set_option maxRecDepth 20000 in
set_option maxHeartbeats 2000000 in
theorem make_all (p : Addr) (w : World) : Calls Try.prog 37 #[I p, I p, I p, I p, I p] w fun e w' => ∃ hb fb, e = .returned (.pointer (some ⟨hb, 0, none⟩)) ∧ w.heap.size ≤ hb ∧ w.heap.size ≤ fb ∧ Han w' hb (I p) (I p) (I p) (I p) (I p) (.iface 175 (.pointer (some ⟨fb, 0, none⟩))) ∧ w'.heap[fb]? = some (.cells #[I p, I p, I p, I p, I p] 177 (0, 0)) ∧ Below w.heap.size w w' := by
  go_enter Try.func37, Try.ntmps37
  go_wp2_with fail
  go_region_with (go_at_call 57; refine (together_all p _).mono ?_; rintro e w1 ⟨fb, rfl, hs, hrow, hb1⟩; have hc := fun o => hb1.cell (p := ⟨w.heap.size, o, none⟩) (by simp); have c0 : w1.cell? ⟨w.heap.size, 0, none⟩ = some (I p) := (hc 0).trans (by go_simp); have c1 : w1.cell? ⟨w.heap.size, 1, none⟩ = some (I p) := (hc 1).trans (by go_simp); have c2 : w1.cell? ⟨w.heap.size, 2, none⟩ = some (I p) := (hc 2).trans (by go_simp); have c3 : w1.cell? ⟨w.heap.size, 3, none⟩ = some (I p) := (hc 3).trans (by go_simp); have c4 : w1.cell? ⟨w.heap.size, 4, none⟩ = some (I p) := (hc 4).trans (by go_simp); have HB := aside hb1; have HR := aside hrow; have HS := aside hs; clear hb1 hrow hc hs)
  all_goals
    go_wp2
    go_ret
    have hs := HS.out
    have hfb : fb < w1.heap.size := (Array.getElem?_eq_some_iff.1 HR.out).1
    simp only [World.drew, World.size_alloc] at hs
    have hW := below_tr (below_tr (below_al w _) (below_dr _)) HB.out
    refine ⟨_, fb, rfl, hW.size, by omega, heap_alloc_new w1 _, ?_, below_tr hW (below_al w1 _)⟩
    rw [(below_al w1 _).block fb hfb]
    exact HR.out

set_option maxRecDepth 20000 in
set_option maxHeartbeats 2000000 in
theorem make_none (p : Addr) (w : World) : Calls Try.prog 37 #[I p, .nilIface, .nilIface, .nilIface, .nilIface] w fun e w' => ∃ hb fb, e = .returned (.pointer (some ⟨hb, 0, none⟩)) ∧ w.heap.size ≤ hb ∧ w.heap.size ≤ fb ∧ Han w' hb (I p) .nilIface .nilIface .nilIface .nilIface (.iface 130 (.pointer (some ⟨fb, 0, none⟩))) ∧ w'.heap[fb]? = some (.cells #[I p] 132 (0, 0)) ∧ Below w.heap.size w w' := by
  go_enter Try.func37, Try.ntmps37
  go_wp2_with fail
  go_region_with (go_at_call 57; refine (together_none p _).mono ?_; rintro e w1 ⟨fb, rfl, hs, hrow, hb1⟩; have hc := fun o => hb1.cell (p := ⟨w.heap.size, o, none⟩) (by simp); have c0 : w1.cell? ⟨w.heap.size, 0, none⟩ = some (I p) := (hc 0).trans (by go_simp); have c1 : w1.cell? ⟨w.heap.size, 1, none⟩ = some .nilIface := (hc 1).trans (by go_simp); have c2 : w1.cell? ⟨w.heap.size, 2, none⟩ = some .nilIface := (hc 2).trans (by go_simp); have c3 : w1.cell? ⟨w.heap.size, 3, none⟩ = some .nilIface := (hc 3).trans (by go_simp); have c4 : w1.cell? ⟨w.heap.size, 4, none⟩ = some .nilIface := (hc 4).trans (by go_simp); have HB := aside hb1; have HR := aside hrow; have HS := aside hs; clear hb1 hrow hc hs)
  all_goals
    go_wp2
    go_ret
    have hs := HS.out
    have hfb : fb < w1.heap.size := (Array.getElem?_eq_some_iff.1 HR.out).1
    simp only [World.drew, World.size_alloc] at hs
    have hW := below_tr (below_tr (below_al w _) (below_dr _)) HB.out
    refine ⟨_, fb, rfl, hW.size, by omega, heap_alloc_new w1 _, ?_, below_tr hW (below_al w1 _)⟩
    rw [(below_al w1 _).block fb hfb]
    exact HR.out


end Go.Proofs.Ytoagjgcpgpjjeaa

namespace Go.Proofs.Ytoagjgcpgpjjeaa
open Go.RowKit
set_option maxRecDepth 20000 in
set_option maxHeartbeats 1000000 in
theorem only_all (p : Addr) (w : World) : Calls Try.prog 58 #[.agg #[I p, I p, I p, I p, I p], .int .u8 15] w fun e w' => e = .returned (.agg #[I p, I p, I p, I p, I p]) ∧ Below w.heap.size w w' := by
  go_enter Try.func58, Try.ntmps58
  go_wp2
  refine bodyPost_ret (results_cell_row rfl _ _ (w.heap.size + 1) 115 _ (0, 0) _ rfl (heap_alloc2_new w _ _) Try.underlying115 rfl (by kernel_rfl)) rfl ?_
  exact ⟨rfl, below_tr (below_al w _) (below_al _ _)⟩

set_option maxRecDepth 20000 in
set_option maxHeartbeats 1000000 in
theorem only_none (p : Addr) (w : World) : Calls Try.prog 58 #[.agg #[I p, I p, I p, I p, I p], .int .u8 0] w fun e w' => e = .returned (.agg #[I p, .nilIface, .nilIface, .nilIface, .nilIface]) ∧ Below w.heap.size w w' := by
  go_enter Try.func58, Try.ntmps58
  go_wp2
  refine bodyPost_ret (results_cell_row rfl _ _ (w.heap.size + 1) 115 _ (0, 0) _ rfl (heap_alloc2_new w _ _) Try.underlying115 rfl (by kernel_rfl)) rfl ?_
  exact ⟨rfl, below_tr (below_al w _) (below_al _ _)⟩

/-- Of a handle with all parts. -/
structure All15 (w : World) (hb fb : Nat) (p : Addr) : Prop where
  han : Han w hb (I p) (I p) (I p) (I p) (I p) (.iface 175 (.pointer (some ⟨fb, 0, none⟩)))
  fil : w.heap[fb]? = some (.cells #[I p, I p, I p, I p, I p] 177 (0, 0))
/-- Of a handle with the file alone. -/
structure All0 (w : World) (hb fb : Nat) (p : Addr) : Prop where
  han : Han w hb (I p) .nilIface .nilIface .nilIface .nilIface (.iface 130 (.pointer (some ⟨fb, 0, none⟩)))
  fil : w.heap[fb]? = some (.cells #[I p] 132 (0, 0))

theorem han_cells {w : World} {hb : Nat} {a b c d e f : Value} (h : Han w hb a b c d e f) :
    w.cell? ⟨hb, 0, none⟩ = some a ∧ w.cell? ⟨hb, 1, none⟩ = some b ∧ w.cell? ⟨hb, 2, none⟩ = some c ∧ w.cell? ⟨hb, 3, none⟩ = some d ∧ w.cell? ⟨hb, 4, none⟩ = some e ∧ w.cell? ⟨hb, 5, none⟩ = some f := by
  unfold Han at h
  refine ⟨?_, ?_, ?_, ?_, ?_, ?_⟩ <;> (rw [cell_of_row w hb _ _ _ _ h]; rfl)

theorem All15.below {w w' : World} {hb fb : Nat} {p : Addr} (h : All15 w hb fb p) (k : Below w.heap.size w w') : All15 w' hb fb p :=
  ⟨(k.block hb (Array.getElem?_eq_some_iff.1 h.han).1).trans h.han, (k.block fb (Array.getElem?_eq_some_iff.1 h.fil).1).trans h.fil⟩
theorem All0.below {w w' : World} {hb fb : Nat} {p : Addr} (h : All0 w hb fb p) (k : Below w.heap.size w w') : All0 w' hb fb p :=
  ⟨(k.block hb (Array.getElem?_eq_some_iff.1 h.han).1).trans h.han, (k.block fb (Array.getElem?_eq_some_iff.1 h.fil).1).trans h.fil⟩

set_option maxRecDepth 20000 in
set_option maxHeartbeats 1000000 in
theorem Only_all (p : Addr) (hb fb : Nat) (w : World) (h : All15 w hb fb p) : Calls Try.prog 38 #[.pointer (some ⟨hb, 0, none⟩), .int .u8 15] w fun e w' => ∃ hb' fb', e = .returned (.pointer (some ⟨hb', 0, none⟩)) ∧ w.heap.size ≤ hb' ∧ w.heap.size ≤ fb' ∧ All15 w' hb' fb' p ∧ Below w.heap.size w w' := by
  obtain ⟨c0, c1, c2, c3, c4, c5⟩ := han_cells h.han
  clear h
  go_enter Try.func38, Try.ntmps38
  go_wp2_with fail
  refine (only_all p w).mono ?_
  rintro e w1 ⟨rfl, hb1⟩
  go_wp2_with fail
  refine (make_all p _).mono ?_
  rintro e w2 ⟨hb', fb', rfl, h1, h2, h3, h4, hb2⟩
  rw [World.size_alloc] at h1 h2
  have := hb1.size
  go_wp2
  go_ret
  exact ⟨_, _, rfl, by omega, by omega, ⟨h3, h4⟩, below_tr (below_tr hb1 (below_al _ _)) hb2⟩

set_option maxRecDepth 20000 in
set_option maxHeartbeats 1000000 in
theorem Only_none (p : Addr) (hb fb : Nat) (w : World) (h : All15 w hb fb p) : Calls Try.prog 38 #[.pointer (some ⟨hb, 0, none⟩), .int .u8 0] w fun e w' => ∃ hb' fb', e = .returned (.pointer (some ⟨hb', 0, none⟩)) ∧ w.heap.size ≤ hb' ∧ w.heap.size ≤ fb' ∧ All0 w' hb' fb' p ∧ Below w.heap.size w w' := by
  obtain ⟨c0, c1, c2, c3, c4, c5⟩ := han_cells h.han
  clear h
  go_enter Try.func38, Try.ntmps38
  go_wp2_with fail
  refine (only_none p w).mono ?_
  rintro e w1 ⟨rfl, hb1⟩
  go_wp2_with fail
  refine (make_none p _).mono ?_
  rintro e w2 ⟨hb', fb', rfl, h1, h2, h3, h4, hb2⟩
  rw [World.size_alloc] at h1 h2
  have := hb1.size
  go_wp2
  go_ret
  exact ⟨_, _, rfl, by omega, by omega, ⟨h3, h4⟩, below_tr (below_tr hb1 (below_al _ _)) hb2⟩

set_option maxRecDepth 20000 in
set_option maxHeartbeats 1000000 in
theorem of_nil (c : Int) (w : World) : Calls Try.prog 28 #[.pointer none, .int .u8 c] w fun e w' => e = .returned (.tuple #[.pointer none, .int .i64 1]) ∧ w' = w := by
  go_enter Try.func28, Try.ntmps28
  go_wp2
  go_ret2
  exact ⟨rfl, rfl⟩

set_option maxRecDepth 20000 in
set_option maxHeartbeats 1000000 in
theorem of_all (b : Nat) (w : World) : Calls Try.prog 28 #[.pointer (some ⟨b, 0, none⟩), .int .u8 15] w fun e w' => ∃ hb fb m, e = .returned (.tuple #[.pointer (some ⟨hb, 0, none⟩), .int .i64 0]) ∧ w.heap.size ≤ hb ∧ w.heap.size ≤ fb ∧ w.heap.size ≤ m ∧ All15 w' hb fb ⟨m, 0, none⟩ ∧ w'.heap[m]? = some (.cells #[.pointer (some ⟨b, 0, none⟩)] 113 (0, 0)) ∧ Below w.heap.size w w' := by
  go_enter Try.func28, Try.ntmps28
  go_wp2_with fail
  refine (make_all _ _).mono ?_
  rintro e w1 ⟨hb, fb, rfl, h1, h2, h3, h4, hb1⟩
  have HA : Aside (All15 w1 hb fb ⟨w.heap.size, 0, none⟩) := ⟨h3, h4⟩
  have HM : Aside (w1.heap[w.heap.size]? = some (.cells #[.pointer (some ⟨b, 0, none⟩)] 113 (0, 0))) := (hb1.block w.heap.size (by simp)).trans (heap_alloc_new w _)
  have HW := aside (below_tr (below_al w _) hb1)
  clear h1 h2 h3 h4 hb1
  go_wp2_with fail
  refine (Only_all _ hb fb w1 HA.out).mono ?_
  rintro e w2 ⟨hb', fb', rfl, h1, h2, h3, hb2⟩
  have := HW.out.size
  go_wp2
  go_ret2
  exact ⟨_, _, w.heap.size, rfl, by omega, by omega, by omega, h3, (hb2.block _ (Array.getElem?_eq_some_iff.1 HM.out).1).trans HM.out, below_tr HW.out hb2⟩

set_option maxRecDepth 20000 in
set_option maxHeartbeats 1000000 in
theorem of_none (b : Nat) (w : World) : Calls Try.prog 28 #[.pointer (some ⟨b, 0, none⟩), .int .u8 0] w fun e w' => ∃ hb fb m, e = .returned (.tuple #[.pointer (some ⟨hb, 0, none⟩), .int .i64 0]) ∧ w.heap.size ≤ hb ∧ w.heap.size ≤ fb ∧ w.heap.size ≤ m ∧ All0 w' hb fb ⟨m, 0, none⟩ ∧ w'.heap[m]? = some (.cells #[.pointer (some ⟨b, 0, none⟩)] 113 (0, 0)) ∧ Below w.heap.size w w' := by
  go_enter Try.func28, Try.ntmps28
  go_wp2_with fail
  refine (make_all _ _).mono ?_
  rintro e w1 ⟨hb, fb, rfl, h1, h2, h3, h4, hb1⟩
  have HA : Aside (All15 w1 hb fb ⟨w.heap.size, 0, none⟩) := ⟨h3, h4⟩
  have HM : Aside (w1.heap[w.heap.size]? = some (.cells #[.pointer (some ⟨b, 0, none⟩)] 113 (0, 0))) := (hb1.block w.heap.size (by simp)).trans (heap_alloc_new w _)
  have HW := aside (below_tr (below_al w _) hb1)
  clear h1 h2 h3 h4 hb1
  go_wp2_with fail
  refine (Only_none _ hb fb w1 HA.out).mono ?_
  rintro e w2 ⟨hb', fb', rfl, h1, h2, h3, hb2⟩
  have := HW.out.size
  go_wp2
  go_ret2
  exact ⟨_, _, w.heap.size, rfl, by omega, by omega, by omega, h3, (hb2.block _ (Array.getElem?_eq_some_iff.1 HM.out).1).trans HM.out, below_tr HW.out hb2⟩
end Go.Proofs.Ytoagjgcpgpjjeaa

namespace Go.Proofs.Ytoagjgcpgpjjeaa
open Go.RowKit
attribute [local simp] lcells_nil readB_length bcells_length

/-- A method that comes up through an embedded interface, of a pointer to a struct: the method of what lies in that field. -/
theorem method_up {P : Program} {w : World} {n : Nat} {t : TypeId} {a : Addr} {name : String} {st : TypeId} {ix : Nat} {ft : TypeId} {off : Nat} {t' : TypeId} {v' : Value}
    (h1 : ((P.info? t).bind fun i => (i.methods.find? (·.name == name)).map fun m => (m.path.toList.map fun s => (s.struct, s.index, s.deref), m.func)) = some ([(st, ix, true)], none))
    (h2 : (match P.underlying st with | some (.struct fs) => fs[ix]?.map fun f => (f.type, f.offset) | _ => none) = some (ft, off))
    (h3 : (sizeOf ft).run P w = .ok 1 w) (h4 : (isAgg ft).run P w = .ok false w) (hc : w.cell? (a.add off) = some (.iface t' v')) :
    (method (n + 1) t (.pointer (some a)) name).run P w = (method n t' v' name).run P w := by
  obtain ⟨i, hi, h1⟩ := Option.bind_eq_some_iff.1 h1
  obtain ⟨m, hm, h1⟩ := Option.map_eq_some_iff.1 h1
  injection h1 with hp hf
  obtain ⟨s, hs, hp2⟩ : ∃ s, m.path.toList = [s] ∧ (s.struct, s.index, s.deref) = (st, ix, true) := by
    cases e : m.path.toList with
    | nil => rw [e] at hp; cases hp
    | cons s r =>
      rw [e] at hp
      cases r with
      | nil => simp only [List.map_cons, List.map_nil, List.cons.injEq, and_true] at hp; exact ⟨s, rfl, hp⟩
      | cons u v => simp at hp
  simp only [Prod.mk.injEq] at hp2
  obtain ⟨e1, e2, e3⟩ := hp2
  cases hu : P.underlying st with
  | none => rw [hu] at h2; cases h2
  | some d =>
    rw [hu] at h2
    cases d <;> first | (cases h2; done) | skip
    rename_i fs
    obtain ⟨f, hx, h2⟩ := Option.map_eq_some_iff.1 h2
    injection h2 with e4 e5
    subst e4 e5
    rw [method]
    simp only [Sem.run_bind, typeInfo, run_program, Result.andThen_ok, hi, Sem.run_pure, hm, hs, hf, follow, run_underlying (e1 ▸ hu), e2, hx, e3, Place.get, asAddr, fieldPlace, h3, loadVar, h4, run_load, hc, ↓reduceIte, Bool.false_eq_true, Nat.one_ne_zero]

theorem up_size (T : TypeId) (hT : (Try.prog.info? T).map (·.size) = some 1) (w : World) : (sizeOf T).run Try.prog w = .ok 1 w := by
  obtain ⟨i, hi, e⟩ := Option.map_eq_some_iff.1 hT
  simp only [sizeOf, typeInfo, Sem.run_bind, run_program, Result.andThen_ok, hi, Sem.run_pure, e]
theorem up_agg (T : TypeId) {l : Array (String × TypeId)} (hT : Try.prog.underlying T = some (.interface l)) (w : World) : (isAgg T).run Try.prog w = .ok false w := by
  simp only [isAgg, Sem.run_bind, run_underlying hT, Result.andThen_ok, Sem.run_pure]

theorem meth15_Cut (w : World) (fb : Nat) (m : Addr) (h : w.cell? ⟨fb, 2, none⟩ = some (I m)) : (method 312 175 (.pointer (some ⟨fb, 0, none⟩)) "Cut").run Try.prog w = .ok (115, .pointer (some m)) w :=
  (method_up (n := 311) (st := 177) (ix := 2) (ft := 90) (off := 2) (by kernel_rfl) (by kernel_rfl) (up_size 90 (by kernel_rfl) w) (up_agg 90 Try.underlying90 w) (by simpa [Addr.add] using h)).trans (by kernel_rfl)

set_option maxHeartbeats 400000 in
theorem bclone_any (src : Addr) (l : List UInt8) (c : Nat) (w : World) (h0 : 0 < l.length) (hlen : l.length ≤ 4294967296) (hsrc : ∀ j v, (bcells l)[j]? = some v → w.cell? (src.add j) = some v) :
    Calls Try.prog 40 #[.slice (some src) l.length c] w fun e w' => ∃ g cap, e = .returned (.slice (some ⟨g, 0, none⟩) l.length cap) ∧ w.heap.size ≤ g ∧ w'.ownsRow 0 5 1 (.slice (some ⟨g, 0, none⟩) l.length cap) l.length (bcells l) ∧ Below w.heap.size w w' := by
  have hnil : ∀ w, (binOp .eql 22 (.slice (some src) l.length c) (.slice none 0 0)).run Try.prog w = .ok (.bool false) w := fun w => Lib.run_eql_slice_nil w 22 5 (some src) l.length c 0 0 Try.underlying22
  have hB : Below w.heap.size w (w.alloc (.cells #[] 5)) := below_al w _
  have hown : (w.alloc (.cells #[] 5)).ownsRow 0 5 1 (.slice (some ⟨w.heap.size, 0, none⟩) 0 0) 0 [] := World.ownsRow_made w #[] 0 (Nat.zero_le _) (by decide) (by simp)
  have hs2 : ∀ j v, (bcells l)[j]? = some v → (w.alloc (.cells #[] 5)).cell? (src.add j) = some v := fun j v h => (hB.cell (World.block_lt_of_cell? w _ (hsrc j v h))).trans (hsrc j v h)
  have h63 : 0 + l.length ≤ maxLen := by unfold maxLen; omega
  have hby : (0 + l.length) * 1 ≤ 140737488355328 := by omega
  have hll : (bcells l).length = l.length * 1 := by simp
  have HO := aside hown
  have HS := aside hs2
  have HB := aside hB
  have H63 := aside h63
  have HLL := aside hll
  clear hs2 hsrc hown hB h63 hll
  go_enter Try.func40, Try.ntmps40
  go_wp2_with (at_builtin; refine wpList_append_where _ rfl _ _ 22 rfl 5 (.int .u8 0) 1 1 Try.underlying22 info5 rfl (by decide) (.slice (some ⟨w.heap.size, 0, none⟩) 0 0) 0 [] rfl HO.out _ l.length _ (bcells l) rfl HLL.out HS.out (bcells_one _) H63.out hby h0 ?_; intro v' w' ho hg hwh)
  go_ret
  simp only [Nat.zero_add, List.nil_append] at ho
  rcases ho.2 with ⟨-, hz⟩ | ⟨g, cap, cur, rfl, r⟩
  · omega
  · refine ⟨g, cap, rfl, ?_, ho, ?_⟩
    · rcases hwh with ⟨e1, -⟩ | ⟨e1, -⟩
      · simp only [Value.ownBlock, Option.some.injEq] at e1; omega
      · simp only [Value.ownBlock, Option.some.injEq, World.size_alloc] at e1; omega
    · exact (HB.out).grown hg (by simp) (fun k hk => by simp only [Value.ownBlock, Option.some.injEq] at hk; omega)

theorem meth15_Size (w : World) (fb : Nat) (m : Addr) (h : w.cell? ⟨fb, 0, none⟩ = some (I m)) : (method 312 175 (.pointer (some ⟨fb, 0, none⟩)) "Size").run Try.prog w = .ok (118, .pointer (some m)) w :=
  (method_up (n := 311) (st := 177) (ix := 0) (ft := 65) (off := 0) (by kernel_rfl) (by kernel_rfl) (up_size 65 (by kernel_rfl) w) (up_agg 65 Try.underlying65 w) (by simpa [Addr.add] using h)).trans (by kernel_rfl)
theorem meth15_ReadAt (w : World) (fb : Nat) (m : Addr) (h : w.cell? ⟨fb, 0, none⟩ = some (I m)) : (method 312 175 (.pointer (some ⟨fb, 0, none⟩)) "ReadAt").run Try.prog w = .ok (117, .pointer (some m)) w :=
  (method_up (n := 311) (st := 177) (ix := 0) (ft := 65) (off := 0) (by kernel_rfl) (by kernel_rfl) (up_size 65 (by kernel_rfl) w) (up_agg 65 Try.underlying65 w) (by simpa [Addr.add] using h)).trans (by kernel_rfl)
theorem meth0_ReadAt (w : World) (fb : Nat) (m : Addr) (h : w.cell? ⟨fb, 0, none⟩ = some (I m)) : (method 312 130 (.pointer (some ⟨fb, 0, none⟩)) "ReadAt").run Try.prog w = .ok (117, .pointer (some m)) w :=
  (method_up (n := 311) (st := 132) (ix := 0) (ft := 65) (off := 0) (by kernel_rfl) (by kernel_rfl) (up_size 65 (by kernel_rfl) w) (up_agg 65 Try.underlying65 w) (by simpa [Addr.add] using h)).trans (by kernel_rfl)

set_option maxRecDepth 20000 in
set_option maxHeartbeats 1000000 in
theorem cutGrow_any (b sz : Nat) (lv : Value) (L : List Piece) (x : Nat) (w : World) (hR : Rep w b sz lv L) (hs : sz ≤ x) (hx : x ≤ 1073741824) :
    Calls Try.prog 24 #[.pointer (some ⟨b, 0, none⟩), .int .i64 x] w fun e w' => e = .returned (.int .i64 0) ∧ Rep w' b x lv L ∧ Upd (fun k => k = b) w w' := by
  obtain ⟨c0, c1, c2⟩ := hR.cells
  have h0 : ¬ ((x : Int) < 0) := by omega
  have h1 : ¬ (1073741824 < (x : Int)) := by omega
  have h2 : ¬ (1073741824 < x) := by omega
  have h3 : (sz : Int) ≤ (x : Int) := by omega
  have hE : Calls Try.prog 47 #[.pointer (some ⟨b, 0, none⟩), .int .i64 x, .int .i64 sz] w fun e w' => e = .returned (.tuple #[]) ∧ Below w.heap.size w w' := by
    go_enter Try.func47, Try.ntmps47
    go_wp2
    (try simp only [Exit.inBlock, Exit.then])
    refine bodyPost_ret (results_none rfl _ _ _) rfl ?_
    exact ⟨rfl, below_tr (below_al w _) (below_al _ _)⟩
  have HE := aside hE
  have HR := aside hR
  clear hR hE
  go_enter Try.func24, Try.ntmps24
  go_wp2_with fail
  refine HE.out.mono ?_
  rintro e w' ⟨rfl, hb⟩
  have hR' := HR.out.below hb
  obtain ⟨d0, d1, d2⟩ := hR'.cells
  have f0 : w'.frozen? ⟨b, 0, none⟩ = false := frozen_of_row w' b 0 _ _ hR'.str.obj
  go_wp2_with fail
  go_ret
  have hS := hR'.str.set 0 (.int .i64 x) (.int .i64 x) (.int .i64 (heldOf L)) rfl
  refine ⟨rfl, ⟨hS, hR'.inv.sep, hR'.inv.ne, fun d hd => ?_, hx, hR'.inv.held⟩, ?_⟩
  · have := hR'.inv.fin d hd; omega
  · exact (Upd.of_below hb).trans (Upd.setCell (F := fun k => k = b) (p := ⟨b, 0, none⟩) rfl _) (fun _ _ h => h)

/-- A file of memory: its one cell names the bytes. -/
def Fil (w : World) (m b : Nat) : Prop := w.heap[m]? = some (.cells #[.pointer (some ⟨b, 0, none⟩)] 113 (0, 0))
theorem Fil.cell {w : World} {m b : Nat} (h : Fil w m b) : w.cell? ⟨m, 0, none⟩ = some (.pointer (some ⟨b, 0, none⟩)) := by
  rw [cell_of_row w m _ _ _ _ h]; rfl
theorem Fil.below {w w' : World} {m b : Nat} (h : Fil w m b) (k : Below w.heap.size w w') : Fil w' m b := (k.block m (Array.getElem?_eq_some_iff.1 h).1).trans h

set_option maxRecDepth 20000 in
set_option maxHeartbeats 1000000 in
theorem fSize_any (m b sz : Nat) (lv : Value) (L : List Piece) (w : World) (hF : Fil w m b) (hR : Rep w b sz lv L) : Calls Try.prog 118 #[.pointer (some ⟨m, 0, none⟩)] w fun e w' => e = .returned (.int .i64 sz) ∧ w' = w := by
  have h0 := hF.cell
  have HR := aside hR
  clear hR hF
  go_enter Try.func118, Try.ntmps118
  go_wp2_with fail
  refine (size_any b sz lv L w HR.out).mono ?_
  rintro e w' ⟨rfl, rfl⟩
  go_wp2
  go_ret
  exact ⟨rfl, rfl⟩

set_option maxRecDepth 20000 in
set_option maxHeartbeats 1000000 in
theorem fCut_any (m b sz : Nat) (lv : Value) (L : List Piece) (x : Nat) (w : World) (hF : Fil w m b) (hR : Rep w b sz lv L) (hs : sz ≤ x) (hx : x ≤ 1073741824) :
    Calls Try.prog 115 #[.pointer (some ⟨m, 0, none⟩), .int .i64 x] w fun e w' => e = .returned (.int .i64 0) ∧ Rep w' b x lv L ∧ Upd (fun k => k = b) w w' := by
  have h0 := hF.cell
  have HR := aside hR
  clear hR hF
  go_enter Try.func115, Try.ntmps115
  go_wp2_with fail
  refine (cutGrow_any b sz lv L x w HR.out hs hx).mono ?_
  rintro e w' ⟨rfl, h1, h2⟩
  go_wp2
  go_ret
  exact ⟨rfl, h1, h2⟩

set_option maxRecDepth 20000 in
set_option maxHeartbeats 1000000 in
theorem fRead_any (m b sz : Nat) (lv : Value) (L : List Piece) (x n : Nat) (w : World) (hF : Fil w m b) (hR : Rep w b sz lv L) (hx : x < sz) (hn : n ≤ 65536) (hn0 : 0 < n) :
    Calls Try.prog 117 #[.pointer (some ⟨m, 0, none⟩), .int .i64 x, .int .i64 n] w fun e w' => ∃ k, k = min n (min 65536 (sz - x)) ∧ e = .returned (.tuple #[.slice (some ⟨w.heap.size, 0, none⟩) k k, .int .i64 0]) ∧
      w'.heap[w.heap.size]? = some (.cells (bcells (readB L x k)).toArray 5 (0, 0)) ∧ Below w.heap.size w w' := by
  have h0 := hF.cell
  have HR := aside hR
  have h1 : ¬ ((x : Int) < 0) := by omega
  have h2 : ¬ ((n : Int) < 0) := by omega
  have h3 : ¬ ((65536 : Int) < n) := by omega
  have h4 : ¬ (65536 < n) := by omega
  clear hR hF
  go_enter Try.func117, Try.ntmps117
  go_wp2_with fail
  refine (get_any b lv sz L x n w HR.out.inv hx (by omega) hn0 HR.out.cells.1 HR.out.cells.2.2 HR.out.str.row HR.out.str.data).mono ?_
  rintro e w' ⟨k, hk, rfl, h5, h6⟩
  have HK := aside hk
  clear hk
  go_wp2
  go_ret2
  exact ⟨k, HK.out, rfl, h5, h6⟩
end Go.Proofs.Ytoagjgcpgpjjeaa

namespace Go.Proofs.Ytoagjgcpgpjjeaa
open Go.RowKit
attribute [local simp] lcells_nil readB_length bcells_length



set_option maxRecDepth 20000 in
set_option maxHeartbeats 1000000 in
theorem file_nil (w : World) : Calls Try.prog 29 #[.pointer none] w fun e w' => e = .returned .nilIface ∧ w' = w := by
  go_enter Try.func29, Try.ntmps29
  go_wp2
  go_ret
  exact ⟨rfl, rfl⟩

set_option maxRecDepth 20000 in
set_option maxHeartbeats 1000000 in
theorem file_any (hb : Nat) (f : Value) (w : World) (hf : w.cell? ⟨hb, 5, none⟩ = some f) : Calls Try.prog 29 #[.pointer (some ⟨hb, 0, none⟩)] w fun e w' => e = .returned f ∧ w' = w := by
  go_enter Try.func29, Try.ntmps29
  go_wp2
  go_ret
  exact ⟨rfl, rfl⟩

theorem noW (v : Value) (w : World) : (Instr.typeAssert (.iface 130 v) 65 76 true).run Try.prog w = .ok (.tuple #[.nilIface, .bool false]) w := run_typeAssert_lacksB Try.underlying76 (by kernel_rfl) (by kernel_rfl) v 65 w
theorem noC (v : Value) (w : World) : (Instr.typeAssert (.iface 130 v) 65 90 true).run Try.prog w = .ok (.tuple #[.nilIface, .bool false]) w := run_typeAssert_lacksB Try.underlying90 (by kernel_rfl) (by kernel_rfl) v 65 w
theorem noH (v : Value) (w : World) : (Instr.typeAssert (.iface 130 v) 65 93 true).run Try.prog w = .ok (.tuple #[.nilIface, .bool false]) w := run_typeAssert_lacksB Try.underlying93 (by kernel_rfl) (by kernel_rfl) v 65 w
theorem noS (v : Value) (w : World) : (Instr.typeAssert (.iface 130 v) 65 78 true).run Try.prog w = .ok (.tuple #[.nilIface, .bool false]) w := run_typeAssert_lacksB Try.underlying78 (by kernel_rfl) (by kernel_rfl) v 65 w
theorem yesW (v : Value) (w : World) : (Instr.typeAssert (.iface 175 v) 65 76 true).run Try.prog w = .ok (.tuple #[.iface 175 v, .bool true]) w := run_typeAssert_hasB Try.underlying76 (by kernel_rfl) v 65 w
theorem yesC (v : Value) (w : World) : (Instr.typeAssert (.iface 175 v) 65 90 true).run Try.prog w = .ok (.tuple #[.iface 175 v, .bool true]) w := run_typeAssert_hasB Try.underlying90 (by kernel_rfl) v 65 w
theorem yesH (v : Value) (w : World) : (Instr.typeAssert (.iface 175 v) 65 93 true).run Try.prog w = .ok (.tuple #[.iface 175 v, .bool true]) w := run_typeAssert_hasB Try.underlying93 (by kernel_rfl) v 65 w
theorem yesS (v : Value) (w : World) : (Instr.typeAssert (.iface 175 v) 65 78 true).run Try.prog w = .ok (.tuple #[.iface 175 v, .bool true]) w := run_typeAssert_hasB Try.underlying78 (by kernel_rfl) v 65 w

set_option maxRecDepth 20000 in
set_option maxHeartbeats 1000000 in
theorem can_none_any (hb fb : Nat) (m : Addr) (w : World) (h : All0 w hb fb m) : Calls Try.prog 39 #[.pointer (some ⟨hb, 0, none⟩)] w fun e w' => e = .returned (.int .u8 0) ∧ w' = w := by
  obtain ⟨c0, c1, c2, c3, c4, c5⟩ := han_cells h.han
  have n1 := noW
  have n2 := noC
  have n3 := noH
  have n4 := noS
  clear h c0 c1 c2 c3 c4
  go_enter Try.func39, Try.ntmps39
  go_wp2_with fail
  refine (file_any hb _ w c5).mono ?_
  rintro e w' ⟨rfl, rfl⟩
  go_wp2
  go_ret
  exact ⟨rfl, rfl⟩

set_option maxRecDepth 20000 in
set_option maxHeartbeats 1000000 in
theorem can_all_any (hb fb : Nat) (m : Addr) (w : World) (h : All15 w hb fb m) : Calls Try.prog 39 #[.pointer (some ⟨hb, 0, none⟩)] w fun e w' => e = .returned (.int .u8 15) ∧ w' = w := by
  obtain ⟨c0, c1, c2, c3, c4, c5⟩ := han_cells h.han
  have n1 := yesW
  have n2 := yesC
  have n3 := yesH
  have n4 := yesS
  clear h c0 c1 c2 c3 c4
  go_enter Try.func39, Try.ntmps39
  go_wp2_with fail
  refine (file_any hb _ w c5).mono ?_
  rintro e w' ⟨rfl, rfl⟩
  go_wp2
  go_ret
  exact ⟨rfl, rfl⟩

set_option maxRecDepth 20000 in
set_option maxHeartbeats 1000000 in
theorem doWrite_none (hb fb : Nat) (m : Addr) (w : World) (v : Value) (h : All0 w hb fb m) (hv : ∃ a n c, v = .slice a n c) : Calls Try.prog 18 #[.pointer (some ⟨hb, 0, none⟩), .agg #[.int .i8 2, .int .i64 0, .int .i64 0, v]] w fun e w' => e = .returned (.agg #[.int .i64 5, .int .i64 0, .int .i64 0, .slice none 0 0]) ∧ Below w.heap.size w w' := by
  obtain ⟨a, n, c, rfl⟩ := hv
  obtain ⟨c0, c1, c2, c3, c4, c5⟩ := han_cells h.han
  have n1 := noW
  have hA := fun o1 o2 => below_tr (below_al w o1) (below_al (w.alloc o1) o2)
  have hbl : hb < w.heap.size := World.block_lt_of_cell? w _ c5
  have F := fun o1 o2 => aside (file_any hb _ ((w.alloc o1).alloc o2) (((hA o1 o2).cell hbl).trans c5))
  clear h c0 c1 c2 c3 c4 hA
  go_enter Try.func18, Try.ntmps18
  go_wp2_with fail
  refine (F _ _).out.mono ?_
  rintro e w' ⟨rfl, rfl⟩
  go_wp2
  refine bodyPost_ret (results_cell_row rfl _ _ (w.heap.size + 1) 51 _ (0, 0) _ rfl (heap_alloc2_new w _ _) Try.underlying51 rfl (by kernel_rfl)) rfl ?_
  exact ⟨rfl, below_tr (below_al w _) (below_al _ _)⟩

theorem Upd.setRow {F : Nat → Prop} (w : World) (g : Nat) (cs : Array Value) (hF : F g) : Upd F w (w.setRow g cs) :=
  ⟨rfl, rfl, rfl, by simp, fun k _ hk => setRow_other w g k cs (fun e => hk (e ▸ hF))⟩

theorem All0.c0 {w : World} {hb fb : Nat} {m : Addr} (h : All0 w hb fb m) : w.cell? ⟨fb, 0, none⟩ = some (I m) := by
  rw [cell_of_row w fb _ _ _ _ h.fil]; rfl
theorem All15.c0 {w : World} {hb fb : Nat} {m : Addr} (h : All15 w hb fb m) : w.cell? ⟨fb, 0, none⟩ = some (I m) := by
  rw [cell_of_row w fb _ _ _ _ h.fil]; rfl
theorem All15.c2 {w : World} {hb fb : Nat} {m : Addr} (h : All15 w hb fb m) : w.cell? ⟨fb, 2, none⟩ = some (I m) := by
  rw [cell_of_row w fb _ _ _ _ h.fil]; rfl

set_option maxRecDepth 20000 in
set_option maxHeartbeats 1000000 in
theorem doRead_none (hb fb m b sz : Nat) (lv : Value) (L : List Piece) (x n : Nat) (w : World) (h : All0 w hb fb ⟨m, 0, none⟩) (hF : Fil w m b) (hR : Rep w b sz lv L) (hx : x < sz) (hn : n ≤ 65536) (hn0 : 0 < n) :
    Calls Try.prog 18 #[.pointer (some ⟨hb, 0, none⟩), .agg #[.int .i8 1, .int .i64 x, .int .i64 n, .slice none 0 0]] w fun e w' => ∃ k g cap, k = min n (min 65536 (sz - x)) ∧ e = .returned (.agg #[.int .i64 0, .int .i64 0, .int .i64 0, .slice (some ⟨g, 0, none⟩) k cap]) ∧ w.heap.size ≤ g ∧
      w'.ownsRow 0 5 1 (.slice (some ⟨g, 0, none⟩) k cap) k (bcells (readB L x k)) ∧ Below w.heap.size w w' := by
  obtain ⟨W, hW⟩ : ∃ W, W = (w.alloc (.cells #[.int .i8 1, .int .i64 x, .int .i64 n, .slice none 0 0] 49)).alloc (.cells #[.int .i64 0, .int .i64 0, .int .i64 0, .slice none 0 0] 51) := ⟨_, rfl⟩
  have hB : Below w.heap.size w W := by rw [hW]; exact below_tr (below_al w _) (below_al _ _)
  have hT : W.heap[w.heap.size + 1]? = some (.cells #[.int .i64 0, .int .i64 0, .int .i64 0, .slice none 0 0] 51 (0, 0)) := by rw [hW]; exact heap_alloc2_new w _ _
  have HSZ := aside (show W.heap.size = w.heap.size + 2 by rw [hW]; simp)
  have o0 : W.cell? ⟨w.heap.size, 0, none⟩ = some (.int .i8 1) := by rw [hW]; go_simp
  have o1 : W.cell? ⟨w.heap.size, 1, none⟩ = some (.int .i64 x) := by rw [hW]; go_simp
  have o2 : W.cell? ⟨w.heap.size, 2, none⟩ = some (.int .i64 n) := by rw [hW]; go_simp
  have h' := h.below hB
  have c5 := (han_cells h'.han).2.2.2.2.2
  have hm := meth0_ReadAt W fb ⟨m, 0, none⟩ h'.c0
  have F1 := aside (file_any hb _ W c5)
  have F2 := aside (fRead_any m b sz lv L x n W (hF.below hB) (hR.below hB) hx hn hn0)
  have HB := aside hB
  have HT := aside hT
  clear h h' hF hR hB hT c5
  go_enter Try.func18, Try.ntmps18
  go_wp2_with fail
  rw [← hW]
  refine F1.out.mono ?_
  rintro e w' ⟨rfl, rfl⟩
  clear hW
  go_wp2_with fail
  refine F2.out.mono ?_
  rintro e w1 ⟨k, hk, rfl, hrow, hb1⟩
  have HK := aside hk
  have hk0 : 0 < k := by omega
  have hk1 : k ≤ 65536 := by omega
  clear hk
  have F3 := aside (bclone_any ⟨w'.heap.size, 0, none⟩ (readB L x k) k w1 (by simp; omega) (by simp; omega) (fun j v hj => by rw [Addr.add_lit, Nat.zero_add, cell_of_row w1 w'.heap.size j _ _ _ hrow]; simpa using hj))
  rw [readB_length] at F3
  have HT1 : Aside (w1.heap[w.heap.size + 1]? = some (.cells #[.int .i64 0, .int .i64 0, .int .i64 0, .slice none 0 0] 51 (0, 0))) := (hb1.block _ (by have := HSZ.out; omega)).trans HT.out
  have HB1 := aside (below_tr HB.out hb1)
  have hs1 := hb1.size
  clear hrow hb1
  go_wp2_with fail
  refine F3.out.mono ?_
  rintro e w2 ⟨g, cap, rfl, hg, hown, hb2⟩
  have HT2 : Aside (w2.heap[w.heap.size + 1]? = some (.cells #[.int .i64 0, .int .i64 0, .int .i64 0, .slice none 0 0] 51 (0, 0))) := (hb2.block _ (by have := HSZ.out; omega)).trans HT1.out
  have HO := aside hown
  have HB2 := aside (below_tr HB1.out hb2)
  clear hown hb2
  go_wp2_with ((with_reducible refine wpList_store_row rfl 51 _ _ rfl (w.heap.size + 1) #[.int .i64 0, .int .i64 0, .int .i64 0, .slice (some ⟨g, 0, none⟩) k cap] ?_ ?_ 51 _ HT2.out ?_ ?_ ?_ ?_); kernel_rfl; kernel_rfl; kernel_rfl; kernel_rfl; kernel_rfl)
  refine bodyPost_ret (results_cell_row rfl _ _ (w.heap.size + 1) 51 _ (0, 0) _ rfl (setRow_heap w2 _ _ _ _ _ HT2.out) Try.underlying51 rfl (by kernel_rfl)) rfl ?_
  have hsz := HSZ.out
  refine ⟨k, g, cap, HK.out, rfl, by omega, ?_, below_setRow HB2.out (by omega) _⟩
  exact (Upd.setRow (F := fun k => k = w.heap.size + 1) w2 (w.heap.size + 1) _ rfl).row HO.out (fun k hk => by simp only [Value.ownBlock, Option.some.injEq] at hk; omega)

theorem All15.upd {w w' : World} {hb fb : Nat} {m : Addr} {F : Nat → Prop} (h : All15 w hb fb m) (k : Upd F w w') (h1 : ¬ F hb) (h2 : ¬ F fb) : All15 w' hb fb m :=
  ⟨(k.block hb (Array.getElem?_eq_some_iff.1 h.han).1 h1).trans h.han, (k.block fb (Array.getElem?_eq_some_iff.1 h.fil).1 h2).trans h.fil⟩
theorem All0.upd {w w' : World} {hb fb : Nat} {m : Addr} {F : Nat → Prop} (h : All0 w hb fb m) (k : Upd F w w') (h1 : ¬ F hb) (h2 : ¬ F fb) : All0 w' hb fb m :=
  ⟨(k.block hb (Array.getElem?_eq_some_iff.1 h.han).1 h1).trans h.han, (k.block fb (Array.getElem?_eq_some_iff.1 h.fil).1 h2).trans h.fil⟩
theorem Fil.upd {w w' : World} {m b : Nat} {F : Nat → Prop} (h : Fil w m b) (k : Upd F w w') (h1 : ¬ F m) : Fil w' m b := (k.block m (Array.getElem?_eq_some_iff.1 h).1 h1).trans h

set_option maxRecDepth 20000 in
set_option maxHeartbeats 1000000 in
theorem doCut_all (hb fb m b sz : Nat) (lv : Value) (L : List Piece) (x : Nat) (w : World) (h : All15 w hb fb ⟨m, 0, none⟩) (hF : Fil w m b) (hR : Rep w b sz lv L) (hs : sz ≤ x) (hx : x ≤ 1073741824) :
    Calls Try.prog 18 #[.pointer (some ⟨hb, 0, none⟩), .agg #[.int .i8 3, .int .i64 x, .int .i64 0, .slice none 0 0]] w fun e w' => e = .returned (.agg #[.int .i64 0, .int .i64 0, .int .i64 0, .slice none 0 0]) ∧ Rep w' b x lv L ∧ Upd (fun k => k = b) w w' := by
  obtain ⟨W, hW⟩ : ∃ W, W = (w.alloc (.cells #[.int .i8 3, .int .i64 x, .int .i64 0, .slice none 0 0] 49)).alloc (.cells #[.int .i64 0, .int .i64 0, .int .i64 0, .slice none 0 0] 51) := ⟨_, rfl⟩
  have hB : Below w.heap.size w W := by rw [hW]; exact below_tr (below_al w _) (below_al _ _)
  have hT : W.heap[w.heap.size + 1]? = some (.cells #[.int .i64 0, .int .i64 0, .int .i64 0, .slice none 0 0] 51 (0, 0)) := by rw [hW]; exact heap_alloc2_new w _ _
  have HSZ := aside (show W.heap.size = w.heap.size + 2 by rw [hW]; simp)
  have o0 : W.cell? ⟨w.heap.size, 0, none⟩ = some (.int .i8 3) := by rw [hW]; go_simp
  have o1 : W.cell? ⟨w.heap.size, 1, none⟩ = some (.int .i64 x) := by rw [hW]; go_simp
  have h' := h.below hB
  have c5 := (han_cells h'.han).2.2.2.2.2
  have hm := meth15_Cut W fb ⟨m, 0, none⟩ h'.c2
  have n2 := yesC
  have F1 := aside (file_any hb _ W c5)
  have F2 := aside (fCut_any m b sz lv L x W (hF.below hB) (hR.below hB) hs hx)
  have HB := aside hB
  have HT := aside hT
  have hbw : b < w.heap.size := World.block_lt_of_cell? w _ hR.cells.1
  clear h h' hF hR hB hT c5
  go_enter Try.func18, Try.ntmps18
  go_wp2_with fail
  rw [← hW]
  refine F1.out.mono ?_
  rintro e w' ⟨rfl, rfl⟩
  clear hW
  go_wp2_with fail
  refine F2.out.mono ?_
  rintro e w1 ⟨rfl, hR1, hu1⟩
  have HT1 : Aside (w1.heap[w.heap.size + 1]? = some (.cells #[.int .i64 0, .int .i64 0, .int .i64 0, .slice none 0 0] 51 (0, 0))) := (hu1.block _ (by have := HSZ.out; omega) (by omega)).trans HT.out
  have HR1 := aside hR1
  have HU1 := aside hu1
  clear hR1 hu1
  go_wp2_with ((with_reducible refine wpList_store_row rfl 51 _ _ rfl (w.heap.size + 1) #[.int .i64 0, .int .i64 0, .int .i64 0, .slice none 0 0] ?_ ?_ 51 _ HT1.out ?_ ?_ ?_ ?_); kernel_rfl; kernel_rfl; kernel_rfl; kernel_rfl; kernel_rfl)
  rw [setRow_self w1 _ _ _ _ HT1.out]
  refine bodyPost_ret (results_cell_row rfl _ _ (w.heap.size + 1) 51 _ (0, 0) _ rfl HT1.out Try.underlying51 rfl (by kernel_rfl)) rfl ?_
  exact ⟨rfl, HR1.out, (Upd.of_below HB.out).trans HU1.out (fun _ _ h => h)⟩




set_option maxRecDepth 20000 in
set_option maxHeartbeats 1000000 in
theorem memNew_none (src : Nat) (w : World) (hsrc : w.heap[src]? = some (.cells #[.int .u8 97, .int .u8 98, .int .u8 99] 5 (3, 4))) :
    Calls Try.prog 17 #[.slice (some ⟨src, 0, none⟩) 3 3, .int .u8 0] w fun e w' => ∃ hb fb m b lv g cap, e = .returned (.tuple #[.pointer (some ⟨hb, 0, none⟩), .int .i64 0]) ∧ w.heap.size ≤ hb ∧ w.heap.size ≤ fb ∧ w.heap.size ≤ m ∧ w.heap.size ≤ b ∧ All0 w' hb fb ⟨m, 0, none⟩ ∧ Fil w' m b ∧ Rep w' b 3 lv [⟨0, g, cap, [97, 98, 99]⟩] ∧ Below w.heap.size w w' := by
  have N1 := new_any ⟨src, 0, none⟩ [97, 98, 99] 3 w (by decide) (by decide) (by decide) (cells_lit (cs := bcells [97, 98, 99]) hsrc)
  rw [show List.take 4194304 ([97, 98, 99] : List UInt8) = [97, 98, 99] from List.take_of_length_le (by decide)] at N1
  have HN := aside N1
  clear N1
  go_enter Try.func17, Try.ntmps17
  go_wp2_with fail
  refine HN.out.mono ?_
  rintro e w1 ⟨rfl, lv, g, cap, hR, hb1, -⟩
  have HR := aside hR
  have HB := aside hb1
  clear hR hb1
  go_wp2_with fail
  refine (of_none w.heap.size w1).mono ?_
  rintro e w2 ⟨hb, fb, m, rfl, h1, h2, h3, h4, h5, hb2⟩
  have := HB.out.size
  go_wp2_with fail
  go_ret2
  exact ⟨hb, fb, m, w.heap.size, lv, g, cap, rfl, by omega, by omega, by omega, by omega, h4, h5, HR.out.below hb2, below_tr HB.out hb2⟩

set_option maxRecDepth 20000 in
set_option maxHeartbeats 1000000 in
theorem memNew_all (src : Nat) (w : World) (hsrc : w.heap[src]? = some (.cells #[.int .u8 97, .int .u8 98, .int .u8 99] 5 (3, 4))) :
    Calls Try.prog 17 #[.slice (some ⟨src, 0, none⟩) 3 3, .int .u8 15] w fun e w' => ∃ hb fb m b lv g cap, e = .returned (.tuple #[.pointer (some ⟨hb, 0, none⟩), .int .i64 0]) ∧ w.heap.size ≤ hb ∧ w.heap.size ≤ fb ∧ w.heap.size ≤ m ∧ w.heap.size ≤ b ∧ hb ≠ b ∧ fb ≠ b ∧ m ≠ b ∧ All15 w' hb fb ⟨m, 0, none⟩ ∧ Fil w' m b ∧ Rep w' b 3 lv [⟨0, g, cap, [97, 98, 99]⟩] ∧ Below w.heap.size w w' := by
  have N1 := new_any ⟨src, 0, none⟩ [97, 98, 99] 3 w (by decide) (by decide) (by decide) (cells_lit (cs := bcells [97, 98, 99]) hsrc)
  rw [show List.take 4194304 ([97, 98, 99] : List UInt8) = [97, 98, 99] from List.take_of_length_le (by decide)] at N1
  have HN := aside N1
  clear N1
  go_enter Try.func17, Try.ntmps17
  go_wp2_with fail
  refine HN.out.mono ?_
  rintro e w1 ⟨rfl, lv, g, cap, hR, hb1, -⟩
  have hlt : w.heap.size < w1.heap.size := World.block_lt_of_cell? w1 _ hR.cells.1
  have HR := aside hR
  have HB := aside hb1
  clear hR hb1
  go_wp2_with fail
  refine (of_all w.heap.size w1).mono ?_
  rintro e w2 ⟨hb, fb, m, rfl, h1, h2, h3, h4, h5, hb2⟩
  have := HB.out.size
  go_wp2_with fail
  go_ret2
  exact ⟨hb, fb, m, w.heap.size, lv, g, cap, rfl, by omega, by omega, by omega, by omega, by omega, by omega, by omega, h4, h5, HR.out.below hb2, below_tr HB.out hb2⟩
end Go.Proofs.Ytoagjgcpgpjjeaa

namespace Go.Proofs.Ytoagjgcpgpjjeaa
open Go.RowKit

abbrev J (t : TypeId) (p : Addr) : Value := .iface t (.pointer (some p))

set_option maxRecDepth 20000 in
set_option maxHeartbeats 1000000 in
theorem can_allT (t : TypeId) (p : Addr) (w : World) : Calls Try.prog 71 #[.agg #[J t p, J t p, J t p, J t p, J t p]] w fun e w' => e = .returned (.int .u8 15) ∧ Below w.heap.size w w' := by
  go_enter Try.func71, Try.ntmps71
  go_wp2
  go_ret
  exact ⟨rfl, below_al w _⟩

set_option maxRecDepth 20000 in
set_option maxHeartbeats 1000000 in
theorem together_allT (t : TypeId) (p : Addr) (w : World) : Calls Try.prog 57 #[.agg #[J t p, J t p, J t p, J t p, J t p]] w fun e w' => ∃ fb, e = .returned (.iface 175 (.pointer (some ⟨fb, 0, none⟩))) ∧ w.heap.size < fb ∧ w'.heap[fb]? = some (.cells #[J t p, J t p, J t p, J t p, J t p] 177 (0, 0)) ∧ Below w.heap.size w w' := by
  have hA := aside (below_al w (.cells #[J t p, J t p, J t p, J t p, J t p] 115))
  go_enter Try.func57, Try.ntmps57
  go_wp2_with fail
  refine (can_allT t p _).mono ?_
  rintro e w1 ⟨rfl, hb1⟩
  obtain ⟨c0, c1, c2, c3, c4⟩ := five_cells hb1
  have HB := aside hb1
  have hs := hb1.size
  rw [World.size_alloc] at hs
  clear hb1
  go_wp2
  go_ret
  exact ⟨_, rfl, hs, heap_alloc_new w1 _, below_tr (below_tr hA.out HB.out) (below_al w1 _)⟩

set_option maxRecDepth 20000 in
set_option maxHeartbeats 2000000 in
theorem make_allT (t : TypeId) (p : Addr) (w : World) : Calls Try.prog 37 #[J t p, J t p, J t p, J t p, J t p] w fun e w' => ∃ hb fb, e = .returned (.pointer (some ⟨hb, 0, none⟩)) ∧ w.heap.size ≤ hb ∧ w.heap.size ≤ fb ∧ Han w' hb (J t p) (J t p) (J t p) (J t p) (J t p) (.iface 175 (.pointer (some ⟨fb, 0, none⟩))) ∧ w'.heap[fb]? = some (.cells #[J t p, J t p, J t p, J t p, J t p] 177 (0, 0)) ∧ Below w.heap.size w w' := by
  go_enter Try.func37, Try.ntmps37
  go_wp2_with fail
  go_region_with (go_at_call 57; refine (together_allT t p _).mono ?_; rintro e w1 ⟨fb, rfl, hs, hrow, hb1⟩; have hc := fun o => hb1.cell (p := ⟨w.heap.size, o, none⟩) (by simp); have c0 : w1.cell? ⟨w.heap.size, 0, none⟩ = some (J t p) := (hc 0).trans (by go_simp); have c1 : w1.cell? ⟨w.heap.size, 1, none⟩ = some (J t p) := (hc 1).trans (by go_simp); have c2 : w1.cell? ⟨w.heap.size, 2, none⟩ = some (J t p) := (hc 2).trans (by go_simp); have c3 : w1.cell? ⟨w.heap.size, 3, none⟩ = some (J t p) := (hc 3).trans (by go_simp); have c4 : w1.cell? ⟨w.heap.size, 4, none⟩ = some (J t p) := (hc 4).trans (by go_simp); have HB := aside hb1; have HR := aside hrow; have HS := aside hs; clear hb1 hrow hc hs)
  all_goals
    go_wp2
    go_ret
    have hs := HS.out
    have hfb : fb < w1.heap.size := (Array.getElem?_eq_some_iff.1 HR.out).1
    simp only [World.drew, World.size_alloc] at hs
    have hW := below_tr (below_tr (below_al w _) (below_dr _)) HB.out
    refine ⟨_, fb, rfl, hW.size, by omega, heap_alloc_new w1 _, ?_, below_tr hW (below_al w1 _)⟩
    rw [(below_al w1 _).block fb hfb]
    exact HR.out

set_option maxRecDepth 20000 in
set_option maxHeartbeats 1000000 in
theorem only_allT (t : TypeId) (p : Addr) (w : World) : Calls Try.prog 58 #[.agg #[J t p, J t p, J t p, J t p, J t p], .int .u8 15] w fun e w' => e = .returned (.agg #[J t p, J t p, J t p, J t p, J t p]) ∧ Below w.heap.size w w' := by
  go_enter Try.func58, Try.ntmps58
  go_wp2
  refine bodyPost_ret (results_cell_row rfl _ _ (w.heap.size + 1) 115 _ (0, 0) _ rfl (heap_alloc2_new w _ _) Try.underlying115 rfl (by kernel_rfl)) rfl ?_
  exact ⟨rfl, below_tr (below_al w _) (below_al _ _)⟩

/-- Of a handle with all parts, one value of type t. -/
structure AllT (t : TypeId) (w : World) (hb fb : Nat) (p : Addr) : Prop where
  han : Han w hb (J t p) (J t p) (J t p) (J t p) (J t p) (.iface 175 (.pointer (some ⟨fb, 0, none⟩)))
  fil : w.heap[fb]? = some (.cells #[J t p, J t p, J t p, J t p, J t p] 177 (0, 0))
theorem AllT.below {t : TypeId} {w w' : World} {hb fb : Nat} {p : Addr} (h : AllT t w hb fb p) (k : Below w.heap.size w w') : AllT t w' hb fb p :=
  ⟨(k.block hb (Array.getElem?_eq_some_iff.1 h.han).1).trans h.han, (k.block fb (Array.getElem?_eq_some_iff.1 h.fil).1).trans h.fil⟩
theorem AllT.upd {t : TypeId} {w w' : World} {hb fb : Nat} {m : Addr} {F : Nat → Prop} (h : AllT t w hb fb m) (k : Upd F w w') (h1 : ¬ F hb) (h2 : ¬ F fb) : AllT t w' hb fb m :=
  ⟨(k.block hb (Array.getElem?_eq_some_iff.1 h.han).1 h1).trans h.han, (k.block fb (Array.getElem?_eq_some_iff.1 h.fil).1 h2).trans h.fil⟩
theorem AllT.c0 {t : TypeId} {w : World} {hb fb : Nat} {m : Addr} (h : AllT t w hb fb m) : w.cell? ⟨fb, 0, none⟩ = some (J t m) := by
  rw [cell_of_row w fb _ _ _ _ h.fil]; rfl

set_option maxRecDepth 20000 in
set_option maxHeartbeats 1000000 in
theorem Only_allT (t : TypeId) (p : Addr) (hb fb : Nat) (w : World) (h : AllT t w hb fb p) : Calls Try.prog 38 #[.pointer (some ⟨hb, 0, none⟩), .int .u8 15] w fun e w' => ∃ hb' fb', e = .returned (.pointer (some ⟨hb', 0, none⟩)) ∧ w.heap.size ≤ hb' ∧ w.heap.size ≤ fb' ∧ AllT t w' hb' fb' p ∧ Below w.heap.size w w' := by
  obtain ⟨c0, c1, c2, c3, c4, c5⟩ := han_cells h.han
  clear h
  go_enter Try.func38, Try.ntmps38
  go_wp2_with fail
  refine (only_allT t p w).mono ?_
  rintro e w1 ⟨rfl, hb1⟩
  go_wp2_with fail
  refine (make_allT t p _).mono ?_
  rintro e w2 ⟨hb', fb', rfl, h1, h2, h3, h4, hb2⟩
  rw [World.size_alloc] at h1 h2
  have := hb1.size
  go_wp2
  go_ret
  exact ⟨_, _, rfl, by omega, by omega, ⟨h3, h4⟩, below_tr (below_tr hb1 (below_al _ _)) hb2⟩
end Go.Proofs.Ytoagjgcpgpjjeaa

namespace Go.Proofs.Ytoagjgcpgpjjeaa
open Go.RowKit

set_option maxRecDepth 20000 in
set_option maxHeartbeats 1000000 in
theorem can_ws (t : TypeId) (p : Addr) (w : World) : Calls Try.prog 71 #[.agg #[J t p, J t p, .nilIface, .nilIface, J t p]] w fun e w' => e = .returned (.int .u8 9) ∧ Below w.heap.size w w' := by
  go_enter Try.func71, Try.ntmps71
  go_wp2
  go_ret
  exact ⟨rfl, below_al w _⟩

set_option maxRecDepth 20000 in
set_option maxHeartbeats 1000000 in
theorem together_ws (t : TypeId) (p : Addr) (w : World) : Calls Try.prog 57 #[.agg #[J t p, J t p, .nilIface, .nilIface, J t p]] w fun e w' => ∃ fb, e = .returned (.iface 157 (.pointer (some ⟨fb, 0, none⟩))) ∧ w.heap.size < fb ∧ w'.heap[fb]? = some (.cells #[J t p, J t p, J t p] 159 (0, 0)) ∧ Below w.heap.size w w' := by
  have hA := aside (below_al w (.cells #[J t p, J t p, .nilIface, .nilIface, J t p] 115))
  go_enter Try.func57, Try.ntmps57
  go_wp2_with fail
  refine (can_ws t p _).mono ?_
  rintro e w1 ⟨rfl, hb1⟩
  obtain ⟨c0, c1, c2, c3, c4⟩ := five_cells hb1
  have HB := aside hb1
  have hs := hb1.size
  rw [World.size_alloc] at hs
  clear hb1
  go_wp2
  go_ret
  exact ⟨_, rfl, hs, heap_alloc_new w1 _, below_tr (below_tr hA.out HB.out) (below_al w1 _)⟩

set_option maxRecDepth 20000 in
set_option maxHeartbeats 2000000 in
theorem make_ws (t : TypeId) (p : Addr) (w : World) : Calls Try.prog 37 #[J t p, J t p, .nilIface, .nilIface, J t p] w fun e w' => ∃ hb fb, e = .returned (.pointer (some ⟨hb, 0, none⟩)) ∧ w.heap.size ≤ hb ∧ w.heap.size ≤ fb ∧ Han w' hb (J t p) (J t p) .nilIface .nilIface (J t p) (.iface 157 (.pointer (some ⟨fb, 0, none⟩))) ∧ w'.heap[fb]? = some (.cells #[J t p, J t p, J t p] 159 (0, 0)) ∧ Below w.heap.size w w' := by
  go_enter Try.func37, Try.ntmps37
  go_wp2_with fail
  go_region_with (go_at_call 57; refine (together_ws t p _).mono ?_; rintro e w1 ⟨fb, rfl, hs, hrow, hb1⟩; have hc := fun o => hb1.cell (p := ⟨w.heap.size, o, none⟩) (by simp); have c0 : w1.cell? ⟨w.heap.size, 0, none⟩ = some (J t p) := (hc 0).trans (by go_simp); have c1 : w1.cell? ⟨w.heap.size, 1, none⟩ = some (J t p) := (hc 1).trans (by go_simp); have c2 : w1.cell? ⟨w.heap.size, 2, none⟩ = some .nilIface := (hc 2).trans (by go_simp); have c3 : w1.cell? ⟨w.heap.size, 3, none⟩ = some .nilIface := (hc 3).trans (by go_simp); have c4 : w1.cell? ⟨w.heap.size, 4, none⟩ = some (J t p) := (hc 4).trans (by go_simp); have HB := aside hb1; have HR := aside hrow; have HS := aside hs; clear hb1 hrow hc hs)
  all_goals
    go_wp2
    go_ret
    have hs := HS.out
    have hfb : fb < w1.heap.size := (Array.getElem?_eq_some_iff.1 HR.out).1
    simp only [World.drew, World.size_alloc] at hs
    have hW := below_tr (below_tr (below_al w _) (below_dr _)) HB.out
    refine ⟨_, fb, rfl, hW.size, by omega, heap_alloc_new w1 _, ?_, below_tr hW (below_al w1 _)⟩
    rw [(below_al w1 _).block fb hfb]
    exact HR.out

set_option maxRecDepth 20000 in
set_option maxHeartbeats 1000000 in
theorem only_ws (t : TypeId) (p : Addr) (w : World) : Calls Try.prog 58 #[.agg #[J t p, J t p, .nilIface, .nilIface, J t p], .int .u8 15] w fun e w' => e = .returned (.agg #[J t p, J t p, .nilIface, .nilIface, J t p]) ∧ Below w.heap.size w w' := by
  go_enter Try.func58, Try.ntmps58
  go_wp2
  refine bodyPost_ret (results_cell_row rfl _ _ (w.heap.size + 1) 115 _ (0, 0) _ rfl (heap_alloc2_new w _ _) Try.underlying115 rfl (by kernel_rfl)) rfl ?_
  exact ⟨rfl, below_tr (below_al w _) (below_al _ _)⟩

/-- Of a handle with a file, a writer, a syncer, one value of type t. -/
structure AllW (t : TypeId) (w : World) (hb fb : Nat) (p : Addr) : Prop where
  han : Han w hb (J t p) (J t p) .nilIface .nilIface (J t p) (.iface 157 (.pointer (some ⟨fb, 0, none⟩)))
  fil : w.heap[fb]? = some (.cells #[J t p, J t p, J t p] 159 (0, 0))
theorem AllW.below {t : TypeId} {w w' : World} {hb fb : Nat} {p : Addr} (h : AllW t w hb fb p) (k : Below w.heap.size w w') : AllW t w' hb fb p :=
  ⟨(k.block hb (Array.getElem?_eq_some_iff.1 h.han).1).trans h.han, (k.block fb (Array.getElem?_eq_some_iff.1 h.fil).1).trans h.fil⟩
theorem AllW.upd {t : TypeId} {w w' : World} {hb fb : Nat} {m : Addr} {F : Nat → Prop} (h : AllW t w hb fb m) (k : Upd F w w') (h1 : ¬ F hb) (h2 : ¬ F fb) : AllW t w' hb fb m :=
  ⟨(k.block hb (Array.getElem?_eq_some_iff.1 h.han).1 h1).trans h.han, (k.block fb (Array.getElem?_eq_some_iff.1 h.fil).1 h2).trans h.fil⟩
theorem AllW.c0 {t : TypeId} {w : World} {hb fb : Nat} {m : Addr} (h : AllW t w hb fb m) : w.cell? ⟨fb, 0, none⟩ = some (J t m) := by
  rw [cell_of_row w fb _ _ _ _ h.fil]; rfl

set_option maxRecDepth 20000 in
set_option maxHeartbeats 1000000 in
theorem Only_ws (t : TypeId) (p : Addr) (hb fb : Nat) (w : World) (h : AllW t w hb fb p) : Calls Try.prog 38 #[.pointer (some ⟨hb, 0, none⟩), .int .u8 15] w fun e w' => ∃ hb' fb', e = .returned (.pointer (some ⟨hb', 0, none⟩)) ∧ w.heap.size ≤ hb' ∧ w.heap.size ≤ fb' ∧ AllW t w' hb' fb' p ∧ Below w.heap.size w w' := by
  obtain ⟨c0, c1, c2, c3, c4, c5⟩ := han_cells h.han
  clear h
  go_enter Try.func38, Try.ntmps38
  go_wp2_with fail
  refine (only_ws t p w).mono ?_
  rintro e w1 ⟨rfl, hb1⟩
  go_wp2_with fail
  refine (make_ws t p _).mono ?_
  rintro e w2 ⟨hb', fb', rfl, h1, h2, h3, h4, hb2⟩
  rw [World.size_alloc] at h1 h2
  have := hb1.size
  go_wp2
  go_ret
  exact ⟨_, _, rfl, by omega, by omega, ⟨h3, h4⟩, below_tr (below_tr hb1 (below_al _ _)) hb2⟩
end Go.Proofs.Ytoagjgcpgpjjeaa

namespace Go.Proofs.Ytoagjgcpgpjjeaa

/-- One step of the sum. -/
def stp (s : Nat) (x : UInt8) : Nat := ((s ^^^ x.toNat) * 1099511628211) % 18446744073709551616
/-- The sum of bytes, from s on. -/
def fnv (s : Nat) (l : List UInt8) : Nat := l.foldl stp s
def fnv0 (l : List UInt8) : Nat := fnv 14695981039346656037 l

theorem stp_lt (s : Nat) (x : UInt8) : stp s x < 18446744073709551616 := Nat.mod_lt _ (by decide)
theorem fnv_lt {s : Nat} (l : List UInt8) (h : s < 18446744073709551616) : fnv s l < 18446744073709551616 := by
  induction l generalizing s with
  | nil => exact h
  | cons x l ih => exact ih (stp_lt s x)
theorem fnv0_lt (l : List UInt8) : fnv0 l < 18446744073709551616 := fnv_lt l (by decide)
theorem fnv_snoc (s : Nat) (l : List UInt8) (x : UInt8) : fnv s (l ++ [x]) = stp (fnv s l) x := by unfold fnv; rw [List.foldl_append, List.foldl_cons, List.foldl_nil]
theorem fnv0_take_succ {l : List UInt8} {k : Nat} {x : UInt8} (h : l[k]? = some x) : fnv0 (l.take (k + 1)) = stp (fnv0 (l.take k)) x := by
  rw [List.take_add_one, h]; exact fnv_snoc _ _ _

theorem mul_inj {a b : Nat} (ha : a < 18446744073709551616) (hb : b < 18446744073709551616) (h : a * 1099511628211 % 18446744073709551616 = b * 1099511628211 % 18446744073709551616) : a = b := by
  have key : ∀ c : Nat, c < 18446744073709551616 → c * 1099511628211 % 18446744073709551616 * 14886173955864302971 % 18446744073709551616 = c := by
    intro c hc
    have e : 1099511628211 * 14886173955864302971 = 887285111055 * 18446744073709551616 + 1 := by decide
    have e1 : c * 1099511628211 % 18446744073709551616 * 14886173955864302971 % 18446744073709551616 = c * 1099511628211 * 14886173955864302971 % 18446744073709551616 := by
      rw [Nat.mul_mod, Nat.mod_mod, ← Nat.mul_mod]
    rw [e1, Nat.mul_assoc, e, Nat.mul_add, Nat.mul_one, ← Nat.mul_assoc, Nat.mul_comm (c * 887285111055), Nat.mul_add_mod, Nat.mod_eq_of_lt hc]
  rw [← key a ha, ← key b hb, h]

theorem xor_lt {a b : Nat} (ha : a < 18446744073709551616) (hb : b < 256) : a ^^^ b < 18446744073709551616 :=
  Nat.xor_lt_two_pow (n := 64) ha (Nat.lt_of_lt_of_le hb (by decide))
theorem byte_lt (x : UInt8) : x.toNat < 256 := x.toNat_lt

theorem xor_left {a b x : Nat} (h : a ^^^ x = b ^^^ x) : a = b := by
  have h1 := congrArg (· ^^^ x) h
  simpa only [Nat.xor_assoc, Nat.xor_self, Nat.xor_zero] using h1
theorem xor_right {a b x : Nat} (h : x ^^^ a = x ^^^ b) : a = b := xor_left (x := x) (by rw [Nat.xor_comm a, Nat.xor_comm b, h])
theorem stp_left {s t : Nat} {x : UInt8} (hs : s < 18446744073709551616) (ht : t < 18446744073709551616) (h : stp s x = stp t x) : s = t := by
  have h1 := mul_inj (xor_lt hs (byte_lt x)) (xor_lt ht (byte_lt x)) h
  exact xor_left h1
theorem stp_right {s : Nat} {x y : UInt8} (hs : s < 18446744073709551616) (h : stp s x = stp s y) : x = y := by
  have h1 := mul_inj (xor_lt hs (byte_lt x)) (xor_lt hs (byte_lt y)) h
  exact UInt8.toNat_inj.1 (xor_right h1)
theorem fnv_left {s t : Nat} (l : List UInt8) (hs : s < 18446744073709551616) (ht : t < 18446744073709551616) (h : fnv s l = fnv t l) : s = t := by
  induction l generalizing s t with
  | nil => exact h
  | cons x l ih => exact stp_left hs ht (ih (stp_lt s x) (stp_lt t x) h)
theorem fnv_set {l : List UInt8} {s k : Nat} {b x : UInt8} (hs : s < 18446744073709551616) (hk : l[k]? = some b) : fnv s l = fnv s (l.set k x) ↔ b = x := by
  induction l generalizing s k with
  | nil => simp at hk
  | cons y l ih =>
    cases k with
    | zero =>
      simp only [List.getElem?_cons_zero, Option.some.injEq] at hk
      subst hk
      refine ⟨fun h => stp_right hs (fnv_left l (stp_lt s _) (stp_lt s _) h), fun h => by subst h; rfl⟩
    | succ k => exact ih (stp_lt s y) (by simpa using hk)

/-- The step as the program does it. -/
theorem stp_run (s : Nat) (x : UInt8) (hs : s < 18446744073709551616) : IntKind.u64.wrap (bits .xor .u64 (s : Int) (x.toNat : Int) * 1099511628211) = ((stp s x : Nat) : Int) := by
  rw [bits_xor_u64_nat s x.toNat hs (Nat.lt_of_lt_of_le (byte_lt x) (by decide)), IntKind.wrap_u64]
  unfold stp
  omega
end Go.Proofs.Ytoagjgcpgpjjeaa

namespace Go.Proofs.Ytoagjgcpgpjjeaa
open Go.RowKit
attribute [local simp] lcells_nil readB_length bcells_length
set_option maxHeartbeats 1000000 in
theorem sum_any (a : Option Addr) (l : List UInt8) (c : Nat) (w : World) (h : l ≠ [] → ∃ ad, a = some ad ∧ ∀ j v, (bcells l)[j]? = some v → w.cell? (ad.add j) = some v) (hl : l.length ≤ 4611686018427387904) :
    Calls Try.prog 13 #[.slice a l.length c] w fun e w' => e = .returned (.int .u64 (fnv0 l : Nat)) ∧ w' = w := by
  have H := aside h
  clear h
  go_enter Try.func13, Try.ntmps13
  go_wp2_with fail
  go_loop [3, 8] (fun s3 s8 => ∃ (k S : Nat), k ≤ l.length ∧ S < 18446744073709551616 ∧ s3 = .int .u64 S ∧ s8 = .int .i64 k ∧ Aside (S = fnv0 (l.take k))) (fun _ s8 => l.length - (intOf s8).toNat)
  case atStart => exact ⟨0, _, Nat.zero_le _, by decide, rfl, rfl, aside (by rw [List.take_zero]; rfl)⟩
  case round =>
    obtain ⟨k, S, hk, hS, rfl, rfl, hF⟩ := hrel
    by_cases h1 : k < l.length
    · have hkm : l[k]? = some l[k] := List.getElem?_eq_getElem h1
      obtain ⟨ad, rfl, hc⟩ := H.out (by intro h; simp [h] at h1)
      have r0 := hc k (.int .u8 (l[k].toNat : Nat)) (by simp [bcells, hkm])
      have HX := aside (fnv0_take_succ hkm)
      have hx := byte_lt l[k]
      generalize l[k] = x at *
      have t1 : (k : Int) < (l.length : Int) := by omega
      have HR := aside (stp_run S x hS)
      have hst := stp_lt S x
      clear hc hkm
      go_wp2_with fail
      refine ⟨⟨k + 1, stp S x, by omega, hst, by rw [HR.out], by go_num, aside (by rw [HX.out, ← hF.out])⟩, ?_⟩
      simp [intOf]; omega
    · have t1 : ¬ ((k : Int) < (l.length : Int)) := by omega
      obtain rfl : k = l.length := by omega
      go_wp2_with fail
      go_ret
      have e := hF.out
      rw [List.take_length] at e
      rw [e]
      exact ⟨rfl, rfl⟩
end Go.Proofs.Ytoagjgcpgpjjeaa

namespace Go.Proofs.Ytoagjgcpgpjjeaa
open Go.RowKit
attribute [local simp] lcells_nil readB_length bcells_length
theorem make8 (w : World) : (Instr.makeSlice 22 (.int .i64 8) (.int .i64 8)).run Try.prog w = .ok (.slice (some ⟨w.heap.size, 0, none⟩) 8 8) (w.alloc (.cells (bcells (List.replicate 8 0)).toArray 5)) := make_bytes w 8 (by decide)
/-- A sum's bytes. -/
def le8 (s : Nat) : List UInt8 := (List.range 8).map fun i => UInt8.ofNat (s / 2 ^ (8 * i))
theorem le8_length (s : Nat) : (le8 s).length = 8 := by simp [le8]
/-- The first k of them, noughts behind. -/
def le8k (s k : Nat) : List UInt8 := (le8 s).take k ++ List.replicate (8 - k) 0
theorem le8k_end (s : Nat) : le8k s 8 = le8 s := by unfold le8k; rw [List.take_of_length_le (by rw [le8_length]; decide)]; simp
theorem le8k_set (s k : Nat) (hk : k < 8) : (le8k s k).set k (UInt8.ofNat (s / 2 ^ (8 * k))) = le8k s (k + 1) := by
  rcases (by omega : k = 0 ∨ k = 1 ∨ k = 2 ∨ k = 3 ∨ k = 4 ∨ k = 5 ∨ k = 6 ∨ k = 7) with rfl | rfl | rfl | rfl | rfl | rfl | rfl | rfl <;> rfl
theorem le8_byte (s k : Nat) : (s : Int) / 2 ^ (8 * k) % 256 = ((UInt8.ofNat (s / 2 ^ (8 * k))).toNat : Nat) := by
  rw [UInt8.toNat_ofNat', Int.natCast_emod, Int.natCast_ediv, Int.natCast_pow]
  rfl
theorem le8k_row (s k : Nat) (hk : k < 8) : (bcells (le8k s k)).toArray.setIfInBounds k (.int .u8 ((s : Int) / 2 ^ (8 * k) % 256)) = (bcells (le8k s (k + 1))).toArray := by
  rw [le8_byte, ← le8k_set s k hk, List.setIfInBounds_toArray]
  unfold bcells
  rw [List.map_set]
set_option maxHeartbeats 1000000 in
theorem entry_any (s : Nat) (w : World) :
    Calls Try.prog 31 #[.int .u64 s] w fun e w' => e = .returned (.slice (some ⟨w.heap.size, 0, none⟩) 8 8) ∧ w'.heap[w.heap.size]? = some (.cells (bcells (le8 s)).toArray 5 (0, 0)) ∧ Below w.heap.size w w' := by
  have hmk := make8
  go_enter Try.func31, Try.ntmps31
  go_wp2_with fail
  go_loopw [8] (fun s8 wr => ∃ k : Nat, k ≤ 8 ∧ s8 = .int .i64 k ∧ Aside (wr.heap[w.heap.size]? = some (.cells (bcells (le8k s k)).toArray 5 (0, 0))) ∧ Aside (Below w.heap.size w wr)) (fun s8 _ => 8 - (intOf s8).toNat)
  case atStart => exact ⟨0, Nat.zero_le _, rfl, aside (heap_alloc_new w _), aside (below_al w _)⟩
  case round =>
    obtain ⟨k, hk, rfl, hrow, hB⟩ := hrel
    by_cases h1 : k < 8
    · have t1 : (k : Int) < 8 := by omega
      have hc : ∃ v, wr.cell? ⟨w.heap.size, k, none⟩ = some v := ⟨_, by rw [cell_of_row wr w.heap.size k _ _ _ hrow.out]; exact Array.getElem?_eq_getElem (by simp [le8k, le8]; omega)⟩
      obtain ⟨v0, z0⟩ := hc
      have z1 : wr.frozen? ⟨w.heap.size, k, none⟩ = false := frozen_of_row wr w.heap.size k _ _ hrow.out
      go_wp2_with fail
      refine ⟨⟨k + 1, by omega, by go_num, aside ?_, aside ?_⟩, by simp [intOf]; omega⟩
      · rw [setCell_eq_setRow wr w.heap.size k _ _ _ _ hrow.out, setRow_heap wr w.heap.size _ _ _ _ hrow.out, le8k_row s k h1]
      · exact hB.out.trans ((Upd.setCell (F := fun j => j = w.heap.size) (p := ⟨w.heap.size, k, none⟩) (w := wr) rfl _).below hB.out.size (fun q hq => by omega))
    · have t1 : ¬ ((k : Int) < 8) := by omega
      obtain rfl : k = 8 := by omega
      go_wp2_with fail
      go_ret
      exact ⟨rfl, by rw [← le8k_end]; exact hrow.out, hB.out⟩
end Go.Proofs.Ytoagjgcpgpjjeaa

namespace Go.Proofs.Ytoagjgcpgpjjeaa
open Go.RowKit
attribute [local simp] lcells_nil readB_length bcells_length

/-- Bytes that were told: nil if there are none. -/
def Tel (w : World) (a : Option Addr) (l : List UInt8) (c : Nat) : Prop :=
  (l = [] ∧ a = none ∧ c = 0) ∨ (l ≠ [] ∧ l.length ≤ c ∧ ∃ ad, a = some ad ∧ ∀ j v, (bcells l)[j]? = some v → w.cell? (ad.add j) = some v)
theorem Tel.bs {w : World} {a : Option Addr} {l : List UInt8} {c : Nat} (h : Tel w a l c) : BsAt w a l := fun hl => by
  rcases h with ⟨h, -⟩ | ⟨-, -, h⟩
  · exact absurd h hl
  · exact h
theorem Tel.below {w w' : World} {a : Option Addr} {l : List UInt8} {c : Nat} (h : Tel w a l c) (hb : Below w.heap.size w w') : Tel w' a l c := by
  rcases h with h | ⟨h1, h2, ad, rfl, h3⟩
  · exact .inl h
  · exact .inr ⟨h1, h2, ad, rfl, fun j v hj => (hb.cell (World.block_lt_of_cell? w _ (h3 j v hj))).trans (h3 j v hj)⟩

theorem getL_in {L : List Piece} {sz x n : Nat} (h : x < sz) : getL L sz x n = readB L x (min n (min 65536 (sz - x))) := by
  unfold getL
  rw [if_neg (by omega), Int.toNat_natCast, Int.toNat_natCast]
theorem getL_out {L : List Piece} {sz x n : Nat} (h : sz ≤ x) : getL L sz x n = [] := by
  unfold getL
  rw [if_pos (by omega)]
theorem getL_le (L : List Piece) (sz x n : Nat) : (getL L sz x n).length ≤ n := by
  rcases Nat.lt_or_ge x sz with h | h
  · rw [getL_in h, readB_length]; omega
  · rw [getL_out h]; simp

set_option maxRecDepth 20000 in
set_option maxHeartbeats 1000000 in
theorem fOut_any (m b sz : Nat) (x n : Nat) (w : World) (hF : Fil w m b) (hs : w.cell? ⟨b, 0, none⟩ = some (.int .i64 sz)) (hx : sz ≤ x) (hn : n ≤ 65536) :
    Calls Try.prog 117 #[.pointer (some ⟨m, 0, none⟩), .int .i64 x, .int .i64 n] w fun e w' => e = .returned (.tuple #[.slice none 0 0, .int .i64 0]) ∧ w' = w := by
  have h0 := hF.cell
  have HG := aside (getOut_any b sz x n w hs (by omega))
  have h1 : ¬ ((x : Int) < 0) := by omega
  have h2 : ¬ ((n : Int) < 0) := by omega
  have h3 : ¬ ((65536 : Int) < n) := by omega
  have h4 : ¬ (65536 < n) := by omega
  clear hF hs
  go_enter Try.func117, Try.ntmps117
  go_wp2_with fail
  refine HG.out.mono ?_
  rintro e w' ⟨rfl, rfl⟩
  go_wp2
  go_ret2
  exact ⟨rfl, rfl⟩

theorem fRead_all (m b sz : Nat) (lv : Value) (L : List Piece) (x n : Nat) (w : World) (hF : Fil w m b) (hR : Rep w b sz lv L) (hn : n ≤ 65536) (hn0 : 0 < n) :
    Calls Try.prog 117 #[.pointer (some ⟨m, 0, none⟩), .int .i64 x, .int .i64 n] w fun e w' => ∃ a c, e = .returned (.tuple #[.slice a (getL L sz x n).length c, .int .i64 0]) ∧ Tel w' a (getL L sz x n) c ∧ Below w.heap.size w w' := by
  rcases Nat.lt_or_ge x sz with h | h
  · refine (fRead_any m b sz lv L x n w hF hR h hn hn0).mono ?_
    rintro e w' ⟨k, hk, rfl, hh, hb⟩
    rw [getL_in h, ← hk]
    refine ⟨some ⟨w.heap.size, 0, none⟩, k, by rw [readB_length], .inr ⟨?_, by rw [readB_length]; exact Nat.le_refl _, _, rfl, cells_lit hh⟩, hb⟩
    intro e
    have := congrArg List.length e
    rw [readB_length] at this
    simp at this
    omega
  · refine (fOut_any m b sz x n w hF hR.cells.1 h hn).mono ?_
    rintro e w' ⟨rfl, rfl⟩
    rw [getL_out h]
    exact ⟨none, 0, rfl, .inl ⟨rfl, rfl, rfl⟩, Below.refl _ _⟩

set_option maxRecDepth 20000 in
set_option maxHeartbeats 1000000 in
theorem bclone_nil (w : World) : Calls Try.prog 40 #[.slice none 0 0] w fun e w' => e = .returned (.slice none 0 0) ∧ w' = w := by
  have hnil : ∀ w, (binOp .eql 22 (.slice none 0 0) (.slice none 0 0)).run Try.prog w = .ok (.bool true) w := fun w => Lib.run_eql_slice_nil w 22 5 none 0 0 0 0 Try.underlying22
  go_enter Try.func40, Try.ntmps40
  go_wp2_with fail
  go_ret
  exact ⟨rfl, rfl⟩
theorem bclone_all (a : Option Addr) (l : List UInt8) (c : Nat) (w : World) (h : Tel w a l c) (hl : l.length ≤ 4294967296) :
    Calls Try.prog 40 #[.slice a l.length c] w fun e w' => ∃ a' c', e = .returned (.slice a' l.length c') ∧ Tel w' a' l c' ∧ Below w.heap.size w w' := by
  rcases h with ⟨rfl, rfl, rfl⟩ | ⟨h1, h2, ad, rfl, h3⟩
  · refine (bclone_nil w).mono ?_
    rintro e w' ⟨rfl, rfl⟩
    exact ⟨none, 0, rfl, .inl ⟨rfl, rfl, rfl⟩, Below.refl _ _⟩
  · refine (bclone_any ad l c w (List.length_pos_iff.2 h1) hl h3).mono ?_
    rintro e w' ⟨g, cap, rfl, -, ho, hb⟩
    have hc : l.length ≤ cap := by
      rcases ho.2 with ⟨h, -⟩ | ⟨g', c', cur, h, -, -, hn, -⟩
      · cases h
      · injection h with _ _ e3
        subst e3; exact hn
    exact ⟨_, cap, rfl, .inr ⟨h1, hc, _, rfl, fun j v hj => by
      have hjl : j < (bcells l).length := (List.getElem?_eq_some_iff.1 hj).1
      rw [bcells_length] at hjl
      rw [Addr.add_lit, Nat.zero_add, ho.cellAt j (by omega)]; exact hj⟩, hb⟩

set_option maxRecDepth 20000 in
set_option maxHeartbeats 1000000 in
theorem read_any (t fb m b sz n : Nat) (lv : Value) (L : List Piece) (k : Nat) (w : World) (hm : ∀ W, Below w.heap.size w W → (method 312 t (.pointer (some ⟨fb, 0, none⟩)) "ReadAt").run Try.prog W = .ok (117, .pointer (some ⟨m, 0, none⟩)) W)
    (hF : Fil w m b) (hR : Rep w b sz lv L) (hn : n ≤ 65536) (hn0 : 0 < n) (hk : k ≤ 1073741824) :
    Calls Try.prog 30 #[.agg #[.func (.method "ReadAt") #[.iface t (.pointer (some ⟨fb, 0, none⟩))] #[], .int .i64 n], .int .i64 k] w fun e w' => ∃ a c, e = .returned (.tuple #[.slice a (getL L sz (k * n : Nat) n).length c, .int .i64 0]) ∧ Tel w' a (getL L sz (k * n : Nat) n) c ∧ Below w.heap.size w w' := by
  have hkn : k * n ≤ 1073741824 * 65536 := Nat.mul_le_mul hk hn
  obtain ⟨W, hW⟩ : ∃ W, W = w.alloc (.cells #[.func (.method "ReadAt") #[.iface t (.pointer (some ⟨fb, 0, none⟩))] #[], .int .i64 n] 70) := ⟨_, rfl⟩
  have hB : Below w.heap.size w W := by rw [hW]; exact below_al w _
  have o1 : W.cell? ⟨w.heap.size, 1, none⟩ = some (.int .i64 n) := by rw [hW]; go_simp
  have hm0 := hm W hB
  rw [hW] at hm0
  have F1 := fRead_all m b sz lv L (k * n) n W (hF.below hB) (hR.below hB) hn hn0
  have hlt : w.heap.size < W.heap.size := World.block_lt_of_cell? W _ o1
  have hgl := getL_le L sz (k * n) n
  generalize getL L sz ((k * n : Nat) : Int) (n : Int) = g at *
  rw [Int.natCast_mul] at F1
  have HF1 := aside F1
  have HB := aside hB
  clear hm hF hR hB F1
  go_enter Try.func30, Try.ntmps30
  go_wp2_with fail
  rw [← hW]
  clear hW hm0
  refine HF1.out.mono ?_
  rintro e w1 ⟨a, c, rfl, hT, hb1⟩
  have hc1 : w1.cell? ⟨w.heap.size, 1, none⟩ = some (.int .i64 n) := (hb1.cell (p := ⟨w.heap.size, 1, none⟩) hlt).trans o1
  have HT := aside hT
  have HB1 := aside (below_tr HB.out hb1)
  have hmn : min (g.length : Int) (n : Int) = (g.length : Int) := by omega
  have HMN := aside hmn
  clear o1 hb1 HB hmn
  rcases hT with ⟨rfl, rfl, rfl⟩ | ⟨h1, h2, ad, rfl, h3⟩
  · go_wp2_with ((with_reducible refine wpList_min2 _ rfl _ _ _ rfl 0 (n : Int) 0 ?_ ?_ HMN.out ?_); rfl; rfl)
    refine (bclone_nil w1).mono ?_
    rintro e w2 ⟨rfl, rfl⟩
    go_wp2
    go_ret2
    exact ⟨none, 0, rfl, HT.out, HB1.out⟩
  · have i1 : (g.length : Int) ≤ (c : Int) := by omega
    have i3 : (0 : Int) ≤ (g.length : Int) := by omega
    have F2 := aside (bclone_all (some ad) g c w1 HT.out (by omega))
    clear h1 h3
    go_wp2_with ((with_reducible refine wpList_min2 _ rfl _ _ _ rfl (g.length : Int) (n : Int) (g.length : Int) ?_ ?_ HMN.out ?_); rfl; rfl)
    refine F2.out.mono ?_
    rintro e w2 ⟨a', c', rfl, hT2, hb2⟩
    have HT2 := aside hT2
    have HB2 := aside (below_tr HB1.out hb2)
    clear hT2 hb2
    go_wp2
    go_ret2
    exact ⟨a', c', rfl, HT2.out, HB2.out⟩
end Go.Proofs.Ytoagjgcpgpjjeaa

namespace Go.Proofs.Ytoagjgcpgpjjeaa
open Go.RowKit
attribute [local simp] lcells_nil readB_length bcells_length

/-- How a handle's file comes to the file of memory. -/
structure Way (w : World) (hb t fb m : Nat) : Prop where
  c5 : w.cell? ⟨hb, 5, none⟩ = some (.iface t (.pointer (some ⟨fb, 0, none⟩)))
  size : ∀ W, Below w.heap.size w W → (method 312 t (.pointer (some ⟨fb, 0, none⟩)) "Size").run Try.prog W = .ok (118, .pointer (some ⟨m, 0, none⟩)) W
  read : ∀ W, Below w.heap.size w W → (method 312 t (.pointer (some ⟨fb, 0, none⟩)) "ReadAt").run Try.prog W = .ok (117, .pointer (some ⟨m, 0, none⟩)) W
theorem Way.below {w w' : World} {hb t fb m : Nat} (h : Way w hb t fb m) (k : Below w.heap.size w w') : Way w' hb t fb m :=
  ⟨(k.cell (World.block_lt_of_cell? w _ h.c5)).trans h.c5, fun W hW => h.size W (k.trans (hW.mono k.size)), fun W hW => h.read W (k.trans (hW.mono k.size))⟩
theorem hmf (fn : Fn) (first cap : Array Value) (w : World) : (Instr.makeFunc fn first cap).run Try.prog w = .ok (.func fn first cap) w := rfl

/-- The table of the first k blocks. -/
def tabk (L : List Piece) (sz k : Nat) : List UInt8 := (List.range k).flatMap fun i => le8 (fnv0 (getL L sz (i * 64 : Nat) (64 : Nat)))
theorem tabk_succ (L : List Piece) (sz k : Nat) : tabk L sz (k + 1) = tabk L sz k ++ le8 (fnv0 (getL L sz (k * 64 : Nat) (64 : Nat))) := by
  unfold tabk; rw [List.range_succ, List.flatMap_append]; simp
theorem tabk_length (L : List Piece) (sz k : Nat) : (tabk L sz k).length = 8 * k := by
  induction k with
  | zero => rfl
  | succ k ih => rw [tabk_succ, List.length_append, ih, le8_length]; omega
/-- .. of all. -/
def tab (L : List Piece) (sz : Nat) : List UInt8 := tabk L sz ((sz + 63) / 64)

/-- The pieces that Table reads by. -/
abbrev Pcs (t fb n : Nat) : Array Value := #[.func (.method "ReadAt") #[.iface t (.pointer (some ⟨fb, 0, none⟩))] #[], .int .i64 n]

set_option maxRecDepth 20000 in
set_option maxHeartbeats 4000000 in
theorem table_any (hb t fb m b sz : Nat) (lv : Value) (L : List Piece) (w : World) (hY : Way w hb t fb m) (hF : Fil w m b) (hR : Rep w b sz lv L) (hsz : sz ≤ 4194304) :
    Calls Try.prog 11 #[.pointer (some ⟨hb, 0, none⟩)] w fun e w' => ∃ v, e = .returned (.tuple #[v, .int .i64 0]) ∧ w'.ownsRow 0 5 1 v (tab L sz).length (bcells (tab L sz)) ∧ Below w.heap.size w w' := by
  have hm1 := hY.size w (Below.refl _ _)
  have F1 := aside (file_any hb _ w hY.c5)
  have F2 := aside (fSize_any m b sz lv L w hF hR)
  have hk := hmf
  have HR := aside hR
  have HF := aside hF
  have HY := aside hY
  have h4 : ¬ ((4194304 : Int) < (sz : Int)) := by omega
  clear hY hF hR
  go_enter Try.func11, Try.ntmps11
  go_wp2_with fail
  refine F1.out.mono ?_
  rintro e w' ⟨rfl, rfl⟩
  go_wp2_with fail
  refine F2.out.mono ?_
  rintro e w' ⟨rfl, rfl⟩
  have HT := aside (heap_alloc_new w' (.cells #[.nilFunc, .int .i64 0] 70))
  go_wp2_with ((with_reducible refine wpList_store_row rfl 70 _ _ rfl w'.heap.size (Pcs t fb 64) ?_ ?_ 70 _ HT.out ?_ ?_ ?_ ?_); kernel_rfl; kernel_rfl; kernel_rfl; kernel_rfl; kernel_rfl)
  have HT1 : Aside (((w'.alloc (.cells #[.nilFunc, .int .i64 0] 70)).setRow w'.heap.size (Pcs t fb 64)).heap[w'.heap.size]? = some (.cells (Pcs t fb 64) 70 (0, 0))) := setRow_heap _ _ _ _ _ _ HT.out
  have HB1 : Aside (Below w'.heap.size w' ((w'.alloc (.cells #[.nilFunc, .int .i64 0] 70)).setRow w'.heap.size (Pcs t fb 64))) := below_setRow (below_al w' _) (Nat.le_refl _) _
  go_loopw [6, 8] (fun s6 s8 wr => ∃ (k : Nat) (v : Value), k ≤ (sz + 63) / 64 ∧ s6 = v ∧ s8 = .int .i64 k ∧ Aside (wr.ownsRow 0 5 1 v (8 * k) (bcells (tabk L sz k))) ∧ Aside (∀ j, v.ownBlock = some j → w'.heap.size < j) ∧ Aside (wr.heap[w'.heap.size]? = some (.cells (Pcs t fb 64) 70 (0, 0))) ∧ Aside (Below w'.heap.size w' wr)) (fun _ s8 _ => (sz + 63) / 64 - (intOf s8).toNat)
  case atStart => exact ⟨0, _, Nat.zero_le _, rfl, rfl, aside ⟨rfl, .inl ⟨rfl, rfl⟩⟩, aside (fun j hj => by simp [Value.ownBlock] at hj), HT1, HB1⟩
  case round =>
    obtain ⟨k, v, hk, hv6, rfl, hO, hV, hP, hB⟩ := hrel
    subst hv6
    have c0 : wr.cell? ⟨w'.heap.size, 0, none⟩ = some (.func (.method "ReadAt") #[.iface t (.pointer (some ⟨fb, 0, none⟩))] #[]) := by rw [cell_of_row wr w'.heap.size 0 _ _ _ hP.out]; rfl
    have c1 : wr.cell? ⟨w'.heap.size, 1, none⟩ = some (.int .i64 64) := by rw [cell_of_row wr w'.heap.size 1 _ _ _ hP.out]; rfl
    by_cases h1 : k * 64 < sz
    · have t1 : (k : Int) * 64 < (sz : Int) := by omega
      have G1 := aside (read_any t fb m b sz 64 lv L k wr (fun W hW => HY.out.read W (hB.out.trans (hW.mono hB.out.size))) (HF.out.below hB.out) (HR.out.below hB.out) (by decide) (by decide) (by omega))
      clear F1 F2 HT HT1 HB1 hm1
      go_wp2_with fail
      refine G1.out.mono ?_
      rintro e w1 ⟨a, c, rfl, hT, hb1⟩
      have HG := aside (tabk_succ L sz k)
      have hgl := getL_le L sz (k * 64) 64
      generalize getL L sz ((k * 64 : Nat) : Int) ((64 : Nat) : Int) = g at *
      have F3 := aside (sum_any a g c w1 hT.bs (by omega))
      have F4 := aside (entry_any (fnv0 g) w1)
      have HB1 := aside hb1
      clear hT hb1 G1 c0 c1
      go_wp2_with fail
      refine F3.out.mono ?_
      rintro e w2 ⟨rfl, rfl⟩
      go_wp2_with fail
      refine F4.out.mono ?_
      rintro e w3 ⟨rfl, hrow3, hb3⟩
      have HB3 := aside (below_tr HB1.out hb3)
      have hs1 := HB1.out.size
      have HO3 := aside (row_below hO.out HB3.out)
      have HS := aside (cells_lit hrow3)
      have h63 : 8 * k + 8 ≤ maxLen := by unfold maxLen; omega
      have hby : (8 * k + 8) * 1 ≤ 140737488355328 := by omega
      have H63 := aside h63
      have HLL := aside (show (bcells (le8 (fnv0 g))).length = 8 * 1 by rw [bcells_length, le8_length])
      clear hrow3 hb3 h63 F3 F4
      go_wp2_with (at_builtin; refine wpList_append_where _ rfl _ _ 22 rfl 5 (.int .u8 0) 1 1 Try.underlying22 info5 rfl (by decide) u6 (8 * k) (bcells (tabk L sz k)) rfl HO3.out _ 8 _ (bcells (le8 (fnv0 g))) rfl HLL.out HS.out (bcells_one _) H63.out hby (by decide) ?_; intro v' w4 ho hg hwh)
      have HB4 : Below w'.heap.size w' w4 := (hB.out.trans (HB3.out.mono hB.out.size)).grown hg (Nat.le_trans hB.out.size HB3.out.size) (fun j hj => Nat.le_of_lt (hV.out j hj))
      have hrowb : bcells (tabk L sz k) ++ bcells (le8 (fnv0 g)) = bcells (tabk L sz (k + 1)) := by rw [HG.out]; simp [bcells]
      rw [hrowb] at ho
      go_roundw
      case rel =>
        refine ⟨k + 1, v', by omega, rfl, by go_num, aside ho, aside (fun j hj => ?_), aside ?_, aside HB4⟩
        · rcases hwh with ⟨e1, -⟩ | ⟨e1, -⟩
          · rw [e1] at hj; exact hV.out j hj
          · rw [e1] at hj
            have := HB3.out.size
            have := (Array.getElem?_eq_some_iff.1 hP.out).1
            simp only [Option.some.injEq] at hj
            omega
        · have h5 := (HB3.out.block _ (Array.getElem?_eq_some_iff.1 hP.out).1).trans hP.out
          exact ((Upd.of_grown (F := fun j => u6.ownBlock = some j) hg (fun j hj => hj)).block _ (Array.getElem?_eq_some_iff.1 h5).1 (fun e => by have := hV.out _ e; omega)).trans h5
      case measure => simp [intOf]; omega
    · have t1 : ¬ ((k : Int) * 64 < (sz : Int)) := by omega
      obtain rfl : k = (sz + 63) / 64 := by omega
      go_wp2_with fail
      go_ret2
      refine ⟨_, rfl, ?_, hB.out⟩
      have := hO.out
      unfold tab
      rw [tabk_length]
      exact this
end Go.Proofs.Ytoagjgcpgpjjeaa
