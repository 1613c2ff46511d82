/- What NodeKnown asks besides: links that may not be, mounts, and what lies under them. -/
import Derived.Test.YtamngnndodjcoabGreatWak
namespace Go.Proofs.YtamngnndodjcoabGreat
open Go.RowKit

/-- A method that comes up through an embedded pointer: what lies in that field is the receiver. -/
theorem method_in {P : Program} {w : World} {n : Nat} {t : TypeId} {a : Addr} {name : String} {st : TypeId} {ix : Nat} {ft : TypeId} {off : Nat} {f : FuncId} {el : TypeId} {v' : Value}
    (h1 : ((P.info? t).bind fun i => (i.methods.find? (·.name == name)).map fun m => (m.path.toList.map fun s => (s.struct, s.index, s.deref), m.func)) = some ([(st, ix, true)], some (f, true)))
    (h2 : (match P.underlying st with | some (.struct fs) => fs[ix]?.map fun f => (f.type, f.offset) | _ => none) = some (ft, off))
    (h3 : (sizeOf ft).run P w = .ok 1 w) (h4 : (isAgg ft).run P w = .ok false w) (h5 : P.underlying ft = some (.pointer el)) (hc : w.cell? (a.add off) = some v') :
    (method (n + 1) t (.pointer (some a)) name).run P w = .ok (f, v') w := by
  obtain ⟨i, hi, h1⟩ := Option.bind_eq_some_iff.1 h1
  obtain ⟨m, hm, h1⟩ := Option.map_eq_some_iff.1 h1
  injection h1 with hp hf
  obtain ⟨s, hs, hp2⟩ : ∃ s, m.path.toList = [s] ∧ (s.struct, s.index, s.deref) = (st, ix, true) := by
    cases e : m.path.toList with
    | nil => rw [e] at hp; cases hp
    | cons s r =>
      rw [e] at hp
      cases r with
      | nil => simp only [List.map_cons, List.map_nil, List.cons.injEq, and_true] at hp; exact ⟨s, rfl, hp⟩
      | cons u v => simp at hp
  simp only [Prod.mk.injEq] at hp2
  obtain ⟨e1, e2, e3⟩ := hp2
  cases hu : P.underlying st with
  | none => rw [hu] at h2; cases h2
  | some d =>
    rw [hu] at h2
    cases d <;> first | (cases h2; done) | skip
    rename_i fs
    obtain ⟨f, hx, h2⟩ := Option.map_eq_some_iff.1 h2
    injection h2 with e4 e5
    subst e4 e5
    rw [method]
    simp only [Sem.run_bind, typeInfo, run_program, Result.andThen_ok, hi, Sem.run_pure, hm, hs, hf, follow, run_underlying (e1 ▸ hu), run_underlying h5, e2, hx, e3, Place.get, asAddr, fieldPlace, h3, receiverAt, loadVar, h4, run_load, hc, ↓reduceIte, Bool.false_eq_true, Nat.one_ne_zero]

/-- A mount, and the directory under it. -/
structure Mt (w : World) (nb k db : Nat) : Prop where
  nod : Nd w nb 65 k
  mnt : w.heap[k]? = some (.cells #[Pt db] 69 (0, 0))
theorem Mt.upd {w w' : World} {nb k db : Nat} {F : Nat → Prop} (h : Mt w nb k db) (u : Upd F w w') (h1 : ¬ F nb) (h2 : ¬ F k) : Mt w' nb k db := ⟨h.nod.upd u h1, (u.block _ (Array.getElem?_eq_some_iff.1 h.mnt).1 h2).trans h.mnt⟩
theorem Mt.below {w w' : World} {nb k db : Nat} (h : Mt w nb k db) (u : Below w.heap.size w w') : Mt w' nb k db := ⟨h.nod.below u, (u.block _ (Array.getElem?_eq_some_iff.1 h.mnt).1).trans h.mnt⟩
theorem Mt.cell {w : World} {nb k db : Nat} (h : Mt w nb k db) : w.cell? ⟨k, 0, none⟩ = some (Pt db) := by rw [cell_of_row w k 0 _ _ _ h.mnt]; rfl

theorem meth_mheld (w : World) (k db : Nat) (h : w.cell? ⟨k, 0, none⟩ = some (Pt db)) : (method 347 65 (Pt k) "mantle/node.held").run Tryz.prog w = .ok (96, Pt db) w :=
  method_in (n := 346) (st := 69) (ix := 0) (ft := 66) (off := 0) (f := 96) (el := 75) (a := ⟨k, 0, none⟩) (by kernel_rfl) (by kernel_rfl) (by kernel_rfl) (by kernel_rfl) Tryz.underlying66 h

set_option maxHeartbeats 400000 in
theorem link_none (w : World) : Calls Tryz.prog 5 #[.string ⟨#[]⟩] w fun e w' => e = .returned (.tuple #[.pointer none, .int .i64 190]) ∧ w' = w := by
  go_enter Tryz.func5, Tryz.ntmps5
  go_wp2
  go_ret2
  exact ⟨rfl, rfl⟩
set_option maxHeartbeats 400000 in
theorem link_long (s : ByteArray) (w : World) (h : 4096 < s.size) : Calls Tryz.prog 5 #[.string s] w fun e w' => e = .returned (.tuple #[.pointer none, .int .i64 3]) ∧ w' = w := by
  have h1 : (4096 : Int) < (s.size : Int) := by omega
  have h0 : (s.toList == []) = false := by
    apply beq_eq_false_iff_ne.2
    intro e
    rw [Lib.toList_data] at e
    have : s.data.size = 0 := by rw [← Array.length_toList, e]; rfl
    have h2 : s.size = s.data.size := rfl
    omega
  go_enter Tryz.func5, Tryz.ntmps5
  go_wp2
  go_ret2
  exact ⟨rfl, rfl⟩

set_option maxRecDepth 20000 in
set_option maxHeartbeats 400000 in
theorem mount_nil (w : World) : Calls Tryz.prog 6 #[.pointer none] w fun e w' => e = .returned (.tuple #[.pointer none, .int .i64 1]) ∧ w' = w := by
  go_enter Tryz.func6, Tryz.ntmps6
  go_wp2_with fail
  refine (what_nil w).mono ?_
  rintro e w' ⟨rfl, rfl⟩
  go_wp2
  go_ret2
  exact ⟨rfl, rfl⟩
set_option maxRecDepth 20000 in
set_option maxHeartbeats 400000 in
theorem mount_file (nb k : Nat) (w : World) (h : Nd w nb 70 k) : Calls Tryz.prog 6 #[Pt nb] w fun e w' => e = .returned (.tuple #[.pointer none, .int .i64 193]) ∧ w' = w := by
  have hh := file_holder
  go_enter Tryz.func6, Tryz.ntmps6
  go_wp2_with fail
  refine (what_node nb k _ w h).mono ?_
  rintro e w' ⟨rfl, rfl⟩
  go_wp2
  go_ret2
  exact ⟨rfl, rfl⟩
set_option maxRecDepth 20000 in
set_option maxHeartbeats 800000 in
theorem mount_dir (nb db : Nat) (w : World) (h : Nd w nb 66 db) : Calls Tryz.prog 6 #[Pt nb] w fun e w' => ∃ mn k, e = .returned (.tuple #[Pt mn, .int .i64 0]) ∧ w.heap.size ≤ mn ∧ w.heap.size ≤ k ∧ Mt w' mn k db ∧ Below w.heap.size w w' := by
  have hh := dir_holder
  have hm := meth_held db
  go_enter Tryz.func6, Tryz.ntmps6
  go_wp2_with fail
  refine (what_node nb db _ w h).mono ?_
  rintro e w' ⟨rfl, rfl⟩
  go_wp2_with fail
  refine (held_any db w').mono ?_
  rintro e w' ⟨rfl, rfl⟩
  go_wp2
  go_ret2
  exact ⟨w'.heap.size + 1, w'.heap.size, rfl, by omega, by omega, ⟨by unfold Nd; exact heap_alloc2_new w' _ _, by rw [(below_al (w'.alloc _) _).block _ (by simp)]; exact heap_alloc_new w' _⟩, below_tr (below_al _ _) (below_al _ _)⟩
set_option maxRecDepth 20000 in
set_option maxHeartbeats 800000 in
theorem mount_mount (nb k0 db : Nat) (w : World) (h : Mt w nb k0 db) : Calls Tryz.prog 6 #[Pt nb] w fun e w' => ∃ mn k, e = .returned (.tuple #[Pt mn, .int .i64 0]) ∧ w.heap.size ≤ mn ∧ w.heap.size ≤ k ∧ Mt w' mn k db ∧ Below w.heap.size w w' := by
  have hh := mount_holder
  have hm := meth_mheld w k0 db h.cell
  go_enter Tryz.func6, Tryz.ntmps6
  go_wp2_with fail
  refine (what_node nb k0 _ w h.nod).mono ?_
  rintro e w' ⟨rfl, rfl⟩
  go_wp2_with fail
  refine (held_any db w').mono ?_
  rintro e w' ⟨rfl, rfl⟩
  go_wp2
  go_ret2
  exact ⟨w'.heap.size + 1, w'.heap.size, rfl, by omega, by omega, ⟨by unfold Nd; exact heap_alloc2_new w' _ _, by rw [(below_al (w'.alloc _) _).block _ (by simp)]; exact heap_alloc_new w' _⟩, below_tr (below_al _ _) (below_al _ _)⟩
set_option maxRecDepth 20000 in
set_option maxHeartbeats 800000 in
theorem under_mount (nb k db n2 m2 : Nat) (up : Value) (L : List KV) (w : World) (h : Mt w nb k db) (hD : Dr w n2 db m2 up L) : Calls Tryz.prog 12 #[Pt nb] w fun e w' => e = .returned (.tuple #[Pt n2, .int .i64 0]) ∧ w' = w := by
  have h1 := ta_mm
  have hc := h.cell
  have hc0 := hD.c0
  go_enter Tryz.func12, Tryz.ntmps12
  go_wp2_with fail
  refine (what_node nb k _ w h.nod).mono ?_
  rintro e w' ⟨rfl, rfl⟩
  clear h hD
  go_wp2
  go_ret2
  exact ⟨rfl, rfl⟩
set_option maxRecDepth 20000 in
set_option maxHeartbeats 400000 in
theorem get_other (nb k : Nat) (t : TypeId) (name : ByteArray) (w : World) (h : Nd w nb t k) (ht : t = 70 ∨ t = 86 ∨ t = 65) : Calls Tryz.prog 13 #[Pt nb, .string name] w fun e w' => e = .returned (.tuple #[.pointer none, .int .i64 193]) ∧ w' = w := by
  go_enter Tryz.func13, Tryz.ntmps13
  go_wp2_with fail
  refine (directory_other nb k t w h ht).mono ?_
  rintro e w' ⟨rfl, rfl⟩
  go_wp2
  go_ret2
  exact ⟨rfl, rfl⟩
set_option maxRecDepth 20000 in
set_option maxHeartbeats 400000 in
theorem open_dir (nb db : Nat) (w : World) (h : Nd w nb 66 db) : Calls Tryz.prog 14 #[Pt nb] w fun e w' => e = .returned (.tuple #[.pointer none, .int .i64 193]) ∧ w' = w := by
  have h1 := ta_df
  go_enter Tryz.func14, Tryz.ntmps14
  go_wp2_with fail
  refine (what_node nb db _ w h).mono ?_
  rintro e w' ⟨rfl, rfl⟩
  go_wp2
  go_ret2
  exact ⟨rfl, rfl⟩
set_option maxRecDepth 20000 in
set_option maxHeartbeats 400000 in
theorem leads_dir (nb db : Nat) (w : World) (h : Nd w nb 66 db) : Calls Tryz.prog 15 #[Pt nb] w fun e w' => e = .returned (.tuple #[.string ⟨#[]⟩, .int .i64 193]) ∧ w' = w := by
  have h1 := ta_dl
  go_enter Tryz.func15, Tryz.ntmps15
  go_wp2_with fail
  refine (what_node nb db _ w h).mono ?_
  rintro e w' ⟨rfl, rfl⟩
  go_wp2
  go_ret2
  exact ⟨rfl, rfl⟩
set_option maxRecDepth 20000 in
set_option maxHeartbeats 400000 in
theorem kind_mount (nb k : Nat) (w : World) (h : Nd w nb 65 k) : Calls Tryz.prog 16 #[Pt nb] w fun e w' => e = .returned (.int .i8 3) ∧ w' = w := by
  have h1 := ta_mf
  have h2 := ta_ml
  have h3 := ta_mm
  go_enter Tryz.func16, Tryz.ntmps16
  go_wp2_with fail
  refine (what_node nb k _ w h).mono ?_
  rintro e w' ⟨rfl, rfl⟩
  go_wp2
  go_ret
  exact ⟨rfl, rfl⟩
set_option maxRecDepth 20000 in
set_option maxHeartbeats 400000 in
theorem kind_white (nb k : Nat) (w : World) (h : Nd w nb 86 k) : Calls Tryz.prog 16 #[Pt nb] w fun e w' => e = .returned (.int .i8 4) ∧ w' = w := by
  have h1 := ta_wf
  have h2 := ta_wl
  have h3 := ta_wm
  have h4 := white_holder
  have h5 := ta_ww
  go_enter Tryz.func16, Tryz.ntmps16
  go_wp2_with fail
  refine (what_node nb k _ w h).mono ?_
  rintro e w' ⟨rfl, rfl⟩
  go_wp2
  go_ret
  exact ⟨rfl, rfl⟩
end Go.Proofs.YtamngnndodjcoabGreat
