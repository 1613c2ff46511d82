/- Nodes in memory: directories, files, whites; what they are. -/
import Derived.Test.YtamngnndodjcoaaGreatMp
import Derived.LaidEqlPtr
namespace Go.Proofs.YtamngnndodjcoaaGreat
open Go.RowKit Go.ChangeMaps

abbrev Pt (b : Nat) : Value := .pointer (some ⟨b, 0, none⟩)

theorem eq_node {w : World} {a b : Nat} {ca cb : Array Value} {ta tb : TypeId} (ha : w.heap[a]? = some (.cells ca ta (0, 0))) (hb : w.heap[b]? = some (.cells cb tb (0, 0))) : (binOp .eql 33 (Pt a) (Pt b)).run Tryz.prog w = .ok (.bool (decide (a = b))) w := by
  by_cases h : a = b
  · subst h
    rw [decide_eq_true rfl]
    exact run_eql_ptr_same w ⟨a, 0, none⟩ Tryz.underlying33 (Option.eq_some_of_isSome (o := Tryz.prog.info? 90) (by kernel_rfl))
  · rw [decide_eq_false h]
    obtain ⟨i, hi, hs⟩ := Option.map_eq_some_iff.1 (show (Tryz.prog.info? 90).map (fun i => decide (i.size = 0)) = some false by kernel_rfl)
    exact run_eql_ptr_other w Tryz.underlying33 hi (of_decide_eq_false hs) (fun e => h (congrArg Addr.block e)) ha hb
theorem eq_dir {w : World} {a b : Nat} {ca cb : Array Value} {ta tb : TypeId} (ha : w.heap[a]? = some (.cells ca ta (0, 0))) (hb : w.heap[b]? = some (.cells cb tb (0, 0))) : (binOp .eql 91 (Pt a) (Pt b)).run Tryz.prog w = .ok (.bool (decide (a = b))) w := by
  by_cases h : a = b
  · subst h
    rw [decide_eq_true rfl]
    exact run_eql_ptr_same w ⟨a, 0, none⟩ Tryz.underlying91 (Option.eq_some_of_isSome (o := Tryz.prog.info? 94) (by kernel_rfl))
  · rw [decide_eq_false h]
    obtain ⟨i, hi, hs⟩ := Option.map_eq_some_iff.1 (show (Tryz.prog.info? 94).map (fun i => decide (i.size = 0)) = some false by kernel_rfl)
    exact run_eql_ptr_other w Tryz.underlying91 hi (of_decide_eq_false hs) (fun e => h (congrArg Addr.block e)) ha hb
theorem eq_handle {w : World} {a b : Nat} {ca cb : Array Value} {ta tb : TypeId} (ha : w.heap[a]? = some (.cells ca ta (0, 0))) (hb : w.heap[b]? = some (.cells cb tb (0, 0))) : (binOp .eql 54 (Pt a) (Pt b)).run Tryz.prog w = .ok (.bool (decide (a = b))) w := by
  by_cases h : a = b
  · subst h
    rw [decide_eq_true rfl]
    exact run_eql_ptr_same w ⟨a, 0, none⟩ Tryz.underlying54 (Option.eq_some_of_isSome (o := Tryz.prog.info? 177) (by kernel_rfl))
  · rw [decide_eq_false h]
    obtain ⟨i, hi, hs⟩ := Option.map_eq_some_iff.1 (show (Tryz.prog.info? 177).map (fun i => decide (i.size = 0)) = some false by kernel_rfl)
    exact run_eql_ptr_other w Tryz.underlying54 hi (of_decide_eq_false hs) (fun e => h (congrArg Addr.block e)) ha hb

/-- A node whose kind is a pointer of type t to the block k. -/
def Nd (w : World) (nb : Nat) (t : TypeId) (k : Nat) : Prop := w.heap[nb]? = some (.cells #[.iface t (Pt k)] 90 (0, 0))
theorem Nd.lt {w : World} {nb k : Nat} {t : TypeId} (h : Nd w nb t k) : nb < w.heap.size := (Array.getElem?_eq_some_iff.1 h).1
theorem Nd.cell {w : World} {nb k : Nat} {t : TypeId} (h : Nd w nb t k) : w.cell? ⟨nb, 0, none⟩ = some (.iface t (Pt k)) := by rw [cell_of_row w nb 0 _ _ _ h]; rfl
theorem Nd.upd {w w' : World} {nb k : Nat} {t : TypeId} {F : Nat → Prop} (h : Nd w nb t k) (u : Upd F w w') (hF : ¬ F nb) : Nd w' nb t k := (u.block _ h.lt hF).trans h
theorem Nd.below {w w' : World} {nb k : Nat} {t : TypeId} (h : Nd w nb t k) (u : Below w.heap.size w w') : Nd w' nb t k := (u.block _ h.lt).trans h

set_option maxHeartbeats 400000 in
theorem what_nil (w : World) : Calls Tryz.prog 45 #[.pointer none] w fun e w' => e = .returned .nilIface ∧ w' = w := by
  go_enter Tryz.func45, Tryz.ntmps45
  go_wp2
  go_ret
  exact ⟨rfl, rfl⟩
set_option maxHeartbeats 400000 in
theorem what_node (nb k : Nat) (t : TypeId) (w : World) (h : Nd w nb t k) : Calls Tryz.prog 45 #[Pt nb] w fun e w' => e = .returned (.iface t (Pt k)) ∧ w' = w := by
  have hc := h.cell
  clear h
  go_enter Tryz.func45, Tryz.ntmps45
  go_wp2
  go_ret
  exact ⟨rfl, rfl⟩

set_option maxHeartbeats 400000 in
theorem held_any (db : Nat) (w : World) : Calls Tryz.prog 167 #[Pt db] w fun e w' => e = .returned (Pt db) ∧ w' = w := by
  go_enter Tryz.func167, Tryz.ntmps167
  go_wp2
  go_ret
  exact ⟨rfl, rfl⟩

theorem dir_holder (v : Value) (w : World) : (Instr.typeAssert (.iface 91 v) 88 108 true).run Tryz.prog w = .ok (.tuple #[.iface 91 v, .bool true]) w := run_typeAssert_hasB Tryz.underlying108 (by kernel_rfl) v 88 w
theorem file_holder (v : Value) (w : World) : (Instr.typeAssert (.iface 101 v) 88 108 true).run Tryz.prog w = .ok (.tuple #[.nilIface, .bool false]) w := run_typeAssert_lacksB Tryz.underlying108 (by kernel_rfl) (by kernel_rfl) v 88 w
theorem white_holder (v : Value) (w : World) : (Instr.typeAssert (.iface 98 v) 88 108 true).run Tryz.prog w = .ok (.tuple #[.nilIface, .bool false]) w := run_typeAssert_lacksB Tryz.underlying108 (by kernel_rfl) (by kernel_rfl) v 88 w

theorem ta_df (v : Value) (w : World) : (Instr.typeAssert (.iface 91 v) 88 101 true).run Tryz.prog w = .ok (.tuple #[.pointer none, .bool false]) w := by kernel_rfl
theorem ta_dl (v : Value) (w : World) : (Instr.typeAssert (.iface 91 v) 88 105 true).run Tryz.prog w = .ok (.tuple #[.pointer none, .bool false]) w := by kernel_rfl
theorem ta_dm (v : Value) (w : World) : (Instr.typeAssert (.iface 91 v) 88 106 true).run Tryz.prog w = .ok (.tuple #[.pointer none, .bool false]) w := by kernel_rfl
theorem ta_dw (v : Value) (w : World) : (Instr.typeAssert (.iface 91 v) 88 98 true).run Tryz.prog w = .ok (.tuple #[.pointer none, .bool false]) w := by kernel_rfl
theorem ta_ff (v : Value) (w : World) : (Instr.typeAssert (.iface 101 v) 88 101 true).run Tryz.prog w = .ok (.tuple #[v, .bool true]) w := by kernel_rfl
theorem ta_fl (v : Value) (w : World) : (Instr.typeAssert (.iface 101 v) 88 105 true).run Tryz.prog w = .ok (.tuple #[.pointer none, .bool false]) w := by kernel_rfl
theorem ta_fm (v : Value) (w : World) : (Instr.typeAssert (.iface 101 v) 88 106 true).run Tryz.prog w = .ok (.tuple #[.pointer none, .bool false]) w := by kernel_rfl
theorem ta_fw (v : Value) (w : World) : (Instr.typeAssert (.iface 101 v) 88 98 true).run Tryz.prog w = .ok (.tuple #[.pointer none, .bool false]) w := by kernel_rfl
theorem ta_wf (v : Value) (w : World) : (Instr.typeAssert (.iface 98 v) 88 101 true).run Tryz.prog w = .ok (.tuple #[.pointer none, .bool false]) w := by kernel_rfl
theorem ta_wl (v : Value) (w : World) : (Instr.typeAssert (.iface 98 v) 88 105 true).run Tryz.prog w = .ok (.tuple #[.pointer none, .bool false]) w := by kernel_rfl
theorem ta_wm (v : Value) (w : World) : (Instr.typeAssert (.iface 98 v) 88 106 true).run Tryz.prog w = .ok (.tuple #[.pointer none, .bool false]) w := by kernel_rfl
theorem ta_ww (v : Value) (w : World) : (Instr.typeAssert (.iface 98 v) 88 98 true).run Tryz.prog w = .ok (.tuple #[v, .bool true]) w := by kernel_rfl
theorem ta_lf (v : Value) (w : World) : (Instr.typeAssert (.iface 105 v) 88 101 true).run Tryz.prog w = .ok (.tuple #[.pointer none, .bool false]) w := by kernel_rfl
theorem ta_ll (v : Value) (w : World) : (Instr.typeAssert (.iface 105 v) 88 105 true).run Tryz.prog w = .ok (.tuple #[v, .bool true]) w := by kernel_rfl
theorem ta_lm (v : Value) (w : World) : (Instr.typeAssert (.iface 105 v) 88 106 true).run Tryz.prog w = .ok (.tuple #[.pointer none, .bool false]) w := by kernel_rfl
theorem ta_lw (v : Value) (w : World) : (Instr.typeAssert (.iface 105 v) 88 98 true).run Tryz.prog w = .ok (.tuple #[.pointer none, .bool false]) w := by kernel_rfl
theorem ta_mf (v : Value) (w : World) : (Instr.typeAssert (.iface 106 v) 88 101 true).run Tryz.prog w = .ok (.tuple #[.pointer none, .bool false]) w := by kernel_rfl
theorem ta_ml (v : Value) (w : World) : (Instr.typeAssert (.iface 106 v) 88 105 true).run Tryz.prog w = .ok (.tuple #[.pointer none, .bool false]) w := by kernel_rfl
theorem ta_mm (v : Value) (w : World) : (Instr.typeAssert (.iface 106 v) 88 106 true).run Tryz.prog w = .ok (.tuple #[v, .bool true]) w := by kernel_rfl
theorem ta_mw (v : Value) (w : World) : (Instr.typeAssert (.iface 106 v) 88 98 true).run Tryz.prog w = .ok (.tuple #[.pointer none, .bool false]) w := by kernel_rfl
theorem mount_holder (v : Value) (w : World) : (Instr.typeAssert (.iface 106 v) 88 108 true).run Tryz.prog w = .ok (.tuple #[.iface 106 v, .bool true]) w := run_typeAssert_hasB Tryz.underlying108 (by kernel_rfl) v 88 w
theorem ta_nf (w : World) : (Instr.typeAssert .nilIface 88 101 true).run Tryz.prog w = .ok (.tuple #[.pointer none, .bool false]) w := by kernel_rfl
theorem ta_nl (w : World) : (Instr.typeAssert .nilIface 88 105 true).run Tryz.prog w = .ok (.tuple #[.pointer none, .bool false]) w := by kernel_rfl
theorem ta_nm (w : World) : (Instr.typeAssert .nilIface 88 106 true).run Tryz.prog w = .ok (.tuple #[.pointer none, .bool false]) w := by kernel_rfl
theorem ta_nw (w : World) : (Instr.typeAssert .nilIface 88 98 true).run Tryz.prog w = .ok (.tuple #[.pointer none, .bool false]) w := by kernel_rfl
theorem ta_nh (w : World) : (Instr.typeAssert .nilIface 88 108 true).run Tryz.prog w = .ok (.tuple #[.nilIface, .bool false]) w := by kernel_rfl
theorem meth_held (db : Nat) (w : World) : (method 391 91 (Pt db) "mantle/node.held").run Tryz.prog w = .ok (167, Pt db) w := by kernel_rfl

set_option maxRecDepth 20000 in
set_option maxHeartbeats 400000 in
theorem directory_nil (w : World) : Calls Tryz.prog 46 #[.pointer none] w fun e w' => e = .returned (.tuple #[.pointer none, .int .i64 1]) ∧ w' = w := by
  go_enter Tryz.func46, Tryz.ntmps46
  go_wp2_with fail
  refine (what_nil w).mono ?_
  rintro e w' ⟨rfl, rfl⟩
  go_wp2
  go_ret2
  exact ⟨rfl, rfl⟩

set_option maxRecDepth 20000 in
set_option maxHeartbeats 400000 in
theorem directory_dir (nb db : Nat) (w : World) (h : Nd w nb 91 db) : Calls Tryz.prog 46 #[Pt nb] w fun e w' => e = .returned (.tuple #[Pt db, .int .i64 0]) ∧ w' = w := by
  have hh := dir_holder
  have h1 := ta_dm
  have hm := meth_held db
  go_enter Tryz.func46, Tryz.ntmps46
  go_wp2_with fail
  refine (what_node nb db _ w h).mono ?_
  rintro e w' ⟨rfl, rfl⟩
  go_wp2_with fail
  refine (held_any db w').mono ?_
  rintro e w' ⟨rfl, rfl⟩
  go_wp2
  go_ret2
  exact ⟨rfl, rfl⟩

set_option maxRecDepth 20000 in
set_option maxHeartbeats 400000 in
theorem directory_other (nb k : Nat) (t : TypeId) (w : World) (h : Nd w nb t k) (ht : t = 101 ∨ t = 98 ∨ t = 106) : Calls Tryz.prog 46 #[Pt nb] w fun e w' => e = .returned (.tuple #[.pointer none, .int .i64 193]) ∧ w' = w := by
  rcases ht with rfl | rfl | rfl
  · have hh := file_holder
    have h1 := ta_fm
    go_enter Tryz.func46, Tryz.ntmps46
    go_wp2_with fail
    refine (what_node nb k _ w h).mono ?_
    rintro e w' ⟨rfl, rfl⟩
    go_wp2
    go_ret2
    exact ⟨rfl, rfl⟩
  · have hh := white_holder
    have h1 := ta_wm
    go_enter Tryz.func46, Tryz.ntmps46
    go_wp2_with fail
    refine (what_node nb k _ w h).mono ?_
    rintro e w' ⟨rfl, rfl⟩
    go_wp2
    go_ret2
    exact ⟨rfl, rfl⟩
  · have h1 := ta_mm
    go_enter Tryz.func46, Tryz.ntmps46
    go_wp2_with fail
    refine (what_node nb k _ w h).mono ?_
    rintro e w' ⟨rfl, rfl⟩
    go_wp2
    go_ret2
    exact ⟨rfl, rfl⟩

set_option maxRecDepth 20000 in
set_option maxHeartbeats 400000 in
theorem kind_nil (w : World) : Calls Tryz.prog 19 #[.pointer none] w fun e w' => e = .returned (.int .i8 (-1)) ∧ w' = w := by
  have h1 := ta_nf
  have h2 := ta_nl
  have h3 := ta_nm
  have h4 := ta_nh
  have h5 := ta_nw
  go_enter Tryz.func19, Tryz.ntmps19
  go_wp2_with fail
  refine (what_nil w).mono ?_
  rintro e w' ⟨rfl, rfl⟩
  go_wp2
  go_ret
  exact ⟨rfl, rfl⟩
set_option maxRecDepth 20000 in
set_option maxHeartbeats 400000 in
theorem kind_dir (nb db : Nat) (w : World) (h : Nd w nb 91 db) : Calls Tryz.prog 19 #[Pt nb] w fun e w' => e = .returned (.int .i8 1) ∧ w' = w := by
  have hh := dir_holder
  have h1 := ta_df
  have h2 := ta_dl
  have h3 := ta_dm
  go_enter Tryz.func19, Tryz.ntmps19
  go_wp2_with fail
  refine (what_node nb db _ w h).mono ?_
  rintro e w' ⟨rfl, rfl⟩
  go_wp2
  go_ret
  exact ⟨rfl, rfl⟩
set_option maxRecDepth 20000 in
set_option maxHeartbeats 400000 in
theorem kind_file (nb db : Nat) (w : World) (h : Nd w nb 101 db) : Calls Tryz.prog 19 #[Pt nb] w fun e w' => e = .returned (.int .i8 0) ∧ w' = w := by
  have h1 := ta_ff
  go_enter Tryz.func19, Tryz.ntmps19
  go_wp2_with fail
  refine (what_node nb db _ w h).mono ?_
  rintro e w' ⟨rfl, rfl⟩
  go_wp2
  go_ret
  exact ⟨rfl, rfl⟩

/-- A file: its node, its one cell. -/
structure Fl (w : World) (nb fb h : Nat) : Prop where
  nod : Nd w nb 101 fb
  fil : w.heap[fb]? = some (.cells #[Pt h] 103 (0, 0))
theorem Fl.upd {w w' : World} {nb fb h : Nat} {F : Nat → Prop} (k : Fl w nb fb h) (u : Upd F w w') (h1 : ¬ F nb) (h2 : ¬ F fb) : Fl w' nb fb h := ⟨k.nod.upd u h1, (u.block _ (Array.getElem?_eq_some_iff.1 k.fil).1 h2).trans k.fil⟩
theorem Fl.below {w w' : World} {nb fb h : Nat} (k : Fl w nb fb h) (u : Below w.heap.size w w') : Fl w' nb fb h := ⟨k.nod.below u, (u.block _ (Array.getElem?_eq_some_iff.1 k.fil).1).trans k.fil⟩
theorem Fl.cell {w : World} {nb fb h : Nat} (k : Fl w nb fb h) : w.cell? ⟨fb, 0, none⟩ = some (Pt h) := by rw [cell_of_row w fb 0 _ _ _ k.fil]; rfl

set_option maxRecDepth 20000 in
set_option maxHeartbeats 400000 in
theorem open_nil (w : World) : Calls Tryz.prog 32 #[.pointer none] w fun e w' => e = .returned (.tuple #[.pointer none, .int .i64 1]) ∧ w' = w := by
  go_enter Tryz.func32, Tryz.ntmps32
  go_wp2_with fail
  refine (what_nil w).mono ?_
  rintro e w' ⟨rfl, rfl⟩
  go_wp2
  go_ret2
  exact ⟨rfl, rfl⟩
set_option maxRecDepth 20000 in
set_option maxHeartbeats 400000 in
theorem open_file (nb fb h : Nat) (w : World) (k : Fl w nb fb h) : Calls Tryz.prog 32 #[Pt nb] w fun e w' => e = .returned (.tuple #[Pt h, .int .i64 0]) ∧ w' = w := by
  have hc := k.cell
  have h1 := ta_ff
  go_enter Tryz.func32, Tryz.ntmps32
  go_wp2_with fail
  refine (what_node nb fb _ w k.nod).mono ?_
  rintro e w' ⟨rfl, rfl⟩
  go_wp2
  go_ret2
  exact ⟨rfl, rfl⟩

set_option maxRecDepth 20000 in
set_option maxHeartbeats 400000 in
theorem file_new (h : Nat) (w : World) : Calls Tryz.prog 16 #[Pt h] w fun e w' => ∃ nb fb, e = .returned (Pt nb) ∧ w.heap.size ≤ nb ∧ w.heap.size ≤ fb ∧ Fl w' nb fb h ∧ Below w.heap.size w w' := by
  go_enter Tryz.func16, Tryz.ntmps16
  go_wp2
  go_ret
  refine ⟨w.heap.size + 1, w.heap.size, by simp, by omega, Nat.le_refl _, ⟨?_, ?_⟩, below_tr (below_al w _) (below_al _ _)⟩
  · unfold Nd; exact heap_alloc2_new w _ _
  · rw [(below_al (w.alloc _) _).block _ (by simp)]; exact heap_alloc_new w _
set_option maxRecDepth 20000 in
set_option maxHeartbeats 400000 in
theorem file_nil (w : World) : Calls Tryz.prog 16 #[.pointer none] w fun e w' => e = .returned (.pointer none) ∧ w' = w := by
  go_enter Tryz.func16, Tryz.ntmps16
  go_wp2
  go_ret
  exact ⟨rfl, rfl⟩
set_option maxRecDepth 20000 in
set_option maxHeartbeats 400000 in
theorem white_new (w : World) : Calls Tryz.prog 14 #[] w fun e w' => ∃ nb k, e = .returned (Pt nb) ∧ w.heap.size ≤ nb ∧ Nd w' nb 98 k ∧ Below w.heap.size w w' := by
  go_enter Tryz.func14, Tryz.ntmps14
  go_wp2
  go_ret
  refine ⟨w.heap.size + 1, w.heap.size, by simp, by omega, ?_, below_tr (below_al w _) (below_al _ _)⟩
  unfold Nd; exact heap_alloc2_new w _ _

/-- A directory: its node, its own cells (where it stands), its map. -/
structure Dr (w : World) (nb db mb : Nat) (up : Value) (L : List KV) : Prop where
  nod : Nd w nb 91 db
  dir : w.heap[db]? = some (.cells #[Pt nb, up, .map (some mb)] 94 (0, 0))
  map : ∃ es clock, w.heap[mb]? = some (.map es clock) ∧ Ents es clock L
theorem Dr.ld {w : World} {nb db mb : Nat} {up : Value} {L : List KV} (h : Dr w nb db mb up L) : db < w.heap.size := (Array.getElem?_eq_some_iff.1 h.dir).1
theorem Dr.lm {w : World} {nb db mb : Nat} {up : Value} {L : List KV} (h : Dr w nb db mb up L) : mb < w.heap.size := by obtain ⟨es, c, h1, -⟩ := h.map; exact (Array.getElem?_eq_some_iff.1 h1).1
theorem Dr.upd {w w' : World} {nb db mb : Nat} {up : Value} {L : List KV} {F : Nat → Prop} (h : Dr w nb db mb up L) (u : Upd F w w') (h1 : ¬ F nb) (h2 : ¬ F db) (h3 : ¬ F mb) : Dr w' nb db mb up L := by
  obtain ⟨es, c, m1, m2⟩ := h.map
  exact ⟨h.nod.upd u h1, (u.block _ h.ld h2).trans h.dir, es, c, (u.block _ h.lm h3).trans m1, m2⟩
theorem Dr.below {w w' : World} {nb db mb : Nat} {up : Value} {L : List KV} (h : Dr w nb db mb up L) (u : Below w.heap.size w w') : Dr w' nb db mb up L := h.upd (Upd.of_below (F := fun _ => False) u) id id id
theorem Dr.c0 {w : World} {nb db mb : Nat} {up : Value} {L : List KV} (h : Dr w nb db mb up L) : w.cell? ⟨db, 0, none⟩ = some (Pt nb) := by rw [cell_of_row w db 0 _ _ _ h.dir]; rfl
theorem Dr.c1 {w : World} {nb db mb : Nat} {up : Value} {L : List KV} (h : Dr w nb db mb up L) : w.cell? ⟨db, 1, none⟩ = some up := by rw [cell_of_row w db 1 _ _ _ h.dir]; rfl
theorem Dr.c2 {w : World} {nb db mb : Nat} {up : Value} {L : List KV} (h : Dr w nb db mb up L) : w.cell? ⟨db, 2, none⟩ = some (.map (some mb)) := by rw [cell_of_row w db 2 _ _ _ h.dir]; rfl
theorem Dr.fz {w : World} {nb db mb : Nat} {up : Value} {L : List KV} (h : Dr w nb db mb up L) (j : Nat) : w.frozen? ⟨db, j, none⟩ = false := frozen_of_row w db j _ _ h.dir
theorem Dr.n1 {w : World} {nb db mb : Nat} {up : Value} {L : List KV} (h : Dr w nb db mb up L) : mb ≠ nb := fun e => by
  obtain ⟨es, c, h1, -⟩ := h.map
  have h2 := h.nod
  unfold Nd at h2
  rw [← e, h1] at h2
  simp at h2
theorem Dr.n2 {w : World} {nb db mb : Nat} {up : Value} {L : List KV} (h : Dr w nb db mb up L) : mb ≠ db := fun e => by
  obtain ⟨es, c, h1, -⟩ := h.map
  have h2 := h.dir
  rw [← e, h1] at h2
  simp at h2
theorem Dr.n3 {w : World} {nb db mb : Nat} {up : Value} {L : List KV} (h : Dr w nb db mb up L) : db ≠ nb := fun e => by
  have h1 := h.nod
  have h2 := h.dir
  unfold Nd at h1
  rw [← e, h2] at h1
  simp at h1

set_option maxRecDepth 20000 in
set_option maxHeartbeats 400000 in
theorem dir_new (w : World) : Calls Tryz.prog 12 #[] w fun e w' => ∃ nb db mb, e = .returned (Pt nb) ∧ w.heap.size ≤ nb ∧ w.heap.size ≤ db ∧ w.heap.size ≤ mb ∧ Dr w' nb db mb (.pointer none) [] ∧ Below w.heap.size w w' := by
  have hmk := fun w => run_makeMap (P := Tryz.prog) 92 w
  go_enter Tryz.func12, Tryz.ntmps12
  go_wp2
  go_ret
  refine ⟨w.heap.size, w.heap.size + 1 + 1, w.heap.size + 1, rfl, Nat.le_refl _, by omega, by omega, ⟨?_, ?_, #[], 0, ?_, ents_nil 0⟩, below_tr (below_tr (below_al w _) (below_al _ _)) (below_al _ _)⟩
  · unfold Nd
    rw [(below_al _ _).block _ (by simp; omega), (below_al _ _).block _ (by simp)]
    exact heap_alloc_new w _
  · have := heap_alloc_new ((w.alloc (.cells #[.iface 91 (Pt (w.heap.size + 1 + 1))] 90)).alloc (.map #[] 0)) (.cells #[Pt w.heap.size, .pointer none, .map (some (w.heap.size + 1))] 94)
    simpa using this
  · rw [(below_al _ _).block _ (by simp)]
    have := heap_alloc_new (w.alloc (.cells #[.iface 91 (Pt (w.heap.size + 1 + 1))] 90)) (.map #[] 0)
    simpa using this
end Go.Proofs.YtamngnndodjcoaaGreat
