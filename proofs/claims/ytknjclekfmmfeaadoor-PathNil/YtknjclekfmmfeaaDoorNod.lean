/- Nodes in memory: directories, files, whites; what they are. -/
import Derived.Test.YtknjclekfmmfeaaDoorMp
import Derived.LaidEqlPtr
import Derived.Lib.Strings
namespace Go.Proofs.YtknjclekfmmfeaaDoor
open Go.RowKit Go.ChangeMaps

abbrev Pt (b : Nat) : Value := .pointer (some ⟨b, 0, none⟩)

theorem eq_node {w : World} {a b : Nat} {ca cb : Array Value} {ta tb : TypeId} (ha : w.heap[a]? = some (.cells ca ta (0, 0))) (hb : w.heap[b]? = some (.cells cb tb (0, 0))) : (binOp .eql 28 (Pt a) (Pt b)).run Tryd.prog w = .ok (.bool (decide (a = b))) w := by
  by_cases h : a = b
  · subst h
    rw [decide_eq_true rfl]
    exact run_eql_ptr_same w ⟨a, 0, none⟩ Tryd.underlying28 (Option.eq_some_of_isSome (o := Tryd.prog.info? 54) (by kernel_rfl))
  · rw [decide_eq_false h]
    obtain ⟨i, hi, hs⟩ := Option.map_eq_some_iff.1 (show (Tryd.prog.info? 54).map (fun i => decide (i.size = 0)) = some false by kernel_rfl)
    exact run_eql_ptr_other w Tryd.underlying28 hi (of_decide_eq_false hs) (fun e => h (congrArg Addr.block e)) ha hb
theorem eq_dir {w : World} {a b : Nat} {ca cb : Array Value} {ta tb : TypeId} (ha : w.heap[a]? = some (.cells ca ta (0, 0))) (hb : w.heap[b]? = some (.cells cb tb (0, 0))) : (binOp .eql 55 (Pt a) (Pt b)).run Tryd.prog w = .ok (.bool (decide (a = b))) w := by
  by_cases h : a = b
  · subst h
    rw [decide_eq_true rfl]
    exact run_eql_ptr_same w ⟨a, 0, none⟩ Tryd.underlying55 (Option.eq_some_of_isSome (o := Tryd.prog.info? 58) (by kernel_rfl))
  · rw [decide_eq_false h]
    obtain ⟨i, hi, hs⟩ := Option.map_eq_some_iff.1 (show (Tryd.prog.info? 58).map (fun i => decide (i.size = 0)) = some false by kernel_rfl)
    exact run_eql_ptr_other w Tryd.underlying55 hi (of_decide_eq_false hs) (fun e => h (congrArg Addr.block e)) ha hb
theorem eq_handle {w : World} {a b : Nat} {ca cb : Array Value} {ta tb : TypeId} (ha : w.heap[a]? = some (.cells ca ta (0, 0))) (hb : w.heap[b]? = some (.cells cb tb (0, 0))) : (binOp .eql 141 (Pt a) (Pt b)).run Tryd.prog w = .ok (.bool (decide (a = b))) w := by
  by_cases h : a = b
  · subst h
    rw [decide_eq_true rfl]
    exact run_eql_ptr_same w ⟨a, 0, none⟩ Tryd.underlying141 (Option.eq_some_of_isSome (o := Tryd.prog.info? 160) (by kernel_rfl))
  · rw [decide_eq_false h]
    obtain ⟨i, hi, hs⟩ := Option.map_eq_some_iff.1 (show (Tryd.prog.info? 160).map (fun i => decide (i.size = 0)) = some false by kernel_rfl)
    exact run_eql_ptr_other w Tryd.underlying141 hi (of_decide_eq_false hs) (fun e => h (congrArg Addr.block e)) ha hb

/-- A node whose kind is a pointer of type t to the block k. -/
def Nd (w : World) (nb : Nat) (t : TypeId) (k : Nat) : Prop := w.heap[nb]? = some (.cells #[.iface t (Pt k)] 54 (0, 0))
theorem Nd.lt {w : World} {nb k : Nat} {t : TypeId} (h : Nd w nb t k) : nb < w.heap.size := (Array.getElem?_eq_some_iff.1 h).1
theorem Nd.cell {w : World} {nb k : Nat} {t : TypeId} (h : Nd w nb t k) : w.cell? ⟨nb, 0, none⟩ = some (.iface t (Pt k)) := by rw [cell_of_row w nb 0 _ _ _ h]; rfl
theorem Nd.upd {w w' : World} {nb k : Nat} {t : TypeId} {F : Nat → Prop} (h : Nd w nb t k) (u : Upd F w w') (hF : ¬ F nb) : Nd w' nb t k := (u.block _ h.lt hF).trans h
theorem Nd.below {w w' : World} {nb k : Nat} {t : TypeId} (h : Nd w nb t k) (u : Below w.heap.size w w') : Nd w' nb t k := (u.block _ h.lt).trans h

set_option maxHeartbeats 400000 in
theorem what_nil (w : World) : Calls Tryd.prog 28 #[.pointer none] w fun e w' => e = .returned .nilIface ∧ w' = w := by
  go_enter Tryd.func28, Tryd.ntmps28
  go_wp2
  go_ret
  exact ⟨rfl, rfl⟩
set_option maxHeartbeats 400000 in
theorem what_node (nb k : Nat) (t : TypeId) (w : World) (h : Nd w nb t k) : Calls Tryd.prog 28 #[Pt nb] w fun e w' => e = .returned (.iface t (Pt k)) ∧ w' = w := by
  have hc := h.cell
  clear h
  go_enter Tryd.func28, Tryd.ntmps28
  go_wp2
  go_ret
  exact ⟨rfl, rfl⟩

set_option maxHeartbeats 400000 in
theorem held_any (db : Nat) (w : World) : Calls Tryd.prog 93 #[Pt db] w fun e w' => e = .returned (Pt db) ∧ w' = w := by
  go_enter Tryd.func93, Tryd.ntmps93
  go_wp2
  go_ret
  exact ⟨rfl, rfl⟩

theorem dir_holder (v : Value) (w : World) : (Instr.typeAssert (.iface 55 v) 52 91 true).run Tryd.prog w = .ok (.tuple #[.iface 55 v, .bool true]) w := run_typeAssert_hasB Tryd.underlying91 (by kernel_rfl) v 52 w
theorem file_holder (v : Value) (w : World) : (Instr.typeAssert (.iface 88 v) 52 91 true).run Tryd.prog w = .ok (.tuple #[.nilIface, .bool false]) w := run_typeAssert_lacksB Tryd.underlying91 (by kernel_rfl) (by kernel_rfl) v 52 w
theorem link_holder (v : Value) (w : World) : (Instr.typeAssert (.iface 59 v) 52 91 true).run Tryd.prog w = .ok (.tuple #[.nilIface, .bool false]) w := run_typeAssert_lacksB Tryd.underlying91 (by kernel_rfl) (by kernel_rfl) v 52 w
theorem white_holder (v : Value) (w : World) : (Instr.typeAssert (.iface 92 v) 52 91 true).run Tryd.prog w = .ok (.tuple #[.nilIface, .bool false]) w := run_typeAssert_lacksB Tryd.underlying91 (by kernel_rfl) (by kernel_rfl) v 52 w

theorem ta_df (v : Value) (w : World) : (Instr.typeAssert (.iface 55 v) 52 88 true).run Tryd.prog w = .ok (.tuple #[.pointer none, .bool false]) w := by kernel_rfl
theorem ta_dl (v : Value) (w : World) : (Instr.typeAssert (.iface 55 v) 52 59 true).run Tryd.prog w = .ok (.tuple #[.pointer none, .bool false]) w := by kernel_rfl
theorem ta_dm (v : Value) (w : World) : (Instr.typeAssert (.iface 55 v) 52 89 true).run Tryd.prog w = .ok (.tuple #[.pointer none, .bool false]) w := by kernel_rfl
theorem ta_dw (v : Value) (w : World) : (Instr.typeAssert (.iface 55 v) 52 92 true).run Tryd.prog w = .ok (.tuple #[.pointer none, .bool false]) w := by kernel_rfl
theorem ta_ff (v : Value) (w : World) : (Instr.typeAssert (.iface 88 v) 52 88 true).run Tryd.prog w = .ok (.tuple #[v, .bool true]) w := by kernel_rfl
theorem ta_fl (v : Value) (w : World) : (Instr.typeAssert (.iface 88 v) 52 59 true).run Tryd.prog w = .ok (.tuple #[.pointer none, .bool false]) w := by kernel_rfl
theorem ta_fm (v : Value) (w : World) : (Instr.typeAssert (.iface 88 v) 52 89 true).run Tryd.prog w = .ok (.tuple #[.pointer none, .bool false]) w := by kernel_rfl
theorem ta_fw (v : Value) (w : World) : (Instr.typeAssert (.iface 88 v) 52 92 true).run Tryd.prog w = .ok (.tuple #[.pointer none, .bool false]) w := by kernel_rfl
theorem ta_wf (v : Value) (w : World) : (Instr.typeAssert (.iface 92 v) 52 88 true).run Tryd.prog w = .ok (.tuple #[.pointer none, .bool false]) w := by kernel_rfl
theorem ta_wl (v : Value) (w : World) : (Instr.typeAssert (.iface 92 v) 52 59 true).run Tryd.prog w = .ok (.tuple #[.pointer none, .bool false]) w := by kernel_rfl
theorem ta_wm (v : Value) (w : World) : (Instr.typeAssert (.iface 92 v) 52 89 true).run Tryd.prog w = .ok (.tuple #[.pointer none, .bool false]) w := by kernel_rfl
theorem ta_ww (v : Value) (w : World) : (Instr.typeAssert (.iface 92 v) 52 92 true).run Tryd.prog w = .ok (.tuple #[v, .bool true]) w := by kernel_rfl
theorem ta_lf (v : Value) (w : World) : (Instr.typeAssert (.iface 59 v) 52 88 true).run Tryd.prog w = .ok (.tuple #[.pointer none, .bool false]) w := by kernel_rfl
theorem ta_ll (v : Value) (w : World) : (Instr.typeAssert (.iface 59 v) 52 59 true).run Tryd.prog w = .ok (.tuple #[v, .bool true]) w := by kernel_rfl
theorem ta_lm (v : Value) (w : World) : (Instr.typeAssert (.iface 59 v) 52 89 true).run Tryd.prog w = .ok (.tuple #[.pointer none, .bool false]) w := by kernel_rfl
theorem ta_lw (v : Value) (w : World) : (Instr.typeAssert (.iface 59 v) 52 92 true).run Tryd.prog w = .ok (.tuple #[.pointer none, .bool false]) w := by kernel_rfl
theorem ta_mf (v : Value) (w : World) : (Instr.typeAssert (.iface 89 v) 52 88 true).run Tryd.prog w = .ok (.tuple #[.pointer none, .bool false]) w := by kernel_rfl
theorem ta_ml (v : Value) (w : World) : (Instr.typeAssert (.iface 89 v) 52 59 true).run Tryd.prog w = .ok (.tuple #[.pointer none, .bool false]) w := by kernel_rfl
theorem ta_mm (v : Value) (w : World) : (Instr.typeAssert (.iface 89 v) 52 89 true).run Tryd.prog w = .ok (.tuple #[v, .bool true]) w := by kernel_rfl
theorem ta_mw (v : Value) (w : World) : (Instr.typeAssert (.iface 89 v) 52 92 true).run Tryd.prog w = .ok (.tuple #[.pointer none, .bool false]) w := by kernel_rfl
theorem mount_holder (v : Value) (w : World) : (Instr.typeAssert (.iface 89 v) 52 91 true).run Tryd.prog w = .ok (.tuple #[.iface 89 v, .bool true]) w := run_typeAssert_hasB Tryd.underlying91 (by kernel_rfl) v 52 w
theorem ta_nf (w : World) : (Instr.typeAssert .nilIface 52 88 true).run Tryd.prog w = .ok (.tuple #[.pointer none, .bool false]) w := by kernel_rfl
theorem ta_nl (w : World) : (Instr.typeAssert .nilIface 52 59 true).run Tryd.prog w = .ok (.tuple #[.pointer none, .bool false]) w := by kernel_rfl
theorem ta_nm (w : World) : (Instr.typeAssert .nilIface 52 89 true).run Tryd.prog w = .ok (.tuple #[.pointer none, .bool false]) w := by kernel_rfl
theorem ta_nw (w : World) : (Instr.typeAssert .nilIface 52 92 true).run Tryd.prog w = .ok (.tuple #[.pointer none, .bool false]) w := by kernel_rfl
theorem ta_nh (w : World) : (Instr.typeAssert .nilIface 52 91 true).run Tryd.prog w = .ok (.tuple #[.nilIface, .bool false]) w := by kernel_rfl
theorem meth_held (db : Nat) (w : World) : (method 266 55 (Pt db) "mantle/node.held").run Tryd.prog w = .ok (93, Pt db) w := by kernel_rfl

set_option maxRecDepth 20000 in
set_option maxHeartbeats 400000 in
theorem directory_nil (w : World) : Calls Tryd.prog 29 #[.pointer none] w fun e w' => e = .returned (.tuple #[.pointer none, .int .i64 1]) ∧ w' = w := by
  go_enter Tryd.func29, Tryd.ntmps29
  go_wp2_with fail
  refine (what_nil w).mono ?_
  rintro e w' ⟨rfl, rfl⟩
  go_wp2
  go_ret2
  exact ⟨rfl, rfl⟩

set_option maxRecDepth 20000 in
set_option maxHeartbeats 400000 in
theorem directory_dir (nb db : Nat) (w : World) (h : Nd w nb 55 db) : Calls Tryd.prog 29 #[Pt nb] w fun e w' => e = .returned (.tuple #[Pt db, .int .i64 0]) ∧ w' = w := by
  have hh := dir_holder
  have h1 := ta_dm
  have hm := meth_held db
  go_enter Tryd.func29, Tryd.ntmps29
  go_wp2_with fail
  refine (what_node nb db _ w h).mono ?_
  rintro e w' ⟨rfl, rfl⟩
  go_wp2_with fail
  refine (held_any db w').mono ?_
  rintro e w' ⟨rfl, rfl⟩
  go_wp2
  go_ret2
  exact ⟨rfl, rfl⟩

set_option maxRecDepth 20000 in
set_option maxHeartbeats 400000 in
theorem directory_other (nb k : Nat) (t : TypeId) (w : World) (h : Nd w nb t k) (ht : t = 88 ∨ t = 92 ∨ t = 89 ∨ t = 59) : Calls Tryd.prog 29 #[Pt nb] w fun e w' => e = .returned (.tuple #[.pointer none, .int .i64 193]) ∧ w' = w := by
  rcases ht with rfl | rfl | rfl | rfl
  · have hh := file_holder
    have h1 := ta_fm
    go_enter Tryd.func29, Tryd.ntmps29
    go_wp2_with fail
    refine (what_node nb k _ w h).mono ?_
    rintro e w' ⟨rfl, rfl⟩
    go_wp2
    go_ret2
    exact ⟨rfl, rfl⟩
  · have hh := white_holder
    have h1 := ta_wm
    go_enter Tryd.func29, Tryd.ntmps29
    go_wp2_with fail
    refine (what_node nb k _ w h).mono ?_
    rintro e w' ⟨rfl, rfl⟩
    go_wp2
    go_ret2
    exact ⟨rfl, rfl⟩
  · have h1 := ta_mm
    go_enter Tryd.func29, Tryd.ntmps29
    go_wp2_with fail
    refine (what_node nb k _ w h).mono ?_
    rintro e w' ⟨rfl, rfl⟩
    go_wp2
    go_ret2
    exact ⟨rfl, rfl⟩
  · have hh := link_holder
    have h1 := ta_lm
    go_enter Tryd.func29, Tryd.ntmps29
    go_wp2_with fail
    refine (what_node nb k _ w h).mono ?_
    rintro e w' ⟨rfl, rfl⟩
    go_wp2
    go_ret2
    exact ⟨rfl, rfl⟩

set_option maxRecDepth 20000 in
set_option maxHeartbeats 400000 in
theorem kind_nil (w : World) : Calls Tryd.prog 26 #[.pointer none] w fun e w' => e = .returned (.int .i8 (-1)) ∧ w' = w := by
  have h1 := ta_nf
  have h2 := ta_nl
  have h3 := ta_nm
  have h4 := ta_nh
  have h5 := ta_nw
  go_enter Tryd.func26, Tryd.ntmps26
  go_wp2_with fail
  refine (what_nil w).mono ?_
  rintro e w' ⟨rfl, rfl⟩
  go_wp2
  go_ret
  exact ⟨rfl, rfl⟩
set_option maxRecDepth 20000 in
set_option maxHeartbeats 400000 in
theorem kind_dir (nb db : Nat) (w : World) (h : Nd w nb 55 db) : Calls Tryd.prog 26 #[Pt nb] w fun e w' => e = .returned (.int .i8 1) ∧ w' = w := by
  have hh := dir_holder
  have h1 := ta_df
  have h2 := ta_dl
  have h3 := ta_dm
  go_enter Tryd.func26, Tryd.ntmps26
  go_wp2_with fail
  refine (what_node nb db _ w h).mono ?_
  rintro e w' ⟨rfl, rfl⟩
  go_wp2
  go_ret
  exact ⟨rfl, rfl⟩
set_option maxRecDepth 20000 in
set_option maxHeartbeats 400000 in
theorem kind_file (nb db : Nat) (w : World) (h : Nd w nb 88 db) : Calls Tryd.prog 26 #[Pt nb] w fun e w' => e = .returned (.int .i8 0) ∧ w' = w := by
  have h1 := ta_ff
  go_enter Tryd.func26, Tryd.ntmps26
  go_wp2_with fail
  refine (what_node nb db _ w h).mono ?_
  rintro e w' ⟨rfl, rfl⟩
  go_wp2
  go_ret
  exact ⟨rfl, rfl⟩

set_option maxRecDepth 20000 in
set_option maxHeartbeats 400000 in
theorem kind_link (nb db : Nat) (w : World) (h : Nd w nb 59 db) : Calls Tryd.prog 26 #[Pt nb] w fun e w' => e = .returned (.int .i8 2) ∧ w' = w := by
  have h1 := ta_lf
  have h2 := ta_ll
  go_enter Tryd.func26, Tryd.ntmps26
  go_wp2_with fail
  refine (what_node nb db _ w h).mono ?_
  rintro e w' ⟨rfl, rfl⟩
  go_wp2
  go_ret
  exact ⟨rfl, rfl⟩
set_option maxRecDepth 20000 in
set_option maxHeartbeats 400000 in
theorem kind_mount (nb db : Nat) (w : World) (h : Nd w nb 89 db) : Calls Tryd.prog 26 #[Pt nb] w fun e w' => e = .returned (.int .i8 3) ∧ w' = w := by
  have h1 := ta_mf
  have h2 := ta_ml
  have h3 := ta_mm
  go_enter Tryd.func26, Tryd.ntmps26
  go_wp2_with fail
  refine (what_node nb db _ w h).mono ?_
  rintro e w' ⟨rfl, rfl⟩
  go_wp2
  go_ret
  exact ⟨rfl, rfl⟩
set_option maxRecDepth 20000 in
set_option maxHeartbeats 400000 in
theorem kind_white (nb db : Nat) (w : World) (h : Nd w nb 92 db) : Calls Tryd.prog 26 #[Pt nb] w fun e w' => e = .returned (.int .i8 4) ∧ w' = w := by
  have hh := white_holder
  have h1 := ta_wf
  have h2 := ta_wl
  have h3 := ta_wm
  have h4 := ta_ww
  go_enter Tryd.func26, Tryd.ntmps26
  go_wp2_with fail
  refine (what_node nb db _ w h).mono ?_
  rintro e w' ⟨rfl, rfl⟩
  go_wp2
  go_ret
  exact ⟨rfl, rfl⟩

/-- A file: its node, its one cell. -/
structure Fl (w : World) (nb fb h : Nat) : Prop where
  nod : Nd w nb 88 fb
  fil : w.heap[fb]? = some (.cells #[Pt h] 143 (0, 0))
theorem Fl.upd {w w' : World} {nb fb h : Nat} {F : Nat → Prop} (k : Fl w nb fb h) (u : Upd F w w') (h1 : ¬ F nb) (h2 : ¬ F fb) : Fl w' nb fb h := ⟨k.nod.upd u h1, (u.block _ (Array.getElem?_eq_some_iff.1 k.fil).1 h2).trans k.fil⟩
theorem Fl.below {w w' : World} {nb fb h : Nat} (k : Fl w nb fb h) (u : Below w.heap.size w w') : Fl w' nb fb h := ⟨k.nod.below u, (u.block _ (Array.getElem?_eq_some_iff.1 k.fil).1).trans k.fil⟩
theorem Fl.cell {w : World} {nb fb h : Nat} (k : Fl w nb fb h) : w.cell? ⟨fb, 0, none⟩ = some (Pt h) := by rw [cell_of_row w fb 0 _ _ _ k.fil]; rfl

/-- A directory: its node, its own cells (where it stands), its map. -/
structure Dr (w : World) (nb db mb : Nat) (up : Value) (L : List KV) : Prop where
  nod : Nd w nb 55 db
  dir : w.heap[db]? = some (.cells #[Pt nb, up, .map (some mb)] 58 (0, 0))
  map : ∃ es clock, w.heap[mb]? = some (.map es clock) ∧ Ents es clock L
theorem Dr.ld {w : World} {nb db mb : Nat} {up : Value} {L : List KV} (h : Dr w nb db mb up L) : db < w.heap.size := (Array.getElem?_eq_some_iff.1 h.dir).1
theorem Dr.lm {w : World} {nb db mb : Nat} {up : Value} {L : List KV} (h : Dr w nb db mb up L) : mb < w.heap.size := by obtain ⟨es, c, h1, -⟩ := h.map; exact (Array.getElem?_eq_some_iff.1 h1).1
theorem Dr.upd {w w' : World} {nb db mb : Nat} {up : Value} {L : List KV} {F : Nat → Prop} (h : Dr w nb db mb up L) (u : Upd F w w') (h1 : ¬ F nb) (h2 : ¬ F db) (h3 : ¬ F mb) : Dr w' nb db mb up L := by
  obtain ⟨es, c, m1, m2⟩ := h.map
  exact ⟨h.nod.upd u h1, (u.block _ h.ld h2).trans h.dir, es, c, (u.block _ h.lm h3).trans m1, m2⟩
theorem Dr.below {w w' : World} {nb db mb : Nat} {up : Value} {L : List KV} (h : Dr w nb db mb up L) (u : Below w.heap.size w w') : Dr w' nb db mb up L := h.upd (Upd.of_below (F := fun _ => False) u) id id id
theorem Dr.c0 {w : World} {nb db mb : Nat} {up : Value} {L : List KV} (h : Dr w nb db mb up L) : w.cell? ⟨db, 0, none⟩ = some (Pt nb) := by rw [cell_of_row w db 0 _ _ _ h.dir]; rfl
theorem Dr.c1 {w : World} {nb db mb : Nat} {up : Value} {L : List KV} (h : Dr w nb db mb up L) : w.cell? ⟨db, 1, none⟩ = some up := by rw [cell_of_row w db 1 _ _ _ h.dir]; rfl
theorem Dr.c2 {w : World} {nb db mb : Nat} {up : Value} {L : List KV} (h : Dr w nb db mb up L) : w.cell? ⟨db, 2, none⟩ = some (.map (some mb)) := by rw [cell_of_row w db 2 _ _ _ h.dir]; rfl
theorem Dr.fz {w : World} {nb db mb : Nat} {up : Value} {L : List KV} (h : Dr w nb db mb up L) (j : Nat) : w.frozen? ⟨db, j, none⟩ = false := frozen_of_row w db j _ _ h.dir
theorem Dr.n1 {w : World} {nb db mb : Nat} {up : Value} {L : List KV} (h : Dr w nb db mb up L) : mb ≠ nb := fun e => by
  obtain ⟨es, c, h1, -⟩ := h.map
  have h2 := h.nod
  unfold Nd at h2
  rw [← e, h1] at h2
  simp at h2
theorem Dr.n2 {w : World} {nb db mb : Nat} {up : Value} {L : List KV} (h : Dr w nb db mb up L) : mb ≠ db := fun e => by
  obtain ⟨es, c, h1, -⟩ := h.map
  have h2 := h.dir
  rw [← e, h1] at h2
  simp at h2
theorem Dr.n3 {w : World} {nb db mb : Nat} {up : Value} {L : List KV} (h : Dr w nb db mb up L) : db ≠ nb := fun e => by
  have h1 := h.nod
  have h2 := h.dir
  unfold Nd at h1
  rw [← e, h2] at h1
  simp at h1

set_option maxRecDepth 20000 in
set_option maxHeartbeats 400000 in
theorem dir_new (w : World) : Calls Tryd.prog 13 #[] w fun e w' => ∃ nb db mb, e = .returned (Pt nb) ∧ w.heap.size ≤ nb ∧ w.heap.size ≤ db ∧ w.heap.size ≤ mb ∧ Dr w' nb db mb (.pointer none) [] ∧ Below w.heap.size w w' := by
  have hmk := fun w => run_makeMap (P := Tryd.prog) 56 w
  go_enter Tryd.func13, Tryd.ntmps13
  go_wp2
  go_ret
  refine ⟨w.heap.size, w.heap.size + 1 + 1, w.heap.size + 1, rfl, Nat.le_refl _, by omega, by omega, ⟨?_, ?_, #[], 0, ?_, ents_nil 0⟩, below_tr (below_tr (below_al w _) (below_al _ _)) (below_al _ _)⟩
  · unfold Nd
    rw [(below_al _ _).block _ (by simp; omega), (below_al _ _).block _ (by simp)]
    exact heap_alloc_new w _
  · have := heap_alloc_new ((w.alloc (.cells #[.iface 55 (Pt (w.heap.size + 1 + 1))] 54)).alloc (.map #[] 0)) (.cells #[Pt w.heap.size, .pointer none, .map (some (w.heap.size + 1))] 58)
    simpa using this
  · rw [(below_al _ _).block _ (by simp)]
    have := heap_alloc_new (w.alloc (.cells #[.iface 55 (Pt (w.heap.size + 1 + 1))] 54)) (.map #[] 0)
    simpa using this

/-- A link: its node, where it leads. -/
structure Lk (w : World) (nb lb : Nat) (s : ByteArray) : Prop where
  nod : Nd w nb 59 lb
  lnk : w.heap[lb]? = some (.cells #[.string s] 61 (0, 0))
theorem Lk.cell {w : World} {nb lb : Nat} {s : ByteArray} (k : Lk w nb lb s) : w.cell? ⟨lb, 0, none⟩ = some (.string s) := by rw [cell_of_row w lb 0 _ _ _ k.lnk]; rfl
set_option maxRecDepth 20000 in
set_option maxHeartbeats 400000 in
theorem leads_link (nb lb : Nat) (s : ByteArray) (w : World) (k : Lk w nb lb s) : Calls Tryd.prog 56 #[Pt nb] w fun e w' => e = .returned (.tuple #[.string s, .int .i64 0]) ∧ w' = w := by
  have hc := k.cell
  have h1 := ta_ll
  go_enter Tryd.func56, Tryd.ntmps56
  go_wp2_with fail
  refine (what_node nb lb _ w k.nod).mono ?_
  rintro e w' ⟨rfl, rfl⟩
  go_wp2
  go_ret2
  exact ⟨rfl, rfl⟩
set_option maxRecDepth 20000 in
set_option maxHeartbeats 400000 in
theorem link_none (w : World) : Calls Tryd.prog 14 #[.string ⟨#[]⟩] w fun e w' => e = .returned (.tuple #[.pointer none, .int .i64 190]) ∧ w' = w := by
  go_enter Tryd.func14, Tryd.ntmps14
  go_wp2
  go_ret2
  exact ⟨rfl, rfl⟩
set_option maxRecDepth 20000 in
set_option maxHeartbeats 400000 in
theorem link_long (s : ByteArray) (w : World) (h : 4096 < s.size) : Calls Tryd.prog 14 #[.string s] w fun e w' => e = .returned (.tuple #[.pointer none, .int .i64 3]) ∧ w' = w := by
  have h0 : (s.toList == ([] : List UInt8)) = false := by
    rw [Lib.toList_data]
    cases e : s.data.toList with
    | nil => have := Lib.size_eq s; rw [e, List.length_nil] at this; omega
    | cons _ _ => rfl
  have h0b : s.toList.isEmpty = false := by
    rw [Lib.toList_data]
    cases e : s.data.toList with
    | nil => have := Lib.size_eq s; rw [e, List.length_nil] at this; omega
    | cons _ _ => rfl
  have h1 : (4096 : Int) < (s.size : Int) := by omega
  go_enter Tryd.func14, Tryd.ntmps14
  go_wp2
  go_ret2
  exact ⟨rfl, rfl⟩
set_option maxRecDepth 20000 in
set_option maxHeartbeats 400000 in
theorem link_new (s : ByteArray) (w : World) (h : s.size ≤ 4096) (hp : 0 < s.size) : Calls Tryd.prog 14 #[.string s] w fun e w' => ∃ nb lb, e = .returned (.tuple #[Pt nb, .int .i64 0]) ∧ w.heap.size ≤ nb ∧ w.heap.size ≤ lb ∧ Lk w' nb lb s ∧ Below w.heap.size w w' := by
  have h0 : (s.toList == ([] : List UInt8)) = false := by
    rw [Lib.toList_data]
    cases e : s.data.toList with
    | nil => have := Lib.size_eq s; rw [e, List.length_nil] at this; omega
    | cons _ _ => rfl
  have h0b : s.toList.isEmpty = false := by
    rw [Lib.toList_data]
    cases e : s.data.toList with
    | nil => have := Lib.size_eq s; rw [e, List.length_nil] at this; omega
    | cons _ _ => rfl
  have h1 : ¬ (4096 : Int) < (s.size : Int) := by omega
  go_enter Tryd.func14, Tryd.ntmps14
  go_wp2
  go_ret2
  refine ⟨w.heap.size + 1, rfl, by omega, w.heap.size, Nat.le_refl _, ⟨?_, ?_⟩, below_tr (below_al w _) (below_al _ _)⟩
  · unfold Nd; exact heap_alloc2_new w _ _
  · rw [(below_al (w.alloc _) _).block _ (by simp)]; exact heap_alloc_new w _
end Go.Proofs.YtknjclekfmmfeaaDoor
