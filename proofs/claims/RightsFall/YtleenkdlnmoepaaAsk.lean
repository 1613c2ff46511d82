/- What a handle over a file of memory answers: Do of a read, of a write that it cannot, of a cut; Can; All. -/
import Derived.Test.YtleenkdlnmoepaaDo
import Derived.Lib.SlBytesConst
namespace Go.Proofs.Ytleenkdlnmoepaa
open Go.RowKit
attribute [local simp] lcells_nil readB_length bcells_length

theorem cells_lit {w : World} {b : Nat} {cs : List Value} {T : TypeId} {fr : Nat × Nat} (h : w.heap[b]? = some (.cells cs.toArray T fr)) : ∀ j v, cs[j]? = some v → w.cell? ((⟨b, 0, none⟩ : Addr).add j) = some v := fun j v hj => by
  rw [Addr.add_lit, Nat.zero_add, cell_of_row w b j _ _ _ h]; simpa using hj

theorem str_of_bytes (w : World) (a : Addr) (l : List UInt8) (n c : Nat) (hn : n = l.length) (h : ∀ j v, (bcells l)[j]? = some v → w.cell? (a.add j) = some v) : (convert 41 9 (.slice (some a) n c)).run Try.prog w = .ok (.string ⟨l.toArray⟩) w := by
  subst hn
  rw [run_convert_bytes_string w 41 9 5 (some a) l.length c Try.underlying41 Try.underlying5 Try.underlying9]
  have e : bcells l = (l.map fun b => (b.toNat : Int)).map (Value.int .u8) := by simp [bcells]
  rw [run_bytesToString w a l.length c (l.map fun b => (b.toNat : Int)) (by rw [← e]; have := run_loadCells_list (P := Try.prog) (w := w) a (bcells l) h; rwa [bcells_length] at this), foldl_push_byteCells, show ByteArray.empty.data = #[] from rfl, Array.empty_append]

set_option maxRecDepth 20000 in
set_option maxHeartbeats 1000000 in
theorem file_nil (w : World) : Calls Try.prog 24 #[.pointer none] w fun e w' => e = .returned .nilIface ∧ w' = w := by
  go_enter Try.func24, Try.ntmps24
  go_wp2
  go_ret
  exact ⟨rfl, rfl⟩

set_option maxRecDepth 20000 in
set_option maxHeartbeats 1000000 in
theorem file_any (hb : Nat) (f : Value) (w : World) (hf : w.cell? ⟨hb, 5, none⟩ = some f) : Calls Try.prog 24 #[.pointer (some ⟨hb, 0, none⟩)] w fun e w' => e = .returned f ∧ w' = w := by
  go_enter Try.func24, Try.ntmps24
  go_wp2
  go_ret
  exact ⟨rfl, rfl⟩

theorem noW (v : Value) (w : World) : (Instr.typeAssert (.iface 130 v) 69 82 true).run Try.prog w = .ok (.tuple #[.nilIface, .bool false]) w := run_typeAssert_lacksB Try.underlying82 (by kernel_rfl) (by kernel_rfl) v 69 w
theorem noC (v : Value) (w : World) : (Instr.typeAssert (.iface 130 v) 69 84 true).run Try.prog w = .ok (.tuple #[.nilIface, .bool false]) w := run_typeAssert_lacksB Try.underlying84 (by kernel_rfl) (by kernel_rfl) v 69 w
theorem noH (v : Value) (w : World) : (Instr.typeAssert (.iface 130 v) 69 86 true).run Try.prog w = .ok (.tuple #[.nilIface, .bool false]) w := run_typeAssert_lacksB Try.underlying86 (by kernel_rfl) (by kernel_rfl) v 69 w
theorem noS (v : Value) (w : World) : (Instr.typeAssert (.iface 130 v) 69 88 true).run Try.prog w = .ok (.tuple #[.nilIface, .bool false]) w := run_typeAssert_lacksB Try.underlying88 (by kernel_rfl) (by kernel_rfl) v 69 w
theorem yesW (v : Value) (w : World) : (Instr.typeAssert (.iface 175 v) 69 82 true).run Try.prog w = .ok (.tuple #[.iface 175 v, .bool true]) w := run_typeAssert_hasB Try.underlying82 (by kernel_rfl) v 69 w
theorem yesC (v : Value) (w : World) : (Instr.typeAssert (.iface 175 v) 69 84 true).run Try.prog w = .ok (.tuple #[.iface 175 v, .bool true]) w := run_typeAssert_hasB Try.underlying84 (by kernel_rfl) v 69 w
theorem yesH (v : Value) (w : World) : (Instr.typeAssert (.iface 175 v) 69 86 true).run Try.prog w = .ok (.tuple #[.iface 175 v, .bool true]) w := run_typeAssert_hasB Try.underlying86 (by kernel_rfl) v 69 w
theorem yesS (v : Value) (w : World) : (Instr.typeAssert (.iface 175 v) 69 88 true).run Try.prog w = .ok (.tuple #[.iface 175 v, .bool true]) w := run_typeAssert_hasB Try.underlying88 (by kernel_rfl) v 69 w

set_option maxRecDepth 20000 in
set_option maxHeartbeats 1000000 in
theorem can_none_any (hb fb : Nat) (m : Addr) (w : World) (h : All0 w hb fb m) : Calls Try.prog 17 #[.pointer (some ⟨hb, 0, none⟩)] w fun e w' => e = .returned (.int .u8 0) ∧ w' = w := by
  obtain ⟨c0, c1, c2, c3, c4, c5⟩ := han_cells h.han
  have n1 := noW
  have n2 := noC
  have n3 := noH
  have n4 := noS
  clear h c0 c1 c2 c3 c4
  go_enter Try.func17, Try.ntmps17
  go_wp2_with fail
  refine (file_any hb _ w c5).mono ?_
  rintro e w' ⟨rfl, rfl⟩
  go_wp2
  go_ret
  exact ⟨rfl, rfl⟩

set_option maxRecDepth 20000 in
set_option maxHeartbeats 1000000 in
theorem can_all_any (hb fb : Nat) (m : Addr) (w : World) (h : All15 w hb fb m) : Calls Try.prog 17 #[.pointer (some ⟨hb, 0, none⟩)] w fun e w' => e = .returned (.int .u8 15) ∧ w' = w := by
  obtain ⟨c0, c1, c2, c3, c4, c5⟩ := han_cells h.han
  have n1 := yesW
  have n2 := yesC
  have n3 := yesH
  have n4 := yesS
  clear h c0 c1 c2 c3 c4
  go_enter Try.func17, Try.ntmps17
  go_wp2_with fail
  refine (file_any hb _ w c5).mono ?_
  rintro e w' ⟨rfl, rfl⟩
  go_wp2
  go_ret
  exact ⟨rfl, rfl⟩

set_option maxRecDepth 20000 in
set_option maxHeartbeats 1000000 in
theorem doWrite_none (hb fb : Nat) (m : Addr) (w : World) (v : Value) (h : All0 w hb fb m) (hv : ∃ a n c, v = .slice a n c) : Calls Try.prog 19 #[.pointer (some ⟨hb, 0, none⟩), .agg #[.int .i8 2, .int .i64 0, .int .i64 0, v]] w fun e w' => e = .returned (.agg #[.int .i64 5, .int .i64 0, .int .i64 0, .slice none 0 0]) ∧ Below w.heap.size w w' := by
  obtain ⟨a, n, c, rfl⟩ := hv
  obtain ⟨c0, c1, c2, c3, c4, c5⟩ := han_cells h.han
  have n1 := noW
  have hA := fun o1 o2 => below_tr (below_al w o1) (below_al (w.alloc o1) o2)
  have hbl : hb < w.heap.size := World.block_lt_of_cell? w _ c5
  have F := fun o1 o2 => aside (file_any hb _ ((w.alloc o1).alloc o2) (((hA o1 o2).cell hbl).trans c5))
  clear h c0 c1 c2 c3 c4 hA
  go_enter Try.func19, Try.ntmps19
  go_wp2_with fail
  refine (F _ _).out.mono ?_
  rintro e w' ⟨rfl, rfl⟩
  go_wp2
  refine bodyPost_ret (results_cell_row rfl _ _ (w.heap.size + 1) 54 _ (0, 0) _ rfl (heap_alloc2_new w _ _) Try.underlying54 rfl (by kernel_rfl)) rfl ?_
  exact ⟨rfl, below_tr (below_al w _) (below_al _ _)⟩

theorem Upd.setRow {F : Nat → Prop} (w : World) (g : Nat) (cs : Array Value) (hF : F g) : Upd F w (w.setRow g cs) :=
  ⟨rfl, rfl, rfl, by simp, fun k _ hk => setRow_other w g k cs (fun e => hk (e ▸ hF))⟩

theorem All0.c0 {w : World} {hb fb : Nat} {m : Addr} (h : All0 w hb fb m) : w.cell? ⟨fb, 0, none⟩ = some (I m) := by
  rw [cell_of_row w fb _ _ _ _ h.fil]; rfl
theorem All15.c0 {w : World} {hb fb : Nat} {m : Addr} (h : All15 w hb fb m) : w.cell? ⟨fb, 0, none⟩ = some (I m) := by
  rw [cell_of_row w fb _ _ _ _ h.fil]; rfl
theorem All15.c2 {w : World} {hb fb : Nat} {m : Addr} (h : All15 w hb fb m) : w.cell? ⟨fb, 2, none⟩ = some (I m) := by
  rw [cell_of_row w fb _ _ _ _ h.fil]; rfl

set_option maxRecDepth 20000 in
set_option maxHeartbeats 1000000 in
theorem doRead_none (hb fb m b sz : Nat) (lv : Value) (L : List Piece) (x n : Nat) (w : World) (h : All0 w hb fb ⟨m, 0, none⟩) (hF : Fil w m b) (hR : Rep w b sz lv L) (hx : x < sz) (hn : n ≤ 65536) (hn0 : 0 < n) :
    Calls Try.prog 19 #[.pointer (some ⟨hb, 0, none⟩), .agg #[.int .i8 1, .int .i64 x, .int .i64 n, .slice none 0 0]] w fun e w' => ∃ k g cap, k = min n (min 65536 (sz - x)) ∧ e = .returned (.agg #[.int .i64 0, .int .i64 0, .int .i64 0, .slice (some ⟨g, 0, none⟩) k cap]) ∧ w.heap.size ≤ g ∧
      w'.ownsRow 0 5 1 (.slice (some ⟨g, 0, none⟩) k cap) k (bcells (readB L x k)) ∧ Below w.heap.size w w' := by
  obtain ⟨W, hW⟩ : ∃ W, W = (w.alloc (.cells #[.int .i8 1, .int .i64 x, .int .i64 n, .slice none 0 0] 43)).alloc (.cells #[.int .i64 0, .int .i64 0, .int .i64 0, .slice none 0 0] 54) := ⟨_, rfl⟩
  have hB : Below w.heap.size w W := by rw [hW]; exact below_tr (below_al w _) (below_al _ _)
  have hT : W.heap[w.heap.size + 1]? = some (.cells #[.int .i64 0, .int .i64 0, .int .i64 0, .slice none 0 0] 54 (0, 0)) := by rw [hW]; exact heap_alloc2_new w _ _
  have HSZ := aside (show W.heap.size = w.heap.size + 2 by rw [hW]; simp)
  have o0 : W.cell? ⟨w.heap.size, 0, none⟩ = some (.int .i8 1) := by rw [hW]; go_simp
  have o1 : W.cell? ⟨w.heap.size, 1, none⟩ = some (.int .i64 x) := by rw [hW]; go_simp
  have o2 : W.cell? ⟨w.heap.size, 2, none⟩ = some (.int .i64 n) := by rw [hW]; go_simp
  have h' := h.below hB
  have c5 := (han_cells h'.han).2.2.2.2.2
  have hm := meth0_ReadAt W fb ⟨m, 0, none⟩ h'.c0
  have F1 := aside (file_any hb _ W c5)
  have F2 := aside (fRead_any m b sz lv L x n W (hF.below hB) (hR.below hB) hx hn hn0)
  have HB := aside hB
  have HT := aside hT
  clear h h' hF hR hB hT c5
  go_enter Try.func19, Try.ntmps19
  go_wp2_with fail
  rw [← hW]
  refine F1.out.mono ?_
  rintro e w' ⟨rfl, rfl⟩
  clear hW
  go_wp2_with fail
  refine F2.out.mono ?_
  rintro e w1 ⟨k, hk, rfl, hrow, hb1⟩
  have HK := aside hk
  have hk0 : 0 < k := by omega
  have hk1 : k ≤ 65536 := by omega
  clear hk
  have F3 := aside (bclone_any ⟨w'.heap.size, 0, none⟩ (readB L x k) k w1 (by simp; omega) (by simp; omega) (fun j v hj => by rw [Addr.add_lit, Nat.zero_add, cell_of_row w1 w'.heap.size j _ _ _ hrow]; simpa using hj))
  rw [readB_length] at F3
  have HT1 : Aside (w1.heap[w.heap.size + 1]? = some (.cells #[.int .i64 0, .int .i64 0, .int .i64 0, .slice none 0 0] 54 (0, 0))) := (hb1.block _ (by have := HSZ.out; omega)).trans HT.out
  have HB1 := aside (below_tr HB.out hb1)
  have hs1 := hb1.size
  clear hrow hb1
  go_wp2_with fail
  refine F3.out.mono ?_
  rintro e w2 ⟨g, cap, rfl, hg, hown, hb2⟩
  have HT2 : Aside (w2.heap[w.heap.size + 1]? = some (.cells #[.int .i64 0, .int .i64 0, .int .i64 0, .slice none 0 0] 54 (0, 0))) := (hb2.block _ (by have := HSZ.out; omega)).trans HT1.out
  have HO := aside hown
  have HB2 := aside (below_tr HB1.out hb2)
  clear hown hb2
  go_wp2_with ((with_reducible refine wpList_store_row rfl 54 _ _ rfl (w.heap.size + 1) #[.int .i64 0, .int .i64 0, .int .i64 0, .slice (some ⟨g, 0, none⟩) k cap] ?_ ?_ 54 _ HT2.out ?_ ?_ ?_ ?_); kernel_rfl; kernel_rfl; kernel_rfl; kernel_rfl; kernel_rfl)
  refine bodyPost_ret (results_cell_row rfl _ _ (w.heap.size + 1) 54 _ (0, 0) _ rfl (setRow_heap w2 _ _ _ _ _ HT2.out) Try.underlying54 rfl (by kernel_rfl)) rfl ?_
  have hsz := HSZ.out
  refine ⟨k, g, cap, HK.out, rfl, by omega, ?_, below_setRow HB2.out (by omega) _⟩
  exact (Upd.setRow (F := fun k => k = w.heap.size + 1) w2 (w.heap.size + 1) _ rfl).row HO.out (fun k hk => by simp only [Value.ownBlock, Option.some.injEq] at hk; omega)

theorem All15.upd {w w' : World} {hb fb : Nat} {m : Addr} {F : Nat → Prop} (h : All15 w hb fb m) (k : Upd F w w') (h1 : ¬ F hb) (h2 : ¬ F fb) : All15 w' hb fb m :=
  ⟨(k.block hb (Array.getElem?_eq_some_iff.1 h.han).1 h1).trans h.han, (k.block fb (Array.getElem?_eq_some_iff.1 h.fil).1 h2).trans h.fil⟩
theorem All0.upd {w w' : World} {hb fb : Nat} {m : Addr} {F : Nat → Prop} (h : All0 w hb fb m) (k : Upd F w w') (h1 : ¬ F hb) (h2 : ¬ F fb) : All0 w' hb fb m :=
  ⟨(k.block hb (Array.getElem?_eq_some_iff.1 h.han).1 h1).trans h.han, (k.block fb (Array.getElem?_eq_some_iff.1 h.fil).1 h2).trans h.fil⟩
theorem Fil.upd {w w' : World} {m b : Nat} {F : Nat → Prop} (h : Fil w m b) (k : Upd F w w') (h1 : ¬ F m) : Fil w' m b := (k.block m (Array.getElem?_eq_some_iff.1 h).1 h1).trans h

set_option maxRecDepth 20000 in
set_option maxHeartbeats 1000000 in
theorem doCut_all (hb fb m b sz : Nat) (lv : Value) (L : List Piece) (x : Nat) (w : World) (h : All15 w hb fb ⟨m, 0, none⟩) (hF : Fil w m b) (hR : Rep w b sz lv L) (hs : sz ≤ x) (hx : x ≤ 1073741824) :
    Calls Try.prog 19 #[.pointer (some ⟨hb, 0, none⟩), .agg #[.int .i8 3, .int .i64 x, .int .i64 0, .slice none 0 0]] w fun e w' => e = .returned (.agg #[.int .i64 0, .int .i64 0, .int .i64 0, .slice none 0 0]) ∧ Rep w' b x lv L ∧ Upd (fun k => k = b) w w' := by
  obtain ⟨W, hW⟩ : ∃ W, W = (w.alloc (.cells #[.int .i8 3, .int .i64 x, .int .i64 0, .slice none 0 0] 43)).alloc (.cells #[.int .i64 0, .int .i64 0, .int .i64 0, .slice none 0 0] 54) := ⟨_, rfl⟩
  have hB : Below w.heap.size w W := by rw [hW]; exact below_tr (below_al w _) (below_al _ _)
  have hT : W.heap[w.heap.size + 1]? = some (.cells #[.int .i64 0, .int .i64 0, .int .i64 0, .slice none 0 0] 54 (0, 0)) := by rw [hW]; exact heap_alloc2_new w _ _
  have HSZ := aside (show W.heap.size = w.heap.size + 2 by rw [hW]; simp)
  have o0 : W.cell? ⟨w.heap.size, 0, none⟩ = some (.int .i8 3) := by rw [hW]; go_simp
  have o1 : W.cell? ⟨w.heap.size, 1, none⟩ = some (.int .i64 x) := by rw [hW]; go_simp
  have h' := h.below hB
  have c5 := (han_cells h'.han).2.2.2.2.2
  have hm := meth15_Cut W fb ⟨m, 0, none⟩ h'.c2
  have n2 := yesC
  have F1 := aside (file_any hb _ W c5)
  have F2 := aside (fCut_any m b sz lv L x W (hF.below hB) (hR.below hB) hs hx)
  have HB := aside hB
  have HT := aside hT
  have hbw : b < w.heap.size := World.block_lt_of_cell? w _ hR.cells.1
  clear h h' hF hR hB hT c5
  go_enter Try.func19, Try.ntmps19
  go_wp2_with fail
  rw [← hW]
  refine F1.out.mono ?_
  rintro e w' ⟨rfl, rfl⟩
  clear hW
  go_wp2_with fail
  refine F2.out.mono ?_
  rintro e w1 ⟨rfl, hR1, hu1⟩
  have HT1 : Aside (w1.heap[w.heap.size + 1]? = some (.cells #[.int .i64 0, .int .i64 0, .int .i64 0, .slice none 0 0] 54 (0, 0))) := (hu1.block _ (by have := HSZ.out; omega) (by omega)).trans HT.out
  have HR1 := aside hR1
  have HU1 := aside hu1
  clear hR1 hu1
  go_wp2_with ((with_reducible refine wpList_store_row rfl 54 _ _ rfl (w.heap.size + 1) #[.int .i64 0, .int .i64 0, .int .i64 0, .slice none 0 0] ?_ ?_ 54 _ HT1.out ?_ ?_ ?_ ?_); kernel_rfl; kernel_rfl; kernel_rfl; kernel_rfl; kernel_rfl)
  rw [setRow_self w1 _ _ _ _ HT1.out]
  refine bodyPost_ret (results_cell_row rfl _ _ (w.heap.size + 1) 54 _ (0, 0) _ rfl HT1.out Try.underlying54 rfl (by kernel_rfl)) rfl ?_
  exact ⟨rfl, HR1.out, (Upd.of_below HB.out).trans HU1.out (fun _ _ h => h)⟩




set_option maxRecDepth 20000 in
set_option maxHeartbeats 1000000 in
theorem new_none (src : Nat) (w : World) (hsrc : w.heap[src]? = some (.cells #[.int .u8 97, .int .u8 98, .int .u8 99] 5 (3, 4))) :
    Calls Try.prog 7 #[.slice (some ⟨src, 0, none⟩) 3 3, .int .u8 0] w fun e w' => ∃ hb fb m b lv g cap, e = .returned (.tuple #[.pointer (some ⟨hb, 0, none⟩), .int .i64 0]) ∧ w.heap.size ≤ hb ∧ w.heap.size ≤ fb ∧ w.heap.size ≤ m ∧ w.heap.size ≤ b ∧ All0 w' hb fb ⟨m, 0, none⟩ ∧ Fil w' m b ∧ Rep w' b 3 lv [⟨0, g, cap, [97, 98, 99]⟩] ∧ Below w.heap.size w w' := by
  have N1 := new_any ⟨src, 0, none⟩ [97, 98, 99] 3 w (by decide) (by decide) (by decide) (cells_lit (cs := bcells [97, 98, 99]) hsrc)
  rw [show List.take 4194304 ([97, 98, 99] : List UInt8) = [97, 98, 99] from List.take_of_length_le (by decide)] at N1
  have HN := aside N1
  clear N1
  go_enter Try.func7, Try.ntmps7
  go_wp2_with fail
  refine HN.out.mono ?_
  rintro e w1 ⟨rfl, lv, g, cap, hR, hb1, -⟩
  have HR := aside hR
  have HB := aside hb1
  clear hR hb1
  go_wp2_with fail
  refine (of_none w.heap.size w1).mono ?_
  rintro e w2 ⟨hb, fb, m, rfl, h1, h2, h3, h4, h5, hb2⟩
  have := HB.out.size
  go_wp2_with fail
  go_ret2
  exact ⟨hb, fb, m, w.heap.size, lv, g, cap, rfl, by omega, by omega, by omega, by omega, h4, h5, HR.out.below hb2, below_tr HB.out hb2⟩

set_option maxRecDepth 20000 in
set_option maxHeartbeats 1000000 in
theorem new_all (src : Nat) (w : World) (hsrc : w.heap[src]? = some (.cells #[.int .u8 97, .int .u8 98, .int .u8 99] 5 (3, 4))) :
    Calls Try.prog 7 #[.slice (some ⟨src, 0, none⟩) 3 3, .int .u8 15] w fun e w' => ∃ hb fb m b lv g cap, e = .returned (.tuple #[.pointer (some ⟨hb, 0, none⟩), .int .i64 0]) ∧ w.heap.size ≤ hb ∧ w.heap.size ≤ fb ∧ w.heap.size ≤ m ∧ w.heap.size ≤ b ∧ hb ≠ b ∧ fb ≠ b ∧ m ≠ b ∧ All15 w' hb fb ⟨m, 0, none⟩ ∧ Fil w' m b ∧ Rep w' b 3 lv [⟨0, g, cap, [97, 98, 99]⟩] ∧ Below w.heap.size w w' := by
  have N1 := new_any ⟨src, 0, none⟩ [97, 98, 99] 3 w (by decide) (by decide) (by decide) (cells_lit (cs := bcells [97, 98, 99]) hsrc)
  rw [show List.take 4194304 ([97, 98, 99] : List UInt8) = [97, 98, 99] from List.take_of_length_le (by decide)] at N1
  have HN := aside N1
  clear N1
  go_enter Try.func7, Try.ntmps7
  go_wp2_with fail
  refine HN.out.mono ?_
  rintro e w1 ⟨rfl, lv, g, cap, hR, hb1, -⟩
  have hlt : w.heap.size < w1.heap.size := World.block_lt_of_cell? w1 _ hR.cells.1
  have HR := aside hR
  have HB := aside hb1
  clear hR hb1
  go_wp2_with fail
  refine (of_all w.heap.size w1).mono ?_
  rintro e w2 ⟨hb, fb, m, rfl, h1, h2, h3, h4, h5, hb2⟩
  have := HB.out.size
  go_wp2_with fail
  go_ret2
  exact ⟨hb, fb, m, w.heap.size, lv, g, cap, rfl, by omega, by omega, by omega, by omega, by omega, by omega, by omega, h4, h5, HR.out.below hb2, below_tr HB.out hb2⟩
end Go.Proofs.Ytleenkdlnmoepaa
