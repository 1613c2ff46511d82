/- Merged: SumNew, SumDo, SumWake. -/
import Derived.Test.YtoagjgcpgpjjeaaGF
namespace Go.Proofs.Ytoagjgcpgpjjeaa
open Go.RowKit
attribute [local simp] lcells_nil readB_length bcells_length

/-- A file of memory that can all. -/
abbrev FSy (fb : Nat) : Value := .iface 175 (.pointer (some ⟨fb, 0, none⟩))
/-- What ask finds of it. -/
abbrev Bel (fb n : Nat) : Array Value := #[FSy fb, FSy fb, FSy fb, .func (.method "ReadAt") #[FSy fb] #[], .int .i64 n]

/-- A file with sums: what it stands over. -/
abbrev SFc (fa ft : Nat) : Array Value := #[FSy fa, FSy fa, FSy fa, .func (.method "ReadAt") #[FSy fa] #[], .int .i64 64, FSy ft, FSy ft, FSy ft, .func (.method "ReadAt") #[FSy ft] #[], .int .i64 8]
def SF (w : World) (f fa ft : Nat) : Prop := w.heap[f]? = some (.cells (SFc fa ft) 83 (0, 0))
theorem storeF (w : World) (a : Addr) (fn : Fn) (f c : Array Value) : (store a (.func fn f c)).run Try.prog w = match w.cell? a with
      | some _ => if w.frozen? a then .halt (.unsupported (.unsafePointer "a write to bytes that a string shares")) w else .ok () (w.setCell a (.func fn f c))
      | none => match w.farStore Try.prog a (.func fn f c) (Mode.plain == .atomic) with
        | .ok (w', _) => .ok () w'
        | .error h => .halt h w := run_store Try.prog w a (.func fn f c) .plain rfl
theorem heap_alloc_first (w : World) (a b : Array Value) (s t : TypeId) : ((w.alloc (.cells a s)).alloc (.cells b t)).heap[w.heap.size]? = some (.cells a s (0, 0)) :=
  ((below_al (w.alloc (.cells a s)) _).block _ (by simp)).trans (heap_alloc_new w _)
set_option maxRecDepth 20000 in
set_option maxHeartbeats 1000000 in
theorem ask_any (fb n : Nat) (w : World) : Calls Try.prog 36 #[FSy fb, .int .i64 n] w fun e w' => e = .returned (.agg (Bel fb n)) ∧ Below w.heap.size w w' := by
  have n1 := yesW
  have n4 := yesS
  have hk := hmf
  have hsf := storeF
  go_enter Try.func36, Try.ntmps36
  go_wp2
  refine bodyPost_ret (results_cell_row rfl _ _ w.heap.size 80 _ (0, 0) _ rfl (heap_alloc_first w _ _ _ _) Try.underlying80 rfl (by kernel_rfl)) rfl ?_
  exact ⟨rfl, below_tr (below_al w _) (below_al _ _)⟩

set_option maxRecDepth 20000 in
set_option maxHeartbeats 2000000 in
theorem sumsNew_any (ha fa : Nat) (pa : Addr) (ht ft : Nat) (pt : Addr) (w : World) (h1 : All15 w ha fa pa) (h2 : All15 w ht ft pt) : Calls Try.prog 16 #[.pointer (some ⟨ha, 0, none⟩), .pointer (some ⟨ht, 0, none⟩)] w fun e w' => ∃ hb fb f, e = .returned (.tuple #[.pointer (some ⟨hb, 0, none⟩), .int .i64 0]) ∧ AllW 74 w' hb fb ⟨f, 0, none⟩ ∧ SF w' f fa ft ∧ Below w.heap.size w w' := by
  have a5 := (han_cells h1.han).2.2.2.2.2
  have b5 := (han_cells h2.han).2.2.2.2.2
  have F1 := aside (file_any ha _ w a5)
  have F2 := aside (file_any ht _ w b5)
  have H1 := aside h1
  have H2 := aside h2
  clear h1 h2 a5 b5
  go_enter Try.func16, Try.ntmps16
  go_wp2_with fail
  refine F1.out.mono ?_
  rintro e w' ⟨rfl, rfl⟩
  go_wp2_with fail
  refine F2.out.mono ?_
  rintro e w' ⟨rfl, rfl⟩
  go_wp2_with fail
  refine (ask_any fa 64 w').mono ?_
  rintro e w1 ⟨rfl, hb1⟩
  have HB1 := aside hb1
  clear hb1 F1 F2
  go_wp2_with fail
  refine (ask_any ft 8 w1).mono ?_
  rintro e w2 ⟨rfl, hb2⟩
  have HB2 := aside (below_tr HB1.out hb2)
  clear hb2
  have hsf := storeF
  go_wp2_with fail
  obtain ⟨U, hU⟩ : ∃ U, U = w2.alloc (.cells (SFc fa ft) 83) := ⟨_, rfl⟩
  have hSU : SF U w2.heap.size fa ft := by rw [hU]; exact heap_alloc_new w2 _
  have hBU : Below w2.heap.size w2 U := by rw [hU]; exact below_al w2 _
  rw [← hU]
  clear hU hsf
  refine (make_ws 74 ⟨w2.heap.size, 0, none⟩ U).mono ?_
  rintro e w3 ⟨hb, fb, rfl, h1, h2, h3, h4, hb3⟩
  have HA3 : Aside (AllW 74 w3 hb fb ⟨w2.heap.size, 0, none⟩) := ⟨h3, h4⟩
  have HS3 : Aside (SF w3 w2.heap.size fa ft) := (hb3.block _ (Array.getElem?_eq_some_iff.1 hSU).1).trans hSU
  have HB3 := aside (below_tr (below_tr HB2.out hBU) hb3)
  have G1 := aside (can_all_any ha fa pa w3 (H1.out.below HB3.out))
  have G2 := aside (can_all_any ht ft pt w3 (H2.out.below HB3.out))
  clear h1 h2 h3 h4 hb3 hSU hBU HB1 HB2
  go_wp2_with fail
  refine G1.out.mono ?_
  rintro e w' ⟨rfl, rfl⟩
  go_wp2_with fail
  refine G2.out.mono ?_
  rintro e w' ⟨rfl, rfl⟩
  go_wp2_with fail
  refine (Only_ws 74 _ hb fb w' HA3.out).mono ?_
  rintro e w4 ⟨hb2, fb2, rfl, h1, h2, h3, hb4⟩
  have HS4 : Aside (SF w4 w2.heap.size fa ft) := (hb4.block _ (Array.getElem?_eq_some_iff.1 HS3.out).1).trans HS3.out
  have HA4 := aside h3
  have HB4 := aside (below_tr HB3.out hb4)
  clear h1 h2 h3 hb4
  go_wp2_with fail
  go_ret2
  exact ⟨hb2, fb2, _, rfl, HA4.out, HS4.out, HB4.out⟩
end Go.Proofs.Ytoagjgcpgpjjeaa

namespace Go.Proofs.Ytoagjgcpgpjjeaa
open Go.RowKit
attribute [local simp] lcells_nil readB_length bcells_length

theorem conv_nil (w : World) : (convert 22 9 (.slice none 0 0)).run Try.prog w = .ok (.string ⟨#[]⟩) w := by
  rw [run_convert_bytes_string w 22 9 5 none 0 0 Try.underlying22 Try.underlying5 Try.underlying9]
  rfl

set_option maxRecDepth 20000 in
set_option maxHeartbeats 1000000 in
theorem equal_nil (ad : Addr) (l : List UInt8) (c : Nat) (w : World) (h0 : l ≠ []) (h : ∀ j v, (bcells l)[j]? = some v → w.cell? (ad.add j) = some v) :
    Calls Try.prog 112 #[.slice none 0 0, .slice (some ad) l.length c] w fun e w' => e = .returned (.bool false) ∧ w' = w := by
  have q1 := conv_nil w
  have q2 := str_of_bytes w ad l l.length c rfl h
  have q3 : ¬ ((⟨#[]⟩ : ByteArray) = ⟨l.toArray⟩) := by
    intro e
    injection e with e
    apply h0
    have := congrArg Array.toList e
    simpa using this.symm
  clear h
  go_enter Try.func112, Try.ntmps112
  go_wp2_with fail
  go_ret
  cases l with
  | nil => exact absurd rfl h0
  | cons x l => exact ⟨rfl, rfl⟩

theorem way15 {w : World} {hb fb m : Nat} (h : All15 w hb fb ⟨m, 0, none⟩) : Way w hb 175 fb m :=
  ⟨(han_cells h.han).2.2.2.2.2, fun W hW => meth15_Size W fb ⟨m, 0, none⟩ (h.below hW).c0, fun W hW => meth15_ReadAt W fb ⟨m, 0, none⟩ (h.below hW).c0⟩

theorem SF.cells {w : World} {f fa ft : Nat} (h : SF w f fa ft) : w.cell? ⟨f, 0, none⟩ = some (FSy fa) ∧ w.cell? ⟨f, 3, none⟩ = some (.func (.method "ReadAt") #[FSy fa] #[]) ∧ w.cell? ⟨f, 4, none⟩ = some (.int .i64 64) ∧ w.cell? ⟨f, 8, none⟩ = some (.func (.method "ReadAt") #[FSy ft] #[]) ∧ w.cell? ⟨f, 9, none⟩ = some (.int .i64 8) := by
  unfold SF at h
  refine ⟨?_, ?_, ?_, ?_, ?_⟩ <;> (rw [cell_of_row w f _ _ _ _ h]; rfl)
theorem SF.below {w w' : World} {f fa ft : Nat} (h : SF w f fa ft) (hb : Below w.heap.size w w') : SF w' f fa ft := (hb.block f (Array.getElem?_eq_some_iff.1 h).1).trans h

/-- What a file with sums stands over: bytes, and a table of none. -/
structure Over (w : World) (f fa ft : Nat) (sz : Nat) (L : List Piece) : Prop where
  sf : SF w f fa ft
  a : ∃ ha ma ba lv, All15 w ha fa ⟨ma, 0, none⟩ ∧ Fil w ma ba ∧ Rep w ba sz lv L
  t : ∃ ht mt bt lv, All15 w ht ft ⟨mt, 0, none⟩ ∧ Fil w mt bt ∧ Rep w bt 0 lv []
theorem Over.below {w w' : World} {f fa ft sz : Nat} {L : List Piece} (h : Over w f fa ft sz L) (hb : Below w.heap.size w w') : Over w' f fa ft sz L := by
  obtain ⟨h0, ⟨ha, ma, ba, lv, h1, h2, h3⟩, ⟨ht, mt, bt, lv', h4, h5, h6⟩⟩ := h
  exact ⟨h0.below hb, ⟨ha, ma, ba, lv, h1.below hb, h2.below hb, h3.below hb⟩, ⟨ht, mt, bt, lv', h4.below hb, h5.below hb, h6.below hb⟩⟩

set_option maxRecDepth 20000 in
set_option maxHeartbeats 2000000 in
theorem right_none (f fa ft sz : Nat) (L : List Piece) (w : World) (h : Over w f fa ft sz L) : Calls Try.prog 108 #[.pointer (some ⟨f, 0, none⟩), .int .i64 0] w fun e w' => e = .returned (.tuple #[.slice none 0 0, .int .i64 100]) ∧ Below w.heap.size w w' := by
  obtain ⟨c0, c3, c4, c8, c9⟩ := h.sf.cells
  obtain ⟨ha, ma, ba, lv, h1, h2, h3⟩ := h.a
  have F1 := aside (read_any 175 fa ma ba sz 64 lv L 0 w (way15 h1).read h2 h3 (by decide) (by decide) (by decide))
  have H := aside h
  clear h h1 h2 h3 c0 c8 c9
  go_enter Try.func108, Try.ntmps108
  go_wp2_with fail
  refine F1.out.mono ?_
  rintro e w1 ⟨a, c, rfl, hT, hb1⟩
  have H1 := H.out.below hb1
  obtain ⟨ht, mt, bt, lv', h4, h5, h6⟩ := H1.t
  obtain ⟨-, -, -, c8, c9⟩ := H1.sf.cells
  have F2 := read_any 175 ft mt bt 0 8 lv' [] 0 w1 (way15 h4).read h5 h6 (by decide) (by decide) (by decide)
  rw [getL_out (Nat.zero_le _)] at F2
  have HF2 := aside F2
  have hgl := getL_le L sz (0 * 64) 64
  generalize getL L sz ((0 * 64 : Nat) : Int) ((64 : Nat) : Int) = g at *
  have HT := aside hT
  have HB1 := aside hb1
  clear F1 F2 hT hb1 H1 h4 h5 h6 c3 c4
  go_wp2_with fail
  refine HF2.out.mono ?_
  rintro e w2 ⟨a2, c2, rfl, hT2, hb2⟩
  obtain ⟨rfl, rfl⟩ : a2 = none ∧ c2 = 0 := by
    rcases hT2 with ⟨-, h1, h2⟩ | ⟨h1, -⟩
    · exact ⟨h1, h2⟩
    · exact absurd rfl h1
  have F3 := aside (sum_any a g c w2 (HT.out.below hb2).bs (by omega))
  have F4 := aside (entry_any (fnv0 g) w2)
  have HB2 := aside (below_tr HB1.out hb2)
  clear hT2 hb2 HF2 c8 c9
  go_wp2_with fail
  refine F3.out.mono ?_
  rintro e w' ⟨rfl, rfl⟩
  go_wp2_with fail
  refine F4.out.mono ?_
  rintro e w3 ⟨rfl, hrow, hb3⟩
  have F5 := equal_nil ⟨w'.heap.size, 0, none⟩ (le8 (fnv0 g)) 8 w3 (by intro e; have := congrArg List.length e; rw [le8_length] at this; cases this) (cells_lit hrow)
  rw [le8_length] at F5
  have HF5 := aside F5
  have HB3 := aside (below_tr HB2.out hb3)
  clear F5 hrow hb3
  go_wp2_with fail
  refine HF5.out.mono ?_
  rintro e w4 ⟨rfl, rfl⟩
  go_wp2_with fail
  go_ret2
  exact ⟨rfl, HB3.out⟩

set_option maxRecDepth 20000 in
set_option maxHeartbeats 2000000 in
theorem sSize_any (f fa ft sz : Nat) (L : List Piece) (w : World) (h : Over w f fa ft sz L) : Calls Try.prog 105 #[.pointer (some ⟨f, 0, none⟩)] w fun e w' => e = .returned (.int .i64 sz) ∧ w' = w := by
  obtain ⟨c0, -, -, -, -⟩ := h.sf.cells
  obtain ⟨ha, ma, ba, lv, h1, h2, h3⟩ := h.a
  have hm := (way15 h1).size w (Below.refl _ _)
  have F1 := aside (fSize_any ma ba sz lv L w h2 h3)
  clear h h1 h2 h3
  go_enter Try.func105, Try.ntmps105
  go_wp2_with fail
  refine F1.out.mono ?_
  rintro e w' ⟨rfl, rfl⟩
  go_wp2_with fail
  go_ret
  exact ⟨rfl, rfl⟩

set_option maxRecDepth 20000 in
set_option maxHeartbeats 2000000 in
theorem sRead_wrong (f fa ft sz : Nat) (L : List Piece) (w : World) (h : Over w f fa ft sz L) (h0 : 0 < sz) : Calls Try.prog 104 #[.pointer (some ⟨f, 0, none⟩), .int .i64 0, .int .i64 1] w fun e w' => e = .returned (.tuple #[.slice none 0 0, .int .i64 100]) ∧ Below w.heap.size w w' := by
  have F1 := aside (sSize_any f fa ft sz L w h)
  have F2 := aside (right_none f fa ft sz L w h)
  obtain ⟨ha, ma, ba, lv, -, -, h3⟩ := h.a
  have hs := h3.inv.size
  have HM1 := aside (show max (sz : Int) 0 = (sz : Int) by omega)
  have HM2 := aside (show min ((sz : Int) - 0) 1 = (1 : Int) by omega)
  have HM3 := aside (show min (sz : Int) 1 = (1 : Int) by omega)
  clear h h3
  go_enter Try.func104, Try.ntmps104
  go_wp2_with fail
  refine F1.out.mono ?_
  rintro e w' ⟨rfl, rfl⟩
  go_wp2_with (first | ((with_reducible refine wpList_max2 _ rfl _ _ _ rfl (sz : Int) 0 (sz : Int) ?_ ?_ HM1.out ?_); rfl; rfl) | ((with_reducible refine wpList_min2 _ rfl _ _ _ rfl (sz : Int) 1 1 ?_ ?_ HM3.out ?_); rfl; rfl) | ((with_reducible refine wpList_min2 _ rfl _ _ _ rfl ((sz : Int) - 0) 1 1 ?_ ?_ HM2.out ?_); rfl; rfl))
  refine wp_loop_rounds 1 ?_
  rw [rounds_succ]
  go_wp2_with fail
  refine F2.out.mono ?_
  rintro e w1 ⟨rfl, hb1⟩
  have HB1 := aside hb1
  clear hb1
  go_wp2_with fail
  go_ret2
  exact ⟨rfl, HB1.out⟩

set_option maxRecDepth 20000 in
set_option maxHeartbeats 2000000 in
theorem sRead_out (f fa ft sz : Nat) (L : List Piece) (w : World) (h : Over w f fa ft sz L) : Calls Try.prog 104 #[.pointer (some ⟨f, 0, none⟩), .int .i64 sz, .int .i64 1] w fun e w' => e = .returned (.tuple #[.slice none 0 0, .int .i64 0]) ∧ w' = w := by
  have F1 := aside (sSize_any f fa ft sz L w h)
  obtain ⟨ha, ma, ba, lv, -, -, h3⟩ := h.a
  have hs := h3.inv.size
  have h0 : ¬ ((sz : Int) < 0) := by omega
  have HM1 := aside (show max (sz : Int) 0 = (sz : Int) by omega)
  have HM2 := aside (show min ((sz : Int) - (sz : Int)) 1 = (0 : Int) by omega)
  have HM3 := aside (show min (0 : Int) 1 = (0 : Int) by omega)
  clear h h3
  go_enter Try.func104, Try.ntmps104
  go_wp2_with fail
  refine F1.out.mono ?_
  rintro e w' ⟨rfl, rfl⟩
  go_wp2_with (first | ((with_reducible refine wpList_max2 _ rfl _ _ _ rfl (sz : Int) 0 (sz : Int) ?_ ?_ HM1.out ?_); rfl; rfl) | ((with_reducible refine wpList_min2 _ rfl _ _ _ rfl (0 : Int) 1 0 ?_ ?_ HM3.out ?_); rfl; rfl) | ((with_reducible refine wpList_min2 _ rfl _ _ _ rfl ((sz : Int) - (sz : Int)) 1 0 ?_ ?_ HM2.out ?_); rfl; rfl))
  refine wp_loop_rounds 1 ?_
  rw [rounds_succ]
  go_wp2_with fail
  go_ret2
  exact ⟨rfl, rfl⟩

theorem methW_ReadAt (w : World) (fb f : Nat) (h : w.cell? ⟨fb, 0, none⟩ = some (J 74 ⟨f, 0, none⟩)) : (method 312 157 (.pointer (some ⟨fb, 0, none⟩)) "ReadAt").run Try.prog w = .ok (104, .pointer (some ⟨f, 0, none⟩)) w :=
  (method_up (n := 311) (st := 159) (ix := 0) (ft := 65) (off := 0) (by kernel_rfl) (by kernel_rfl) (up_size 65 (by kernel_rfl) w) (up_agg 65 Try.underlying65 w) (by simpa [Addr.add] using h)).trans (by kernel_rfl)

set_option maxRecDepth 20000 in
set_option maxHeartbeats 2000000 in
theorem sDo_any (hb fb f x e0 : Nat) (w : World) (h : AllW 74 w hb fb ⟨f, 0, none⟩)
    (hread : ∀ W, Below w.heap.size w W → Calls Try.prog 104 #[.pointer (some ⟨f, 0, none⟩), .int .i64 x, .int .i64 1] W fun e w' => e = .returned (.tuple #[.slice none 0 0, .int .i64 e0]) ∧ Below W.heap.size W w') :
    Calls Try.prog 18 #[.pointer (some ⟨hb, 0, none⟩), .agg #[.int .i8 1, .int .i64 x, .int .i64 1, .slice none 0 0]] w fun e w' => e = .returned (.agg #[.int .i64 e0, .int .i64 0, .int .i64 0, .slice none 0 0]) ∧ Below w.heap.size w w' := by
  obtain ⟨W, hW⟩ : ∃ W, W = (w.alloc (.cells #[.int .i8 1, .int .i64 x, .int .i64 1, .slice none 0 0] 49)).alloc (.cells #[.int .i64 0, .int .i64 0, .int .i64 0, .slice none 0 0] 51) := ⟨_, rfl⟩
  have hB : Below w.heap.size w W := by rw [hW]; exact below_tr (below_al w _) (below_al _ _)
  have hT : W.heap[w.heap.size + 1]? = some (.cells #[.int .i64 0, .int .i64 0, .int .i64 0, .slice none 0 0] 51 (0, 0)) := by rw [hW]; exact heap_alloc2_new w _ _
  have HSZ := aside (show W.heap.size = w.heap.size + 2 by rw [hW]; simp)
  have o0 : W.cell? ⟨w.heap.size, 0, none⟩ = some (.int .i8 1) := by rw [hW]; go_simp
  have o1 : W.cell? ⟨w.heap.size, 1, none⟩ = some (.int .i64 x) := by rw [hW]; go_simp
  have o2 : W.cell? ⟨w.heap.size, 2, none⟩ = some (.int .i64 1) := by rw [hW]; go_simp
  have h' := h.below hB
  have c5 := (han_cells h'.han).2.2.2.2.2
  have hm := methW_ReadAt W fb f (by rw [cell_of_row W fb _ _ _ _ h'.fil]; rfl)
  have F1 := aside (file_any hb _ W c5)
  have F2 := aside (hread W hB)
  have HB := aside hB
  have HT := aside hT
  clear h h' hB hT c5 hread
  go_enter Try.func18, Try.ntmps18
  go_wp2_with fail
  rw [← hW]
  refine F1.out.mono ?_
  rintro e w' ⟨rfl, rfl⟩
  clear hW
  go_wp2_with fail
  refine F2.out.mono ?_
  rintro e w1 ⟨rfl, hb1⟩
  have HT1 : Aside (w1.heap[w.heap.size + 1]? = some (.cells #[.int .i64 0, .int .i64 0, .int .i64 0, .slice none 0 0] 51 (0, 0))) := (hb1.block _ (by have := HSZ.out; omega)).trans HT.out
  have HB1 := aside (below_tr HB.out hb1)
  clear hb1
  go_wp2_with fail
  refine (bclone_nil w1).mono ?_
  rintro e w2 ⟨rfl, rfl⟩
  go_wp2_with ((with_reducible refine wpList_store_row rfl 51 _ _ rfl (w.heap.size + 1) #[.int .i64 e0, .int .i64 0, .int .i64 0, .slice none 0 0] ?_ ?_ 51 _ HT1.out ?_ ?_ ?_ ?_); kernel_rfl; kernel_rfl; kernel_rfl; kernel_rfl; kernel_rfl)
  refine bodyPost_ret (results_cell_row rfl _ _ (w.heap.size + 1) 51 _ (0, 0) _ rfl (setRow_heap w2 _ _ _ _ _ HT1.out) Try.underlying51 rfl (by kernel_rfl)) rfl ?_
  exact ⟨rfl, below_setRow HB1.out (by omega) _⟩
end Go.Proofs.Ytoagjgcpgpjjeaa

namespace Go.Proofs.Ytoagjgcpgpjjeaa
open Go.RowKit
attribute [local simp] lcells_nil readB_length bcells_length

set_option maxRecDepth 20000 in
theorem putNil0_any (b : Nat) (w : World) : Calls Try.prog 22 #[.pointer (some ⟨b, 0, none⟩), .int .i64 0, .slice none 0 0] w fun e w' => e = .returned (.int .i64 0) ∧ w' = w := by
  go_enter Try.func22, Try.ntmps22
  go_wp2
  go_ret
  exact ⟨rfl, rfl⟩
set_option maxRecDepth 20000 in
set_option maxHeartbeats 1000000 in
theorem newNil_any (w : World) : Calls Try.prog 20 #[.slice none 0 0] w fun e w' => e = .returned (.pointer (some ⟨w.heap.size, 0, none⟩)) ∧ ∃ lv, Rep w' w.heap.size 0 lv [] ∧ Below w.heap.size w w' := by
  have hR := aside (rep_new w)
  go_enter Try.func20, Try.ntmps20
  go_wp2_with ((with_reducible refine wpList_min2 _ rfl _ _ _ rfl (0 : Int) 4194304 (0 : Int) ?_ ?_ (by decide) ?_); rfl; rfl)
  refine (putNil0_any _ _).mono ?_
  rintro e w' ⟨rfl, rfl⟩
  go_wp2
  go_ret
  exact ⟨rfl, .slice none 0 0, hR.out, below_al w _⟩
set_option maxRecDepth 20000 in
set_option maxHeartbeats 1000000 in
theorem memNil_any (w : World) :
    Calls Try.prog 17 #[.slice none 0 0, .int .u8 15] w fun e w' => ∃ hb fb m b lv, e = .returned (.tuple #[.pointer (some ⟨hb, 0, none⟩), .int .i64 0]) ∧ All15 w' hb fb ⟨m, 0, none⟩ ∧ Fil w' m b ∧ Rep w' b 0 lv [] ∧ Below w.heap.size w w' := by
  go_enter Try.func17, Try.ntmps17
  go_wp2_with fail
  refine (newNil_any w).mono ?_
  rintro e w1 ⟨rfl, lv, hR, hb1⟩
  have HR := aside hR
  have HB := aside hb1
  clear hR hb1
  go_wp2_with fail
  refine (of_all w.heap.size w1).mono ?_
  rintro e w2 ⟨hb, fb, m, rfl, h1, h2, h3, h4, h5, hb2⟩
  go_wp2_with fail
  go_ret2
  exact ⟨hb, fb, m, w.heap.size, lv, rfl, h4, h5, HR.out.below hb2, below_tr HB.out hb2⟩

theorem fnv0_none : fnv0 [] = 14695981039346656037 := rfl
theorem fnv0_a : fnv0 [97] = 12638187200555641996 := by decide
theorem tab_len3 (L : List Piece) : (tab L 3).length = 8 := by unfold tab; rw [tabk_length]

set_option maxRecDepth 20000 in
set_option maxHeartbeats 4000000 in
theorem wakes10_any (w : World) : Calls Try.prog 9 #[] w fun e w' => e = .returned (.bool true) ∧ Below w.heap.size w w' := by
  have hcv := fun (w : World) (C : Array Value) (n c : Nat) => Lib.run_convert_bytes_const (P := Try.prog) w 22 5 C n c Try.underlying22 Try.underlying5
  go_enter Try.func9, Try.ntmps9
  go_wp2_with fail
  refine (memNew_all w.heap.size _ (heap_alloc_new w _)).mono ?_
  rintro e w1 ⟨ha, fa, ma, ba, lva, g, cap, rfl, q1, q2, q3, q4, q5, q6, q7, hA, hF, hR, hb1⟩
  have HB1 := aside (below_tr (below_al w _) hb1)
  have HA := aside hA
  have HF := aside hF
  have HR := aside hR
  clear hA hF hR hb1 q1 q2 q3 q4 q5 q6 q7
  go_wp2_with fail
  refine (memNil_any w1).mono ?_
  rintro e w2 ⟨ht, ft, mt, bt, lvt, rfl, hA2, hF2, hR2, hb2⟩
  have F3 := aside (sumsNew_any ha fa _ ht ft _ w2 (HA.out.below hb2) hA2)
  have HO : Aside (∀ W f, Below w2.heap.size w2 W → SF W f fa ft → Over W f fa ft 3 [⟨0, g, cap, [97, 98, 99]⟩]) := fun W f hW hS =>
    ⟨hS, ⟨ha, ma, ba, lva, (HA.out.below hb2).below hW, (HF.out.below hb2).below hW, (HR.out.below hb2).below hW⟩, ⟨ht, mt, bt, lvt, hA2.below hW, hF2.below hW, hR2.below hW⟩⟩
  have F6 : Aside (∀ W, Below w2.heap.size w2 W → Calls Try.prog 11 #[.pointer (some ⟨ha, 0, none⟩)] W fun e w' => ∃ a c, e = .returned (.tuple #[.slice a 8 c, .int .i64 0]) ∧ Below W.heap.size W w') := fun W hW => by
    refine (table_any ha 175 fa ma ba 3 lva _ W (way15 ((HA.out.below hb2).below hW)) ((HF.out.below hb2).below hW) ((HR.out.below hb2).below hW) (by decide)).mono ?_
    rintro e w' ⟨v, rfl, ho, hb⟩
    rw [tab_len3] at ho
    rcases ho.2 with ⟨-, h⟩ | ⟨g', c', cur, rfl, -⟩
    · cases h
    · exact ⟨_, c', rfl, hb⟩
  have HB2 := aside (below_tr HB1.out hb2)
  clear hA2 hF2 hR2 hb2 HA HF HR HB1
  go_wp2_with fail
  refine F3.out.mono ?_
  rintro e w3 ⟨hb, fb, f, rfl, hA3, hS3, hb3⟩
  have HO3 := aside (HO.out w3 f hb3 hS3)
  have HA3 := aside hA3
  have HB3 := aside hb3
  have F4 := aside (sDo_any hb fb f 0 100 w3 hA3 (fun W hW => sRead_wrong f fa ft 3 _ W (HO3.out.below hW) (by decide)))
  clear hA3 hS3 hb3 F3 HO
  go_wp2_with fail
  refine F4.out.mono ?_
  rintro e w4 ⟨rfl, hb4⟩
  obtain ⟨U, hU⟩ : ∃ U, U = w4.alloc (.cells #[.int .i64 100, .int .i64 0, .int .i64 0, .slice none 0 0] 51) := ⟨_, rfl⟩
  have x0 : U.cell? ⟨w4.heap.size, 0, none⟩ = some (.int .i64 100) := by rw [hU]; go_simp
  have hBU : Below w3.heap.size w3 U := by rw [hU]; exact below_tr hb4 (below_al w4 _)
  have hxl : w4.heap.size < U.heap.size := by rw [hU]; simp
  have F5 := aside (sDo_any hb fb f 3 0 U (HA3.out.below hBU) (fun W hW => (sRead_out f fa ft 3 _ W ((HO3.out.below hBU).below hW)).mono (fun e w' h => ⟨h.1, h.2 ▸ Below.refl _ _⟩)))
  have HBU := aside (below_tr HB3.out hBU)
  clear hb4 F4 hBU HA3 HO3 HB3
  go_wp2_with fail
  rw [← hU]
  clear hU
  refine F5.out.mono ?_
  rintro e w5 ⟨rfl, hb5⟩
  obtain ⟨V, hV⟩ : ∃ V, V = w5.alloc (.cells #[.int .i64 0, .int .i64 0, .int .i64 0, .slice none 0 0] 51) := ⟨_, rfl⟩
  have hBV : Below U.heap.size U V := by rw [hV]; exact below_tr hb5 (below_al w5 _)
  have y0 : V.cell? ⟨w5.heap.size, 0, none⟩ = some (.int .i64 0) := by rw [hV]; go_simp
  have x1 : V.cell? ⟨w4.heap.size, 0, none⟩ = some (.int .i64 100) := (hBV.cell (p := ⟨w4.heap.size, 0, none⟩) hxl).trans x0
  have hyl : w5.heap.size < V.heap.size := by rw [hV]; simp
  have hxl2 : w4.heap.size < V.heap.size := Nat.lt_of_lt_of_le hxl hBV.size
  have F7 := aside (F6.out V (below_tr HBU.out hBV))
  have HBV := aside (below_tr HBU.out hBV)
  clear hb5 hBV x0 F5 F6 HBU hxl
  go_wp2_with fail
  rw [← hV]
  clear hV
  refine F7.out.mono ?_
  rintro e w6 ⟨a6, c6, rfl, hb6⟩
  have x2 : w6.cell? ⟨w4.heap.size, 0, none⟩ = some (.int .i64 100) := (hb6.cell (p := ⟨w4.heap.size, 0, none⟩) hxl2).trans x1
  have y2 : w6.cell? ⟨w5.heap.size, 0, none⟩ = some (.int .i64 0) := (hb6.cell (p := ⟨w5.heap.size, 0, none⟩) hyl).trans y0
  have hl6 := hb6.size
  have HB6 := aside (below_tr HBV.out hb6)
  have S1 := sum_any none [] 0 w6 (fun h => absurd rfl h) (by decide)
  rw [fnv0_none] at S1
  have HS1 := aside S1
  clear hb6 x1 y0 F7 HBV S1
  go_wp2_with fail
  refine HS1.out.mono ?_
  rintro e w' ⟨rfl, rfl⟩
  have hB7 := below_al w' (.cells #[.int .u8 97] 5 (1, 2))
  have S2 := sum_any (some ⟨w'.heap.size, 0, none⟩) [97] 1 (w'.alloc (.cells #[.int .u8 97] 5 (1, 2))) (fun _ => ⟨_, rfl, cells_lit (cs := bcells [97]) (heap_alloc_new w' (.cells #[.int .u8 97] 5 (1, 2)))⟩) (by decide)
  rw [fnv0_a] at S2
  have HS2 := aside S2
  have x3 : (w'.alloc (.cells #[.int .u8 97] 5 (1, 2))).cell? ⟨w4.heap.size, 0, none⟩ = some (.int .i64 100) := (hB7.cell (p := ⟨w4.heap.size, 0, none⟩) (Nat.lt_of_lt_of_le hxl2 hl6)).trans x2
  have y3 : (w'.alloc (.cells #[.int .u8 97] 5 (1, 2))).cell? ⟨w5.heap.size, 0, none⟩ = some (.int .i64 0) := (hB7.cell (p := ⟨w5.heap.size, 0, none⟩) (Nat.lt_of_lt_of_le hyl hl6)).trans y2
  have HB7 := aside (below_tr HB6.out hB7)
  clear S2 HS1 HB6 hB7 x2 y2
  go_wp2_with fail
  refine HS2.out.mono ?_
  rintro e w' ⟨rfl, rfl⟩
  go_wp2_with fail
  go_ret
  exact ⟨rfl, below_tr HB2.out HB7.out⟩
end Go.Proofs.Ytoagjgcpgpjjeaa
