/- wakes: what the document says of a small directory. -/
import Derived.Test.YtamngnndodjcoabGreatLst2
import Derived.Lib.SlBytesConst
namespace Go.Proofs.YtamngnndodjcoabGreat
open Go.RowKit Go.Maps Go.Shelf

abbrev sA : ByteArray := ⟨#[97]⟩
theorem okA : nameOk sA = true := by rw [nameOk, Lib.toList_data]; decide
theorem abc_bytes {W : World} {b : Nat} {T : TypeId} {f : Nat × Nat} (h : W.heap[b]? = some (.cells #[.int .u8 97, .int .u8 98, .int .u8 99] T f)) : BsAt W (some ⟨b, 0, none⟩) [97, 98, 99] := fun _ => ⟨_, rfl, fun j v hj => by
  rw [Addr.add_lit, Nat.zero_add, cell_of_row W b j _ _ _ h]
  match j, hj with
  | 0, hj => simpa [bcells] using hj
  | 1, hj => simpa [bcells] using hj
  | 2, hj => simpa [bcells] using hj
  | (j + 3), hj => simp [bcells] at hj⟩
theorem Hn.keep {w w' : World} {hb mo : Nat} {l : List UInt8} {F : Nat → Prop} {B : Nat} (h : Hn w hb mo l) (hB : w.heap.size ≤ B) {W : World} (hW : Below w.heap.size w W) (u : Upd F W w') (hF : ∀ k, F k → B ≤ k) : Hn w' hb mo l := by
  obtain ⟨fb, k1, k2⟩ := h.han
  have e1 := (Array.getElem?_eq_some_iff.1 k2.han).1
  have e2 := (Array.getElem?_eq_some_iff.1 k2.fil).1
  have e3 := h.my.lt
  have k3 := k2.below hW
  exact ⟨⟨fb, k1, k3.upd u (fun e => by have := hF _ e; omega) (fun e => by have := hF _ e; omega)⟩, h.lt, (h.my.below hW).upd u (fun k hk e => by have := hF _ e; omega)⟩

theorem rc_a0 (db : Nat) : rcode sA [] none [db] 0 = 0 := by
  unfold rcode
  rw [if_neg (by rw [okA]; decide), if_neg (by simp [lk]), if_neg (by simp)]
  rfl
theorem lk_one (s : ByteArray) (v : Value) : lk [(s, v)] s = some v := by unfold lk; rw [if_pos rfl]
theorem rc_a1 (db : Nat) (v : Value) (x : Option (Nat × Bool)) (hh : Nat) : rcode sA [(sA, v)] x [db] hh = 191 := by
  unfold rcode
  rw [if_neg (by rw [okA]; decide), if_pos (by rw [lk_one]; rfl)]
theorem sort_one (s : ByteArray) (v : Value) : ∀ ss : List (List UInt8), ss.Perm ([(s, v)].map fun p => p.1.data.toList) → (ss.mergeSort (fun x y => decide (x ≤ y))) = [s].map (fun s => s.data.toList) := fun ss h => by
  have : ss = [s.data.toList] := List.perm_singleton.1 h
  subst this
  simp

set_option maxRecDepth 20000 in
set_option maxHeartbeats 8000000 in
theorem wakes_any (w : World) : Calls Tryz.prog 18 #[] w fun e w' => e = .returned (.bool true) ∧ Below w.heap.size w w' := by
  have hcv := fun (w : World) (C : Array Value) (n c : Nat) => Lib.run_convert_bytes_const (P := Tryz.prog) w 26 5 C n c Tryz.underlying26 Tryz.underlying5
  go_enter Tryz.func18, Tryz.ntmps18
  go_wp2_with fail
  obtain ⟨W0, hW0⟩ : ∃ W0, W0 = w.alloc (.cells #[.int .u8 97, .int .u8 98, .int .u8 99] 5 (3, 4)) := ⟨_, rfl⟩
  have hb0 : W0.heap[w.heap.size]? = some (.cells #[.int .u8 97, .int .u8 98, .int .u8 99] 5 (3, 4)) := by rw [hW0]; exact heap_alloc_new w _
  have B0 : Below w.heap.size w W0 := by rw [hW0]; exact below_al w _
  rw [← hW0]
  clear hW0
  refine (made_any (some ⟨w.heap.size, 0, none⟩) [97, 98, 99] 3 W0 (abc_bytes hb0) (by decide)).mono ?_
  rintro e w1 ⟨mo, h, rfl, hmo, hH1, b1⟩
  have AH1 := aside hH1
  have B1 := aside (below_tr B0 b1)
  have SB0 := B0.size
  clear hH1 hb0 B0
  go_wp2_with fail
  refine (dir_new w1).mono ?_
  rintro e w2 ⟨nb, db, mb, rfl, hnb, hdb, hmb, hD2, b2⟩
  have AD2 := aside hD2
  have B12 := aside b2
  have B2 := aside (below_tr B1.out b2)
  have S2 := b2.size
  clear hD2 b2
  go_wp2_with fail
  refine (file_new h w2).mono ?_
  rintro e w3 ⟨f, ff, rfl, hf, hff, hF3, b3⟩
  have AF3 := aside hF3
  have AD3 := aside (AD2.out.below b3)
  have B13 := aside (below_tr B12.out b3)
  have B3 := aside (below_tr B2.out b3)
  have S3 := b3.size
  clear hF3 b3
  go_wp2_with fail
  refine (add_other nb db mb _ [] [] sA f ff _ w3 AD3.out Up.nil (by simp) AF3.out.nod (.inl rfl) (by simp) (rc_a0 db)).mono ?_
  rintro e w4 ⟨rfl, hD4, u4⟩
  have S4 := u4.size
  have hmbl := AD2.out.lm
  have AD4 := aside hD4
  have AF4 := aside (AF3.out.upd u4 (fun e => by have e : f = mb := e; omega) (fun e => by have e : ff = mb := e; omega))
  have AH4 := aside (AH1.out.keep (Nat.le_refl _) B13.out u4 (fun k e => by have e : k = mb := e; omega))
  have S0 := B1.out.size
  have B4 : Aside (Below w.heap.size w w4) := B3.out.trans (u4.below (by omega) (fun k e => by have e : k = mb := e; omega))
  clear hD4 u4 AD3 AF3
  go_wp2_with fail
  refine (dir_new w4).mono ?_
  rintro e w5 ⟨n2, d2, m2, rfl, hn2, hd2, hm2, hD5, b5⟩
  have AE5 := aside hD5
  have AD5 := aside (AD4.out.below b5)
  have AF5 := aside (AF4.out.below b5)
  have AH5 := aside (AH4.out.below b5)
  have B5 := aside (below_tr B4.out b5)
  have AT5 : Aside (Ht w5 (Pt n2) 0) := ht_dir n2 d2 m2 _ [] (fun _ => 0) w5 hD5 (fun p hp => by simp at hp)
  clear hD5 b5
  go_wp2_with fail
  refine (add_no nb db mb _ [(sA, Pt f)] [] sA n2 _ 0 191 w5 AD5.out Up.nil (by simp) (.free d2 m2 [] AE5.out) AT5.out (by omega) (by simp) (rc_a1 db _ _ _) (by omega)).mono ?_
  rintro e w6 ⟨rfl, b6⟩
  have AD6 := aside (AD5.out.below b6)
  have AF6 := aside (AF5.out.below b6)
  have AH6 := aside (AH5.out.below b6)
  have B6 := aside (below_tr B5.out b6)
  have S6 := b6.size
  clear b6 AE5 AT5 AD5 AF5 AH5
  go_wp2_with fail
  refine (get_yes nb db mb _ [(sA, Pt f)] sA (Pt f) w6 AD6.out (lk_one _ _)).mono ?_
  rintro e w6 ⟨rfl, rfl⟩
  go_wp2_with fail
  refine (list_any nb db mb h mo [97, 98, 99] _ [(sA, Pt f)] [sA] (fun _ => 0) (fun _ => 3) w6 AD6.out AH6.out (fun p hp => by
    simp only [List.mem_singleton] at hp; subst hp; exact .file f ff AF6.out) (by simp) (fun nm hm => by
    simp only [List.mem_singleton] at hm; subst hm; exact ⟨_, lk_one _ _⟩) (sort_one sA _)).mono ?_
  rintro e w7 ⟨v, rfl, hrow, hH7, u7⟩
  have hM6 := AH6.out.my
  obtain ⟨es6, c6, hmp6, -⟩ := AD6.out.map
  have AF7 := aside (AF6.out.upd u7 (hM6.far AF6.out.nod (by decide)) (hM6.far AF6.out.fil (by decide)))
  have AD7 := aside (AD6.out.upd u7 (hM6.far AD6.out.nod (by decide)) (hM6.far AD6.out.dir (by decide)) (hM6.farM hmp6))
  have AH7 := aside hH7
  have B7 : Aside (Below w.heap.size w w7) := B6.out.trans (u7.below B6.out.size (fun k e => by have e : k = mo := e; omega))
  obtain ⟨gv, cv, rfl, hg0, hg1, hg2⟩ : ∃ gv cv, v = .slice (some ⟨gv, 0, none⟩) 1 cv ∧ w7.cell? ⟨gv, 0, none⟩ = some (.string sA) ∧ w7.cell? ⟨gv, 1, none⟩ = some (.int .i8 0) ∧ w7.cell? ⟨gv, 2, none⟩ = some (.int .i64 3) := by
    rcases hrow.2 with ⟨-, h0⟩ | ⟨gv, cv, cur, rfl, -⟩
    · simp at h0
    · refine ⟨gv, cv, rfl, ?_, ?_, ?_⟩
      · have := hrow.cells rfl 0 _ rfl; simpa [Addr.add_lit] using this
      · have := hrow.cells rfl 1 _ rfl; simpa [Addr.add_lit] using this
      · have := hrow.cells rfl 2 _ rfl; simpa [Addr.add_lit] using this
  clear hrow hH7 u7 hmp6 hM6 AD6 AF6 AH6 B6
  go_wp2_with fail
  refine (open_file f ff h w7 AF7.out).mono ?_
  rintro e w7 ⟨rfl, rfl⟩
  have q1 := eq_node (w := w7) AF7.out.nod AF7.out.nod
  obtain ⟨fbh, -, hA7⟩ := AH7.out.han
  have q2 := eq_handle (w := w7) hA7.han hA7.han
  rw [decide_eq_true rfl] at q1 q2
  have q3 : ∀ w, (binOp .eql 41 (.agg #[.string sA, .int .i8 0, .int .i64 3]) (.agg #[.string sA, .int .i8 0, .int .i64 3])).run Tryz.prog w = .ok (.bool true) w := fun w => by kernel_rfl
  have q4 : ∀ w, (Instr.build 41 #[(0, .string sA), (2, .int .i64 3)]).run Tryz.prog w = .ok (.agg #[.string sA, .int .i8 0, .int .i64 3]) w := fun w => run_build w 41 _ _ (by kernel_rfl)
  clear hA7
  go_wp2_with fail
  refine (kind_dir nb db w7 AD7.out.nod).mono ?_
  rintro e w7 ⟨rfl, rfl⟩
  go_wp2_with fail
  go_ret
  exact ⟨rfl, B7.out⟩
end Go.Proofs.YtamngnndodjcoabGreat
