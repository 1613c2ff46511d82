/- Made; a handle over the statements' own file: its size. -/
import Derived.Test.YtamngnndodjcoabGreatFac
import Derived.Laws.BitsAll
namespace Go.Proofs.YtamngnndodjcoabGreat
open Go.RowKit

theorem Byt.wide {w : World} {hi hi' b : Nat} {l : List UInt8} (h : Byt w hi b l) (h1 : hi ≤ hi') (h2 : hi' ≤ w.heap.size) : Byt w hi' b l := by
  obtain ⟨lv, k1, k2⟩ := h.con
  have := h.lb
  refine ⟨by omega, h2, h.bd, lv, k1, ?_⟩
  rcases k2 with k2 | ⟨h0, g, cap, q, cap2, e, hg, hq, r⟩
  · exact .inl k2
  · exact .inr ⟨h0, g, cap, q, cap2, e, by omega, by omega, r⟩

structure My (w : World) (mo : Nat) (l : List UInt8) : Prop where
  parts : ∃ fo pl b asked no calls, w.heap[mo]? = some (.cells #[Pt fo, .int .i64 asked] 53 (0, 0)) ∧ w.heap[fo]? = some (.cells #[Pt pl, no, .int .i64 calls] 95 (0, 0)) ∧ w.heap[pl]? = some (.cells #[Pt b, .int .u8 15] 93 (0, 0)) ∧ fo < mo ∧ pl < mo ∧ Byt w mo b l
theorem My.lt {w : World} {mo : Nat} {l : List UInt8} (h : My w mo l) : mo < w.heap.size := by
  obtain ⟨fo, pl, b, asked, no, calls, h1, -⟩ := h.parts
  exact (Array.getElem?_eq_some_iff.1 h1).1
theorem My.upd {w w' : World} {mo : Nat} {l : List UInt8} {F : Nat → Prop} (h : My w mo l) (u : Upd F w w') (hF : ∀ k, k ≤ mo → ¬ F k) : My w' mo l := by
  have hlt := h.lt
  obtain ⟨fo, pl, b, asked, no, calls, h1, h2, h3, h4, h5, h6⟩ := h.parts
  exact ⟨fo, pl, b, asked, no, calls, (u.block _ hlt (hF _ (Nat.le_refl _))).trans h1, (u.block _ (by omega) (hF _ (by omega))).trans h2, (u.block _ (by omega) (hF _ (by omega))).trans h3, h4, h5, h6.upd u (fun k hk => hF k (by omega))⟩
theorem My.below {w w' : World} {mo : Nat} {l : List UInt8} (h : My w mo l) (u : Below w.heap.size w w') : My w' mo l := h.upd (Upd.of_below (F := fun _ => False) u) (fun _ _ h => h)
theorem My.asked {w : World} {mo : Nat} {l : List UInt8} (h : My w mo l) (n : Int) : My (w.setCell ⟨mo, 1, none⟩ (.int .i64 n)) mo l := by
  have hlt := h.lt
  obtain ⟨fo, pl, b, asked, no, calls, h1, h2, h3, h4, h5, h6⟩ := h.parts
  have u : Upd (fun k => k = mo) w (w.setCell ⟨mo, 1, none⟩ (.int .i64 n)) := Upd.setCell (F := fun k => k = mo) (p := ⟨mo, 1, none⟩) rfl _
  refine ⟨fo, pl, b, n, no, calls, ?_, set_far h2 (by omega), set_far h3 (by omega), h4, h5, h6.upd u (fun k hk e => by have e : k = mo := e; omega)⟩
  have := set_same (i := 1) (v := .int .i64 n) h1
  simpa using this

structure Hn (w : World) (hb mo : Nat) (l : List UInt8) : Prop where
  han : ∃ fb, mo < fb ∧ AllT 22 w hb fb ⟨mo, 0, none⟩
  lt : mo < hb
  my : My w mo l
theorem Hn.upd {w w' : World} {hb mo : Nat} {l : List UInt8} {F : Nat → Prop} (h : Hn w hb mo l) (u : Upd F w w') (hF : ∀ k, k < w.heap.size → ¬ F k) : Hn w' hb mo l := by
  obtain ⟨fb, h1, h2⟩ := h.han
  have hl := h.my.lt
  exact ⟨⟨fb, h1, h2.upd u (hF _ (Array.getElem?_eq_some_iff.1 h2.han).1) (hF _ (Array.getElem?_eq_some_iff.1 h2.fil).1)⟩, h.lt, h.my.upd u (fun k hk => hF k (by omega))⟩
theorem Hn.below {w w' : World} {hb mo : Nat} {l : List UInt8} (h : Hn w hb mo l) (u : Below w.heap.size w w') : Hn w' hb mo l := h.upd (Upd.of_below (F := fun _ => False) u) (fun _ _ h => h)
set_option maxRecDepth 20000 in
set_option maxHeartbeats 1000000 in
theorem new3_any (ba : Option Addr) (l : List UInt8) (c : Nat) (no : Value) (w : World) (hs : BsAt w ba l) (hl : l.length ≤ 4194304) (hno : no = .slice none 0 0) :
    Calls Tryz.prog 19 #[.slice ba l.length c, .int .u8 15, no] w fun e w' => ∃ fo pl b, e = .returned (Pt fo) ∧ w.heap.size ≤ fo ∧ w'.heap[fo]? = some (.cells #[Pt pl, no, .int .i64 0] 95 (0, 0)) ∧ w'.heap[pl]? = some (.cells #[Pt b, .int .u8 15] 93 (0, 0)) ∧ Byt w' w'.heap.size b l ∧ Below w.heap.size w w' := by
  have AS := aside (new1_any ba l c w hs hl)
  subst hno
  clear hs
  go_enter Tryz.func19, Tryz.ntmps19
  go_wp2_with fail
  refine AS.out.mono ?_
  rintro e w1 ⟨b, rfl, hb, hB, hb1⟩
  have AB := aside hB
  have AB1 := aside hb1
  clear hB hb1
  go_wp2_with fail
  go_ret
  have hs1 := AB1.out.size
  refine ⟨_, w1.heap.size, b, rfl, by omega, by simpa using heap_alloc2_new w1 _ _, ?_, ?_, below_tr (below_tr AB1.out (below_al _ _)) (below_al _ _)⟩
  · rw [(below_al _ _).block _ (by simp)]; exact heap_alloc_new w1 _
  · exact Byt.wide (Byt.below (Byt.below AB.out (below_al _ _)) (below_al _ _)) (by simp; omega) (Nat.le_refl _)

set_option maxRecDepth 20000 in
set_option maxHeartbeats 1000000 in
theorem over_all (mo : Nat) (w : World) : Calls Tryz.prog 20 #[Pt mo, .int .u8 15] w fun e w' => ∃ hb fb, e = .returned (Pt hb) ∧ w.heap.size ≤ hb ∧ w.heap.size ≤ fb ∧ AllT 22 w' hb fb ⟨mo, 0, none⟩ ∧ Below w.heap.size w w' := by
  have b1 : ∀ w, (binOp .and 5 (.int .u8 15) (.int .u8 1)).run Tryz.prog w = .ok (.int .u8 1) w := fun w => by kernel_rfl
  have b2 : ∀ w, (binOp .and 5 (.int .u8 15) (.int .u8 2)).run Tryz.prog w = .ok (.int .u8 2) w := fun w => by kernel_rfl
  have b3 : ∀ w, (binOp .and 5 (.int .u8 15) (.int .u8 4)).run Tryz.prog w = .ok (.int .u8 4) w := fun w => by kernel_rfl
  have b4 : ∀ w, (binOp .and 5 (.int .u8 15) (.int .u8 8)).run Tryz.prog w = .ok (.int .u8 8) w := fun w => by kernel_rfl
  go_enter Tryz.func20, Tryz.ntmps20
  go_wp2_with fail
  refine (make_allT 22 ⟨mo, 0, none⟩ _).mono ?_
  rintro e w1 ⟨hb, fb, rfl, h1, h2, h3, h4, h5⟩
  go_wp2_with fail
  go_ret
  exact ⟨hb, fb, rfl, h1, h2, ⟨h3, h4⟩, h5⟩

set_option maxRecDepth 20000 in
set_option maxHeartbeats 1000000 in
theorem made_any (ba : Option Addr) (l : List UInt8) (c : Nat) (w : World) (hs : BsAt w ba l) (hl : l.length ≤ 4194304) :
    Calls Tryz.prog 4 #[.slice ba l.length c, .int .u8 15, .slice none 0 0] w fun e w' => ∃ mo hb, e = .returned (.tuple #[Pt mo, Pt hb]) ∧ w.heap.size ≤ mo ∧ Hn w' hb mo l ∧ Below w.heap.size w w' := by
  have b1 : ∀ w, (binOp .and 5 (.int .u8 15) (.int .u8 15)).run Tryz.prog w = .ok (.int .u8 15) w := fun w => by kernel_rfl
  have AS := aside (new3_any ba l c _ w hs hl rfl)
  clear hs
  go_enter Tryz.func4, Tryz.ntmps4
  go_wp2_with fail
  refine AS.out.mono ?_
  rintro e w1 ⟨fo, pl, b, rfl, hf, h1, h2, h3, hb1⟩
  have A1 := aside h1
  have A2 := aside h2
  have A3 := aside h3
  have AB1 := aside hb1
  clear h1 h2 h3 hb1
  go_wp2_with fail
  obtain ⟨W, hW⟩ : ∃ W, W = w1.alloc (.cells #[Pt fo, .int .i64 0] 53) := ⟨_, rfl⟩
  rw [← hW]
  have hBW : Below w1.heap.size w1 W := by rw [hW]; exact below_al w1 _
  have hmy : My W w1.heap.size l := ⟨fo, pl, b, 0, _, 0, by rw [hW]; exact heap_alloc_new w1 _, (hBW.block _ (Array.getElem?_eq_some_iff.1 A1.out).1).trans A1.out, (hBW.block _ (Array.getElem?_eq_some_iff.1 A2.out).1).trans A2.out, (Array.getElem?_eq_some_iff.1 A1.out).1, (Array.getElem?_eq_some_iff.1 A2.out).1, A3.out.below hBW⟩
  have hs1 := AB1.out.size
  have hlm := hmy.lt
  clear hW
  refine (over_all w1.heap.size W).mono ?_
  rintro e w2 ⟨hb, fb, rfl, k1, k2, k3, k4⟩
  have AK := aside k3
  have AB4 := aside k4
  clear k3 k4
  go_wp2_with fail
  go_ret2
  exact ⟨w1.heap.size, hb, rfl, hs1, ⟨⟨fb, by omega, AK.out⟩, by omega, hmy.below AB4.out⟩, below_tr (below_tr AB1.out hBW) AB4.out⟩

theorem meth_Size (w : World) (fb : Nat) (m : Addr) (h : w.cell? ⟨fb, 0, none⟩ = some (J 22 m)) : (method 347 175 (Pt fb) "Size").run Tryz.prog w = .ok (91, .pointer (some m)) w :=
  (method_up (n := 346) (st := 177) (ix := 0) (ft := 115) (off := 0) (by kernel_rfl) (by kernel_rfl) (up_size 115 (by kernel_rfl) w) (up_agg 115 Tryz.underlying115 w) (by simpa [Addr.add] using h)).trans (by kernel_rfl)
theorem meth_ReadAt (w : World) (fb : Nat) (m : Addr) (h : w.cell? ⟨fb, 0, none⟩ = some (J 22 m)) : (method 347 175 (Pt fb) "ReadAt").run Tryz.prog w = .ok (113, .pointer (some m)) w :=
  (method_up (n := 346) (st := 177) (ix := 0) (ft := 115) (off := 0) (by kernel_rfl) (by kernel_rfl) (up_size 115 (by kernel_rfl) w) (up_agg 115 Tryz.underlying115 w) (by simpa [Addr.add] using h)).trans (by kernel_rfl)

set_option maxRecDepth 20000 in
theorem fsize_any (fo pl b : Nat) (n : Int) (w : World) (d1 : w.cell? ⟨fo, 0, none⟩ = some (Pt pl)) (d2 : w.cell? ⟨pl, 0, none⟩ = some (Pt b)) (d3 : w.cell? ⟨b, 1, none⟩ = some (.int .i64 n)) : Calls Tryz.prog 103 #[Pt fo] w fun e w' => e = .returned (.int .i64 n) ∧ w' = w := by
  go_enter Tryz.func103, Tryz.ntmps103
  go_wp2
  go_ret
  exact ⟨rfl, rfl⟩

set_option maxRecDepth 20000 in
set_option maxHeartbeats 1000000 in
theorem msize_any (mo : Nat) (l : List UInt8) (w : World) (h : My w mo l) : Calls Tryz.prog 91 #[Pt mo] w fun e w' => e = .returned (.int .i64 (l.length : Int)) ∧ My w' mo l ∧ Upd (fun k => k = mo) w w' := by
  obtain ⟨fo, pl, b, asked, no, calls, h1, h2, h3, h4, h5, h6⟩ := h.parts
  obtain ⟨lv, hB, -⟩ := h6.con
  have hlb := h6.lb
  have c1 : w.cell? ⟨mo, 1, none⟩ = some (.int .i64 asked) := by rw [cell_of_row w mo 1 _ _ _ h1]; rfl
  have f1 := frozen_of_row w mo 1 _ _ h1
  have hA : ∀ n, Aside (My (w.setCell ⟨mo, 1, none⟩ (.int .i64 n)) mo l) := fun n => h.asked n
  have hcells : ∀ n, (w.setCell ⟨mo, 1, none⟩ (.int .i64 n)).cell? ⟨mo, 0, none⟩ = some (Pt fo) ∧ (w.setCell ⟨mo, 1, none⟩ (.int .i64 n)).cell? ⟨fo, 0, none⟩ = some (Pt pl) ∧ (w.setCell ⟨mo, 1, none⟩ (.int .i64 n)).cell? ⟨pl, 0, none⟩ = some (Pt b) ∧ (w.setCell ⟨mo, 1, none⟩ (.int .i64 n)).cell? ⟨b, 1, none⟩ = some (.int .i64 (l.length : Int)) := fun n => by
    have k1 := set_same (i := 1) (v := .int .i64 n) h1
    refine ⟨by rw [cell_of_row _ mo 0 _ _ _ k1]; rfl, by rw [cell_of_row _ fo 0 _ _ _ (set_far h2 (by omega))]; rfl, by rw [cell_of_row _ pl 0 _ _ _ (set_far h3 (by omega))]; rfl, by rw [cell_of_row _ b 1 _ _ _ (set_far hB (by omega))]; rfl⟩
  obtain ⟨d0, d1, d2, d3⟩ := hcells (wrap64 (asked + 1))
  have c0 : w.cell? ⟨mo, 0, none⟩ = some (Pt fo) := by rw [cell_of_row w mo 0 _ _ _ h1]; rfl
  clear h1 h2 h3 h6 hB h hcells
  obtain ⟨X, hX⟩ : ∃ X, X = w.setCell ⟨mo, 1, none⟩ (.int .i64 (wrap64 (asked + 1))) := ⟨_, rfl⟩
  rw [← hX] at d0 d1 d2 d3
  go_enter Tryz.func91, Tryz.ntmps91
  go_wp2_with fail
  rw [← hX]
  have AX := hA (wrap64 (asked + 1))
  rw [← hX] at AX
  have hUX : Upd (fun k => k = mo) w X := by rw [hX]; exact Upd.setCell (F := fun k => k = mo) (p := ⟨mo, 1, none⟩) rfl _
  refine (fsize_any fo pl b _ X d1 d2 d3).mono ?_
  rintro e w2 ⟨rfl, hw2⟩
  subst hX
  rw [hw2]
  go_wp2_with fail
  go_ret
  exact ⟨rfl, AX.out, hUX⟩

/-- Told of a size. -/
abbrev toldN (n : Int) : Value := .agg #[.int .i64 0, .int .i64 n, .int .i64 0, .slice none 0 0]
abbrev opSize : Value := .agg #[.int .i8 0, .int .i64 0, .int .i64 0, .slice none 0 0]
set_option maxRecDepth 20000 in
theorem hfile_any (hb fb : Nat) (t : TypeId) (m : Addr) (w : World) (h : AllT t w hb fb m) : Calls Tryz.prog 101 #[Pt hb] w fun e w' => e = .returned (.iface 175 (Pt fb)) ∧ w' = w := by
  have c5 : w.cell? ⟨hb, 5, none⟩ = some (.iface 175 (Pt fb)) := by rw [cell_of_row w hb 5 _ _ _ h.han]; rfl
  clear h
  go_enter Tryz.func101, Tryz.ntmps101
  go_wp2
  go_ret
  exact ⟨rfl, rfl⟩

theorem Upd.setRow {F : Nat → Prop} (w : World) (g : Nat) (cs : Array Value) (hF : F g) : Upd F w (w.setRow g cs) :=
  ⟨rfl, rfl, rfl, by simp, fun k _ hk => setRow_other w g k cs (fun e => hk (e ▸ hF))⟩

set_option maxRecDepth 20000 in
set_option maxHeartbeats 2000000 in
theorem do_size (hb mo : Nat) (l : List UInt8) (w : World) (h : Hn w hb mo l) : Calls Tryz.prog 100 #[Pt hb, opSize] w fun e w' => e = .returned (toldN (l.length : Int)) ∧ Hn w' hb mo l ∧ Upd (fun k => k = mo) w w' := by
  obtain ⟨W, hW⟩ : ∃ W, W = (w.alloc (.cells #[.int .i8 0, .int .i64 0, .int .i64 0, .slice none 0 0] 229)).alloc (.cells #[.int .i64 0, .int .i64 0, .int .i64 0, .slice none 0 0] 226) := ⟨_, rfl⟩
  have hB : Below w.heap.size w W := by rw [hW]; exact below_tr (below_al w _) (below_al _ _)
  have hT : W.heap[w.heap.size + 1]? = some (.cells #[.int .i64 0, .int .i64 0, .int .i64 0, .slice none 0 0] 226 (0, 0)) := by rw [hW]; exact heap_alloc2_new w _ _
  have HSZ := aside (show W.heap.size = w.heap.size + 2 by rw [hW]; simp)
  have o0 : W.cell? ⟨w.heap.size, 0, none⟩ = some (.int .i8 0) := by rw [hW]; go_simp
  have h' := h.below hB
  obtain ⟨fb, hmf, hA0⟩ := h.han
  have hfl := (Array.getElem?_eq_some_iff.1 hA0.fil).1
  have hhl := (Array.getElem?_eq_some_iff.1 hA0.han).1
  have hA := hA0.below hB
  have hlm := h.my.lt
  have hm := meth_Size W fb ⟨mo, 0, none⟩ hA.c0
  have F1 := aside (hfile_any hb fb _ _ W hA)
  have F2 := aside (msize_any mo l W h'.my)
  have AA := aside hA
  have HB := aside hB
  have HT := aside hT
  have hlt := h.lt
  clear h h' hB hT hA
  go_enter Tryz.func100, Tryz.ntmps100
  go_wp2_with fail
  rw [← hW]
  refine F1.out.mono ?_
  rintro e w' ⟨rfl, rfl⟩
  clear hW
  go_wp2_with fail
  refine F2.out.mono ?_
  rintro e w1 ⟨rfl, hmy1, hu1⟩
  have hsz := HSZ.out
  have HT1 : Aside (w1.heap[w.heap.size + 1]? = some (.cells #[.int .i64 0, .int .i64 0, .int .i64 0, .slice none 0 0] 226 (0, 0))) := (hu1.block _ (by omega) (fun e => by have e : w.heap.size + 1 = mo := e; omega)).trans HT.out
  have AMY := aside hmy1
  have AU := aside hu1
  clear hmy1 hu1
  go_wp2_with ((with_reducible refine wpList_store_row rfl 226 _ _ rfl (w.heap.size + 1) #[.int .i64 0, .int .i64 (l.length : Int), .int .i64 0, .slice none 0 0] ?_ ?_ 226 _ HT1.out ?_ ?_ ?_ ?_); kernel_rfl; kernel_rfl; kernel_rfl; kernel_rfl; kernel_rfl)
  refine bodyPost_ret (results_cell_row rfl _ _ (w.heap.size + 1) 226 _ (0, 0) _ rfl (setRow_heap w1 _ _ _ _ _ HT1.out) Tryz.underlying226 rfl (by kernel_rfl)) rfl ?_
  have uR : Upd (fun k => k = w.heap.size + 1) w1 (w1.setRow (w.heap.size + 1) #[.int .i64 0, .int .i64 (l.length : Int), .int .i64 0, .slice none 0 0]) := Upd.setRow _ _ _ rfl
  have hA1 := AA.out.upd AU.out (fun e => by have e : hb = mo := e; omega) (fun e => by have e : fb = mo := e; omega)
  refine ⟨rfl, ⟨⟨fb, hmf, hA1.upd uR (fun e => by have e : hb = w.heap.size + 1 := e; omega) (fun e => by have e : fb = w.heap.size + 1 := e; omega)⟩, hlt, AMY.out.upd uR (fun k hk e => by have e : k = w.heap.size + 1 := e; omega)⟩, ?_⟩
  exact (Upd.of_below HB.out).trans ((AU.out.mono (G := fun k => k = mo ∨ k = w.heap.size + 1) (fun _ _ h => .inl h)).trans (G := fun k => k = w.heap.size + 1) uR (fun _ _ h => .inr h)) (fun j hj h => h.elim id (fun e => by omega))
end Go.Proofs.YtamngnndodjcoabGreat
