/- Reads through a guard's handle by Do, with its grant there and gone; a sync that is refused. -/
import Derived.Test.YtleenkdlnmoepaaGrd3
namespace Go.Proofs.Ytleenkdlnmoepaa
open Go.RowKit Go.MapLit Go.ChangeMaps
attribute [local simp] lcells_nil readB_length bcells_length

theorem eg35 : ∀ args w, (callFunc 35 args).run Try.prog w = .ok (.enter 35 args) w := fun args w => by kernel_rfl

set_option maxRecDepth 20000 in
set_option maxHeartbeats 1000000 in
theorem gRead_gone (f d x y : Nat) (at_ n a : Int) (b : Bok) (w : World) (hG : Gd w f d x y) (hA : Ask2 w x y b.p a) (h : Bk w b) (hw : (Lit.int .i64 a).wf = true) (hl : lk b.L a = none) :
    Calls Try.prog 92 #[pt f, .int .i64 at_, .int .i64 n] w fun e w' => e = .returned (.tuple #[.slice none 0 0, .int .i64 6]) ∧ Below w.heap.size w w' := by
  have c0 := hG.cells.1
  have C := aside (ask_gone x y a 1 b w hA h hw hl)
  clear hG hA h hl
  go_enter Try.func92, Try.ntmps92
  go_wp2_with fail
  refine C.out.mono ?_
  rintro e w1 ⟨rfl, hb1⟩
  have HB := aside hb1
  clear hb1
  go_wp2_with fail
  go_ret2
  exact ⟨rfl, HB.out⟩
set_option maxRecDepth 20000 in
set_option maxHeartbeats 1000000 in
theorem gSync_right (f d x y : Nat) (a : Int) (b : Bok) (w : World) (hG : Gd w f d x y) (hA : Ask2 w x y b.p a) (h : Bk w b) (hw : (Lit.int .i64 a).wf = true) {g : Gr} (hl : lk b.L a = some g) (hr : g.r = 1) :
    Calls Try.prog 94 #[pt f] w fun e w' => e = .returned (.int .i64 170) ∧ Below w.heap.size w w' := by
  have c0 := hG.cells.1
  have C := aside (ask_right x y a 2 b w hA h hw hl (by decide) (by rw [hr]; decide))
  clear hG hA h hl
  go_enter Try.func94, Try.ntmps94
  go_wp2_with fail
  refine C.out.mono ?_
  rintro e w1 ⟨rfl, hb1⟩
  have HB := aside hb1
  clear hb1
  go_wp2_with fail
  go_ret
  exact ⟨rfl, HB.out⟩
set_option maxRecDepth 20000 in
set_option maxHeartbeats 1000000 in
theorem gRead_ok (f d x y m s sz : Nat) (lv : Value) (L : List Piece) (p n : Nat) (a : Int) (b : Bok) (w : World) (hG : Gd w f d x y) (hA : Ask2 w x y b.p a) (h : Bk w b) (hw : (Lit.int .i64 a).wf = true) {g : Gr} (hl : lk b.L a = some g) (hr : ¬ g.r &&& 1 = 0)
    (hD : w.cell? ⟨d, 0, none⟩ = some (I ⟨m, 0, none⟩)) (hF : Fil w m s) (hR : Rep w s sz lv L) (hx : p < sz) (hn : n ≤ 65536) (hn0 : 0 < n) :
    Calls Try.prog 92 #[pt f, .int .i64 p, .int .i64 n] w fun e w' => ∃ k g' cap, k = min n (min 65536 (sz - p)) ∧ e = .returned (.tuple #[.slice (some ⟨g', 0, none⟩) k cap, .int .i64 0]) ∧ w'.ownsRow 0 5 1 (.slice (some ⟨g', 0, none⟩) k cap) k (bcells (readB L p k)) ∧ Below w.heap.size w w' ∧ w.heap.size ≤ g' := by
  have c0 := hG.cells.1
  have C := aside (ask_ok x y a 1 b w hA h hw hl (by decide) hr)
  have HG := aside hG
  have HD := aside hD
  have HF := aside hF
  have HR := aside hR
  clear hG hA h hl hD hF hR
  go_enter Try.func92, Try.ntmps92
  go_wp2_with fail
  refine C.out.mono ?_
  rintro e w1 ⟨rfl, hb1⟩
  have HB := aside hb1
  have c1 := (HG.out.below hb1).cells.2.1
  have hme := meth15_ReadAt w1 d ⟨m, 0, none⟩ ((hb1.cell (World.block_lt_of_cell? w _ HD.out)).trans HD.out)
  have F2 := aside (fRead_any m s sz lv L p n w1 (HF.out.below hb1) (HR.out.below hb1) hx hn hn0)
  clear hb1
  go_wp2_with fail
  refine F2.out.mono ?_
  rintro e w2 ⟨k, hk, rfl, hrow, hb2⟩
  have HK := aside hk
  have hk0 : 0 < k := by omega
  have hk1 : k ≤ 65536 := by omega
  clear hk
  have F3 := aside (bclone_any ⟨w1.heap.size, 0, none⟩ (readB L p k) k w2 (by simp; omega) (by simp; omega) (fun j v hj => by rw [Addr.add_lit, Nat.zero_add, cell_of_row w2 w1.heap.size j _ _ _ hrow]; simpa using hj))
  rw [readB_length] at F3
  have HB2 := aside (below_tr HB.out hb2)
  clear hrow hb2
  go_wp2_with fail
  refine F3.out.mono ?_
  rintro e w3 ⟨g', cap, rfl, hg, hown, hb3⟩
  have HO := aside hown
  have HB3 := aside (below_tr HB2.out hb3)
  have HG' : Aside (w.heap.size ≤ g') := Nat.le_trans HB2.out.size hg
  clear hown hb3 hg
  go_wp2_with fail
  go_ret2
  exact ⟨k, g', cap, HK.out, rfl, HO.out, HB3.out, HG'.out⟩
end Go.Proofs.Ytleenkdlnmoepaa
