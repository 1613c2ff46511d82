/- The table of package caps: its rows, and what a row's cells tell together. -/
import Derived.Test.YtniohiepnojjbaaDoorAsk
import Derived.Laws.Tables
import Derived.MapKept
import Derived.Laws.Rows
import Derived.Laws.CopyOwn
namespace Go.Proofs.YtniohiepnojjbaaDoor
open Go.RowKit

set_option maxHeartbeats 1000000 in
theorem all_mk (bit n : Nat) (w : World) (hb : bit < 256) (hn : n ≤ w.heap.size) :
    Calls Tryd.prog 50 #[.int .u8 (bit : Int)] w fun e w' => (∃ g cb, e = .returned (.func (.func g) #[] cb) ∧ ∀ m, Asks n w' m (.func (.func g) #[] cb) (fun bs => sharedN bs &&& bit != 0)) ∧ Below w.heap.size w w' := by
  go_enter Tryd.func50, Tryd.ntmps50
  go_wp2
  go_ret
  exact ⟨⟨_, _, rfl, fun m => all_asks n _ m bit _ hn (by go_simp) hb⟩, below_al _ _⟩

set_option maxHeartbeats 1000000 in
theorem has_mk (i bit n : Nat) (w : World) (hb : bit < 256) (hn : n ≤ w.heap.size) :
    Calls Tryd.prog 52 #[.int .i64 (i : Int), .int .u8 (bit : Int)] w fun e w' => (∃ g cb, e = .returned (.func (.func g) #[] cb) ∧ ∀ m, i < m → Asks n w' m (.func (.func g) #[] cb) (fun bs => bs.getD i 0 &&& bit != 0)) ∧ Below w.heap.size w w' := by
  go_enter Tryd.func52, Tryd.ntmps52
  go_wp2
  go_ret
  exact ⟨⟨_, _, rfl, fun m hm => has_asks n _ m i bit _ _ hn (by omega) (by go_simp) (by go_simp) hm hb⟩, below_tr (below_al _ _) (below_al _ _)⟩

set_option maxHeartbeats 1000000 in
theorem both_mk (n : Nat) (ga gb : Nat) (ca cc : Array Value) (w : World) (hn : n ≤ w.heap.size) :
    Calls Tryd.prog 51 #[.func (.func ga) #[] ca, .func (.func gb) #[] cc] w fun e w' => (∃ g cb, e = .returned (.func (.func g) #[] cb) ∧ ∀ m f h, Asks n w m (.func (.func ga) #[] ca) f → Asks n w m (.func (.func gb) #[] cc) h → Asks n w' m (.func (.func g) #[] cb) (fun bs => f bs && h bs)) ∧ Below w.heap.size w w' := by
  go_enter Tryd.func51, Tryd.ntmps51
  go_wp2
  go_ret
  have hb : Below w.heap.size w ((w.alloc (Obj.cells #[.func (.func ga) #[] ca] 67)).alloc (Obj.cells #[.func (.func gb) #[] cc] 67)) := below_tr (below_al _ _) (below_al _ _)
  exact ⟨⟨_, _, rfl, fun m f h ha hc => both_asks n _ m _ _ _ _ f h (ha.below hb) (hc.below hb) hn (by omega) (by go_simp) (by go_simp)⟩, hb⟩

set_option maxHeartbeats 1000000 in
theorem either_mk (n : Nat) (ga gb : Nat) (ca cc : Array Value) (w : World) (hn : n ≤ w.heap.size) :
    Calls Tryd.prog 54 #[.func (.func ga) #[] ca, .func (.func gb) #[] cc] w fun e w' => (∃ g cb, e = .returned (.func (.func g) #[] cb) ∧ ∀ m f h, Asks n w m (.func (.func ga) #[] ca) f → Asks n w m (.func (.func gb) #[] cc) h → Asks n w' m (.func (.func g) #[] cb) (fun bs => f bs || h bs)) ∧ Below w.heap.size w w' := by
  go_enter Tryd.func54, Tryd.ntmps54
  go_wp2
  go_ret
  have hb : Below w.heap.size w ((w.alloc (Obj.cells #[.func (.func ga) #[] ca] 67)).alloc (Obj.cells #[.func (.func gb) #[] cc] 67)) := below_tr (below_al _ _) (below_al _ _)
  exact ⟨⟨_, _, rfl, fun m f h ha hc => either_asks n _ m _ _ _ _ f h (ha.below hb) (hc.below hb) hn (by omega) (by go_simp) (by go_simp)⟩, hb⟩

theorem al_at (w : World) (o : Obj) : (w.alloc o).heap[w.heap.size]? = some o := (MapKept.heap_alloc w o).1

theorem wpList_build_to {P : Program} {ops : Array Oper} {rest : List Oper} {o : Oper} {a : Act} {w : World} {Q : Exit → Act → World → Prop} (hg : o.guard = none) (t : TypeId) (parts : Array (Nat × Operand)) (ho : o.op = .build t parts) (cells : Array Value)
    (hf : P.built t (parts.map fun (i, x) => (i, a.eval x)).toList = some cells) (h : wpList P ops Q rest (a.put o.dst (.agg cells)) w) : wpList P ops Q (o :: rest) a w :=
  wpList_build hg t parts ho (by rw [hf]; rfl) (by rw [hf]; exact h)

/-- The nine functions of the table's cells. -/
structure Cells (n : Nat) (w : World) (vW vC vH vS lg th es cc jc : Value) : Prop where
  W : ∀ m, Asks n w m vW (fun bs => sharedN bs &&& 1 != 0)
  C : ∀ m, Asks n w m vC (fun bs => sharedN bs &&& 2 != 0)
  H : ∀ m, Asks n w m vH (fun bs => sharedN bs &&& 4 != 0)
  S : ∀ m, Asks n w m vS (fun bs => sharedN bs &&& 8 != 0)
  lg : ∀ m, 1 < m → Asks n w m lg (fun bs => (sharedN bs &&& 1 != 0) && (bs.getD 1 0 &&& 2 != 0))
  th : ∀ m, 0 < m → Asks n w m th (fun bs => bs.getD 0 0 &&& 4 != 0)
  es : ∀ m, Asks n w m es (fun bs => (sharedN bs &&& 8 != 0) || (sharedN bs &&& 1 != 0))
  cc : ∀ m, Asks n w m cc (fun bs => (sharedN bs &&& 1 != 0) && (sharedN bs &&& 2 != 0))
  jc : ∀ m, 1 < m → Asks n w m jc (fun bs => ((sharedN bs &&& 1 != 0) && (bs.getD 1 0 &&& 2 != 0)) && (bs.getD 0 0 &&& 2 != 0))

theorem Cells.keeps {n : Nat} {w w' : World} {vW vC vH vS lg th es cc jc : Value} (h : Cells n w vW vC vH vS lg th es cc jc) (hb : Keeps n w w') : Cells n w' vW vC vH vS lg th es cc jc :=
  ⟨fun m => (h.W m).keeps hb, fun m => (h.C m).keeps hb, fun m => (h.H m).keeps hb, fun m => (h.S m).keeps hb, fun m hm => (h.lg m hm).keeps hb, fun m hm => (h.th m hm).keeps hb, fun m => (h.es m).keeps hb, fun m => (h.cc m).keeps hb, fun m hm => (h.jc m hm).keeps hb⟩

abbrev fv (g : Nat) (cb : Array Value) : Value := .func (.func g) #[] cb
abbrev noV : Value := .func (.func 53) #[] #[]

/-- The table's rows, as one flat value. -/
abbrev rowsA (vW vC vH vS lg th es cc jc : Value) : Array Value := #[.int .i64 1, .int .i64 1, vW, noV, vH, vS, .int .i64 1, .int .i64 64, vW, noV, vH, vS, .int .i64 2, .int .i64 2, vW, vC, th, vS,
      .int .i64 1, .int .i64 1, vW, vC, vH, vS, .int .i64 1, .int .i64 1, vW, vC, noV, es, .int .i64 2, .int .i64 2, vW, noV, noV, vS, .int .i64 1, .int .i64 1, noV, noV, noV, noV,
      .int .i64 1, .int .i64 1, vW, cc, noV, vS, .int .i64 2, .int .i64 2, lg, jc, noV, lg, .int .i64 1, .int .i64 1, vW, vC, vH, vS, .int .i64 1, .int .i64 1, noV, noV, vH, noV]

set_option maxHeartbeats 4000000 in
set_option maxRecDepth 100000 in
theorem table_any (w : World) :
    Calls Tryd.prog 43 #[] w fun e w' => (∃ gW gC gH gS gl gt ge gc gj cW cC cH cS cl ct ce cc cj, e = .returned (.agg (rowsA (fv gW cW) (fv gC cC) (fv gH cH) (fv gS cS) (fv gl cl) (fv gt ct) (fv ge ce) (fv gc cc) (fv gj cj))) ∧
      Cells (w.heap.size + 1) w' (fv gW cW) (fv gC cC) (fv gH cH) (fv gS cS) (fv gl cl) (fv gt ct) (fv ge ce) (fv gc cc) (fv gj cj)) ∧ Below w.heap.size w w' := by
  go_enter Tryd.func43, Tryd.ntmps43
  go_wp2_with fail
  refine (all_mk 1 (w.heap.size + 1) _ (by decide) (by simp)).mono ?_
  rintro e w1 ⟨⟨gW, cW, rfl, aW⟩, b1⟩
  have AW := aside aW
  obtain ⟨old, hold, z1⟩ : ∃ old : Array Value, old.size = 66 ∧ w1.heap[w.heap.size]? = some (.cells old 94 (0, 0)) := ⟨_, rfl, (b1.block w.heap.size (by simp)).trans (al_at _ _)⟩
  have n1 : w.heap.size + 1 ≤ w1.heap.size := by have := b1.size; simp at this; omega
  have Z1 := aside z1
  have B1 := aside (below_tr (below_al w _) b1)
  clear aW b1 z1
  go_wp2_with fail
  refine (all_mk 2 (w.heap.size + 1) _ (by decide) n1).mono ?_
  rintro e w2 ⟨⟨gC, cC, rfl, aC⟩, b2⟩
  have AC := aside aC
  have n2 := Nat.le_trans n1 b2.size
  have B2 := aside b2
  clear aC b2
  go_wp2_with fail
  refine (all_mk 4 (w.heap.size + 1) _ (by decide) n2).mono ?_
  rintro e w3 ⟨⟨gH, cH, rfl, aH⟩, b3⟩
  have AH := aside aH
  have n3 := Nat.le_trans n2 b3.size
  have B3 := aside b3
  clear aH b3
  go_wp2_with fail
  refine (all_mk 8 (w.heap.size + 1) _ (by decide) n3).mono ?_
  rintro e w4 ⟨⟨gS, cS, rfl, aS⟩, b4⟩
  have AS := aside aS
  have n4 := Nat.le_trans n3 b4.size
  have B4 := aside b4
  clear aS b4
  go_wp2_with fail
  refine (has_mk 1 2 (w.heap.size + 1) _ (by decide) n4).mono ?_
  rintro e w5 ⟨⟨g5, c5, rfl, a5⟩, b5⟩
  have A5 := aside a5
  have n5 := Nat.le_trans n4 b5.size
  have B5 := aside b5
  clear a5 b5
  go_wp2_with fail
  refine (both_mk (w.heap.size + 1) _ _ _ _ _ n5).mono ?_
  rintro e w6 ⟨⟨gl, cl, rfl, al⟩, b6⟩
  have AL := aside al
  have n6 := Nat.le_trans n5 b6.size
  have B6 := aside b6
  clear al b6
  go_wp2_with fail
  refine (has_mk 0 4 (w.heap.size + 1) _ (by decide) n6).mono ?_
  rintro e w7 ⟨⟨gt, ct, rfl, at'⟩, b7⟩
  have AT := aside at'
  have n7 := Nat.le_trans n6 b7.size
  have B7 := aside b7
  clear at' b7
  go_wp2_with fail
  refine (either_mk (w.heap.size + 1) _ _ _ _ _ n7).mono ?_
  rintro e w8 ⟨⟨ge, ce, rfl, ae⟩, b8⟩
  have AE := aside ae
  have n8 := Nat.le_trans n7 b8.size
  have B8 := aside b8
  clear ae b8
  go_wp2_with fail
  refine (both_mk (w.heap.size + 1) _ _ _ _ _ n8).mono ?_
  rintro e w9 ⟨⟨gc, cc, rfl, ac⟩, b9⟩
  have ACC := aside ac
  have n9 := Nat.le_trans n8 b9.size
  have B9 := aside b9
  clear ac b9
  go_wp2_with fail
  refine (has_mk 0 2 (w.heap.size + 1) _ (by decide) n9).mono ?_
  rintro e w10 ⟨⟨g10, c10, rfl, a10⟩, b10⟩
  have A10 := aside a10
  have n10 := Nat.le_trans n9 b10.size
  have B10 := aside b10
  clear a10 b10
  go_wp2_with fail
  refine (both_mk (w.heap.size + 1) _ _ _ _ _ n10).mono ?_
  rintro e w11 ⟨⟨gj, cj, rfl, aj⟩, b11⟩
  have AJ := aside aj
  have n11 := Nat.le_trans n10 b11.size
  have B11 := aside b11
  clear aj b11
  have z11 : w11.heap[w.heap.size]? = some (.cells old 94 (0, 0)) := by
    rw [B11.out.block _ (by omega), B10.out.block _ (by omega), B9.out.block _ (by omega), B8.out.block _ (by omega), B7.out.block _ (by omega), B6.out.block _ (by omega), B5.out.block _ (by omega), B4.out.block _ (by omega), B3.out.block _ (by omega), B2.out.block _ (by omega), Z1.out]
  have Z11 := aside z11
  have HO := aside hold
  clear z11 hold
  go_wp2_with ((with_reducible refine wpList_build_to rfl 94 _ rfl (rowsA (fv gW cW) (fv gC cC) (fv gH cH) (fv gS cS) (fv gl cl) (fv gt ct) (fv ge ce) (fv gc cc) (fv gj cj)) ?_ ?_); kernel_rfl; (with_reducible refine wpList_store_row rfl 94 _ _ rfl w.heap.size (rowsA (fv gW cW) (fv gC cC) (fv gH cH) (fv gS cS) (fv gl cl) (fv gt ct) (fv ge ce) (fv gc cc) (fv gj cj)) ?_ ?_ 94 old Z11.out ?_ ?_ ?_ ?_); kernel_rfl; kernel_rfl; kernel_rfl; exact HO.out; kernel_rfl)
  have b11 : Below w.heap.size w w11 := below_tr (below_tr (below_tr (below_tr (below_tr (below_tr (below_tr (below_tr (below_tr (below_tr B1.out B2.out) B3.out) B4.out) B5.out) B6.out) B7.out) B8.out) B9.out) B10.out) B11.out
  refine bodyPost_ret (results_cell_row (p := 0) (by kernel_rfl) _ _ w.heap.size 94 (rowsA (fv gW cW) (fv gC cC) (fv gH cH) (fv gS cS) (fv gl cl) (fv gt ct) (fv ge ce) (fv gc cc) (fv gj cj)) (0, 0) _ (by kernel_rfl) (setRow_heap _ _ old _ 94 _ Z11.out) Tryd.underlying94 rfl (by kernel_rfl)) rfl ?_
  have K11 : Keeps (w.heap.size + 1) w11 (w11.setRow w.heap.size (rowsA (fv gW cW) (fv gC cC) (fv gH cH) (fv gS cS) (fv gl cl) (fv gt ct) (fv ge ce) (fv gc cc) (fv gj cj))) :=
    ⟨by simp, fun k hk _ => setRow_other _ _ _ _ (by omega)⟩
  have K10 := (Keeps.of B11.out (w.heap.size + 1)).trans K11
  have K9 := (Keeps.of B10.out (w.heap.size + 1)).trans K10
  have K8 := (Keeps.of B9.out (w.heap.size + 1)).trans K9
  have K7 := (Keeps.of B8.out (w.heap.size + 1)).trans K8
  have K6 := (Keeps.of B7.out (w.heap.size + 1)).trans K7
  have K5 := (Keeps.of B6.out (w.heap.size + 1)).trans K6
  have K4 := (Keeps.of B5.out (w.heap.size + 1)).trans K5
  have K3 := (Keeps.of B4.out (w.heap.size + 1)).trans K4
  have K2 := (Keeps.of B3.out (w.heap.size + 1)).trans K3
  have K1 := (Keeps.of B2.out (w.heap.size + 1)).trans K2
  have W5 := fun m => (((((AW.out m).below B2.out).below B3.out).below B4.out).below B5.out)
  have W7 := fun m => ((W5 m).below B6.out).below B7.out
  have W8 := fun m => (W7 m).below B8.out
  have S7 := fun m => (((AS.out m).below B5.out).below B6.out).below B7.out
  have C8 := fun m => ((((((AC.out m).below B3.out).below B4.out).below B5.out).below B6.out).below B7.out).below B8.out
  have L6 := fun m (hm : 1 < m) => AL.out m _ _ (W5 m) (A5.out m hm)
  have L10 := fun m (hm : 1 < m) => ((((L6 m hm).below B7.out).below B8.out).below B9.out).below B10.out
  exact ⟨⟨_, _, _, _, _, _, _, _, _, _, _, _, _, _, _, _, _, _, rfl, fun m => (AW.out m).keeps K1, fun m => (AC.out m).keeps K2, fun m => (AH.out m).keeps K3, fun m => (AS.out m).keeps K4, fun m hm => (L6 m hm).keeps K6,
    fun m hm => (AT.out m hm).keeps K7, fun m => (AE.out m _ _ (S7 m) (W7 m)).keeps K8, fun m => (ACC.out m _ _ (W8 m) (C8 m)).keeps K9, fun m hm => (AJ.out m _ _ (L10 m hm) (A10.out m (by omega))).keeps K11⟩, below_setRow b11 (Nat.le_refl _) _⟩
end Go.Proofs.YtniohiepnojjbaaDoor
