/- What erase is made of: its two searches, the pieces it keeps, the append of one of them. -/
import Derived.Test.YtkekaljcbmkomaaPut
import Derived.Test.YtkekaljcbmkomaaMerge
namespace Go.Proofs.Ytkekaljcbmkomaa
open Go.RowKit
attribute [local simp] lcells_nil readB_length bcells_length
theorem erase_S (b : Nat) (lv : Value) (sz : Nat) (L : List Piece) (x y : Int) (w : World) (hI : Inv sz L) (bx by' : Nat) (cx : w.cell? ⟨bx, 0, none⟩ = some (.int .i64 x)) (cy : w.cell? ⟨by', 0, none⟩ = some (.int .i64 y)) (hl2 : w.cell? ⟨b, 2, none⟩ = some lv) (hrow : w.ownsRow 0 56 2 lv L.length (lcells L)) :
    (∀ W, Below w.heap.size w W → Calls Try.prog 39 #[.pointer (some ⟨b, 0, none⟩), .func (.func 48) #[] #[.pointer (some ⟨bx, 0, none⟩)]] W fun e w' => e = .returned (.int .i64 (L.findIdx (fun d => decide (x < d.fin)))) ∧ Below W.heap.size W w') ∧
    (∀ W, Below w.heap.size w W → Calls Try.prog 39 #[.pointer (some ⟨b, 0, none⟩), .func (.func 49) #[] #[.pointer (some ⟨by', 0, none⟩)]] W fun e w' => e = .returned (.int .i64 (L.findIdx (fun d => decide (y ≤ d.org)))) ∧ Below W.heap.size W w') := by
  have hlen := hI.len
  have hbx : bx < w.heap.size := World.block_lt_of_cell? w _ cx
  have hby : by' < w.heap.size := World.block_lt_of_cell? w _ cy
  have e48 : ∀ args w, (callFunc 48 args).run Try.prog w = .ok (.enter 48 args) w := enters_of Try.func48 (by kernel_rfl) rfl
  have e49 : ∀ args w, (callFunc 49 args).run Try.prog w = .ok (.enter 49 args) w := enters_of Try.func49 (by kernel_rfl) rfl
  have hbl : b < w.heap.size := World.block_lt_of_cell? w _ hl2
  refine ⟨fun W hW => ?_, fun W hW => ?_⟩
  · exact search_any 48 _ e48 b lv L (fun d => decide (x < d.fin)) W ((hW.cell hbl).trans hl2) (row_below hrow hW) (by omega)
      (fun d hd V hV => erase1_any d.org (some ⟨d.blk, 0, none⟩) d.bs.length d.cap bx x V (by omega) (by have := (hI.bd d hd).1; omega) (hI.bd d hd).2 (((below_tr hW hV).cell hbx).trans cx))
      (fun a c ha hc hac h => by have := (hI.so a c ha hc hac).2; simp at h ⊢; omega)
  · exact search_any 49 _ e49 b lv L (fun d => decide (y ≤ d.org)) W ((hW.cell hbl).trans hl2) (row_below hrow hW) (by omega)
      (fun d hd V hV => erase2_any d.org (some ⟨d.blk, 0, none⟩) d.bs.length d.cap by' y V (((below_tr hW hV).cell hby).trans cy))
      (fun a c ha hc hac h => by have := (hI.so a c ha hc hac).1; simp at h ⊢; omega)

set_option maxHeartbeats 400000 in
theorem eraseNone_any (b : Nat) (x y : Int) (w : World) (h : y ≤ x) : Calls Try.prog 37 #[.pointer (some ⟨b, 0, none⟩), .int .i64 x, .int .i64 y] w fun e w' => e = .returned (.tuple #[]) ∧ Below w.heap.size w w' := by
  go_enter Try.func37, Try.ntmps37
  go_wp2
  refine bodyPost_ret (results_none rfl _ _ _) rfl ?_
  exact ⟨rfl, (below_al w _).alloc (by simp) _⟩

theorem step_append_where {ops : Array Oper} {o : Oper} {a : Act} {w : World} {K : Act → World → Prop} {Q : Exit → Act → World → Prop} {E : Prop} (hgd : o.guard = none) (s x : Operand)
    (ho : o.op = .call { callee := .builtin .append, args := #[s, x], argTypes := #[48, 48] }) (v : Value) (n : Nat) (xs : List Value) (hs : a.eval s = v) (hown : w.ownsRow 0 56 2 v n xs) (hn : n ≤ 4)
    (vb c : Nat) (vs : List Value) (hx : a.eval x = .slice (some ⟨vb, 0, none⟩) 1 c) (hv : w.ownsRow 0 56 2 (.slice (some ⟨vb, 0, none⟩) 1 c) 1 vs) (h1 : ∀ u ∈ vs, u.oneCell' = true)
    (hK : ∀ v' w', w'.ownsRow 0 56 2 v' (n + 1) (xs ++ vs) → w.grownBy w' v.ownBlock → (v'.ownBlock = v.ownBlock ∨ ∃ k, v'.ownBlock = some k ∧ w.heap.size ≤ k) → (∃ a' c', v' = .slice a' (n + 1) c') → K (a.put o.dst v') w') :
    if Region.wanted o (yielded ops a.tmps) = true then Oper.wp Try.prog o a w K Q else E := by
  have hw : Region.wanted o (yielded ops a.tmps) = true := by simp [Region.wanted, hgd]
  rw [if_pos hw]
  have hvl := hv.1
  obtain ⟨v', w', hr, h2, h3, h4⟩ := run_append_where (P := Try.prog) w 48 o.type 56 (.agg #[.int .i64 0, .slice none 0 0]) 2 32 Try.underlying48 info56 rfl (by decide) v n xs hown ⟨vb, 0, none⟩ 1 c vs hvl (hv.cells (g := vb) rfl) h1 (by unfold maxLen; omega) (by omega) (by omega)
  unfold Oper.wp
  simp [execOp, ho, resolve, invoke, builtin, hs, hx, hr, Result.andThen]
  obtain ⟨a', c', e, -, -⟩ := row_form h2
  refine hK v' w' h2 h3 ?_ ⟨a', c', e⟩
  rcases h4 with ⟨e, -⟩ | ⟨e, -⟩
  · exact .inl e
  · exact .inr ⟨_, e, Nat.le_refl _⟩

theorem below_of_grown {w w' : World} {v : Value} (h : w.grownBy w' v.ownBlock) (hv : v.ownBlock = none := by rfl) : Below w.heap.size w w' := ⟨h.os, h.tape, h.output, h.size, fun k hk => h.block k hk (by rw [hv]; simp)⟩
theorem fit50s_any (g n cap : Nat) (l : List UInt8) (w : World) (hown : w.ownsRow 0 5 1 (.slice (some ⟨g, 0, none⟩) n cap) n (bcells l)) (hn : n ≤ 4294967296) :
    Calls Try.prog 50 #[.slice (some ⟨g, 0, none⟩) n cap] w fun e w' => ∃ g' cap', e = .returned (.slice (some ⟨g', 0, none⟩) n cap') ∧ w'.ownsRow 0 5 1 (.slice (some ⟨g', 0, none⟩) n cap') n (bcells l) ∧ Below w.heap.size w w' ∧ (g' = g ∨ w.heap.size ≤ g') := by
  refine (fit50_any _ n (bcells l) w hown hn (bcells_one _)).mono ?_
  rintro e w' ⟨v', rfl, ho, hb, hw⟩
  rcases hw with rfl | ⟨k, hk, hkw⟩
  · exact ⟨g, cap, rfl, ho, hb, .inl rfl⟩
  · rcases ho.2 with ⟨rfl, -⟩ | ⟨g', cap', cur, rfl, r⟩
    · simp [Value.ownBlock] at hk
    · simp only [Value.ownBlock, Option.some.injEq] at hk
      exact ⟨g', cap', rfl, ho, hb, .inr (by omega)⟩
theorem clone_drop (g q n cap m c : Nat) (l : List UInt8) (w : World) (hown : w.ownsRow 0 5 1 (.slice (some ⟨g, 0, none⟩) n cap) n (bcells l)) (hn : n ≤ 4294967296) (hq : q < n) (hm : m = n - q) :
    Calls Try.prog 26 #[.slice (some ⟨g, q, none⟩) m c] w fun e w' => ∃ g' cap', e = .returned (.slice (some ⟨g', 0, none⟩) m cap') ∧ w.heap.size ≤ g' ∧ w'.ownsRow 0 5 1 (.slice (some ⟨g', 0, none⟩) m cap') m (bcells (l.drop q)) ∧ Below w.heap.size w w' := by
  have hl := hown.1
  rw [bcells_length] at hl
  have hml : (l.drop q).length = m := by rw [List.length_drop]; omega
  have := clone_any ⟨g, q, none⟩ (l.drop q) c w (by omega) (by omega) (fun k u hk => by
    have hkl : k < (bcells (l.drop q)).length := (List.getElem?_eq_some_iff.1 hk).1
    rw [bcells_length, hml] at hkl
    rw [Addr.add_lit, hown.cellAt (q + k) (by omega), ← hk]
    simp only [bcells, List.getElem?_map, List.getElem?_drop])
  rw [hml] at this
  exact this
theorem row_take {w : World} {g n cap : Nat} {l : List UInt8} (h : w.ownsRow 0 5 1 (.slice (some ⟨g, 0, none⟩) n cap) n (bcells l)) (p : Nat) (hp : p ≤ n) (hn : n = l.length) : w.ownsRow 0 5 1 (.slice (some ⟨g, 0, none⟩) p cap) p (bcells (l.take p)) := by
  rcases h.2 with ⟨hbad, -⟩ | ⟨g', cap', cur, hgv, -, hgc, hg1, hg2, hg3, hg4⟩
  · simp at hbad
  · simp only [Value.slice.injEq, Option.some.injEq, Addr.mk.injEq, true_and, and_true] at hgv
    obtain ⟨rfl, rfl⟩ := hgv
    refine ⟨by simp; omega, .inr ⟨g, cap, cur, rfl, Nat.zero_le _, hgc, by omega, hg2, hg3, ?_⟩⟩
    rw [show bcells (l.take p) = (bcells l).take p by simp [bcells, List.map_take], ← hg4, List.take_take]; congr 1; omega

end Go.Proofs.Ytkekaljcbmkomaa
