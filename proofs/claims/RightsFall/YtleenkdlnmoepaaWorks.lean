/- works(): a few grants, a guard, a read through it, and one behind Back. -/
import Derived.Test.YtleenkdlnmoepaaGrdDo2
namespace Go.Proofs.Ytleenkdlnmoepaa
open Go.RowKit Go.MapLit Go.ChangeMaps
attribute [local simp] lcells_nil readB_length bcells_length

/-- A book that was made behind w0. -/
structure St (w0 w : World) (b : Bok) : Prop where
  bl : Below w0.heap.size w0 w
  bk : Bk w b
  nw : ∀ k, b.F k → w0.heap.size ≤ k
theorem St.next {w0 w w' : World} {b b' : Bok} (h : St w0 w b) (k : NxB w w' b b') : St w0 w' b' :=
  ⟨h.bl.trans (k.upd.below h.bl.size h.nw), k.bk, fun j hj => h.nw j ((k.F j).1 hj)⟩
theorem St.below {w0 w w' : World} {b : Bok} (h : St w0 w b) (k : Below w.heap.size w w') : St w0 w' b := ⟨below_tr h.bl k, h.bk.below k, h.nw⟩
theorem new_st (w : World) : Calls Try.prog 11 #[] w fun e w' => ∃ p mb, e = .returned (pt p) ∧ St w w' ⟨p, mb, 1, [⟨0, 63, 0⟩]⟩ := by
  refine (new_bk w).mono ?_
  rintro e w' ⟨⟨p, mb, made, L⟩, rfl, hB, rfl, rfl, hb, hF⟩
  exact ⟨p, mb, rfl, hb, hB, hF⟩
theorem own_cells {w : World} {g n cap : Nat} {l : List UInt8} (h : w.ownsRow 0 5 1 (.slice (some ⟨g, 0, none⟩) n cap) n (bcells l)) : ∀ j v, (bcells l)[j]? = some v → w.cell? ((⟨g, 0, none⟩ : Addr).add j) = some v := fun j v hj => by
  have hl := h.1
  have hjl : j < (bcells l).length := (List.getElem?_eq_some_iff.1 hj).1
  rw [Addr.add_lit, Nat.zero_add, h.cellAt j (by omega)]; exact hj
theorem give_st {w0 w : World} {p mb made : Nat} {L : List Gr} (h : St w0 w ⟨p, mb, made, L⟩) (a : Int) (r n e made' : Nat) (L' : List Gr) (hw : (Lit.int .i64 a).wf = true) (hr : r < 256) (h1 : giveN L made a r = n) (h2 : giveE L made a r = e) (h3 : giveM L made a r = made') (h4 : giveL L made a r = L') :
    Calls Try.prog 8 #[pt p, .int .i64 a, .int .u8 (r : Int)] w fun e' w' => e' = .returned (.tuple #[.int .i64 (n : Int), .int .i64 (e : Int)]) ∧ St w0 w' ⟨p, mb, made', L'⟩ := by
  subst h1 h2 h3 h4
  exact (give_any ⟨p, mb, made, L⟩ a r w h.bk hw hr).mono fun _ _ ⟨he, hn⟩ => ⟨he, h.next hn⟩
theorem back_st {w0 w : World} {p mb made : Nat} {L : List Gr} (h : St w0 w ⟨p, mb, made, L⟩) (a : Int) (n e : Nat) (L' : List Gr) (hw : (Lit.int .i64 a).wf = true) (h1 : backN L made a = n) (h2 : backE L a = e) (h4 : backL L made a = L') :
    Calls Try.prog 9 #[pt p, .int .i64 a] w fun e' w' => e' = .returned (.tuple #[.int .i64 (n : Int), .int .i64 (e : Int)]) ∧ St w0 w' ⟨p, mb, made, L'⟩ ∧ Upd (fun k => k = p ∨ k = mb) w w' := by
  subst h1 h2 h4
  exact (back_any ⟨p, mb, made, L⟩ a w h.bk hw).mono fun _ _ ⟨he, hn⟩ => ⟨he, h.next hn, hn.upd⟩

set_option maxRecDepth 20000 in
set_option maxHeartbeats 4000000 in
theorem works_any (w : World) : Calls Try.prog 14 #[] w fun e w' => e = .returned (.bool true) ∧ Below w.heap.size w w' := by
  have hcv := fun (w : World) (C : Array Value) (n c : Nat) => Lib.run_convert_bytes_const (P := Try.prog) w 41 5 C n c Try.underlying41 Try.underlying5
  have fE : ∀ (w : World), (Instr.field 54 (.agg #[.int .i64 6, .int .i64 0, .int .i64 0, .slice none 0 0]) 0).run Try.prog w = .ok (.int .i64 6) w := fun w => by kernel_rfl
  have hbo : ∀ w, (Instr.build 43 #[(0, .int .i8 1), (2, .int .i64 9)]).run Try.prog w = .ok (.agg #[.int .i8 1, .int .i64 0, .int .i64 9, .slice none 0 0]) w := fun w => run_build w 43 _ _ (by kernel_rfl)
  go_enter Try.func14, Try.ntmps14
  go_wp2_with fail
  refine (new_st w).mono ?_
  rintro e w1 ⟨p, mb, rfl, hS⟩
  have G1 := aside (give_st hS 0 3 1 0 2 [⟨0, 63, 0⟩, ⟨1, 3, 0⟩] (by decide) (by decide) rfl rfl rfl rfl)
  clear hS
  go_wp2_with fail
  refine G1.out.mono ?_
  rintro e w2 ⟨rfl, hS⟩
  have G2 := aside (give_st hS 1 4 0 170 2 [⟨0, 63, 0⟩, ⟨1, 3, 0⟩] (by decide) (by decide) rfl rfl rfl rfl)
  clear hS G1
  go_wp2_with fail
  refine G2.out.mono ?_
  rintro e w3 ⟨rfl, hS⟩
  have HS3 := aside hS
  clear hS G2
  go_wp2_with fail
  refine (new_all w3.heap.size _ (heap_alloc_new w3 _)).mono ?_
  rintro e w4 ⟨hb, d, m, s, lv, g0, cap0, rfl, -, -, -, -, -, -, -, hA, hF, hR, hb4⟩
  have HS4 := aside (HS3.out.below (below_tr (below_al w3 _) hb4))
  have HA4 := aside hA
  have HF4 := aside hF
  have HR4 := aside hR
  have G3 := aside (guard_15 ⟨p, mb, 2, [⟨0, 63, 0⟩, ⟨1, 3, 0⟩]⟩ 1 hb d w4 HS4.out.bk (by decide) (g := ⟨1, 3, 0⟩) rfl rfl (han_cells hA.han).2.2.2.2.2)
  clear hA hF hR hb4 HS3
  go_wp2_with fail
  refine G3.out.mono ?_
  rintro e w5 ⟨hb', fb', f, x, y, rfl, h1, h2, h3, hb5, l1, l2, l3, l4, l5⟩
  have HS5 := aside (HS4.out.below hb5)
  have HL : Aside (p < w4.heap.size ∧ mb < w4.heap.size ∧ w4.heap.size ≤ w5.heap.size) := ⟨HS4.out.bk.lp, HS4.out.bk.lm, hb5.size⟩
  have HI5 : Aside (AllT 71 w5 hb' fb' ⟨f, 0, none⟩ ∧ Gd w5 f d x y ∧ Ask2 w5 x y p 1) := ⟨h1, h2, h3⟩
  have HLL : Aside (w4.heap.size ≤ hb' ∧ w4.heap.size ≤ fb' ∧ w4.heap.size ≤ f ∧ w4.heap.size ≤ x ∧ w4.heap.size ≤ y) := ⟨l1, l2, l3, l4, l5⟩
  have G4 := aside (doG_ok hb' fb' f d x y m s 3 lv _ 0 9 1 ⟨p, mb, 2, [⟨0, 63, 0⟩, ⟨1, 3, 0⟩]⟩ w5 h1 h2 h3 HS5.out.bk (by decide) (g := ⟨1, 3, 0⟩) rfl (by decide) ((HA4.out.below hb5).c0) (HF4.out.below hb5) (HR4.out.below hb5) (by decide) (by decide) (by decide))
  clear h1 h2 h3 l1 l2 l3 l4 l5 hb5 G3 HA4 HF4 HR4 HS4
  go_wp2_with fail
  refine G4.out.mono ?_
  rintro e w6 ⟨k, g', cap, hk, rfl, hown, hb6, hlg⟩
  obtain rfl : k = 3 := by rw [hk]; decide
  rw [show readB [⟨0, g0, cap0, [97, 98, 99]⟩] 0 3 = [97, 98, 99] from rfl] at hown
  have HO := aside hown
  have HI6 : Aside (AllT 71 w6 hb' fb' ⟨f, 0, none⟩ ∧ Gd w6 f d x y ∧ Ask2 w6 x y p 1) := ⟨HI5.out.1.below hb6, HI5.out.2.1.below hb6, HI5.out.2.2.below hb6⟩
  have HS6 := aside (HS5.out.below hb6)
  have HL6 : Aside (p < g' ∧ mb < g' ∧ p < w6.heap.size ∧ mb < w6.heap.size) := by
    have h1 := HL.out
    have h2 := hb6.size
    exact aside ⟨by omega, by omega, by omega, by omega⟩
  obtain ⟨W7, hW7⟩ : ∃ W7, W7 = w6.alloc (.cells #[.int .i64 0, .int .i64 0, .int .i64 0, .slice (some ⟨g', 0, none⟩) 3 cap] 54) := ⟨_, rfl⟩
  have hb7 : Below w6.heap.size w6 W7 := by rw [hW7]; exact below_al w6 _
  have HC7 : Aside (W7.heap[w6.heap.size]? = some (.cells #[.int .i64 0, .int .i64 0, .int .i64 0, .slice (some ⟨g', 0, none⟩) 3 cap] 54 (0, 0))) := by rw [hW7]; exact heap_alloc_new w6 _
  have HO7 := aside (row_below HO.out hb7)
  have HI7 : Aside (AllT 71 W7 hb' fb' ⟨f, 0, none⟩ ∧ Gd W7 f d x y ∧ Ask2 W7 x y p 1) := ⟨HI6.out.1.below hb7, HI6.out.2.1.below hb7, HI6.out.2.2.below hb7⟩
  have G5 := aside (back_st (HS6.out.below hb7) 1 1 0 [⟨0, 63, 0⟩] (by decide) rfl rfl rfl)
  clear hown hb6 hk hlg G4 HI5 HS5 hb7 HO HI6 HS6
  go_wp2_with fail
  rw [← hW7]
  clear hW7
  refine G5.out.mono ?_
  rintro e w8 ⟨rfl, hS, hu⟩
  have hl6 := HL6.out
  have hl7 := HL.out
  have hll := HLL.out
  have cT : w8.cell? ⟨w6.heap.size, 3, none⟩ = some (.slice (some ⟨g', 0, none⟩) 3 cap) := by
    rw [cell_of_row w8 w6.heap.size 3 _ _ _ ((hu.block _ (Array.getElem?_eq_some_iff.1 HC7.out).1 (by omega)).trans HC7.out)]; rfl
  have hO8 : w8.ownsRow 0 5 1 (.slice (some ⟨g', 0, none⟩) 3 cap) 3 (bcells [97, 98, 99]) := hu.row HO7.out (fun k hk => by simp only [Value.ownBlock, Option.some.injEq] at hk; omega)
  have hd := str_of_bytes w8 ⟨g', 0, none⟩ [97, 98, 99] 3 cap rfl (own_cells hO8)
  have G6 := aside (doG_gone hb' fb' f d x y 0 9 1 ⟨p, mb, 2, [⟨0, 63, 0⟩]⟩ w8 (HI7.out.1.upd hu (by omega) (by omega)) (HI7.out.2.1.upd hu (by omega)) (HI7.out.2.2.upd hu (by omega) (by omega)) hS.bk (by decide) rfl)
  have HS8 := aside hS
  clear hS hu hO8 hl6 hl7 hll HL HLL HL6 HC7 HO7 HI7 G5
  go_wp2_with fail
  refine G6.out.mono ?_
  rintro e w9 ⟨rfl, hb9⟩
  have HS9 := aside (HS8.out.below hb9)
  clear hb9 G6 HS8
  go_wp2_with fail
  refine (rights_yes ⟨p, mb, 2, [⟨0, 63, 0⟩]⟩ 0 w9 HS9.out.bk (by decide) (g := ⟨0, 63, 0⟩) rfl).mono ?_
  rintro e w10 ⟨rfl, rfl⟩
  go_wp2_with fail
  go_ret
  exact ⟨rfl, HS9.out.bl⟩
end Go.Proofs.Ytleenkdlnmoepaa
