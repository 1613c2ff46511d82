/- RightsKnown: same, Can and Do of a guard that may read alone, Give with what stays. -/
import Derived.Test.YtleenkdlnmoepaaNilW
namespace Go.Proofs.Ytleenkdlnmoepaa
open Go.RowKit Go.MapLit Go.ChangeMaps

set_option maxRecDepth 20000 in
set_option maxHeartbeats 1000000 in
theorem same_eq (a b : Option Addr) (l : List Int) (ca cb : Nat) (w : World) (hl : l.length ≤ 8192) (ha : NsAt w a l) (hb : NsAt w b l) : Calls Try.prog 21 #[.slice a l.length ca, .slice b l.length cb] w fun e w' => e = .returned (.bool true) ∧ Below w.heap.size w w' := by
  have HA := aside ha
  have HB := aside hb
  obtain ⟨n, hn⟩ : ∃ n, n = l.length := ⟨_, rfl⟩
  have HN := aside hn
  rw [← hn] at hl ⊢
  clear ha hb hn
  go_enter Try.func21, Try.ntmps21
  go_wp2
  go_loopg [13] n (fun G s13 wr => ∃ i : Nat, i + G = n ∧ s13 = .int .i64 (i : Int) ∧ Aside (Below w.heap.size w wr))
  case atStart => exact ⟨0, by omega, rfl, aside (Below.refl _ _)⟩
  case round =>
    obtain ⟨i, hiG, rfl, hBw⟩ := hrel
    by_cases hi : i < n
    · have t1 : (i : Int) < (n : Int) := by omega
      obtain ⟨x, hx⟩ : ∃ x, l[i]? = some x := ⟨_, List.getElem?_eq_getElem (by have := HN.out; omega)⟩
      have hne : l ≠ [] := fun h0 => by rw [h0] at hx; simp at hx
      obtain ⟨g, o, rfl, hc⟩ := (HA.out.below hBw.out) hne
      obtain ⟨g2, o2, rfl, hc2⟩ := (HB.out.below hBw.out) hne
      have c1 := hc i x hx
      have c2 := hc2 i x hx
      clear hc hc2 hx hne
      go_wp2_with fail
      go_region
      all_goals (
        go_wp2
        go_roundg (n - (i + 1))
        case measure => omega
        case rel => exact ⟨i + 1, by omega, by go_num, aside (below_tr hBw.out (below_dr wr))⟩)
    · have t1 : ¬ ((i : Int) < (n : Int)) := by omega
      go_wp2
      go_ret
      exact ⟨rfl, hBw.out⟩

set_option maxRecDepth 20000 in
set_option maxHeartbeats 1000000 in
theorem canHs (t : TypeId) (hb fb : Nat) (m : Addr) (w : World) (h : HsT t w hb fb m) : Calls Try.prog 17 #[pt hb] w fun e w' => e = .returned (.int .u8 12) ∧ w' = w := by
  obtain ⟨c0, c1, c2, c3, c4, c5⟩ := han_cells h.han
  have n1 := hsW
  have n2 := hsC
  have n3 := hsH
  have n4 := hsS
  clear h c0 c1 c2 c3 c4
  go_enter Try.func17, Try.ntmps17
  go_wp2_with fail
  refine (file_any hb _ w c5).mono ?_
  rintro e w' ⟨rfl, rfl⟩
  go_wp2
  go_ret
  exact ⟨rfl, rfl⟩

set_option maxRecDepth 20000 in
set_option maxHeartbeats 1000000 in
theorem doSyncG (hb fb f d x y : Nat) (a : Int) (b : Bok) (w : World) (h : HsT 71 w hb fb ⟨f, 0, none⟩) (hG : Gd w f d x y) (hA : Ask2 w x y b.p a) (hB0 : Bk w b) (hw : (Lit.int .i64 a).wf = true) {g : Gr} (hl : lk b.L a = some g) (hr : g.r = 1) :
    Calls Try.prog 19 #[pt hb, .agg #[.int .i8 5, .int .i64 0, .int .i64 0, .slice none 0 0]] w fun e w' => e = .returned (.agg #[.int .i64 170, .int .i64 0, .int .i64 0, .slice none 0 0]) ∧ Below w.heap.size w w' := by
  obtain ⟨W, hW⟩ : ∃ W, W = (w.alloc (.cells #[.int .i8 5, .int .i64 0, .int .i64 0, .slice none 0 0] 43)).alloc (.cells #[.int .i64 0, .int .i64 0, .int .i64 0, .slice none 0 0] 54) := ⟨_, rfl⟩
  have hB : Below w.heap.size w W := by rw [hW]; exact below_tr (below_al w _) (below_al _ _)
  have hT : W.heap[w.heap.size + 1]? = some (.cells #[.int .i64 0, .int .i64 0, .int .i64 0, .slice none 0 0] 54 (0, 0)) := by rw [hW]; exact heap_alloc2_new w _ _
  have HSZ := aside (show W.heap.size = w.heap.size + 2 by rw [hW]; simp)
  have o0 : W.cell? ⟨w.heap.size, 0, none⟩ = some (.int .i8 5) := by rw [hW]; go_simp
  have h' := h.below hB
  have c5 := (han_cells h'.han).2.2.2.2.2
  have h2 : W.cell? ⟨fb, 2, none⟩ = some (J 71 ⟨f, 0, none⟩) := by rw [cell_of_row W fb 2 _ _ _ h'.fil]; rfl
  have hm := meth71_Sync W fb f h2
  have n4 := hsS
  have F1 := aside (file_any hb _ W c5)
  have F2 := aside (gSync_right f d x y a b W (hG.below hB) (hA.below hB) (hB0.below hB) hw hl hr)
  have HB := aside hB
  have HT := aside hT
  clear h h' hB hT c5 hG hA hB0 hl h2
  go_enter Try.func19, Try.ntmps19
  go_wp2_with fail
  rw [← hW]
  refine F1.out.mono ?_
  rintro e w' ⟨rfl, rfl⟩
  clear hW
  go_wp2_with fail
  refine F2.out.mono ?_
  rintro e w1 ⟨rfl, hb1⟩
  have HT1 : Aside (w1.heap[w.heap.size + 1]? = some (.cells #[.int .i64 0, .int .i64 0, .int .i64 0, .slice none 0 0] 54 (0, 0))) := (hb1.block _ (by have := HSZ.out; omega)).trans HT.out
  have HB1 := aside (below_tr HB.out hb1)
  clear hb1
  go_wp2_with ((with_reducible refine wpList_store_row rfl 54 _ _ rfl (w.heap.size + 1) #[.int .i64 170, .int .i64 0, .int .i64 0, .slice none 0 0] ?_ ?_ 54 _ HT1.out ?_ ?_ ?_ ?_); kernel_rfl; kernel_rfl; kernel_rfl; kernel_rfl; kernel_rfl)
  refine bodyPost_ret (results_cell_row rfl _ _ (w.heap.size + 1) 54 _ (0, 0) _ rfl (setRow_heap w1 _ _ _ _ _ HT1.out) Try.underlying54 rfl (by kernel_rfl)) rfl ?_
  have hsz := HSZ.out
  exact ⟨rfl, below_setRow HB1.out (by omega) _⟩

theorem give_su {w0 w : World} {p mb made : Nat} {L : List Gr} (h : St w0 w ⟨p, mb, made, L⟩) (a : Int) (r n e made' : Nat) (L' : List Gr) (hw : (Lit.int .i64 a).wf = true) (hr : r < 256) (h1 : giveN L made a r = n) (h2 : giveE L made a r = e) (h3 : giveM L made a r = made') (h4 : giveL L made a r = L') :
    Calls Try.prog 8 #[pt p, .int .i64 a, .int .u8 (r : Int)] w fun e' w' => e' = .returned (.tuple #[.int .i64 (n : Int), .int .i64 (e : Int)]) ∧ St w0 w' ⟨p, mb, made', L'⟩ ∧ Upd (fun k => k = p ∨ k = mb) w w' := by
  subst h1 h2 h3 h4
  exact (give_any ⟨p, mb, made, L⟩ a r w h.bk hw hr).mono fun _ _ ⟨he, hn⟩ => ⟨he, h.next hn, hn.upd⟩
/-- A full book, one grant after another: Give(0, 0). -/
theorem give_zero {w0 w : World} {p mb made : Nat} {L : List Gr} (h : St w0 w ⟨p, mb, made, L⟩) (hm : made < 4096) :
    Calls Try.prog 8 #[pt p, .int .i64 0, .int .u8 0] w fun e' w' => ∃ L', e' = .returned (.tuple #[.int .i64 (made : Int), .int .i64 0]) ∧ St w0 w' ⟨p, mb, made + 1, L'⟩ := by
  have hE : giveE L made 0 0 = 0 := by
    unfold giveE
    rw [if_pos (by decide), h.bk.inv.top]
    simp only
    rw [if_pos (by decide), if_pos hm]
  refine (give_st h 0 0 made 0 (made + 1) (giveL L made 0 0) (by decide) (by decide) (by unfold giveN; rw [hE]; rfl) hE (by unfold giveM; rw [hE]; rfl) rfl).mono ?_
  rintro e w' ⟨rfl, hS⟩
  exact ⟨_, rfl, hS⟩
theorem give_zero_full {w0 w : World} {p mb made : Nat} {L : List Gr} (h : St w0 w ⟨p, mb, made, L⟩) (hm : made = 4096) :
    Calls Try.prog 8 #[pt p, .int .i64 0, .int .u8 0] w fun e' w' => e' = .returned (.tuple #[.int .i64 0, .int .i64 4]) ∧ St w0 w' ⟨p, mb, made, L⟩ := by
  have hE : giveE L made 0 0 = 4 := by
    unfold giveE
    rw [if_pos (by decide), h.bk.inv.top]
    simp only
    rw [if_pos (by decide), if_neg (by omega)]
  exact (give_st h 0 0 0 4 made L (by decide) (by decide) (by unfold giveN; rw [hE]; rfl) hE (by unfold giveM; rw [hE]; rfl) (by unfold giveL; rw [hE]; rfl))
end Go.Proofs.Ytleenkdlnmoepaa
