/- Twin: the same bytes in memory of their own. -/
import Derived.Test.YtkekaljcbmkomaaAll
import Derived.Test.YtkekaljcbmkomaaRowLaws
import Derived.Deep.RegionHeld3
namespace Go.Proofs.Ytkekaljcbmkomaa
open Go.RowKit
attribute [local simp] lcells_nil readB_length bcells_length

theorem make_stretch (w : World) (m : Nat) (hm : m ≤ 4194305) : (Instr.makeSlice 48 (.int .i64 m) (.int .i64 m)).run Try.prog w = .ok (.slice (some ⟨w.heap.size, 0, none⟩) m m) (w.alloc (.cells (zc m).toArray 56)) := by
  obtain ⟨i, hi, hz, hs, hb⟩ := info_parts info56
  have h := run_make (P := Try.prog) w 48 56 i (.agg #[.int .i64 0, .slice none 0 0]) Try.underlying48 hi hz .i64 .i64 m m (by omega) (Int.le_refl _) (by rw [hb]; omega) (by omega)
  rw [h, hs]
  simp only [Int.toNat_natCast]
  rfl

theorem set_two {α : Type} (l : List α) (k : Nat) (a b : α) (h : k + 2 ≤ l.length) : ((l.set k a).set (k + 1) b).take (k + 2) = l.take k ++ [a, b] := by
  apply List.ext_getElem?
  intro i
  rw [List.getElem?_take, List.getElem?_append, List.length_take, Nat.min_eq_left (by omega)]
  by_cases h1 : i < k
  · rw [if_pos (by omega), if_pos h1, List.getElem?_set_ne (by omega), List.getElem?_set_ne (by omega), List.getElem?_take, if_pos h1]
  · rw [if_neg h1]
    by_cases h2 : i = k
    · subst h2
      rw [if_pos (by omega), List.getElem?_set_ne (by omega), List.getElem?_set_self (by omega), Nat.sub_self]; rfl
    · by_cases h3 : i = k + 1
      · subst h3
        rw [if_pos (by omega), List.getElem?_set_self (by simp; omega), Nat.add_sub_cancel_left]; rfl
      · rw [if_neg (by omega), List.getElem?_eq_none (by simp; omega)]

theorem pair_ct {L : List Piece} : L.Pairwise (fun a b => a.fin < b.org) ↔ (ct L).Pairwise (fun a b => a.1 + a.2.length < b.1) := by
  unfold ct; rw [List.pairwise_map]; rfl
theorem inv_ct {sz : Nat} {L M : List Piece} (h : Inv sz L) (e : ct L = ct M) : Inv sz M := by
  have mem : ∀ d, d ∈ M → ∃ x, x ∈ L ∧ x.org = d.org ∧ x.bs = d.bs := fun d hd => by
    have : (d.org, d.bs) ∈ ct L := by rw [e]; exact List.mem_map.2 ⟨d, hd, rfl⟩
    obtain ⟨x, hx, h3⟩ := List.mem_map.1 this
    simp only [Prod.mk.injEq] at h3
    exact ⟨x, hx, h3.1, h3.2⟩
  refine ⟨pair_ct.2 (e ▸ pair_ct.1 h.sep), fun d hd => ?_, fun d hd => ?_, h.size, by rw [← ct_held e]; exact h.held⟩
  · obtain ⟨x, hx, -, h2⟩ := mem d hd
    rw [← h2]; exact h.ne x hx
  · obtain ⟨x, hx, h1, h2⟩ := mem d hd
    have := h.fin x hx
    unfold Piece.fin at *
    rw [← h1, ← h2]; exact this

/-- What stands behind k rounds of Twin. -/
structure TwinMid (w wr : World) (L : List Piece) (k : Nat) (N : List Piece) (cur : List Value) : Prop where
  below : Below w.heap.size w wr
  row : wr.heap[w.heap.size]? = some (.cells cur.toArray 56 (0, 0))
  len : cur.length = L.length * 2
  tk : cur.take (k * 2) = lcells N
  ctN : ct N = ct (L.take k)
  data : ∀ d, d ∈ N → wr.ownsRow 0 5 1 d.dv d.bs.length (bcells d.bs)
  blk : ∀ d, d ∈ N → w.heap.size < d.blk
  nd : (N.map fun d => d.blk).Nodup

theorem TwinMid.step {w wr W w' : World} {L : List Piece} {k : Nat} {N : List Piece} {cur : List Value} (h : TwinMid w wr L k N cur) (hk : k < L.length) (hW : Below wr.heap.size wr W) {g cap : Nat} (hg : W.heap.size ≤ g) (hrow : w'.ownsRow 0 5 1 (.slice (some ⟨g, 0, none⟩) L[k].bs.length cap) L[k].bs.length (bcells L[k].bs)) (hb : Below W.heap.size W w') :
    TwinMid w ((w'.setCell ⟨w.heap.size, k * 2, none⟩ (.int .i64 L[k].org)).setCell ⟨w.heap.size, k * 2 + 1, none⟩ (.slice (some ⟨g, 0, none⟩) L[k].bs.length cap)) L (k + 1) (N ++ [⟨L[k].org, g, cap, L[k].bs⟩]) ((cur.set (k * 2) (.int .i64 L[k].org)).set (k * 2 + 1) (.slice (some ⟨g, 0, none⟩) L[k].bs.length cap)) := by
  have hlt : w.heap.size < wr.heap.size := (Array.getElem?_eq_some_iff.1 h.row).1
  have hbw : Below wr.heap.size wr w' := below_tr hW hb
  have hrow' : w'.heap[w.heap.size]? = some (.cells cur.toArray 56 (0, 0)) := (hbw.block _ hlt).trans h.row
  have hlen := h.len
  have u1 := Upd.setCell (F := fun k => k = w.heap.size) (w := w') (p := ⟨w.heap.size, k * 2, none⟩) rfl (.int .i64 L[k].org)
  have u2 := Upd.setCell (F := fun k => k = w.heap.size) (w := w'.setCell ⟨w.heap.size, k * 2, none⟩ (.int .i64 L[k].org)) (p := ⟨w.heap.size, k * 2 + 1, none⟩) rfl (.slice (some ⟨g, 0, none⟩) L[k].bs.length cap)
  have hs1 := heap_setCell_same w' w.heap.size (k * 2) _ _ (.int .i64 L[k].org) hrow'
  have hs2 := heap_setCell_same _ w.heap.size (k * 2 + 1) _ _ (.slice (some ⟨g, 0, none⟩) L[k].bs.length cap) hs1
  have hws := hW.size
  have keep : ∀ (d : Piece), w.heap.size < d.blk → w'.ownsRow 0 5 1 d.dv d.bs.length (bcells d.bs) → ((w'.setCell ⟨w.heap.size, k * 2, none⟩ (.int .i64 L[k].org)).setCell ⟨w.heap.size, k * 2 + 1, none⟩ (.slice (some ⟨g, 0, none⟩) L[k].bs.length cap)).ownsRow 0 5 1 d.dv d.bs.length (bcells d.bs) := fun d hd hr => by
    have hn : ∀ j, d.dv.ownBlock = some j → ¬ (j = w.heap.size) := fun j hj => by
      simp only [Piece.dv, Value.ownBlock, Option.some.injEq] at hj
      omega
    exact u2.row (u1.row hr hn) hn
  refine ⟨?_, ?_, by simp [hlen], ?_, ?_, ?_, ?_, ?_⟩
  · exact ((h.below.trans (hbw.mono h.below.size)).setCell (Nat.le_refl _) _).setCell (Nat.le_refl _) _
  · rw [hs2]; simp
  · rw [show (k + 1) * 2 = k * 2 + 2 by omega, set_two _ _ _ _ (by omega), h.tk, lcells_append]; rfl
  · rw [List.take_succ_eq_append_getElem hk]
    have := h.ctN
    unfold ct at this ⊢
    rw [List.map_append, List.map_append, this]; rfl
  · intro d hd
    rcases List.mem_append.1 hd with hd | hd
    · exact keep d (h.blk d hd) (row_below (h.data d hd) hbw)
    · rw [List.mem_singleton.1 hd]
      exact keep ⟨L[k].org, g, cap, L[k].bs⟩ (by simp only; omega) hrow
  · intro d hd
    rcases List.mem_append.1 hd with hd | hd
    · exact h.blk d hd
    · rw [List.mem_singleton.1 hd]; simp only; omega
  · rw [List.map_append, List.nodup_append]
    refine ⟨h.nd, by simp, fun a ha c hc => ?_⟩
    obtain ⟨d, hd, rfl⟩ := List.mem_map.1 ha
    simp only [List.map_cons, List.map_nil, List.mem_singleton] at hc
    have := ((h.data d hd).lt d.blk rfl).2
    omega

set_option maxHeartbeats 4000000 in
theorem twin_any (b sz : Nat) (lv : Value) (L : List Piece) (w : World) (hR : Rep w b sz lv L) :
    Calls Try.prog 13 #[.pointer (some ⟨b, 0, none⟩)] w fun e w' => ∃ b' lv' N, e = .returned (.pointer (some ⟨b', 0, none⟩)) ∧ Rep w' b' sz lv' N ∧ ct N = ct L ∧ Below w.heap.size w w' ∧ ∀ k, Foot b' lv' N k → w.heap.size ≤ k := by
  obtain ⟨c0, c1, c2⟩ := hR.cells
  have hlen := hR.inv.len
  obtain ⟨la, lcap, rfl, hl1, hl2⟩ := row_form hR.str.row
  have hmk := fun w => make_stretch w L.length (by omega)
  have hbl : b < w.heap.size := World.block_lt_of_cell? w _ c0
  have hA := below_al w (.cells (zc L.length).toArray 56)
  have H0 : Aside (TwinMid w (w.alloc (.cells (zc L.length).toArray 56)) L 0 [] (zc L.length)) := ⟨hA, heap_alloc_new w _, zc_length _, by simp, rfl, by simp, by simp, by simp⟩
  have HR := aside hR
  clear hR hA
  go_enter Try.func13, Try.ntmps13
  go_wp2
  go_loopw [19] (fun s19 wr => ∃ (k : Nat) (N : List Piece) (cur : List Value), k ≤ L.length ∧ s19 = .int .i64 k ∧ Aside (TwinMid w wr L k N cur)) (fun s19 _ => L.length - (intOf s19).toNat)
  case atStart => exact ⟨0, _, _, Nat.zero_le _, rfl, H0⟩
  case round =>
    obtain ⟨k, N, cur, hk, rfl, hT⟩ := hrel
    have hRr := aside (HR.out.below hT.out.below)
    obtain ⟨d0, d1, d2⟩ := hRr.out.cells
    by_cases h1 : k < L.length
    · have t1 : (k : Int) < (L.length : Int) := by omega
      obtain ⟨g, cap, hv, e0, e1⟩ := row_at hRr.out.str.row h1
      simp only [Value.slice.injEq, true_and] at hv
      obtain ⟨rfl, rfl⟩ := hv
      unfold Piece.dv at e1
      have hlt : w.heap.size < wr.heap.size := (Array.getElem?_eq_some_iff.1 hT.out.row).1
      obtain ⟨W, hWd⟩ : ∃ W, W = (wr.alloc (.cells #[.int .i64 L[k].org, .slice (some ⟨L[k].blk, 0, none⟩) L[k].bs.length L[k].cap] 56)).drew := ⟨_, rfl⟩
      have hW : Below wr.heap.size wr W := by rw [hWd]; exact (below_al _ _).drew
      have hWn : W.heap[wr.heap.size]? = some (.cells #[.int .i64 L[k].org, .slice (some ⟨L[k].blk, 0, none⟩) L[k].bs.length L[k].cap] 56 (0, 0)) := by rw [hWd]; exact heap_alloc_new wr _
      have hWl : wr.heap.size < W.heap.size := (Array.getElem?_eq_some_iff.1 hWn).1
      have hcl := hT.out.len
      have hne := HR.out.inv.ne L[k] (List.getElem_mem h1)
      have hfi := HR.out.inv.fin L[k] (List.getElem_mem h1)
      have hsz := HR.out.inv.size
      unfold Piece.fin at hfi
      have CL : Aside (Calls Try.prog 26 #[.slice (some ⟨L[k].blk, 0, none⟩) L[k].bs.length L[k].cap] W fun e w' => ∃ g' cap', e = .returned (.slice (some ⟨g', 0, none⟩) L[k].bs.length cap') ∧ (w'.cell? ⟨wr.heap.size, 0, none⟩ = some (.int .i64 L[k].org) ∧ w'.cell? ⟨wr.heap.size, 1, none⟩ = some (.slice (some ⟨L[k].blk, 0, none⟩) L[k].bs.length L[k].cap)) ∧
          (∃ v0 v1, w'.cell? ⟨w.heap.size, k * 2, none⟩ = some v0 ∧ w'.cell? ⟨w.heap.size, k * 2 + 1, none⟩ = some v1) ∧ (w'.frozen? ⟨w.heap.size, k * 2, none⟩ = false ∧ w'.frozen? ⟨w.heap.size, k * 2 + 1, none⟩ = false) ∧
          Aside (W.heap.size ≤ g' ∧ w'.ownsRow 0 5 1 (.slice (some ⟨g', 0, none⟩) L[k].bs.length cap') L[k].bs.length (bcells L[k].bs) ∧ Below W.heap.size W w')) := by
        have hrow := row_below (row_below (HR.out.str.data L[k] (List.getElem_mem h1)) hT.out.below) hW
        unfold Piece.dv at hrow
        refine (clone_any ⟨L[k].blk, 0, none⟩ L[k].bs L[k].cap W hne (by omega) (fun j v hj => hrow.cells rfl j v hj)).mono ?_
        rintro e w' ⟨g', cap', rfl, hg', hrow', hb'⟩
        have n1 := (hb'.block _ hWl).trans hWn
        have n2 := (hb'.block _ (Nat.lt_trans hlt hWl)).trans ((hW.block _ hlt).trans hT.out.row)
        refine ⟨g', cap', rfl, ⟨?_, ?_⟩, ⟨cur[k * 2]'(by omega), cur[k * 2 + 1]'(by omega), ?_, ?_⟩, ⟨frozen_of_row _ _ _ _ _ n2, frozen_of_row _ _ _ _ _ n2⟩, hg', hrow', hb'⟩
        · rw [cell_of_row _ _ 0 _ _ _ n1]; rfl
        · rw [cell_of_row _ _ 1 _ _ _ n1]; rfl
        · rw [cell_of_row _ _ (k * 2) _ _ _ n2]; simp
        · rw [cell_of_row _ _ (k * 2 + 1) _ _ _ n2]; simp
      have STEP := aside (fun (w' : World) (g' cap' : Nat) (h : W.heap.size ≤ g' ∧ w'.ownsRow 0 5 1 (.slice (some ⟨g', 0, none⟩) L[k].bs.length cap') L[k].bs.length (bcells L[k].bs) ∧ Below W.heap.size W w') => hT.out.step h1 hW h.1 h.2.1 h.2.2)
      rw [hWd] at CL STEP
      clear hWd hW hWn hWl hcl hne hfi d0 d1
      have hne1 : ¬ (wr.heap.size = w.heap.size) := by omega
      have hne2 : ¬ (w.heap.size = wr.heap.size) := by omega
      generalize L[k].bs.length = m at *
      go_wp2
      go_region_held3 (fun w' => w'.cell? ⟨wr.heap.size, 0, none⟩ = some (.int .i64 L[k].org) ∧ w'.cell? ⟨wr.heap.size, 1, none⟩ = some (.slice (some ⟨L[k].blk, 0, none⟩) m L[k].cap)) (go_keep) ((go_at_call 26; refine CL.out.mono ?_; rintro e w' ⟨g', cap', rfl, ⟨x0, x1⟩, ⟨v0, v1, y0, y1⟩, ⟨z0, z1⟩, hfin⟩))
      go_wp2
      go_roundw
      case rel => exact ⟨k + 1, _, _, by omega, by go_num, STEP.out w' g' cap' hfin.out⟩
      case measure => simp [intOf]; omega
    · obtain rfl : k = L.length := by omega
      have hlt : w.heap.size < wr.heap.size := (Array.getElem?_eq_some_iff.1 hT.out.row).1
      have hcN : ct N = ct L := by have := hT.out.ctN; rwa [List.take_length] at this
      have hNl := ct_length hcN
      have hhe := ct_held hcN
      have FIN : Aside (∀ o, o = Obj.cells #[.int .i64 sz, .int .i64 (heldOf L), .slice (some ⟨w.heap.size, 0, none⟩) L.length L.length] 50 → Rep (wr.alloc o).drew wr.heap.size sz (.slice (some ⟨w.heap.size, 0, none⟩) L.length L.length) N) := by
        rintro o rfl
        have hb := (below_al wr (.cells #[.int .i64 sz, .int .i64 (heldOf L), .slice (some ⟨w.heap.size, 0, none⟩) L.length L.length] 50)).drew
        refine ⟨⟨?_, ?_, fun d hd => row_below (hT.out.data d hd) hb, ?_, fun d hd => ?_, hT.out.nd⟩, inv_ct HR.out.inv hcN.symm⟩
        · rw [hhe]; exact heap_alloc_new wr _
        · rw [hNl]
          exact own_of_row ((hb.block _ hlt).trans hT.out.row) hT.out.len (Nat.le_refl _) (by unfold maxLen; omega) hT.out.tk
        · simp only [Value.ownBlock, ne_eq, Option.some.injEq]; omega
        · have h1 := ((hT.out.data d hd).lt d.blk rfl).2
          have h2 := hT.out.blk d hd
          refine ⟨by omega, ?_⟩
          simp only [Value.ownBlock, ne_eq, Option.some.injEq]; omega
      have FT : Aside (∀ k, Foot wr.heap.size (.slice (some ⟨w.heap.size, 0, none⟩) L.length L.length) N k → w.heap.size ≤ k) := by
        rintro k (rfl | h | ⟨d, hd, rfl⟩)
        · omega
        · simp only [Value.ownBlock, Option.some.injEq] at h; omega
        · have := hT.out.blk d hd; omega
      have HCN := aside hcN
      have HBB := aside (hT.out.below.trans ((below_al wr (.cells #[.int .i64 sz, .int .i64 (heldOf L), .slice (some ⟨w.heap.size, 0, none⟩) L.length L.length] 50)).drew.mono hT.out.below.size))
      clear hcN hNl hhe
      go_wp2
      go_region_held3 (fun w' => w'.cell? ⟨b, 0, none⟩ = some (.int .i64 sz) ∧ w'.cell? ⟨b, 1, none⟩ = some (.int .i64 (heldOf L))) (go_keep) (fail)
      go_wp2
      go_ret
      exact ⟨wr.heap.size, _, N, rfl, FIN.out _ rfl, HCN.out, HBB.out, FT.out⟩
end Go.Proofs.Ytkekaljcbmkomaa
