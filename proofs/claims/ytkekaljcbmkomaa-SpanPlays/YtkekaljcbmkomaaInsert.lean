/- slices.Insert of stretches in the middle, with room and without. -/
import Derived.Test.YtkekaljcbmkomaaRowLaws
namespace Go.Proofs.Ytkekaljcbmkomaa
open Go.RowKit
attribute [local simp] lcells_nil readB_length bcells_length
theorem run_ov (w : World) (vb g o m vc lb cb : Nat) (vcur cur : Array Value) (hvb : w.heap[vb]? = some (.cells vcur 56 (0, 0))) (hg : w.heap[g]? = some (.cells cur 56 (0, 0))) (hne : vb ≠ g) (hc : cur.size ≠ 0) :
    (callFunc 58 #[.slice (some ⟨vb, 0, none⟩) m vc, .slice (some ⟨g, o, none⟩) lb cb]).run Try.prog w = .ok (.value (.bool false)) w := by
  have hz : ∀ w, (Go.sizeOf 56).run Try.prog w = .ok 2 w := fun w => by
    obtain ⟨i, hi, -, hs, -⟩ := info_parts info56
    simp [Go.sizeOf, typeInfo, hi, hs]
  rw [run_callFunc_extern Try.func58 (by kernel_rfl) (by kernel_rfl) (by kernel_rfl) (e := Extern.SlicesOverlaps.overlaps #[48, 48] #[4]) (by kernel_rfl),
    Lib.run_overlaps_apart w 48 4 56 Try.underlying48 2 hz ⟨vb, 0, none⟩ ⟨g, o, none⟩ m vc lb cb hne 56 56 vcur.size cur.size (by simp [World.shape?, hvb]) (by simp [World.shape?, hg]) hc (frozen_of_row w vb 0 _ _ hvb) (frozen_of_row w vb _ _ _ hvb)]
  rfl

theorem td_mem {α : Type} {l : List α} {i n : Nat} {v : α} (h : v ∈ (l.drop (i * 2)).take ((n - i) * 2)) (hin : i ≤ n) : v ∈ l.take (n * 2) := by
  have e : (l.take (n * 2)).drop (i * 2) = (l.drop (i * 2)).take ((n - i) * 2) := by rw [List.drop_take]; congr 1; omega
  rw [← e] at h
  exact List.mem_of_mem_drop h
theorem td_get {α : Type} {l : List α} {o k j : Nat} {v : α} (h : ((l.drop o).take k)[j]? = some v) : l[o + j]? = some v := by
  rw [List.getElem?_take] at h
  split at h
  · rwa [List.getElem?_drop] at h
  · cases h

set_option maxHeartbeats 1000000 in
set_option maxRecDepth 100000 in
theorem insertRoom_any (g cap n i m : Nat) (cur : List Value) (vv : Value) (vs : List Value) (w : World) (hg : w.heap[g]? = some (.cells cur.toArray 56 (0, 0))) (hcur : cur.length = cap * 2) (hcap : cap ≤ maxLen) (h1 : ∀ u ∈ cur.take (n * 2), u.oneCell' = true)
    (hi : i < n) (hm : 0 < m) (hroom : n + m ≤ cap) (hv : w.ownsRow 0 56 2 vv m vs) (hvg : vv.ownBlock ≠ some g) (h1v : ∀ u ∈ vs, u.oneCell' = true) :
    Calls Try.prog 57 #[.slice (some ⟨g, 0, none⟩) n cap, .int .i64 i, vv] w fun e w' => e = .returned (.slice (some ⟨g, 0, none⟩) (n + m) cap) ∧ w'.ownsRow 0 56 2 (.slice (some ⟨g, 0, none⟩) (n + m) cap) (n + m) (cur.take (i * 2) ++ vs ++ (cur.take (n * 2)).drop (i * 2)) ∧ w.grownBy w' (some g) := by
  obtain ⟨vb, vc, vcur, rfl, hvb, hvl, hvs⟩ := own_cells hv hm
  have hne : vb ≠ g := fun e => hvg (by rw [e]; rfl)
  have hvlen : vs.length = m * 2 := hv.1
  have hbg : g < w.heap.size := (Array.getElem?_eq_some_iff.1 hg).1
  have hbv : vb < w.heap.size := (Array.getElem?_eq_some_iff.1 hvb).1
  have hov := fun lb cb => run_ov w vb g ((i + m) * 2) m vc lb cb vcur cur.toArray hvb hg hne (by rw [List.size_toArray]; omega)
  have hlen1 : ((cur.drop (i * 2)).take ((n - i) * 2)).length = (n - i) * 2 := by rw [List.length_take, List.length_drop]; omega
  have hcp1 : ∀ ty c1 c2, (Builtin.copy_ #[48, 48] ty #[.slice (some ⟨g, (i + m) * 2, none⟩) (n + m - (i + m)) c1, .slice (some ⟨g, i * 2, none⟩) (n + m - i) c2]).run Try.prog w.drew = .ok (goInt (min (n + m - i) (n + m - (i + m)) : Nat)) (w.drew.setRow g (splice cur ((i + m) * 2) ((cur.drop (i * 2)).take ((n - i) * 2))).toArray) := fun ty c1 c2 =>
    run_copy2 w.drew ty _ _ _ _ _ _ g ((i + m) * 2) cur hg _ (by rw [hlen1]; omega) (fun _ => ⟨rfl, _, rfl, row_cells hg (i * 2) (fun j v hj => td_get hj)⟩) (by rw [hlen1]; omega) (fun v hv => h1 v (td_mem hv (by omega)))
  have hl2 : (splice cur ((i + m) * 2) ((cur.drop (i * 2)).take ((n - i) * 2))).length = cap * 2 := by rw [length_splice _ _ _ (by rw [hlen1]; omega), hcur]
  have hfin := ins_list cur vs i n m cap hcur (by omega) hroom hvlen
  generalize splice cur ((i + m) * 2) ((cur.drop (i * 2)).take ((n - i) * 2)) = cur1 at *
  have hcp2 : ∀ ty c1, (Builtin.copy_ #[48, 48] ty #[.slice (some ⟨g, i * 2, none⟩) (n + m - i) c1, .slice (some ⟨vb, 0, none⟩) m vc]).run Try.prog (w.drew.setRow g cur1.toArray) = .ok (goInt (min m (n + m - i) : Nat)) ((w.drew.setRow g cur1.toArray).setRow g (splice cur1 (i * 2) vs).toArray) := fun ty c1 =>
    run_copy2 _ ty _ _ _ _ _ _ g (i * 2) cur1 (setRow_heap w.drew g cur.toArray _ _ _ hg) vs (by rw [hvlen]; omega) (fun _ => ⟨rfl, _, rfl, fun j v hj => (cell_setRow_far (by rw [Addr.add_lit]; exact hne)).trans (hvs j v hj)⟩) (by rw [hl2, hvlen]; omega) h1v
  have hend : ((w.drew.setRow g cur1.toArray).setRow g (splice cur1 (i * 2) vs).toArray).ownsRow 0 56 2 (.slice (some ⟨g, 0, none⟩) (n + m) cap) (n + m) (cur.take (i * 2) ++ vs ++ (cur.take (n * 2)).drop (i * 2)) :=
    own_of_row (setRow_heap _ g cur1.toArray _ _ _ (setRow_heap w.drew g cur.toArray _ _ _ hg)) (by rw [length_splice _ _ _ (by rw [hl2, hvlen]; omega), hl2]) hroom hcap hfin
  have hgr : w.grownBy ((w.drew.setRow g cur1.toArray).setRow g (splice cur1 (i * 2) vs).toArray) (some g) := ⟨rfl, rfl, rfl, by simp [World.setRow], fun k _ hk => by rw [setRow_other _ g k _ (fun e => hk (by rw [e])), setRow_other _ g k _ (fun e => hk (by rw [e]))]; rfl⟩
  have HE := aside hend
  have HG := aside hgr
  have HC1 := aside hcp1
  have HC2 := aside hcp2
  have HOV := aside hov
  have hm0 : ((m : Int) == 0) = false := by simp; omega
  have hmz : ¬ (m = 0) := by omega
  have hin0 : ((i : Int) == (n : Int)) = false := by simp; omega
  have hinz : ¬ (i = n) := by omega
  have hw1 : IntKind.i64.wrap ((i : Int) + (m : Int)) = ((i + m : Nat) : Int) := by unfold maxLen at hcap; rw [IntKind.wrap_i64]; omega
  have hb1 : (0 : Int) ≤ (i : Int) + (m : Int) := by omega
  have htn : ((i : Int) + (m : Int)).toNat = i + m := by omega
  have hb3 : (i : Int) ≤ (n : Int) + (m : Int) := by omega
  have hc1 : ¬ (cap = i) := by omega
  have hc2 : ¬ (cap = i + m) := by omega
  have hc3 : i + m ≤ n + m := by omega
  have hc4 : i ≤ n + m := by omega
  have hc5 : i ≤ n := by omega
  have hiz : (i : Int) ≤ (n : Int) := by omega
  unfold maxLen at hcap
  clear hend hgr hcp1 hcp2 hov hg h1 hv hvg h1v hvb hvs hfin hl2 hlen1 hvl hvlen hcur
  go_enter Try.func57, Try.ntmps57
  go_wp2_with (simp only [HOV.out])
  go_region_law (refine step_copy_to rfl _ _ 48 48 rfl _ _ (by simp [Act.eval, Act.put]; rfl) (by simp [Act.eval, Act.put]; rfl) (HC1.out _ _ _) ?_)
  go_wp2_with ((with_reducible refine wpList_copy_to _ rfl _ _ 48 48 rfl (.slice (some ⟨g, i * 2, none⟩) (n + m - i) (cap - i)) (.slice (some ⟨vb, 0, none⟩) m vc) ?_ ?_ (HC2.out _ _) ?_); rfl; rfl)
  all_goals
    go_ret
    exact ⟨rfl, HE.out, HG.out⟩
theorem tk_get {α : Type} {l : List α} {k j : Nat} {v : α} (h : (l.take k)[j]? = some v) : l[0 + j]? = some v := by
  rw [List.getElem?_take] at h
  split at h
  · rwa [Nat.zero_add]
  · cases h
/-- append(s[:i], make(S, k)...) where there is no room: a new row. -/
theorem append_zeros (w : World) (g cap i k : Nat) (cur : List Value) (hg : w.heap[g]? = some (.cells cur.toArray 56 (0, 0))) (hcur : cur.length = cap * 2) (hi : i ≤ cap) (hk : 0 < k) (hno : cap < i + k) (hbig : i + k ≤ 8589934592) :
    ∃ cap' W1 rest, (∀ ty, (Builtin.append_ #[48, 3] ty #[.slice (some ⟨g, 0, none⟩) i cap, .int .i64 (k : Int)]).run Try.prog w = .ok (.slice (some ⟨w.heap.size, 0, none⟩) (i + k) cap') W1) ∧ W1.heap[w.heap.size]? = some (.cells (cur.take (i * 2) ++ rest).toArray 56 (0, 0)) ∧ (cur.take (i * 2) ++ rest).length = cap' * 2 ∧ i + k ≤ cap' ∧ cap' ≤ maxLen ∧ Below w.heap.size w W1 := by
  obtain ⟨ti, hi6, hz, hs, hb⟩ := info_parts info56
  have hold : (Builtin.firstCells ti.size i (.slice (some ⟨g, 0, none⟩) i cap)).run Try.prog w.drew = .ok (cur.take (i * 2)).toArray w.drew := by
    rw [hs]
    exact run_firstCells_some w.drew 2 i ⟨g, 0, none⟩ i cap (cur.take (i * 2)) (by rw [List.length_take]; omega) (row_cells (w := w.drew) hg 0 (fun j v hj => tk_get hj))
  have hge := grownCap_ge w (i + k) cap 56
  have hcm := grownCap_le_maxLen w (i + k) cap 56 (by unfold maxLen; omega)
  have hrun := fun ty => Lib.run_append_grow_zeros w 48 3 ty 56 ti _ .i64 .i64 Try.underlying48 Try.underlying3 hi6 hz (some ⟨g, 0, none⟩) i cap (cur.take (i * 2)) hold k hk (by rw [hs]; decide) hno (by omega) (by rw [hb]; omega) (by rw [hb]; exact growslice_fits hno (by omega))
  generalize grownCap w (i + k) cap 56 = cap' at *
  refine ⟨cap', _, (Builtin.zeroCells (Value.agg #[.int .i64 0, .slice none 0 0]).cells k).toList ++ (Builtin.zeroCells (Value.agg #[.int .i64 0, .slice none 0 0]).cells (cap' - (i + k))).toList, hrun, ?_, ?_, hge, hcm, below_tr (below_dr w) (below_al w.drew _)⟩
  · rw [show w.heap.size = w.drew.heap.size from rfl, heap_alloc_new]
    simp
  · have e : (Value.agg #[.int .i64 0, .slice none 0 0]).cells.size = 2 := rfl
    simp only [List.length_append, List.length_take, Array.length_toList, size_zeroCells, e]; omega

theorem grow_list {α : Type} (cur rest vs : List α) (i n m cap : Nat) (hc : cur.length = cap * 2) (hin : i ≤ n) (hn : n ≤ cap) (hv : vs.length = m * 2) :
    (splice (splice (cur.take (i * 2) ++ rest) (i * 2) vs) ((i + m) * 2) ((cur.drop (i * 2)).take ((n - i) * 2))).take ((n + m) * 2) = cur.take (i * 2) ++ vs ++ (cur.take (n * 2)).drop (i * 2) := by
  have e1 : ((cur.drop (i * 2)).take ((n - i) * 2)).length = (n - i) * 2 := by rw [List.length_take, List.length_drop]; omega
  have e2 : (cur.take (n * 2)).drop (i * 2) = (cur.drop (i * 2)).take ((n - i) * 2) := by rw [List.drop_take]; congr 1; omega
  rw [e2]
  generalize (cur.drop (i * 2)).take ((n - i) * 2) = mid at *
  have ea : (cur.take (i * 2)).length = i * 2 := by rw [List.length_take]; omega
  generalize cur.take (i * 2) = A at *
  simp only [splice]
  rw [hv, e1]
  have e3 : List.take (i * 2) (A ++ rest) = A := by rw [← ea, List.take_left]
  rw [e3]
  have e4 : List.take ((i + m) * 2) (A ++ (vs ++ List.drop (i * 2 + m * 2) (A ++ rest))) = A ++ vs := by
    have : (A ++ vs).length = (i + m) * 2 := by rw [List.length_append, ea, hv]; omega
    rw [← List.append_assoc, ← this, List.take_left]
  rw [e4]
  have e5 : (A ++ vs ++ mid).length = (n + m) * 2 := by simp only [List.length_append, ea, hv, e1]; omega
  rw [← List.append_assoc (A ++ vs), ← e5, List.take_left]

set_option maxHeartbeats 1000000 in
set_option maxRecDepth 100000 in
theorem insertGrow_any (g cap n i m : Nat) (cur : List Value) (vv : Value) (vs : List Value) (w : World) (hg : w.heap[g]? = some (.cells cur.toArray 56 (0, 0))) (hcur : cur.length = cap * 2) (h1 : ∀ u ∈ cur.take (n * 2), u.oneCell' = true) (hnc : n ≤ cap) (hnb : n ≤ 4294967296) (hmb : m ≤ 4294967296)
    (hi : i < n) (hm : 0 < m) (hroom : cap < n + m) (hv : w.ownsRow 0 56 2 vv m vs) (h1v : ∀ u ∈ vs, u.oneCell' = true) :
    Calls Try.prog 57 #[.slice (some ⟨g, 0, none⟩) n cap, .int .i64 i, vv] w fun e w' => ∃ cap', e = .returned (.slice (some ⟨w.heap.size, 0, none⟩) (n + m) cap') ∧ w'.ownsRow 0 56 2 (.slice (some ⟨w.heap.size, 0, none⟩) (n + m) cap') (n + m) (cur.take (i * 2) ++ vs ++ (cur.take (n * 2)).drop (i * 2)) ∧ Below w.heap.size w w' := by
  obtain ⟨vb, vc, vcur, rfl, hvb, hvl, hvs⟩ := own_cells hv hm
  have hvlen : vs.length = m * 2 := hv.1
  have hbg : g < w.heap.size := (Array.getElem?_eq_some_iff.1 hg).1
  have hbv : vb < w.heap.size := (Array.getElem?_eq_some_iff.1 hvb).1
  obtain ⟨cap', W1, rest, hap, hr1, hl1, hc1', hcm, hB1⟩ := append_zeros w g cap i (n + m - i) cur hg hcur (by omega) (by omega) (by omega) (by omega)
  rw [show i + (n + m - i) = n + m by omega] at hap hc1'
  have hap2 : ∀ ty, (Builtin.append_ #[48, 3] ty #[.slice (some ⟨g, 0, none⟩) i cap, .int .i64 ((n : Int) + (m : Int) - (i : Int))]).run Try.prog w = .ok (.slice (some ⟨w.heap.size, 0, none⟩) (n + m) cap') W1 := fun ty => by
    rw [show (n : Int) + (m : Int) - (i : Int) = ((n + m - i : Nat) : Int) by omega]; exact hap ty
  have hfin := grow_list cur rest vs i n m cap hcur (by omega) hnc hvlen
  generalize hc0 : cur.take (i * 2) ++ rest = cur0 at *
  have hlen1 : ((cur.drop (i * 2)).take ((n - i) * 2)).length = (n - i) * 2 := by rw [List.length_take, List.length_drop]; omega
  have hcp1 : ∀ ty c1, (Builtin.copy_ #[48, 48] ty #[.slice (some ⟨w.heap.size, i * 2, none⟩) (n + m - i) c1, .slice (some ⟨vb, 0, none⟩) m vc]).run Try.prog W1 = .ok (goInt (min m (n + m - i) : Nat)) (W1.setRow w.heap.size (splice cur0 (i * 2) vs).toArray) := fun ty c1 =>
    run_copy2 W1 ty _ _ _ _ _ _ w.heap.size (i * 2) cur0 hr1 vs (by rw [hvlen]; omega) (fun _ => ⟨rfl, _, rfl, fun j v hj => (hB1.cell (by rw [Addr.add_lit]; exact hbv)).trans (hvs j v hj)⟩) (by rw [hl1, hvlen]; omega) h1v
  have hl2 : (splice cur0 (i * 2) vs).length = cap' * 2 := by rw [length_splice _ _ _ (by rw [hl1, hvlen]; omega), hl1]
  generalize splice cur0 (i * 2) vs = cur1 at *
  have hW2 : Below w.heap.size w (W1.setRow w.heap.size cur1.toArray) := below_setRow_new hB1 (Nat.le_refl _) _
  have hr2 : (W1.setRow w.heap.size cur1.toArray).heap[w.heap.size]? = some (.cells cur1.toArray 56 (0, 0)) := setRow_heap W1 _ cur0.toArray _ _ _ hr1
  generalize W1.setRow w.heap.size cur1.toArray = W2 at *
  have hcp2 : ∀ ty c1 c2, (Builtin.copy_ #[48, 48] ty #[.slice (some ⟨w.heap.size, (i + m) * 2, none⟩) (n + m - (i + m)) c1, .slice (some ⟨g, i * 2, none⟩) (n - i) c2]).run Try.prog W2.drew = .ok (goInt (min (n - i) (n + m - (i + m)) : Nat)) (W2.drew.setRow w.heap.size (splice cur1 ((i + m) * 2) ((cur.drop (i * 2)).take ((n - i) * 2))).toArray) := fun ty c1 c2 =>
    run_copy2 W2.drew ty _ _ _ _ _ _ w.heap.size ((i + m) * 2) cur1 hr2 _ (by rw [hlen1]; omega) (fun _ => ⟨rfl, _, rfl, row_cells (w := W2.drew) ((hW2.block g hbg).trans hg) (i * 2) (fun j v hj => td_get hj)⟩) (by rw [hlen1, hl2]; omega) (fun v hv => h1 v (td_mem hv (by omega)))
  have hend : (W2.drew.setRow w.heap.size (splice cur1 ((i + m) * 2) ((cur.drop (i * 2)).take ((n - i) * 2))).toArray).ownsRow 0 56 2 (.slice (some ⟨w.heap.size, 0, none⟩) (n + m) cap') (n + m) (cur.take (i * 2) ++ vs ++ (cur.take (n * 2)).drop (i * 2)) :=
    own_of_row (setRow_heap W2.drew _ cur1.toArray _ _ _ hr2) (by rw [length_splice _ _ _ (by rw [hl2, hlen1]; omega), hl2]) hc1' hcm hfin
  have hgr : Below w.heap.size w (W2.drew.setRow w.heap.size (splice cur1 ((i + m) * 2) ((cur.drop (i * 2)).take ((n - i) * 2))).toArray) := below_setRow_new hW2.drew (Nat.le_refl _) _
  generalize splice cur1 ((i + m) * 2) ((cur.drop (i * 2)).take ((n - i) * 2)) = cur2 at *
  have HE := aside hend
  have HG := aside hgr
  have HA := aside hap2
  have HC1 := aside hcp1
  have HC2 := aside hcp2
  have hm0 : ((m : Int) == 0) = false := by simp; omega
  have hmz : ¬ (m = 0) := by omega
  have hin0 : ((i : Int) == (n : Int)) = false := by simp; omega
  have hinz : ¬ (i = n) := by omega
  have hw1 : IntKind.i64.wrap ((i : Int) + (m : Int)) = ((i + m : Nat) : Int) := by rw [IntKind.wrap_i64]; omega
  have hb1 : (0 : Int) ≤ (i : Int) + (m : Int) := by omega
  have htn : ((i : Int) + (m : Int)).toNat = i + m := by omega
  have hb3 : (i : Int) ≤ (n : Int) + (m : Int) := by omega
  have hc1 : ¬ (cap = i) := by omega
  have hc2 : ¬ (cap' = i + m) := by omega
  have hc3 : ¬ (cap' = i) := by omega
  have hc4 : i ≤ n + m := by omega
  have hc5 : i ≤ n := by omega
  have hc6 : i ≤ cap := by omega
  have hiz : (i : Int) ≤ (n : Int) := by omega
  unfold maxLen at hcm
  clear hend hgr hap hap2 hcp1 hcp2 hg h1 hv h1v hvb hvs hfin hl2 hlen1 hvl hvlen hcur hr1 hr2 hl1 hB1 hW2 hc0
  go_enter Try.func57, Try.ntmps57
  go_wp2_with (first
    | ((with_reducible refine wpList_append_to _ rfl _ _ 48 3 rfl (.slice (some ⟨g, 0, none⟩) i cap) (.int .i64 ((n : Int) + (m : Int) - (i : Int))) ?_ ?_ (HA.out _) ?_); rfl; rfl)
    | ((with_reducible refine wpList_copy_to _ rfl _ _ 48 48 rfl (.slice (some ⟨w.heap.size, i * 2, none⟩) (n + m - i) (cap' - i)) (.slice (some ⟨vb, 0, none⟩) m vc) ?_ ?_ (HC1.out _ _) ?_); rfl; rfl))
  go_region_law (refine step_copy_to rfl _ _ 48 48 rfl _ _ (by simp [Act.eval, Act.put]; rfl) (by simp [Act.eval, Act.put]; rfl) (HC2.out _ _ _) ?_)
  go_wp2
  go_ret
  exact ⟨cap', rfl, HE.out, HG.out⟩

set_option maxHeartbeats 400000 in
set_option maxRecDepth 100000 in
theorem insertNone_any (lv : Value) (n i : Nat) (xs : List Value) (w : World) (hown : w.ownsRow 0 56 2 lv n xs) (hi : i ≤ n) :
    Calls Try.prog 57 #[lv, .int .i64 i, .slice none 0 0] w fun e w' => e = .returned lv ∧ w' = w := by
  obtain ⟨a, cap, rfl, hc1, hc2⟩ := row_form hown
  unfold maxLen at hc2
  have hiz : (i : Int) ≤ (n : Int) := by omega
  clear hown
  go_enter Try.func57, Try.ntmps57
  go_wp2
  all_goals go_ret
  all_goals exact ⟨rfl, rfl⟩

/-- slices.Insert of stretches, whole. -/
theorem insert_any (lv : Value) (n i m : Nat) (xs : List Value) (vv : Value) (vs : List Value) (w : World) (hown : w.ownsRow 0 56 2 lv n xs) (h1 : ∀ u ∈ xs, u.oneCell' = true) (hi : i ≤ n) (hnb : n ≤ 4294967296) (hmb : m ≤ 4294967296)
    (hv : w.ownsRow 0 56 2 vv m vs) (hv0 : m = 0 → vv = .slice none 0 0) (hvg : ∀ k, lv.ownBlock = some k → vv.ownBlock ≠ some k) (h1v : ∀ u ∈ vs, u.oneCell' = true) :
    Calls Try.prog 57 #[lv, .int .i64 i, vv] w fun e w' => ∃ v', e = .returned v' ∧ w'.ownsRow 0 56 2 v' (n + m) (xs.take (i * 2) ++ vs ++ xs.drop (i * 2)) ∧ w.grownBy w' lv.ownBlock ∧ (v'.ownBlock = lv.ownBlock ∨ ∃ k, v'.ownBlock = some k ∧ w.heap.size ≤ k) := by
  by_cases hm : m = 0
  · subst hm
    obtain rfl := hv0 rfl
    obtain rfl : vs = [] := List.eq_nil_of_length_eq_zero (by simpa using hv.1)
    refine (insertNone_any lv n i xs w hown hi).mono ?_
    rintro e w' ⟨rfl, rfl⟩
    exact ⟨lv, rfl, by simpa using hown, World.grownBy.refl _ _, .inl rfl⟩
  · by_cases hin : i = n
    · subst hin
      obtain ⟨vb, vc, vcur, rfl, -, -, hvs⟩ := own_cells hv (by omega)
      have e1 : xs.take (i * 2) = xs := List.take_of_length_le (by rw [hown.1]; exact Nat.le_refl _)
      have e2 : xs.drop (i * 2) = [] := List.drop_of_length_le (by rw [hown.1]; exact Nat.le_refl _)
      refine (insertEnd_any lv i xs w hown hnb vb m vc vs (by omega) hmb hv.1 (fun j u hj => by have := hvs j u hj; rwa [Addr.add_lit, Nat.zero_add] at this) h1v).mono ?_
      rintro e w' ⟨v', rfl, ho, hg, hw⟩
      refine ⟨v', rfl, by rw [e1, e2, List.append_nil]; exact ho, hg, ?_⟩
      rcases hw with ⟨e, -⟩ | ⟨e, -⟩
      · exact .inl e
      · exact .inr ⟨_, e, Nat.le_refl _⟩
    · rcases hown.2 with ⟨-, h0⟩ | ⟨g, cap, cur, rfl, -, hg, hnc, hcm, hcs, htake⟩
      · omega
      · have hg2 : w.heap[g]? = some (.cells cur.toList.toArray 56 (0, 0)) := by simpa using hg
        by_cases hroom : n + m ≤ cap
        · refine (insertRoom_any g cap n i m cur.toList vv vs w hg2 (by simpa using hcs) hcm (by rw [htake]; exact h1) (by omega) (by omega) hroom hv (hvg g rfl) h1v).mono ?_
          rintro e w' ⟨rfl, ho, hgr⟩
          refine ⟨_, rfl, ?_, hgr, .inl rfl⟩
          rw [htake, show cur.toList.take (i * 2) = xs.take (i * 2) by rw [← htake, List.take_take]; congr 1; omega] at ho
          exact ho
        · refine (insertGrow_any g cap n i m cur.toList vv vs w hg2 (by simpa using hcs) (by rw [htake]; exact h1) hnc hnb hmb (by omega) (by omega) (by omega) hv h1v).mono ?_
          rintro e w' ⟨cap', rfl, ho, hb⟩
          refine ⟨_, rfl, ?_, ⟨hb.os, hb.tape, hb.output, hb.size, fun k hk _ => hb.block k hk⟩, .inr ⟨_, rfl, Nat.le_refl _⟩⟩
          rw [htake, show cur.toList.take (i * 2) = xs.take (i * 2) by rw [← htake, List.take_take]; congr 1; omega] at ho
          exact ho
end Go.Proofs.Ytkekaljcbmkomaa
