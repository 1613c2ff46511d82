/- slices.Replace of stretches where what is put is longer than what is taken, and there is room. -/
import Derived.Test.YtkekaljcbmkomaaReplaceA
namespace Go.Proofs.Ytkekaljcbmkomaa
open Go.RowKit
attribute [local simp] lcells_nil readB_length bcells_length
theorem run_ov2 (w : World) (vb g o m vc lb cb : Nat) (vcur cur : Array Value) (hvb : w.heap[vb]? = some (.cells vcur 56 (0, 0))) (hg : w.heap[g]? = some (.cells cur 56 (0, 0))) (hne : g ≠ vb) (hc : vcur.size ≠ 0) :
    (callFunc 58 #[.slice (some ⟨g, o, none⟩) lb cb, .slice (some ⟨vb, 0, none⟩) m vc]).run Try.prog w = .ok (.value (.bool false)) w := by
  have hz : ∀ w, (Go.sizeOf 56).run Try.prog w = .ok 2 w := fun w => by
    obtain ⟨i, hi, -, hs, -⟩ := info_parts info56
    simp [Go.sizeOf, typeInfo, hi, hs]
  rw [run_callFunc_extern Try.func58 (by kernel_rfl) (by kernel_rfl) (by kernel_rfl) (e := Extern.SlicesOverlaps.overlaps #[48, 48] #[4]) (by kernel_rfl),
    Lib.run_overlaps_apart w 48 4 56 Try.underlying48 2 hz ⟨g, o, none⟩ ⟨vb, 0, none⟩ lb cb m vc hne 56 56 cur.size vcur.size (by simp [World.shape?, hg]) (by simp [World.shape?, hvb]) hc (frozen_of_row w g o _ _ hg) (frozen_of_row w g _ _ _ hg)]
  rfl

theorem expand_list {α : Type} (cur vs : List α) (i j n m cap : Nat) (hc : cur.length = cap * 2) (hjn : j ≤ n) (hnc : n ≤ cap) (hroom : i + m + (n - j) ≤ cap) (hv : vs.length = m * 2) :
    (splice (splice cur ((i + m) * 2) ((cur.drop (j * 2)).take ((n - j) * 2))) (i * 2) vs).take ((i + m + (n - j)) * 2) = cur.take (i * 2) ++ vs ++ (cur.take (n * 2)).drop (j * 2) := by
  have e1 : ((cur.drop (j * 2)).take ((n - j) * 2)).length = (n - j) * 2 := by rw [List.length_take, List.length_drop]; omega
  rw [mid_eq _ _ _ hjn]
  generalize (cur.drop (j * 2)).take ((n - j) * 2) = mid at *
  have l1 : (splice cur ((i + m) * 2) mid).length = cap * 2 := by rw [length_splice _ _ _ (by rw [e1]; omega), hc]
  have e2 : (splice cur ((i + m) * 2) mid).take ((i + m + (n - j)) * 2) = cur.take ((i + m) * 2) ++ mid := splice_take_in _ _ _ _ (by rw [e1]; omega) (by rw [hc]; omega)
  have e3 : (splice (splice cur ((i + m) * 2) mid) (i * 2) vs) = (splice cur ((i + m) * 2) mid).take (i * 2) ++ (vs ++ (splice cur ((i + m) * 2) mid).drop ((i + m) * 2)) := by
    conv => lhs; unfold splice
    rw [hv, show i * 2 + m * 2 = (i + m) * 2 by omega]
    rfl
  rw [e3, splice_take _ _ _ _ (by omega) (by rw [hc]; omega)]
  have e4 : (splice cur ((i + m) * 2) mid).drop ((i + m) * 2) = mid ++ cur.drop ((i + m) * 2 + mid.length) := by
    unfold splice
    rw [List.drop_append_of_le_length (by rw [List.length_take]; omega), List.drop_of_length_le (by rw [List.length_take]; omega), List.nil_append]
  rw [e4]
  have e5 : (cur.take (i * 2) ++ (vs ++ mid)).length = (i + m + (n - j)) * 2 := by simp only [List.length_append, List.length_take, hv, e1]; omega
  rw [← List.append_assoc vs, ← List.append_assoc (cur.take (i * 2)), ← e5, List.take_left, List.append_assoc]

set_option maxHeartbeats 2000000 in
set_option maxRecDepth 100000 in
theorem replaceExpand_any (g cap n i j m : Nat) (cur : List Value) (vv : Value) (vs : List Value) (w : World) (hg : w.heap[g]? = some (.cells cur.toArray 56 (0, 0))) (hcur : cur.length = cap * 2) (hcap : cap ≤ maxLen) (hnc : n ≤ cap) (h1 : ∀ u ∈ cur.take (n * 2), u.oneCell' = true)
    (hij : i < j) (hjn : j < n) (hmj : j < i + m) (hroom : i + m + (n - j) ≤ cap) (hv : w.ownsRow 0 56 2 vv m vs) (hvg : vv.ownBlock ≠ some g) (h1v : ∀ u ∈ vs, u.oneCell' = true) :
    Calls Try.prog 56 #[.slice (some ⟨g, 0, none⟩) n cap, .int .i64 i, .int .i64 j, vv] w fun e w' => e = .returned (.slice (some ⟨g, 0, none⟩) (i + m + (n - j)) cap) ∧ w'.ownsRow 0 56 2 (.slice (some ⟨g, 0, none⟩) (i + m + (n - j)) cap) (i + m + (n - j)) (cur.take (i * 2) ++ vs ++ (cur.take (n * 2)).drop (j * 2)) ∧ w.grownBy w' (some g) := by
  have hvl := hv.1
  obtain ⟨vb, vc, vcur, rfl, hvb, hvl2, hvs⟩ := own_cells hv (by omega)
  have hne : g ≠ vb := fun e => hvg (by rw [← e]; rfl)
  have hbg : g < w.heap.size := (Array.getElem?_eq_some_iff.1 hg).1
  have hbv : vb < w.heap.size := (Array.getElem?_eq_some_iff.1 hvb).1
  have hfin := expand_list cur vs i j n m cap hcur (by omega) hnc hroom hvl
  have hlm : ((cur.drop (j * 2)).take ((n - j) * 2)).length = (n - j) * 2 := by rw [List.length_take, List.length_drop]; omega
  have hm1 : ∀ v ∈ (cur.drop (j * 2)).take ((n - j) * 2), v.oneCell' = true := fun v hv => h1 v (td_mem hv (by omega))
  obtain ⟨tot, htot⟩ : ∃ tot, tot = i + m + (n - j) := ⟨_, rfl⟩
  rw [← htot] at hfin hroom ⊢
  have hov : ∀ W, Below w.heap.size w W → ∀ lb cb, (callFunc 58 #[.slice (some ⟨g, (i + m) * 2, none⟩) lb cb, .slice (some ⟨vb, 0, none⟩) m vc]).run Try.prog W = .ok (.value (.bool false)) W := fun W hW lb cb => run_ov2 W vb g ((i + m) * 2) m vc lb cb vcur cur.toArray ((hW.block vb hbv).trans hvb) ((hW.block g hbg).trans hg) hne (by omega)
  have hcp1 : ∀ W, Below w.heap.size w W → ∀ ty c1 c2, (Builtin.copy_ #[48, 48] ty #[.slice (some ⟨g, (i + m) * 2, none⟩) (tot - (i + m)) c1, .slice (some ⟨g, j * 2, none⟩) (n - j) c2]).run Try.prog W = .ok (goInt (min (n - j) (tot - (i + m)) : Nat)) (W.setRow g (splice cur ((i + m) * 2) ((cur.drop (j * 2)).take ((n - j) * 2))).toArray) := fun W hW ty c1 c2 =>
    run_copy2 W ty _ _ _ _ _ _ g ((i + m) * 2) cur ((hW.block g hbg).trans hg) _ (by rw [hlm]; omega) (fun _ => ⟨rfl, _, rfl, row_cells ((hW.block g hbg).trans hg) (j * 2) (fun k v hk => td_get hk)⟩) (by rw [hlm]; omega) hm1
  have hl1 : (splice cur ((i + m) * 2) ((cur.drop (j * 2)).take ((n - j) * 2))).length = cap * 2 := by rw [length_splice _ _ _ (by rw [hlm]; omega), hcur]
  generalize splice cur ((i + m) * 2) ((cur.drop (j * 2)).take ((n - j) * 2)) = cur1 at *
  have hr1 : ∀ W, Below w.heap.size w W → (W.setRow g cur1.toArray).heap[g]? = some (.cells cur1.toArray 56 (0, 0)) := fun W hW => setRow_heap W g cur.toArray _ _ _ ((hW.block g hbg).trans hg)
  have hcp2 : ∀ W, Below w.heap.size w W → ∀ ty c1, (Builtin.copy_ #[48, 48] ty #[.slice (some ⟨g, i * 2, none⟩) (tot - i) c1, .slice (some ⟨vb, 0, none⟩) m vc]).run Try.prog (W.setRow g cur1.toArray) = .ok (goInt (min m (tot - i) : Nat)) ((W.setRow g cur1.toArray).setRow g (splice cur1 (i * 2) vs).toArray) := fun W hW ty c1 =>
    run_copy2 _ ty _ _ _ _ _ _ g (i * 2) cur1 (hr1 W hW) vs (by rw [hvl]; omega) (fun _ => ⟨rfl, _, rfl, fun k v hk => (cell_setRow_far (by rw [Addr.add_lit]; exact fun e => hne e.symm)).trans ((hW.cell (by rw [Addr.add_lit]; exact hbv)).trans (hvs k v hk))⟩) (by rw [hl1, hvl]; omega) h1v
  have hl2 : (splice cur1 (i * 2) vs).length = cap * 2 := by rw [length_splice _ _ _ (by rw [hl1, hvl]; omega), hl1]
  generalize splice cur1 (i * 2) vs = cur2 at *
  have hend : ∀ W, Below w.heap.size w W → ((W.setRow g cur1.toArray).setRow g cur2.toArray).ownsRow 0 56 2 (.slice (some ⟨g, 0, none⟩) tot cap) tot (cur.take (i * 2) ++ vs ++ (cur.take (n * 2)).drop (j * 2)) := fun W hW => own_of_row (setRow_heap _ g cur1.toArray _ _ _ (hr1 W hW)) hl2 hroom hcap hfin
  have HE := aside hend
  have HR1 := aside hr1
  have HC1 := aside hcp1
  have HC2 := aside hcp2
  have HOV := aside hov
  have HT := aside htot
  have t1 : i + m ≤ tot := by omega
  have t1z : (i : Int) + (m : Int) ≤ (tot : Int) := by omega
  have t2z : ¬ ((i : Int) + (m : Int) ≤ (j : Int)) := by omega
  have t3 : i < tot := by omega
  have t4 : ¬ (cap = i + m) := by omega
  have t5 : ¬ (cap = i) := by omega
  have t6 : ¬ (cap = j) := by omega
  have t7 : ¬ (n = j) := by omega
  have t9 : (i : Int) + (m : Int) + ((n - j : Nat) : Int) = (tot : Int) := by omega
  have t9b : (i : Int) + (m : Int) + ((n : Int) - (j : Int)) = (tot : Int) := by omega
  have hne1 : ((i : Int) == (j : Int)) = false := by simp; omega
  have hne2 : ((j : Int) == (n : Int)) = false := by simp; omega
  have hnez : ¬ (i = j) := by omega
  have hnez2 : ¬ (j = n) := by omega
  have hw1 : IntKind.i64.wrap ((i : Int) + (m : Int)) = ((i + m : Nat) : Int) := by unfold maxLen at hcap; rw [IntKind.wrap_i64]; omega
  have hb1 : (0 : Int) ≤ (i : Int) + (m : Int) := by omega
  have htn : ((i : Int) + (m : Int)).toNat = i + m := by omega
  have hjz : (j : Int) ≤ (n : Int) := by omega
  unfold maxLen at hcap
  clear hend hr1 hcp1 hcp2 hov htot hg h1 hv hvg h1v hl1 hl2 hlm hm1 hfin hvl hcur hvs hvb hvl2
  go_enter Try.func56, Try.ntmps56
  go_wp2
  refine region_ext (by kernel_rfl) (by kernel_rfl) ?_
  repeat (any_goals (first | go_big_quiet_step ((fail)) | quiet_step ((fail))))
  refine wpQuiet_nil ?_
  intro wq hq
  have hov2 := HOV.out wq hq
  have HO2 := aside hov2
  clear hov2
  go_wp2_with (simp only [HO2.out])
  go_region_law (refine step_copy_to rfl _ _ 48 48 rfl _ _ (by simp [Act.eval, Act.put]; rfl) (by simp [Act.eval, Act.put]; rfl) (HC1.out wq.drew hq.drew _ _ _) ?_)
  go_wp2_with ((with_reducible refine wpList_copy_to _ rfl _ _ 48 48 rfl (.slice (some ⟨g, i * 2, none⟩) (tot - i) (cap - i)) (.slice (some ⟨vb, 0, none⟩) m vc) ?_ ?_ (HC2.out wq.drew hq.drew _ _) ?_); rfl; rfl)
  go_ret
  refine ⟨rfl, HE.out wq.drew hq.drew, ?_⟩
  exact ⟨hq.os, hq.tape, hq.output, Nat.le_trans hq.size (by simp [World.setRow]), fun k hk hn => (setRow_other _ g k _ (fun e => hn (by rw [e]))).trans ((setRow_other _ g k _ (fun e => hn (by rw [e]))).trans (hq.block k hk))⟩
end Go.Proofs.Ytkekaljcbmkomaa
