/- slices.Replace of stretches, whole: what the new row holds, where it stands, what was changed. -/
import Derived.Test.YtkekaljcbmkomaaReplaceB
namespace Go.Proofs.Ytkekaljcbmkomaa
open Go.RowKit
attribute [local simp] lcells_nil readB_length bcells_length
theorem growrep_list {α : Type} (cur rest vs : List α) (i j n m cap : Nat) (hc : cur.length = cap * 2) (hin : i ≤ n) (hjn : j ≤ n) (hn : n ≤ cap) (hv : vs.length = m * 2) :
    (splice (splice (cur.take (i * 2) ++ rest) (i * 2) vs) ((i + m) * 2) ((cur.drop (j * 2)).take ((n - j) * 2))).take ((i + m + (n - j)) * 2) = cur.take (i * 2) ++ vs ++ (cur.take (n * 2)).drop (j * 2) := by
  have e1 : ((cur.drop (j * 2)).take ((n - j) * 2)).length = (n - j) * 2 := by rw [List.length_take, List.length_drop]; omega
  rw [mid_eq _ _ _ hjn]
  generalize (cur.drop (j * 2)).take ((n - j) * 2) = mid at *
  have ea : (cur.take (i * 2)).length = i * 2 := by rw [List.length_take]; omega
  generalize cur.take (i * 2) = A at *
  simp only [splice]
  rw [hv, e1]
  have e3 : List.take (i * 2) (A ++ rest) = A := by rw [← ea, List.take_left]
  rw [e3]
  have e4 : List.take ((i + m) * 2) (A ++ (vs ++ List.drop (i * 2 + m * 2) (A ++ rest))) = A ++ vs := by
    have : (A ++ vs).length = (i + m) * 2 := by rw [List.length_append, ea, hv]; omega
    rw [← List.append_assoc, ← this, List.take_left]
  rw [e4]
  have e5 : (A ++ vs ++ mid).length = (i + m + (n - j)) * 2 := by simp only [List.length_append, ea, hv, e1]; omega
  rw [← List.append_assoc (A ++ vs), ← e5, List.take_left]

set_option maxHeartbeats 2000000 in
set_option maxRecDepth 100000 in
theorem replaceGrow_any (g cap n i j m : Nat) (cur : List Value) (vv : Value) (vs : List Value) (w : World) (hg : w.heap[g]? = some (.cells cur.toArray 56 (0, 0))) (hcur : cur.length = cap * 2) (hcap : cap ≤ maxLen) (hnc : n ≤ cap) (h1 : ∀ u ∈ cur.take (n * 2), u.oneCell' = true) (hnb : n ≤ 4294967296) (hmb : m ≤ 4294967296)
    (hij : i < j) (hjn : j < n) (hroom : cap < i + m + (n - j)) (hv : w.ownsRow 0 56 2 vv m vs) (h1v : ∀ u ∈ vs, u.oneCell' = true) :
    Calls Try.prog 56 #[.slice (some ⟨g, 0, none⟩) n cap, .int .i64 i, .int .i64 j, vv] w fun e w' => ∃ v', e = .returned v' ∧ w'.ownsRow 0 56 2 v' (i + m + (n - j)) (cur.take (i * 2) ++ vs ++ (cur.take (n * 2)).drop (j * 2)) ∧ Below w.heap.size w w' ∧ ∃ k, v'.ownBlock = some k ∧ w.heap.size ≤ k := by
  have hvl := hv.1
  obtain ⟨vb, vc, vcur, rfl, hvb, hvl2, hvs⟩ := own_cells hv (by omega)
  have hbg : g < w.heap.size := (Array.getElem?_eq_some_iff.1 hg).1
  have hbv : vb < w.heap.size := (Array.getElem?_eq_some_iff.1 hvb).1
  have hlm : ((cur.drop (j * 2)).take ((n - j) * 2)).length = (n - j) * 2 := by rw [List.length_take, List.length_drop]; omega
  have hm1 : ∀ v ∈ (cur.drop (j * 2)).take ((n - j) * 2), v.oneCell' = true := fun v hv => h1 v (td_mem hv (by omega))
  obtain ⟨tot, htot⟩ : ∃ tot, tot = i + m + (n - j) := ⟨_, rfl⟩
  have hap : ∀ W, Below w.heap.size w W → ∃ cap' W1 rest, (∀ ty, (Builtin.append_ #[48, 3] ty #[.slice (some ⟨g, 0, none⟩) i cap, .int .i64 ((tot : Int) - (i : Int))]).run Try.prog W = .ok (.slice (some ⟨W.heap.size, 0, none⟩) tot cap') W1) ∧ W1.heap[W.heap.size]? = some (.cells (cur.take (i * 2) ++ rest).toArray 56 (0, 0)) ∧ (cur.take (i * 2) ++ rest).length = cap' * 2 ∧ tot ≤ cap' ∧ cap' ≤ maxLen ∧ Below W.heap.size W W1 := fun W hW => by
    obtain ⟨cap', W1, rest, h, h2, h3, h4, h5, h6⟩ := append_zeros W g cap i (tot - i) cur ((hW.block g hbg).trans hg) hcur (by omega) (by omega) (by omega) (by omega)
    rw [show i + (tot - i) = tot by omega] at h h4
    exact ⟨cap', W1, rest, fun ty => by rw [show (tot : Int) - (i : Int) = ((tot - i : Nat) : Int) by omega]; exact h ty, h2, h3, h4, h5, h6⟩
  have hfin := fun rest => growrep_list cur rest vs i j n m cap hcur (by omega) (by omega) hnc hvl
  rw [← htot] at hfin hroom ⊢
  have hcp1 : ∀ (W1 : World) (G cap' : Nat) (cur0 : List Value), Below w.heap.size w W1 → W1.heap[G]? = some (.cells cur0.toArray 56 (0, 0)) → cur0.length = cap' * 2 → tot ≤ cap' → ∀ ty c1, (Builtin.copy_ #[48, 48] ty #[.slice (some ⟨G, i * 2, none⟩) (tot - i) c1, .slice (some ⟨vb, 0, none⟩) m vc]).run Try.prog W1 = .ok (goInt (min m (tot - i) : Nat)) (W1.setRow G (splice cur0 (i * 2) vs).toArray) := fun W1 G cap' cur0 hB hr hl ht ty c1 =>
    run_copy2 W1 ty _ _ _ _ _ _ G (i * 2) cur0 hr vs (by rw [hvl]; omega) (fun _ => ⟨rfl, _, rfl, fun k v hk => (hB.cell (by rw [Addr.add_lit]; exact hbv)).trans (hvs k v hk)⟩) (by rw [hl, hvl]; omega) h1v
  have hcp2 : ∀ (W2 : World) (G cap' : Nat) (cur1 : List Value), Below w.heap.size w W2 → W2.heap[G]? = some (.cells cur1.toArray 56 (0, 0)) → cur1.length = cap' * 2 → tot ≤ cap' → ∀ ty c1 c2, (Builtin.copy_ #[48, 48] ty #[.slice (some ⟨G, (i + m) * 2, none⟩) (tot - (i + m)) c1, .slice (some ⟨g, j * 2, none⟩) (n - j) c2]).run Try.prog W2 = .ok (goInt (min (n - j) (tot - (i + m)) : Nat)) (W2.setRow G (splice cur1 ((i + m) * 2) ((cur.drop (j * 2)).take ((n - j) * 2))).toArray) := fun W2 G cap' cur1 hB hr hl ht ty c1 c2 =>
    run_copy2 W2 ty _ _ _ _ _ _ G ((i + m) * 2) cur1 hr _ (by rw [hlm]; omega) (fun _ => ⟨rfl, _, rfl, row_cells ((hB.block g hbg).trans hg) (j * 2) (fun k v hk => td_get hk)⟩) (by rw [hlm, hl]; omega) hm1
  have HA := aside hap
  have HF := aside hfin
  have HC1 := aside hcp1
  have HC2 := aside hcp2
  have HVL := aside hvl
  have HLM := aside hlm
  have HT := aside htot
  have t1 : i + m ≤ tot := by omega
  have t1z : (i : Int) + (m : Int) ≤ (tot : Int) := by omega
  have t3 : i < tot := by omega
  have t5 : ¬ (cap = i) := by omega
  have t6 : ¬ (cap = j) := by omega
  have t7 : ¬ (n = j) := by omega
  have t8 : i ≤ cap := by omega
  have t9 : (i : Int) + (m : Int) + ((n - j : Nat) : Int) = (tot : Int) := by omega
  have t9b : (i : Int) + (m : Int) + ((n : Int) - (j : Int)) = (tot : Int) := by omega
  have t10 : tot ≤ 8589934592 := by omega
  have t11 : i + m < tot := by omega
  have hne1 : ((i : Int) == (j : Int)) = false := by simp; omega
  have hne2 : ((j : Int) == (n : Int)) = false := by simp; omega
  have hnez : ¬ (i = j) := by omega
  have hnez2 : ¬ (j = n) := by omega
  have hw1 : IntKind.i64.wrap ((i : Int) + (m : Int)) = ((i + m : Nat) : Int) := by rw [IntKind.wrap_i64]; omega
  have hb1 : (0 : Int) ≤ (i : Int) + (m : Int) := by omega
  have htn : ((i : Int) + (m : Int)).toNat = i + m := by omega
  have hjz : (j : Int) ≤ (n : Int) := by omega
  unfold maxLen at hcap
  clear hap hfin hcp1 hcp2 htot hg h1 hv h1v hlm hm1 hvl hcur hvs hvb hvl2
  go_enter Try.func56, Try.ntmps56
  go_wp2
  refine region_ext (by kernel_rfl) (by kernel_rfl) ?_
  repeat (any_goals (first | go_big_quiet_step ((fail)) | quiet_step ((fail))))
  refine wpQuiet_nil ?_
  intro wq hq
  obtain ⟨cap', W1, rest, hap, hr1, hl1, hc1, hcm, hB1⟩ := HA.out wq hq
  have hwW1 : Below w.heap.size w W1 := below_tr hq hB1
  have hfin := HF.out rest
  generalize cur.take (i * 2) ++ rest = cur0 at *
  have hcp1 := HC1.out W1 wq.heap.size cap' cur0 hwW1 hr1 hl1 hc1
  have hl2 : (splice cur0 (i * 2) vs).length = cap' * 2 := by rw [length_splice _ _ _ (by rw [hl1, HVL.out]; omega), hl1]
  generalize splice cur0 (i * 2) vs = cur1 at *
  have hr2 : (W1.setRow wq.heap.size cur1.toArray).heap[wq.heap.size]? = some (.cells cur1.toArray 56 (0, 0)) := setRow_heap W1 _ cur0.toArray _ _ _ hr1
  have hwW2 : Below w.heap.size w (W1.setRow wq.heap.size cur1.toArray) := below_setRow_new hwW1 hq.size _
  have hcp2 := HC2.out (W1.setRow wq.heap.size cur1.toArray).drew wq.heap.size cap' cur1 hwW2.drew hr2 hl2 hc1
  have hend : ((W1.setRow wq.heap.size cur1.toArray).drew.setRow wq.heap.size (splice cur1 ((i + m) * 2) ((cur.drop (j * 2)).take ((n - j) * 2))).toArray).ownsRow 0 56 2 (.slice (some ⟨wq.heap.size, 0, none⟩) tot cap') tot (cur.take (i * 2) ++ vs ++ (cur.take (n * 2)).drop (j * 2)) :=
    own_of_row (setRow_heap _ _ cur1.toArray _ _ _ hr2) (by rw [length_splice _ _ _ (by rw [hl2, HLM.out]; omega), hl2]) hc1 hcm hfin
  have hbe : Below w.heap.size w ((W1.setRow wq.heap.size cur1.toArray).drew.setRow wq.heap.size (splice cur1 ((i + m) * 2) ((cur.drop (j * 2)).take ((n - j) * 2))).toArray) := below_setRow_new hwW2.drew hq.size _
  have HAP := aside hap
  have HP1 := aside hcp1
  have HP2 := aside hcp2
  have HE := aside hend
  have HB := aside hbe
  have t12 : ¬ (cap' = i) := by omega
  have t13 : ¬ (cap' = i + m) := by omega
  unfold maxLen at hcm
  clear hap hcp1 hcp2 hend hbe hfin hr1 hr2 hl1 hl2 hwW1 hwW2 hB1
  go_wp2_with (first
    | ((with_reducible refine wpList_append_to _ rfl _ _ 48 3 rfl (.slice (some ⟨g, 0, none⟩) i cap) (.int .i64 ((tot : Int) - (i : Int))) ?_ ?_ (HAP.out _) ?_); rfl; rfl)
    | ((with_reducible refine wpList_copy_to _ rfl _ _ 48 48 rfl (.slice (some ⟨wq.heap.size, i * 2, none⟩) (tot - i) (cap' - i)) (.slice (some ⟨vb, 0, none⟩) m vc) ?_ ?_ (HP1.out _ _) ?_); rfl; rfl))
  go_region_law (refine step_copy_to rfl _ _ 48 48 rfl _ _ (by simp [Act.eval, Act.put]; rfl) (by simp [Act.eval, Act.put]; rfl) (HP2.out _ _ _) ?_)
  go_wp2
  go_ret
  exact ⟨_, rfl, HE.out, HB.out, _, rfl, hq.size⟩

set_option maxHeartbeats 400000 in
set_option maxRecDepth 100000 in
theorem replaceSame_any (lv : Value) (n i m : Nat) (xs : List Value) (vv : Value) (vs : List Value) (w : World) (hown : w.ownsRow 0 56 2 lv n xs) (h1 : ∀ u ∈ xs, u.oneCell' = true) (hi : i ≤ n) (hnb : n ≤ 4294967296) (hmb : m ≤ 4294967296)
    (hv : w.ownsRow 0 56 2 vv m vs) (hv0 : m = 0 → vv = .slice none 0 0) (hvg : ∀ k, lv.ownBlock = some k → vv.ownBlock ≠ some k) (h1v : ∀ u ∈ vs, u.oneCell' = true) :
    Calls Try.prog 56 #[lv, .int .i64 i, .int .i64 i, vv] w fun e w' => ∃ v', e = .returned v' ∧ w'.ownsRow 0 56 2 v' (n + m) (xs.take (i * 2) ++ vs ++ xs.drop (i * 2)) ∧ w.grownBy w' lv.ownBlock ∧ (v'.ownBlock = lv.ownBlock ∨ ∃ k, v'.ownBlock = some k ∧ w.heap.size ≤ k) := by
  have HI := aside (insert_any lv n i m xs vv vs w hown h1 hi hnb hmb hv hv0 hvg h1v)
  obtain ⟨a, cap, hlv, hc1, hc2⟩ := row_form hown
  obtain ⟨va, vcap, hvf, -, -⟩ := row_form hv
  obtain ⟨ob, hob⟩ : ∃ ob, ob = lv.ownBlock := ⟨_, rfl⟩
  rw [← hob]
  have HOB := aside hob
  have HV := aside hlv
  have HVF := aside hvf
  have hiz : (i : Int) ≤ (n : Int) := by omega
  have hicz : (i : Int) ≤ (cap : Int) := by omega
  clear hown h1 h1v hob hv hv0 hvg
  unfold maxLen at hc2
  go_enter Try.func56, Try.ntmps56
  rw [hlv, hvf]
  clear hlv hvf
  go_wp2_with (go_at_call 57; rw [← HV.out, ← HVF.out]; refine HI.out.mono ?_; rintro e w1 ⟨v1, rfl, ho1, hg1, hw1⟩)
  all_goals go_ret
  all_goals
    rw [← HOB.out] at hg1 hw1
    rw [List.append_assoc] at ho1
    exact ⟨_, rfl, ho1, hg1, hw1⟩

/-- slices.Replace of stretches, whole. -/
theorem replace_any (lv : Value) (n i j m : Nat) (xs : List Value) (vv : Value) (vs : List Value) (w : World) (hown : w.ownsRow 0 56 2 lv n xs) (h1 : ∀ u ∈ xs, u.oneCell' = true) (hij : i ≤ j) (hjn : j ≤ n) (hnb : n ≤ 4294967296) (hmb : m ≤ 4294967296)
    (hv : w.ownsRow 0 56 2 vv m vs) (hv0 : m = 0 → vv = .slice none 0 0) (hvg : ∀ k, lv.ownBlock = some k → vv.ownBlock ≠ some k) (h1v : ∀ u ∈ vs, u.oneCell' = true) :
    Calls Try.prog 56 #[lv, .int .i64 i, .int .i64 j, vv] w fun e w' => ∃ v', e = .returned v' ∧ w'.ownsRow 0 56 2 v' (i + m + (n - j)) (xs.take (i * 2) ++ vs ++ xs.drop (j * 2)) ∧ w.grownBy w' lv.ownBlock ∧ (v'.ownBlock = lv.ownBlock ∨ ∃ k, v'.ownBlock = some k ∧ w.heap.size ≤ k) := by
  rcases Nat.lt_or_eq_of_le hij with hlt | rfl
  · rcases hown.2 with ⟨-, h0⟩ | ⟨g, cap, cur, rfl, -, hg, hnc, hcm, hcs, htake⟩
    · omega
    · have hg2 : w.heap[g]? = some (.cells cur.toList.toArray 56 (0, 0)) := by simpa using hg
      have hcl : cur.toList.length = cap * 2 := by simpa using hcs
      have e1 : cur.toList.take (i * 2) = xs.take (i * 2) := by rw [← htake, List.take_take]; congr 1; omega
      rcases Nat.lt_or_eq_of_le hjn with hjlt | rfl
      · have fin : ∀ w' : World, w'.ownsRow 0 56 2 (.slice (some ⟨g, 0, none⟩) (i + m + (n - j)) cap) (i + m + (n - j)) (cur.toList.take (i * 2) ++ vs ++ (cur.toList.take (n * 2)).drop (j * 2)) → w'.ownsRow 0 56 2 (.slice (some ⟨g, 0, none⟩) (i + m + (n - j)) cap) (i + m + (n - j)) (xs.take (i * 2) ++ vs ++ xs.drop (j * 2)) := fun w' h => by rw [htake, e1] at h; exact h
        by_cases hs : i + m ≤ j
        · refine (replaceShrink_any g cap n i j m cur.toList vv vs w hg2 hcl hcm hnc (by rw [htake]; exact h1) hlt hjlt hs hv (hvg g rfl) h1v).mono ?_
          rintro e w' ⟨rfl, ho, hgr⟩
          exact ⟨_, rfl, fin w' ho, hgr, .inl rfl⟩
        · by_cases hroom : i + m + (n - j) ≤ cap
          · refine (replaceExpand_any g cap n i j m cur.toList vv vs w hg2 hcl hcm hnc (by rw [htake]; exact h1) hlt hjlt (by omega) hroom hv (hvg g rfl) h1v).mono ?_
            rintro e w' ⟨rfl, ho, hgr⟩
            exact ⟨_, rfl, fin w' ho, hgr, .inl rfl⟩
          · refine (replaceGrow_any g cap n i j m cur.toList vv vs w hg2 hcl hcm hnc (by rw [htake]; exact h1) hnb hmb hlt hjlt (by omega) hv h1v).mono ?_
            rintro e w' ⟨v', rfl, ho, hb, hk⟩
            rw [htake, e1] at ho
            exact ⟨_, rfl, ho, ⟨hb.os, hb.tape, hb.output, hb.size, fun k hk _ => hb.block k hk⟩, .inr hk⟩
      · have e2 : xs.drop (j * 2) = [] := List.drop_of_length_le (by rw [hown.1]; exact Nat.le_refl _)
        rw [e2, List.append_nil, Nat.sub_self, Nat.add_zero]
        by_cases hroom : i + m ≤ cap
        · refine (replaceTail_any g cap j i m cur.toList vv vs w hg2 hcl hcm hnc hlt hroom hv hv0 h1v).mono ?_
          rintro e w' ⟨rfl, ho, hgr⟩
          rw [e1] at ho
          exact ⟨_, rfl, ho, hgr, .inl rfl⟩
        · refine (replaceTailGrow_any g cap j i m (xs.take (i * 2)) vv vs w (own_of_row hg2 hcl (by omega) hcm e1) hnc hnb hmb hlt (by omega) hv h1v).mono ?_
          rintro e w' ⟨v', rfl, ho, hgr, hk⟩
          exact ⟨_, rfl, ho, hgr, hk⟩
  · refine (replaceSame_any lv n i m xs vv vs w hown h1 hjn hnb hmb hv hv0 hvg h1v).mono ?_
    rintro e w' ⟨v', rfl, ho, hgr, hk⟩
    refine ⟨v', rfl, ?_, hgr, hk⟩
    rw [show i + m + (n - i) = n + m by omega]
    exact ho
end Go.Proofs.Ytkekaljcbmkomaa
