/- slices.Replace of stretches up to the end, and where what is put is no longer than what is taken. -/
import Derived.Test.YtkekaljcbmkomaaInsert
namespace Go.Proofs.Ytkekaljcbmkomaa
open Go.RowKit
attribute [local simp] lcells_nil readB_length bcells_length
theorem splice_take {α : Type} (l c : List α) (off k : Nat) (hk : k ≤ off) (ho : off ≤ l.length) : (splice l off c).take k = l.take k := by
  unfold splice
  rw [List.take_append_of_le_length (by rw [List.length_take]; omega), List.take_take]; congr 1; omega
theorem splice_take_in {α : Type} (l c : List α) (off k : Nat) (hk : k = off + c.length) (ho : off ≤ l.length) : (splice l off c).take k = l.take off ++ c := by
  subst hk
  unfold splice
  have e : (l.take off ++ c).length = off + c.length := by rw [List.length_append, List.length_take]; omega
  rw [← List.append_assoc, ← e, List.take_left]
theorem splice_drop {α : Type} (l c : List α) (off k : Nat) (hk : off + c.length ≤ k) (ho : off ≤ l.length) : (splice l off c).drop k = l.drop k := by
  unfold splice
  have e : (l.take off ++ c).length = off + c.length := by rw [List.length_append, List.length_take]; omega
  rw [← List.append_assoc, List.drop_append, List.drop_of_length_le (by rw [e]; exact hk), List.nil_append, List.drop_drop, e]
  congr 1; omega
theorem mid_eq {α : Type} (l : List α) (j n : Nat) (h : j ≤ n) : (l.take (n * 2)).drop (j * 2) = (l.drop (j * 2)).take ((n - j) * 2) := by rw [List.drop_take]; congr 1; omega

/-- append(s[:i], v...) where there is room. -/
theorem append_inplace (w : World) (g cap i m : Nat) (cur : List Value) (vv : Value) (vs : List Value) (hg : w.heap[g]? = some (.cells cur.toArray 56 (0, 0))) (hcur : cur.length = cap * 2) (hroom : i + m ≤ cap) (hv : w.ownsRow 0 56 2 vv m vs) (hv0 : m = 0 → vv = .slice none 0 0) (h1v : ∀ u ∈ vs, u.oneCell' = true) :
    ∀ ty, (Builtin.append_ #[48, 48] ty #[.slice (some ⟨g, 0, none⟩) i cap, vv]).run Try.prog w = .ok (.slice (some ⟨g, 0, none⟩) (i + m) cap) (w.setRow g (splice cur (i * 2) vs).toArray) := by
  intro ty
  obtain ⟨ti, hi6, hz, hs, hb⟩ := info_parts info56
  by_cases hm : m = 0
  · subst hm
    obtain rfl := hv0 rfl
    obtain rfl : vs = [] := List.eq_nil_of_length_eq_zero (by simpa using hv.1)
    rw [show (splice cur (i * 2) []).toArray = cur.toArray by simp [splice], setRow_same hg]
    have hnc : i ≤ cap := by omega
    simp [Builtin.append_, run_underlying Try.underlying48, sizeOf, typeInfo, hi6, Builtin.lenOf, Builtin.firstCells, hnc, storeCells]
  · obtain ⟨vb, vc, vcur, rfl, -, -, hvs⟩ := own_cells hv (by omega)
    have hvl := hv.1
    have h := run_append_room (P := Try.prog) w 48 ty 56 ti Try.underlying48 hi6 g i cap cur.toArray hg ⟨vb, 0, none⟩ m vc vs (by rw [hs]; exact hvl) hvs h1v hroom (by rw [hs, hvl]; simp; omega)
    rw [h, hs]
    simp [splice]

set_option maxHeartbeats 1000000 in
set_option maxRecDepth 100000 in
theorem replaceTail_any (g cap n i m : Nat) (cur : List Value) (vv : Value) (vs : List Value) (w : World) (hg : w.heap[g]? = some (.cells cur.toArray 56 (0, 0))) (hcur : cur.length = cap * 2) (hcap : cap ≤ maxLen) (hnc : n ≤ cap)
    (hi : i < n) (hroom : i + m ≤ cap) (hv : w.ownsRow 0 56 2 vv m vs) (hv0 : m = 0 → vv = .slice none 0 0) (h1v : ∀ u ∈ vs, u.oneCell' = true) :
    Calls Try.prog 56 #[.slice (some ⟨g, 0, none⟩) n cap, .int .i64 i, .int .i64 n, vv] w fun e w' => e = .returned (.slice (some ⟨g, 0, none⟩) (i + m) cap) ∧ w'.ownsRow 0 56 2 (.slice (some ⟨g, 0, none⟩) (i + m) cap) (i + m) (cur.take (i * 2) ++ vs) ∧ w.grownBy w' (some g) := by
  have hvl := hv.1
  have hap := append_inplace w g cap i m cur vv vs hg hcur hroom hv hv0 h1v
  obtain ⟨va, vc, hvf, -, -⟩ := row_form hv
  have hl1 : (splice cur (i * 2) vs).length = cap * 2 := by rw [length_splice _ _ _ (by rw [hvl]; omega), hcur]
  have ht1 : (splice cur (i * 2) vs).take ((i + m) * 2) = cur.take (i * 2) ++ vs := splice_take_in cur vs (i * 2) _ (by rw [hvl]; omega) (by omega)
  generalize splice cur (i * 2) vs = cur1 at *
  have hr1 : (w.setRow g cur1.toArray).heap[g]? = some (.cells cur1.toArray 56 (0, 0)) := setRow_heap w g cur.toArray _ _ _ hg
  have hgr1 : w.grownBy (w.setRow g cur1.toArray) (some g) := ⟨rfl, rfl, rfl, by simp [World.setRow], fun k _ hk => setRow_other _ g k _ (fun e => hk (by rw [e]))⟩
  have hW1 : ∀ c, ∃ W1, W1 = w.setRow g c := fun c => ⟨_, rfl⟩
  obtain ⟨W1, hW1⟩ := hW1 cur1.toArray
  rw [← hW1] at hap hr1 hgr1
  clear hW1
  have hn1 : ¬ (n = i) := by omega
  have hne : ((i : Int) == (n : Int)) = false := by simp; omega
  have hiz : (i : Int) ≤ (n : Int) := by omega
  have hicz : i ≤ cap := by omega
  subst hvf
  have HA := aside hap
  have hc2 : ¬ (cap = i) := by omega
  by_cases hclr : i + m < n
  · have hcl : ∀ ty c, (Builtin.clear_ #[48] ty #[.slice (some ⟨g, (i + m) * 2, none⟩) (n - (i + m)) c]).run Try.prog W1 = .ok (.tuple #[]) (W1.setRow g (splice cur1 ((i + m) * 2) (zc (n - (i + m)))).toArray) := fun ty c => run_clear2 W1 ty _ _ c g ((i + m) * 2) cur1 hr1 (fun _ => rfl) (by rw [hl1]; omega)
    have hend : (W1.setRow g (splice cur1 ((i + m) * 2) (zc (n - (i + m)))).toArray).ownsRow 0 56 2 (.slice (some ⟨g, 0, none⟩) (i + m) cap) (i + m) (cur.take (i * 2) ++ vs) :=
      own_of_row (setRow_heap W1 g cur1.toArray _ _ _ hr1) (by rw [length_splice _ _ _ (by rw [zc_length, hl1]; omega), hl1]) hroom hcap (by rw [splice_take _ _ _ _ (Nat.le_refl _) (by omega), ht1])
    have hgr : w.grownBy (W1.setRow g (splice cur1 ((i + m) * 2) (zc (n - (i + m)))).toArray) (some g) := ⟨hgr1.os, hgr1.tape, hgr1.output, Nat.le_trans hgr1.size (by simp [World.setRow]), fun k hk hn => (setRow_other _ g k _ (fun e => hn (by rw [e]))).trans (hgr1.block k hk hn)⟩
    have HE := aside hend
    have HG := aside hgr
    have HC := aside hcl
    have hcz : (i : Int) + (m : Int) < (n : Int) := by omega
    have hc3 : ¬ (cap = i + m) := by omega
    unfold maxLen at hcap
    clear hend hgr hcl hap hg hv hv0 h1v hcur hl1 ht1 hr1 hgr1 hvl
    go_enter Try.func56, Try.ntmps56
    go_wp2_with (first
      | ((with_reducible refine wpList_append_to _ rfl _ _ 48 48 rfl (.slice (some ⟨g, 0, none⟩) i cap) (.slice va m vc) ?_ ?_ (HA.out _) ?_); rfl; rfl)
      | ((with_reducible refine wpList_clear_to _ rfl _ 48 rfl (.slice (some ⟨g, (i + m) * 2, none⟩) (n - (i + m)) (cap - (i + m))) ?_ (HC.out _ _) ?_); rfl))
    go_ret
    exact ⟨rfl, HE.out, HG.out⟩
  · have hend : W1.ownsRow 0 56 2 (.slice (some ⟨g, 0, none⟩) (i + m) cap) (i + m) (cur.take (i * 2) ++ vs) := own_of_row hr1 hl1 hroom hcap ht1
    have HE := aside hend
    have HG := aside hgr1
    have hcz : ¬ ((i : Int) + (m : Int) < (n : Int)) := by omega
    unfold maxLen at hcap
    clear hend hap hg hv hv0 h1v hcur hl1 ht1 hr1 hgr1 hvl
    go_enter Try.func56, Try.ntmps56
    go_wp2_with (first
      | ((with_reducible refine wpList_append_to _ rfl _ _ 48 48 rfl (.slice (some ⟨g, 0, none⟩) i cap) (.slice va m vc) ?_ ?_ (HA.out _) ?_); rfl; rfl))
    go_ret
    exact ⟨rfl, HE.out, HG.out⟩

set_option maxHeartbeats 1000000 in
set_option maxRecDepth 100000 in
theorem replaceTailGrow_any (g cap n i m : Nat) (xs : List Value) (vv : Value) (vs : List Value) (w : World) (hown : w.ownsRow 0 56 2 (.slice (some ⟨g, 0, none⟩) i cap) i xs) (hnc : n ≤ cap) (hnb : n ≤ 4294967296) (hmb : m ≤ 4294967296)
    (hi : i < n) (hroom : cap < i + m) (hv : w.ownsRow 0 56 2 vv m vs) (h1v : ∀ u ∈ vs, u.oneCell' = true) :
    Calls Try.prog 56 #[.slice (some ⟨g, 0, none⟩) n cap, .int .i64 i, .int .i64 n, vv] w fun e w' => ∃ v', e = .returned v' ∧ w'.ownsRow 0 56 2 v' (i + m) (xs ++ vs) ∧ w.grownBy w' (some g) ∧ (v'.ownBlock = some g ∨ ∃ k, v'.ownBlock = some k ∧ w.heap.size ≤ k) := by
  obtain ⟨vb, vc, vcur, rfl, -, -, hvs⟩ := own_cells hv (by omega)
  have h63 : i + m ≤ maxLen := by unfold maxLen; omega
  have hby : (i + m) * 32 ≤ 140737488355328 := by omega
  have hvl := hv.1
  have HO := aside hown
  have HVS := aside hvs
  have H63 := aside h63
  have HL := aside hvl
  have H1 := aside h1v
  have hm : 0 < m := by omega
  have hn1 : ¬ (n = i) := by omega
  have hne : ((i : Int) == (n : Int)) = false := by simp; omega
  have hiz : (i : Int) ≤ (n : Int) := by omega
  have hicz : i ≤ cap := by omega
  have hc2 : ¬ (cap = i) := by omega
  have hcap : cap ≤ 9223372036854775807 := by obtain ⟨_, _, e, -, h⟩ := row_form hown; simp only [Value.slice.injEq] at e; unfold maxLen at h; omega
  have hcz : ¬ ((i : Int) + (m : Int) < (n : Int)) := by omega
  clear hown hvs h63 hvl h1v hv
  go_enter Try.func56, Try.ntmps56
  go_wp2_with (at_builtin; refine wpList_append_where _ rfl _ _ 48 rfl 56 (.agg #[.int .i64 0, .slice none 0 0]) 2 32 Try.underlying48 info56 rfl (by decide) (.slice (some ⟨g, 0, none⟩) i cap) i xs rfl HO.out ⟨vb, 0, none⟩ m vc vs rfl HL.out HVS.out H1.out H63.out hby hm ?_; intro v' w' ho hg hwh; obtain ⟨va, vcc, hvf, -, -⟩ := row_form ho; have HO1 := aside ho; have HG1 := aside hg; have HW1 := aside hwh; clear ho hg hwh; subst hvf)
  all_goals
    go_ret
    refine ⟨_, rfl, HO1.out, HG1.out, ?_⟩
    rcases HW1.out with ⟨e, -⟩ | ⟨e, -⟩
    · exact .inl e
    · exact .inr ⟨_, e, Nat.le_refl _⟩

theorem shrink_list {α : Type} (cur vs zs : List α) (i j n m cap : Nat) (hc : cur.length = cap * 2) (hjn : j ≤ n) (hn : n ≤ cap) (hmj : i + m ≤ j) (hv : vs.length = m * 2) :
    (splice (splice (splice cur (i * 2) vs) ((i + m) * 2) ((cur.drop (j * 2)).take ((n - j) * 2))) ((i + m + (n - j)) * 2) zs).take ((i + m + (n - j)) * 2) = cur.take (i * 2) ++ vs ++ (cur.take (n * 2)).drop (j * 2) := by
  have e1 : ((cur.drop (j * 2)).take ((n - j) * 2)).length = (n - j) * 2 := by rw [List.length_take, List.length_drop]; omega
  have l1 : (splice cur (i * 2) vs).length = cap * 2 := by rw [length_splice _ _ _ (by rw [hv]; omega), hc]
  have l2 : (splice (splice cur (i * 2) vs) ((i + m) * 2) ((cur.drop (j * 2)).take ((n - j) * 2))).length = cap * 2 := by rw [length_splice _ _ _ (by rw [e1, l1]; omega), l1]
  rw [splice_take _ _ _ _ (Nat.le_refl _) (by rw [l2]; omega), splice_take_in _ _ _ _ (by rw [e1]; omega) (by rw [l1]; omega), splice_take_in _ _ _ _ (by rw [hv]; omega) (by rw [hc]; omega), mid_eq _ _ _ hjn]

set_option maxHeartbeats 2000000 in
set_option maxRecDepth 100000 in
theorem replaceShrink_any (g cap n i j m : Nat) (cur : List Value) (vv : Value) (vs : List Value) (w : World) (hg : w.heap[g]? = some (.cells cur.toArray 56 (0, 0))) (hcur : cur.length = cap * 2) (hcap : cap ≤ maxLen) (hnc : n ≤ cap) (h1 : ∀ u ∈ cur.take (n * 2), u.oneCell' = true)
    (hij : i < j) (hjn : j < n) (hmj : i + m ≤ j) (hv : w.ownsRow 0 56 2 vv m vs) (hvg : vv.ownBlock ≠ some g) (h1v : ∀ u ∈ vs, u.oneCell' = true) :
    Calls Try.prog 56 #[.slice (some ⟨g, 0, none⟩) n cap, .int .i64 i, .int .i64 j, vv] w fun e w' => e = .returned (.slice (some ⟨g, 0, none⟩) (i + m + (n - j)) cap) ∧ w'.ownsRow 0 56 2 (.slice (some ⟨g, 0, none⟩) (i + m + (n - j)) cap) (i + m + (n - j)) (cur.take (i * 2) ++ vs ++ (cur.take (n * 2)).drop (j * 2)) ∧ w.grownBy w' (some g) := by
  have hvl := hv.1
  obtain ⟨va, vc, hvf, -, -⟩ := row_form hv
  have hfin := shrink_list cur vs (zc (n - (i + m + (n - j)))) i j n m cap hcur (by omega) hnc hmj hvl
  have hl1 : (splice cur (i * 2) vs).length = cap * 2 := by rw [length_splice _ _ _ (by rw [hvl]; omega), hcur]
  have hd1 : ∀ k v, ((cur.drop (j * 2)).take ((n - j) * 2))[k]? = some v → (splice cur (i * 2) vs)[j * 2 + k]? = some v := fun k v hk => by
    have h2 := td_get hk
    rw [← List.getElem?_drop] at h2 ⊢
    rw [splice_drop _ _ _ _ (by rw [hvl]; omega) (by rw [hcur]; omega)]; exact h2
  have hlm : ((cur.drop (j * 2)).take ((n - j) * 2)).length = (n - j) * 2 := by rw [List.length_take, List.length_drop]; omega
  have hm1 : ∀ v ∈ (cur.drop (j * 2)).take ((n - j) * 2), v.oneCell' = true := fun v hv => h1 v (td_mem hv (by omega))
  have hpos : 0 < m → ∃ ad, va = some ad ∧ ad.block ≠ g ∧ ∀ W, Below w.heap.size w W → ∀ k u, vs[k]? = some u → W.cell? (ad.add k) = some u := fun hm => by
    obtain ⟨vb, vc', vcur, e, hvb, -, hvs⟩ := own_cells hv hm
    rw [hvf] at e
    simp only [Value.slice.injEq, true_and] at e
    obtain ⟨rfl, rfl⟩ := e
    refine ⟨_, rfl, fun e => hvg (by rw [hvf, ← e]; rfl), fun W hW k u hk => ?_⟩
    exact (hW.cell (World.block_lt_of_cell? w _ (hvs k u hk))).trans (hvs k u hk)
  have hbg : g < w.heap.size := (Array.getElem?_eq_some_iff.1 hg).1
  obtain ⟨tot, htot⟩ : ∃ tot, tot = i + m + (n - j) := ⟨_, rfl⟩
  rw [← htot] at hfin ⊢
  have hcp1 : ∀ W, Below w.heap.size w W → ∀ ty c1, (Builtin.copy_ #[48, 48] ty #[.slice (some ⟨g, i * 2, none⟩) (tot - i) c1, .slice va m vc]).run Try.prog W = .ok (goInt (min m (tot - i) : Nat)) (W.setRow g (splice cur (i * 2) vs).toArray) := fun W hW ty c1 =>
    run_copy2 W ty _ _ _ _ _ _ g (i * 2) cur ((hW.block g hbg).trans hg) vs (by rw [hvl]; omega) (fun h0 => by obtain ⟨ad, e, -, h⟩ := hpos (by rw [hvl] at h0; omega); exact ⟨rfl, ad, e, h W hW⟩) (by rw [hvl]; omega) h1v
  clear hpos
  have hr1 : ∀ W, Below w.heap.size w W → (W.setRow g (splice cur (i * 2) vs).toArray).heap[g]? = some (.cells (splice cur (i * 2) vs).toArray 56 (0, 0)) := fun W hW => setRow_heap W g cur.toArray _ _ _ ((hW.block g hbg).trans hg)
  generalize splice cur (i * 2) vs = cur1 at *
  have hl2 : (splice cur1 ((i + m) * 2) ((cur.drop (j * 2)).take ((n - j) * 2))).length = cap * 2 := by rw [length_splice _ _ _ (by rw [hlm]; omega), hl1]
  have hcp2 : ∀ W : World, W.heap[g]? = some (.cells cur1.toArray 56 (0, 0)) → ∀ ty c1 c2, (Builtin.copy_ #[48, 48] ty #[.slice (some ⟨g, (i + m) * 2, none⟩) (tot - (i + m)) c1, .slice (some ⟨g, j * 2, none⟩) (n - j) c2]).run Try.prog W = .ok (goInt (min (n - j) (tot - (i + m)) : Nat)) (W.setRow g (splice cur1 ((i + m) * 2) ((cur.drop (j * 2)).take ((n - j) * 2))).toArray) := fun W hW ty c1 c2 =>
    run_copy2 W ty _ _ _ _ _ _ g ((i + m) * 2) cur1 hW _ (by rw [hlm]; omega) (fun _ => ⟨rfl, _, rfl, row_cells hW (j * 2) hd1⟩) (by rw [hlm, hl1]; omega) hm1
  generalize splice cur1 ((i + m) * 2) ((cur.drop (j * 2)).take ((n - j) * 2)) = cur2 at *
  have hcl : ∀ W : World, W.heap[g]? = some (.cells cur2.toArray 56 (0, 0)) → ∀ ty dp c, (dp = some ⟨g, tot * 2, none⟩ ∨ n - tot = 0) → (Builtin.clear_ #[48] ty #[.slice dp (n - tot) c]).run Try.prog W = .ok (.tuple #[]) (W.setRow g (splice cur2 (tot * 2) (zc (n - tot))).toArray) := fun W hW ty dp c hdp =>
    run_clear2 W ty _ _ c g (tot * 2) cur2 hW (fun h0 => by rcases hdp with e | e; exact e; omega) (by rw [hl2]; omega)
  have hl3 : (splice cur2 (tot * 2) (zc (n - tot))).length = cap * 2 := by rw [length_splice _ _ _ (by rw [zc_length, hl2]; omega), hl2]
  generalize splice cur2 (tot * 2) (zc (n - tot)) = cur3 at *
  have hend : ∀ (W : World) (c : Array Value), W.heap[g]? = some (.cells c 56 (0, 0)) → (W.setRow g cur3.toArray).ownsRow 0 56 2 (.slice (some ⟨g, 0, none⟩) tot cap) tot (cur.take (i * 2) ++ vs ++ (cur.take (n * 2)).drop (j * 2)) := fun W c hW => own_of_row (setRow_heap W g c _ _ _ hW) hl3 (by omega) hcap hfin
  have HE := aside hend
  have HR1 := aside hr1
  have HC1 := aside hcp1
  have HC2 := aside hcp2
  have HCL := aside hcl
  have HT := aside htot
  have t1 : i + m ≤ tot := by omega
  have t1z : (i : Int) + (m : Int) ≤ (tot : Int) := by omega
  have t2 : tot ≤ n := by omega
  have t3 : i < tot := by omega
  have t4 : ¬ (cap = i + m) := by omega
  have t5 : ¬ (cap = i) := by omega
  have t6 : ¬ (cap = j) := by omega
  have t7 : ¬ (n = j) := by omega
  have t8 : (n : Int) - (j : Int) = ((n - j : Nat) : Int) := by omega
  have t9 : (i : Int) + (m : Int) + ((n - j : Nat) : Int) = (tot : Int) := by omega
  have t9b : (i : Int) + (m : Int) + ((n : Int) - (j : Int)) = (tot : Int) := by omega
  have hne : ((i : Int) == (j : Int)) = false := by simp; omega
  have hne2 : ((j : Int) == (n : Int)) = false := by simp; omega
  have hnez : ¬ (i = j) := by omega
  have hnez2 : ¬ (j = n) := by omega
  have hw1 : IntKind.i64.wrap ((i : Int) + (m : Int)) = ((i + m : Nat) : Int) := by unfold maxLen at hcap; rw [IntKind.wrap_i64]; omega
  have hb1 : (0 : Int) ≤ (i : Int) + (m : Int) := by omega
  have htn : ((i : Int) + (m : Int)).toNat = i + m := by omega
  have hjz : (j : Int) ≤ (n : Int) := by omega
  subst hvf
  unfold maxLen at hcap
  clear hend hr1 hcp1 hcp2 hcl htot hg h1 hv hvg h1v hl1 hl2 hl3 hd1 hlm hm1 hfin hvl hcur
  go_enter Try.func56, Try.ntmps56
  go_wp2
  refine region_ext (by kernel_rfl) (by kernel_rfl) ?_
  repeat (any_goals (first | go_big_quiet_step ((fail)) | quiet_step ((fail))))
  refine wpQuiet_nil ?_
  intro wq hq
  go_wp2_with ((with_reducible refine wpList_copy_to _ rfl _ _ 48 48 rfl (.slice (some ⟨g, i * 2, none⟩) (tot - i) (cap - i)) (.slice va m vc) ?_ ?_ (HC1.out wq hq _ _) ?_); rfl; rfl)
  go_region_law (refine step_copy_to rfl _ _ 48 48 rfl _ _ (by simp [Act.eval, Act.put]; rfl) (by simp [Act.eval, Act.put]; rfl) (HC2.out (wq.setRow g cur1.toArray).drew (HR1.out wq hq) _ _ _) ?_)
  have hr2 := aside (setRow_heap (wq.setRow g cur1.toArray).drew g _ cur2.toArray _ _ (HR1.out wq hq))
  have hgr : wq.grownBy ((wq.setRow g cur1.toArray).drew.setRow g cur2.toArray) (some g) := ⟨rfl, rfl, rfl, by simp [World.setRow], fun k _ hk => by rw [setRow_other _ g k _ (fun e => hk (by rw [e]))]; exact setRow_other _ g k _ (fun e => hk (by rw [e]))⟩
  have HGR := aside hgr
  clear hgr
  generalize (wq.setRow g cur1.toArray).drew.setRow g cur2.toArray = W2 at *
  by_cases hct : cap = tot
  · have h0 : n - tot = 0 := by omega
    have HH0 := aside h0
    clear h0
    go_wp2_with (first
      | ((with_reducible refine wpList_clear_to _ rfl _ 48 rfl (.slice (some ⟨g, 0, none⟩) (n - tot) (tot - tot)) ?_ (HCL.out W2 hr2.out _ (some ⟨g, 0, none⟩) (tot - tot) (.inr HH0.out)) ?_); rfl)
      | ((with_reducible refine wpList_clear_to _ rfl _ 48 rfl (.slice (some ⟨g, 0, none⟩) (n - tot) 0) ?_ (HCL.out W2 hr2.out _ (some ⟨g, 0, none⟩) 0 (.inr HH0.out)) ?_); rfl)
      | ((with_reducible refine wpList_clear_to _ rfl _ 48 rfl (.slice (some ⟨g, 0, none⟩) (n - tot) (cap - tot)) ?_ (HCL.out W2 hr2.out _ (some ⟨g, 0, none⟩) (cap - tot) (.inr HH0.out)) ?_); rfl))
    go_ret
    rw [← hct] at HE ⊢
    refine ⟨rfl, HE.out _ _ hr2.out, ?_⟩
    have h1 := HGR.out
    exact ⟨h1.os.trans hq.os, h1.tape.trans hq.tape, h1.output.trans hq.output, Nat.le_trans hq.size (Nat.le_trans h1.size (by simp [World.setRow])), fun k hk hn => (setRow_other _ g k _ (fun e => hn (by rw [e]))).trans ((h1.block k (Nat.lt_of_lt_of_le hk hq.size) hn).trans (hq.block k hk))⟩
  · go_wp2_with ((with_reducible refine wpList_clear_to _ rfl _ 48 rfl (.slice (some ⟨g, tot * 2, none⟩) (n - tot) (cap - tot)) ?_ (HCL.out W2 hr2.out _ (some ⟨g, tot * 2, none⟩) (cap - tot) (.inl rfl)) ?_); rfl)
    go_ret
    refine ⟨rfl, HE.out _ _ hr2.out, ?_⟩
    have h1 := HGR.out
    exact ⟨h1.os.trans hq.os, h1.tape.trans hq.tape, h1.output.trans hq.output, Nat.le_trans hq.size (Nat.le_trans h1.size (by simp [World.setRow])), fun k hk hn => (setRow_other _ g k _ (fun e => hn (by rw [e]))).trans ((h1.block k (Nat.lt_of_lt_of_le hk hq.size) hn).trans (hq.block k hk))⟩
end Go.Proofs.Ytkekaljcbmkomaa
