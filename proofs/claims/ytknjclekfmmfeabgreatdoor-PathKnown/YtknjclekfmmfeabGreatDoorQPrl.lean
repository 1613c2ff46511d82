/- names, Real. -/
import Derived.Test.YtknjclekfmmfeabGreatDoorQPwl
import Derived.Test.YtknjclekfmmfeabGreatDoorQPjn
namespace Go.Proofs.YtknjclekfmmfeabGreatDoor
open Go.RowKit Go.ChangeMaps Go.Shelf

/-- row[1:] -/
theorem slice_lM (g n c : Nat) (hn : 1 ≤ n) (hc : n ≤ c) : ∃ a', (∀ W, (Instr.slice 72 (.slice (some ⟨g, 0, none⟩) n c) (some (.int .i64 1)) none none).run Tryz.prog W = .ok (.slice a' (n - 1) (c - 1)) W) ∧ (2 ≤ n → a' = some ⟨g, 1, none⟩) := by
  refine ⟨if c = 1 then some ⟨g, 0, none⟩ else some ⟨g, 1, none⟩, fun W => ?_, fun h => if_neg (by omega)⟩
  have := run_slice_l W 72 (some ⟨g, 0, none⟩) n c elemM .i64 1 (by omega) (by omega)
  rw [this, sizeM]
  simp only [Result.andThen, sliced]
  rw [show (1 : Int).toNat = 1 from rfl]
  by_cases hc1 : c = 1
  · rw [if_pos hc1, if_pos hc1]
  · rw [if_neg hc1, if_neg hc1]
    simp only [Option.map_some, Nat.one_mul, Addr.add_lit, Nat.zero_add]
set_option maxRecDepth 20000 in
set_option maxHeartbeats 4000000 in
theorem names_any {w : World} {lo wb : Nat} {ad : Nat → Nat} {row : Row} {l : List B} {n : Nat} (h : WkAt w lo wb ad row l n) (hr : row ≠ []) (hb : row.length ≤ 1000000) :
    Calls Tryz.prog 20 #[Pt wb] w fun e w' => ∃ v, e = .returned v ∧ GwS w' w.heap.size v (row.tail.map (·.1)) ∧ Below w.heap.size w w' := by
  obtain ⟨-, rv, lv, ms, h1, h2, h3, h4⟩ := h
  obtain ⟨g, c, cs, hrv, -, -, hgc, -⟩ := id h2
  have hc0 : w.cell? ⟨wb, 0, none⟩ = some rv := by rw [cell_of_row w wb 0 _ _ _ h1]; rfl
  have hwb := (Array.getElem?_eq_some_iff.1 h1).1
  rw [hrv] at h2 hc0
  rw [List.length_map] at hgc hc0 h2
  have hml := h3.1
  have hn0 : 1 ≤ row.length := List.length_pos_iff.2 hr
  have Acell : Aside (∀ (j m : Nat), ms[j]? = some m → w.cell? ⟨g, j, none⟩ = some (Pt m)) := fun j m hj => h2.cell (by rw [List.getElem?_map, hj]; rfl)
  have Amet : Aside (∀ (j m : Nat) (p : B × Nat), ms[j]? = some m → row[j]? = some p → w.cell? ⟨m, 0, none⟩ = some (enS p.1)) := fun j m p hj hp => by rw [cell_of_row w m 0 _ _ _ (h3.2 j m p hj hp)]; rfl
  obtain ⟨k, hk⟩ : ∃ k, k = ms.length := ⟨_, rfl⟩
  have Ak := aside hk
  rw [← hk] at hc0 hgc hml
  obtain ⟨a', hsl, ha'⟩ := slice_lM g k c (by omega) hgc
  have hk0 : (0 : Int) ≤ (k : Int) := by omega
  have hk1 : k ≤ 1000000 := by omega
  obtain ⟨i9, hi9, hz9, hs9, hb9⟩ := info_parts infoS
  obtain ⟨w1, hmk, ho1, hg1⟩ := run_make_own (P := Tryz.prog) w 0 55 9 i9 (.string ByteArray.empty) 1 Tryz.underlying55 hi9 hz9 hs9 .i64 .i64 k (by rw [hb9]; omega) (by unfold maxLen; omega) (Nat.zero_le _)
  have hB1 : Below w.heap.size w w1 := ⟨hg1.os, hg1.tape, hg1.output, hg1.size, fun j hj => hg1.block j hj (by simp)⟩
  have AG1 : Aside (GwS w1 w.heap.size (.slice (some ⟨w.heap.size, 0, none⟩) 0 k) []) := ⟨ho1, fun j hj => by simp only [Value.ownBlock, Option.some.injEq] at hj; omega⟩
  have hc1 : w1.cell? ⟨wb, 0, none⟩ = some (.slice (some ⟨g, 0, none⟩) k c) := (hB1.cell (p := ⟨wb, 0, none⟩) hwb).trans hc0
  have AB1 := aside hB1
  have Aml := aside hml
  have Arow : Aside (∀ i : Nat, i < k - 1 → ∃ m x, w.cell? ⟨g, 1 + i, none⟩ = some (Pt m) ∧ w.cell? ⟨m, 0, none⟩ = some (enS x) ∧ (row.tail.map (·.1))[i]? = some x) := fun i hi => by
    obtain ⟨m, hm⟩ : ∃ m, ms[i + 1]? = some m := ⟨_, List.getElem?_eq_getElem (by rw [← Ak.out]; omega)⟩
    obtain ⟨p, hp⟩ : ∃ p, row[i + 1]? = some p := ⟨_, List.getElem?_eq_getElem (by omega)⟩
    refine ⟨m, p.1, by rw [Nat.add_comm]; exact Acell.out _ m hm, Amet.out _ m p hm hp, ?_⟩
    rw [List.getElem?_map, List.getElem?_tail, hp]; rfl
  obtain ⟨N, hN⟩ : ∃ N, N = row.tail.map (·.1) := ⟨_, rfl⟩
  rw [← hN] at Arow ⊢
  have hNl0 : N.length = k - 1 := by rw [hN, List.length_map, List.length_tail, hml]
  have ANl := aside hNl0
  clear hNl0 h1 h2 h3 h4 hrv hk ho1 hg1 hB1 hml hN hi9 hz9 hs9 hb9 Acell Amet
  obtain ⟨q, hq⟩ : ∃ q, q = k - 1 := ⟨_, rfl⟩
  rw [← hq] at hsl Arow ANl
  have hqk : q ≤ 1000000 := by omega
  have Aq := aside hq
  clear hq
  go_enter Tryz.func20, Tryz.ntmps20
  go_wp2_with fail
  go_loopg [3, 5, 18] q (fun gk s3 _ s18 wx => ∃ i : Nat, i + gk = q ∧ s18 = .int .i64 (i : Int) ∧ GwS wx w.heap.size s3 (N.take i) ∧ Below w.heap.size w wx)
  case atStart => exact ⟨0, by omega, rfl, AG1.out, AB1.out⟩
  case round =>
    obtain ⟨i, hig, rfl, hgw, hbx⟩ := hrel
    have AG := aside hgw
    have AB := aside hbx
    clear hgw hbx
    cases gk with
    | zero =>
      obtain rfl : i = q := by omega
      have hi : ¬ (i : Int) < (i : Int) := by omega
      go_wp2_with fail
      go_ret
      exact ⟨_, rfl, by have := AG.out; rwa [← ANl.out, List.take_length] at this, AB.out⟩
    | succ gk =>
      have hi : (i : Int) < (q : Int) := by omega
      have hi0 : (0 : Int) ≤ (i : Int) := by omega
      have hwi : IntKind.i64.wrap ((i : Int) + 1) = ((i + 1 : Nat) : Int) := by rw [wrap_small _ (by omega) (by omega)]; simp
      obtain rfl : a' = some ⟨g, 1, none⟩ := ha' (by have := Aq.out; omega)
      obtain ⟨m, x, hm, hx, hNx⟩ := Arow.out i (by omega)
      have hm2 : wr.cell? ⟨g, 1 + i, none⟩ = some (Pt m) := (AB.out.cell (World.block_lt_of_cell? w _ hm)).trans hm
      have hx2 : wr.cell? ⟨m, 0, none⟩ = some (enS x) := (AB.out.cell (World.block_lt_of_cell? w _ hx)).trans hx
      have hNl : (N.take i).length = i := by rw [List.length_take, ANl.out]; omega
      have Atk : Aside (N.take (i + 1) = N.take i ++ [x]) := by rw [List.take_add_one, hNx]; rfl
      obtain ⟨X, hX⟩ : ∃ X, X = ba x := ⟨_, rfl⟩
      have AX := aside hX
      rw [show enS x = .string X by rw [hX]] at hx2
      obtain ⟨W, hW⟩ : ∃ W, W = wr.alloc (.cells #[.string X] 9) := ⟨_, rfl⟩
      have hBW : Below wr.heap.size wr W := by rw [hW]; exact below_al _ _
      have AGW := aside (AG.out.below hBW)
      have ABW := aside (AB.out.trans (hBW.mono AB.out.size))
      have ASr : Aside (SrcAt W (.slice (some ⟨wr.heap.size, 0, none⟩) 1 1) 1 [.string X]) := ⟨_, _, rfl, fun _ => ⟨_, rfl, fun j u hj => by
        rw [Addr.add_lit, Nat.zero_add, hW, cell_of_row _ _ j _ _ _ (heap_alloc_new wr _)]
        simpa using hj⟩⟩
      have Aow := aside AGW.out.1
      rw [hNl] at Aow
      have ANN := aside hNl
      clear hm hx hNx hX hBW hNl
      go_wp2_with (at_builtin; rw [← hW]; refine wpList_append_any W rfl _ _ 55 rfl 9 (.string ByteArray.empty) 1 16 Tryz.underlying55 infoS rfl (by omega) _ i ((N.take i).map enS) rfl Aow.out _ 1 [.string X] rfl rfl ASr.out (by intro u hm; rw [List.mem_singleton.1 hm]; rfl) (by unfold maxLen; omega) (by omega) ?_; intro v4 w4 ho4 hu4 hv4; rw [AX.out] at ho4; obtain ⟨h5, h6⟩ := AGW.out.more (x := x) ABW.out.size (by rw [ANN.out]; exact ho4) hu4 hv4; have A5 := aside h5; have A6 := aside (ABW.out.trans h6); clear ho4 hu4 hv4 h5 h6)
      go_roundg gk
      case measure => omega
      case rel => exact ⟨i + 1, by omega, by first | rfl | simp, by rw [Atk.out]; exact A5.out, A6.out⟩
/-- What Real tells. -/
def reF (R : Int × Row) : Int × B := if R.1 ≠ 0 then (R.1, []) else if 4096 < (pth (R.2.tail.map (·.1))).length then (3, []) else (0, pth (R.2.tail.map (·.1)))
/-- How long the names of a walk may be. -/
theorem wid_le {l : List B} (h : ∀ x ∈ l, x.length ≤ 64) : wid l ≤ l.length * 65 := by
  induction l with
  | nil => exact Nat.zero_le _
  | cons x l ih =>
    have h1 := ih (fun y hy => h y (by simp [hy]))
    have h2 := h x (by simp)
    rw [wid_cons, List.length_cons]
    omega
theorem ok_len {x : B} (h : nameOk (ba x) = true) : x.length ≤ 64 := by
  unfold nameOk at h
  simp only [Bool.and_eq_true, decide_eq_true_eq, ba_size] at h
  exact h.1.1.1.2
theorem oks_wid {M : List B} (h : Oks M) (hl : M.length ≤ 100000) : (pth M).length ≤ 1000000000 ∧ M.length ≤ 1000000 := by
  have h1 := wid_le (fun x hx => ok_len (h x hx))
  have h2 := pth_wid M
  omega
set_option maxRecDepth 20000 in
set_option maxHeartbeats 4000000 in
theorem real_any {w : World} {G : Gr} {ad : Nat → Nat} (h : GAt w G ad) (hM : Mxl w) {i : Nat} (hi : i < G.length) (p : B) :
    Calls Tryz.prog 10 #[Pt (ad i), .string (ba p)] w fun e w' => e = .returned (.tuple #[.string (ba (reF (wkF G i p true)).2), .int .i64 (reF (wkF G i p true)).1]) ∧ Below w.heap.size w w' := by
  obtain ⟨V, hV⟩ : ∃ V : Value, V = .tuple #[.string (ba (reF (wkF G i p true)).2), .int .i64 (reF (wkF G i p true)).1] := ⟨_, rfl⟩
  have AV := aside hV
  rw [← hV]
  clear hV
  have AS := aside (start_any h hM hi p)
  have AH := aside h
  have AM := aside hM
  obtain ⟨P, hP⟩ : ∃ P, P = ba p := ⟨_, rfl⟩
  rw [← hP] at AS ⊢
  obtain ⟨D, hD⟩ : ∃ D, D = ad i := ⟨_, rfl⟩
  rw [← hD] at AS ⊢
  clear h hM hP hD
  go_enter Tryz.func10, Tryz.ntmps10
  go_wp2_with fail
  refine AS.out.mono ?_
  rintro e w1 ⟨hb1, hno, hyes⟩
  have A1 := aside hb1
  clear AS hb1
  by_cases hb : beg G i p = 0
  · obtain ⟨wb, rfl, hk⟩ := hyes hb
    have AA := aside (start_along AH.out AM.out hi hb A1.out (prt_len p) hk true)
    have hF : wkF G i p true = wlk G true 16 (prt p) [([], i)] := by unfold wkF; rw [if_neg (fun e => e hb)]
    rw [hF] at AV
    obtain ⟨R, hR⟩ : ∃ R, R = wlk G true 16 (prt p) [([], i)] := ⟨_, rfl⟩
    rw [← hR] at AA AV
    have AR := aside hR
    clear hk hyes hno hR hF
    go_wp2_with fail
    refine AA.out.mono ?_
    rintro e w2 ⟨rfl, hk2, hb2⟩
    have A2 := aside (A1.out.trans hb2)
    clear hb2 AA
    by_cases hz : R.1 = 0
    · obtain ⟨hne, hle, -, l', n', hk3⟩ := hk2 hz
      rw [hz]
      have AT := aside (names_any hk3 hne (by omega))
      have hchn : ∃ r', R.2 = ([], i) :: r' ∧ Chn G i r' := wlk_chn 16 (prt p) i [] R.2 trivial (by rw [← AR.out, ← hz])
      have hwid : (pth (R.2.tail.map (·.1))).length ≤ 1000000000 ∧ (R.2.tail.map (·.1)).length ≤ 1000000 := by
        obtain ⟨r', e1, e2⟩ := hchn
        rw [e1] at hle ⊢
        rw [List.length_cons] at hle
        exact oks_wid (M := r'.map (·.1)) e2.oks (by rw [List.length_map]; omega)
      obtain ⟨N, hN⟩ : ∃ N, N = R.2.tail.map (·.1) := ⟨_, rfl⟩
      rw [← hN] at AT hwid
      have AN := aside hN
      have Aw := aside hwid
      clear hk2 hk3 hN hwid hchn
      go_wp2_with fail
      refine AT.out.mono ?_
      rintro e w3 ⟨v, rfl, hg3, hb3⟩
      have A3 := aside (A2.out.trans (hb3.mono A2.out.size))
      have AJ := aside (join_any N v w3 hg3.st Aw.out.2 Aw.out.1)
      have hZs : (ba (pth N)).size = (pth N).length := ba_size _
      obtain ⟨Z, hZ⟩ : ∃ Z, Z = ba (pth N) := ⟨_, rfl⟩
      rw [← hZ] at AJ hZs
      have AZ := aside hZ
      clear hg3 hb3 AT hZ
      go_wp2_with fail
      refine AJ.out.mono ?_
      rintro e w4 ⟨rfl, hb4⟩
      have A4 := aside (A3.out.trans (hb4.mono A3.out.size))
      clear hb4 AJ
      by_cases hl : 4096 < (pth N).length
      · have hl2 : (4096 : Int) < (Z.size : Int) := by omega
        have AE : Aside (V = .tuple #[.string ⟨#[]⟩, .int .i64 3]) := by
          rw [AV.out]
          unfold reF
          rw [if_neg (fun e => e hz), ← AN.out, if_pos hl]
          rfl
        clear hZs hl
        go_wp2_with fail
        go_ret2
        exact ⟨by rw [AE.out]; rfl, A4.out⟩
      · have hl2 : ¬ (4096 : Int) < (Z.size : Int) := by omega
        have AE : Aside (V = .tuple #[.string Z, .int .i64 0]) := by
          rw [AV.out, AZ.out]
          unfold reF
          rw [if_neg (fun e => e hz), ← AN.out, if_neg hl]
          exact rfl
        clear hZs hl
        go_wp2_with fail
        go_ret2
        exact ⟨by rw [AE.out]; rfl, A4.out⟩
    · have hz2 : (R.1 == 0) = false := beq_eq_false_iff_ne.2 hz
      have AE : Aside (V = .tuple #[.string ⟨#[]⟩, .int .i64 R.1]) := by
        rw [AV.out]
        unfold reF
        rw [if_pos hz]
        rfl
      obtain ⟨c, hc⟩ : ∃ c, c = R.1 := ⟨_, rfl⟩
      rw [← hc] at hz2 AE ⊢
      clear hc
      go_wp2_with fail
      go_ret2
      exact ⟨by rw [AE.out]; rfl, A2.out⟩
  · have he := hno hb
    subst he
    have hF : wkF G i p true = (beg G i p, []) := by unfold wkF; rw [if_pos hb]
    rw [hF] at AV
    have AE : Aside (V = .tuple #[.string ⟨#[]⟩, .int .i64 (beg G i p)]) := by
      rw [AV.out]
      unfold reF
      rw [if_pos hb]
      rfl
    have hz2 : (beg G i p == 0) = false := beq_eq_false_iff_ne.2 hb
    obtain ⟨c, hc⟩ : ∃ c, c = beg G i p := ⟨_, rfl⟩
    rw [← hc] at hz2 AE ⊢
    clear hno hyes hc hF
    go_wp2_with fail
    go_ret2
    exact ⟨by rw [AE.out]; rfl, A1.out⟩
end Go.Proofs.YtknjclekfmmfeabGreatDoor
