/- A walk in memory: along. -/
import Derived.Test.YtknjclekfmmfeabGreatDoorGF
import Derived.WalkMore
namespace Go.Proofs.YtknjclekfmmfeabGreatDoor
open Go.RowKit Go.ChangeMaps Go.Shelf

theorem StAt.tail {w : World} {lv : Value} {x : B} {l : List B} (h : StAt w lv (x :: l)) : ∃ g o c, lv = .slice (some ⟨g, o, none⟩) (l.length + 1) c ∧ w.cell? ⟨g, o, none⟩ = some (enS x) ∧ ∃ a', (∀ W, (Instr.slice 55 (.slice (some ⟨g, o, none⟩) (l.length + 1) c) (some (.int .i64 1)) none none).run Tryz.prog W = .ok (.slice a' l.length (c - 1)) W) ∧ StAt w (.slice a' l.length (c - 1)) l := by
  obtain ⟨a, c, e, hc, h⟩ := h
  obtain ⟨g, o, cs, rfl, h1, h2⟩ := h (by simp)
  simp only [List.length_cons] at e hc
  refine ⟨g, o, c, e, ?_, if c = 1 then some ⟨g, o, none⟩ else some ⟨g, o + 1, none⟩, fun W => ?_, ?_⟩
  · rw [cell_of_row w g o _ _ _ h1]
    have := h2 0 x rfl
    simpa using this
  · have := run_slice_l W 55 (some ⟨g, o, none⟩) (l.length + 1) c elemS .i64 1 (by omega) (by omega)
    rw [this, sizeS]
    simp only [Result.andThen, sliced]
    rw [show (1 : Int).toNat = 1 from rfl, show l.length + 1 - 1 = l.length by omega]
    by_cases hc1 : c = 1
    · rw [if_pos hc1, if_pos hc1]
    · rw [if_neg hc1, if_neg hc1]
      simp only [Option.map_some, Nat.one_mul, Addr.add_lit]
  · refine ⟨_, _, rfl, by omega, fun hl => ?_⟩
    have : l.length ≠ 0 := fun e => hl (List.eq_nil_of_length_eq_zero e)
    rw [if_neg (by omega)]
    refine ⟨g, o + 1, cs, rfl, h1, fun j y hj => ?_⟩
    have := h2 (j + 1) y (by simpa using hj)
    rw [show o + 1 + j = o + (j + 1) by omega]
    exact this
theorem WkAt.len {w : World} {lo wb : Nat} {ad : Nat → Nat} {row : Row} {l : List B} {n : Nat} (h : WkAt w lo wb ad row l n) : ∃ g c lv, w.cell? ⟨wb, 0, none⟩ = some (.slice (some ⟨g, 0, none⟩) row.length c) ∧ w.cell? ⟨wb, 1, none⟩ = some lv ∧ w.cell? ⟨wb, 2, none⟩ = some (.int .i64 (n : Int)) ∧ StAt w lv l ∧ (∀ j, w.frozen? ⟨wb, j, none⟩ = false) ∧ wb < w.heap.size := by
  obtain ⟨-, rv, lv, ms, h1, h2, h3, h4⟩ := h
  obtain ⟨g, c, cs, hrv, -⟩ := id h2
  rw [List.length_map, h3.1] at hrv
  refine ⟨g, c, lv, ?_, ?_, ?_, h4, fun j => frozen_of_row w wb j _ _ h1, (Array.getElem?_eq_some_iff.1 h1).1⟩
  · rw [cell_of_row w wb 0 _ _ _ h1, hrv]; rfl
  · rw [cell_of_row w wb 1 _ _ _ h1]; rfl
  · rw [cell_of_row w wb 2 _ _ _ h1]; rfl
theorem WkAt.left {w : World} {lo wb : Nat} {ad : Nat → Nat} {row : Row} {l l' : List B} {n : Nat} (h : WkAt w lo wb ad row l n) {lv : Value} (hl : StAt w lv l') : WkAt (w.setCell ⟨wb, 1, none⟩ lv) lo wb ad row l' n ∧ Below lo w (w.setCell ⟨wb, 1, none⟩ lv) := by
  obtain ⟨hlo, rv, lv0, ms, h1, h2, h3, h4⟩ := h
  exact ⟨⟨hlo, rv, lv, ms, set_row h1 1 _, h2.keep (fun g cs => wk_far h1 1 _ g cs _ (by decide)), h3.keep (fun g cs => wk_far h1 1 _ g cs _ (by decide)), hl.keep (fun g cs => wk_far h1 1 _ g cs _ (by decide))⟩, wk_below h1 hlo 1 _⟩
theorem lst_mem {row : Row} (h : row ≠ []) : ∃ p ∈ row, lst row = p.2 := by
  refine ⟨row.getLast h, List.getLast_mem h, ?_⟩
  unfold lst
  rw [List.getLast?_eq_some_getLast h]
  rfl
/-- What a walk leaves. -/
def AlongP (G : Gr) (w : World) (lo wb : Nat) (ad : Nat → Nat) (R : Int × Row) (e : Ending) (w' : World) : Prop :=
  e = .returned (.int .i64 R.1) ∧ (R.1 = 0 → R.2 ≠ [] ∧ R.2.length ≤ 100000 ∧ (∀ p ∈ R.2, p.2 < G.length) ∧ ∃ l' n', WkAt w' lo wb ad R.2 l' n') ∧ Below lo w w'
/-- A round of it. -/
structure AlI (G : Gr) (f : Bool) (w : World) (lo wb : Nat) (ad : Nat → Nat) (R : Int × Row) (gk : Nat) (wx : World) (row : Row) (l : List B) (n : Nat) : Prop where
  wk : WkAt wx lo wb ad row l n
  bel : Below lo w wx
  n16 : n ≤ 16
  ne : row ≠ []
  inn : ∀ p ∈ row, p.2 < G.length
  bnd : row.length + gk ≤ 100000
  mea : gk = (16 - n) * 5000 + l.length
  ans : wlk G f (16 - n) l row = R
set_option maxRecDepth 20000 in
set_option maxHeartbeats 8000000 in
theorem along_any {w : World} {lo wb : Nat} {ad : Nat → Nat} {row : Row} {l : List B} {n : Nat} {G : Gr} (h : WkAt w lo wb ad row l n) (hG : ∀ W, Below lo w W → GAt W G ad) (hM : ∀ W, Below lo w W → Mxl W) (hn : n ≤ 16) (hr : row ≠ []) (hin : ∀ p ∈ row, p.2 < G.length) (hb : row.length + ((16 - n) * 5000 + l.length) ≤ 100000) (f : Bool) :
    Calls Tryz.prog 15 #[Pt wb, .bool f] w fun e w' => AlongP G w lo wb ad (wlk G f (16 - n) l row) e w' := by
  obtain ⟨R, hR⟩ : ∃ R, R = wlk G f (16 - n) l row := ⟨_, rfl⟩
  have AI : Aside (AlI G f w lo wb ad R ((16 - n) * 5000 + l.length) w row l n) := ⟨h, Below.refl _ _, hn, hr, hin, hb, rfl, hR.symm⟩
  rw [← hR]
  have AG := aside hG
  have AM := aside hM
  clear h hG hM hr hin hR
  go_enter Tryz.func15, Tryz.ntmps15
  go_wp2_with fail
  go_step3
  go_wp2_with fail
  go_step3
  go_wp2_with fail
  go_loopg [4, 5, 6, 7, 8] ((16 - n) * 5000 + l.length) (fun g s4 _ _ _ _ wx => s4 = .int .i64 0 ∧ ∃ row l n, AlI G f w lo wb ad R g wx row l n)
  case atStart => exact ⟨rfl, _, _, _, AI.out⟩
  case round =>
    clear AI hn hb
    obtain ⟨rfl, row, l, n, I⟩ := hrel
    obtain ⟨g0, c0, lv, hc0, hc1, hc2, hst, hfz, hwb⟩ := I.wk.len
    have hn := I.n16
    have hbd := I.bnd
    have hme := I.mea
    cases l with
    | nil =>
      have hR := I.ans
      rw [wlk_nil] at hR
      have AX : Aside (AlongP G w lo wb ad R (.returned (.int .i64 0)) wr) := by rw [← hR]; exact ⟨rfl, fun _ => ⟨I.ne, by have := I.bnd; simp only; omega, I.inn, _, _, I.wk⟩, I.bel⟩
      obtain ⟨a, c, rfl, -⟩ := hst
      clear I hR
      go_wp2_with fail
      go_ret
      exact AX.out
    | cons x l =>
      obtain ⟨g, o, c, rfl, hcx, a', hsl, htl⟩ := hst.tail
      have AI := aside I
      obtain ⟨p, hpm, hp⟩ := lst_mem I.ne
      have hlt : lst row < G.length := by rw [hp]; exact I.inn p hpm
      have hk1 : (0 : Int) < ((l.length + 1 : Nat) : Int) := by omega
      have AAt : Aside (∀ d os, Calls Tryz.prog 16 #[Pt wb] (ext wr d os) fun e w' => e = .returned (Pt (ad (lst row))) ∧ Below (ext wr d os).heap.size (ext wr d os) w') := fun d os => at_any (I.wk.below (below_ext _ _ _)) I.ne (by omega)
      have AST := aside htl
      have hxl : (ba x).toList = x := by rw [Lib.toList_data, ba_list]
      obtain ⟨X, hX⟩ : ∃ X, X = ba x := ⟨_, rfl⟩
      have AX := aside hX
      rw [show enS x = .string X by rw [hX]] at hcx
      rw [← hX] at hxl
      obtain ⟨D, hD⟩ : ∃ D, D = ad (lst row) := ⟨_, rfl⟩
      rw [← hD] at AAt
      have AD := aside hD
      obtain ⟨m, hm⟩ : ∃ m, m = l.length := ⟨_, rfl⟩
      have Am := aside hm
      rw [← hm] at hc1 hsl AST hk1
      have E1 := fun dd os => ext_cell hc1 dd os
      have E2 := fun dd os => ext_cell hcx dd os
      clear hst htl I hp hpm hX hD hm
      go_wp2_with fail
      refine region_ext (by kernel_rfl) (by kernel_rfl) ?_
      repeat (any_goals (first | go_big_quiet_step ((go_at_call 16; exact calls_ext (AAt.out _ _))) | quiet_step ((go_at_call 16; exact calls_ext (AAt.out _ _)))))
      refine wpQuiet_nil ?_
      intro w1 hw1
      have hc11 : w1.cell? ⟨wb, 1, none⟩ = some (.slice (some ⟨g, o, none⟩) (m + 1) c) := (hw1.cell (p := ⟨wb, 1, none⟩) hwb).trans hc1
      have hfz1 : w1.frozen? ⟨wb, 1, none⟩ = false := (hw1.frozen (p := ⟨wb, 1, none⟩) hwb).trans (hfz 1)
      have hK1 := (AI.out.wk.below hw1).left (AST.out.keep (fun g _ hg => hw1.block g (Array.getElem?_eq_some_iff.1 hg).1))
      obtain ⟨U, hU⟩ : ∃ U, U = w1.setCell ⟨wb, 1, none⟩ (.slice a' m (c - 1)) := ⟨_, rfl⟩
      rw [← hU] at hK1
      have AKU := aside hK1.1
      have ABU : Aside (Below lo w U) := (AI.out.bel.trans (hw1.mono (by have := AI.out.wk.bnd; omega))).trans hK1.2
      clear hw1 hK1 E1 E2 AAt
      go_wp2_with fail
      rw [← hU]
      clear hU hc11 hfz1 hc1 hcx hsl AST hc0 hc2 hfz hk1
      have AKD : Aside (Calls Tryz.prog 18 #[Pt D] U fun e w' => e = .returned (.int .i8 (nk G (lst row)).k) ∧ w' = U) := by rw [AD.out]; exact kind_at (AG.out _ ABU.out) hlt
      obtain ⟨kd, hkd⟩ : ∃ kd, kd = (nk G (lst row)).k := ⟨_, rfl⟩
      rw [← hkd] at AKD
      have Akd := aside hkd
      clear hkd
      refine AKD.out.mono ?_
      rintro e w2 ⟨rfl, rfl⟩
      clear AKD
      by_cases hd1 : kd = 1
      · subst hd1
        have AL : Aside (l.length = m) := Am.out.symm
        by_cases hdd : x = dd
        · have hq1 : (X.toList == [46, 46]) = true := by rw [hxl, hdd]; rfl
          obtain ⟨g1, c1, lv1, hc0, -, -, -, -, -⟩ := AKU.out.len
          have hrl : 1 ≤ row.length := List.length_pos_iff.2 AI.out.ne
          have hwm : IntKind.i64.wrap ((row.length : Int) - 1) = ((row.length - 1 : Nat) : Int) := by rw [wrap_small _ (by omega) (by omega)]; omega
          obtain ⟨r, hr⟩ : ∃ r, r = row.length := ⟨_, rfl⟩
          have hmx : max ((r - 1 : Nat) : Int) 1 = ((max (r - 1) 1 : Nat) : Int) := by omega
          have AKP := aside (keep_any AKU.out (max (row.length - 1) 1) (by omega))
          rw [← hr] at hc0 hwm AKP
          have Ar := aside hr
          obtain ⟨q, hq⟩ : ∃ q, q = max (r - 1) 1 := ⟨_, rfl⟩
          rw [← hq] at hmx AKP
          have Aq := aside hq
          clear hxl hr hq hme
          go_wp2_with fail
          refine AKP.out.mono ?_
          rintro e w3 ⟨rfl, hk3, hb3⟩
          have hI : AlI G f w lo wb ad R ((16 - n) * 5000 + l.length) w3 (row.take q) l n := by
            have A := AI.out
            refine ⟨hk3, ABU.out.trans hb3, A.n16, ?_, fun p hp => A.inn p (List.mem_of_mem_take hp), ?_, rfl, ?_⟩
            · intro e
              have hl := List.length_take (i := q) (l := row)
              rw [e, List.length_nil] at hl
              have h1 := Aq.out
              have h2 := Ar.out
              omega
            · have h1 := A.bnd
              have h2 := A.mea
              have h3 := List.length_take_le' q row
              simp only [List.length_cons] at h2
              omega
            · have h1 := A.ans
              rw [hdd, wlk_dd f _ l Akd.out.symm] at h1
              rw [Aq.out, Ar.out]
              exact h1
          have AII := aside hI
          clear hk3 hb3 hI AKP
          go_wp2_with fail
          go_roundg ((16 - n) * 5000 + l.length)
          case measure => have := AI.out.mea; simp only [List.length_cons] at this; omega
          case rel => exact ⟨rfl, _, _, _, AII.out⟩
        · have hq1 : (X.toList == [46, 46]) = false := by rw [hxl]; exact beq_eq_false_iff_ne.2 hdd
          have AF := aside (find_any (AG.out _ ABU.out) hlt Akd.out.symm x)
          rw [← AX.out, ← AD.out] at AF
          clear hxl
          go_wp2_with fail
          refine AF.out.mono ?_
          rintro e w3 ⟨he1, he2, hb3⟩
          have AB3 : Aside (Below lo w w3) := ABU.out.trans (hb3.mono (by have h1 := AKU.out.len; have h2 := AKU.out.bnd; obtain ⟨_, _, _, -, -, -, -, -, h3⟩ := h1; omega))
          have AK3 := aside (AKU.out.below hb3)
          clear hb3 AF
          by_cases hok : nameOk X = true
          · have he := he2 hok
            clear he1 he2
            have Aok := aside hok
            clear hok
            cases hlk : lkp (nk G (lst row)).L x with
            | none =>
              rw [hlk] at he
              simp only at he
              subst he
              have AE : Aside (AlongP G w lo wb ad R (.returned (.int .i64 192)) w3) := by
                have h1 := AI.out.ans
                rw [wlk_none f _ l Akd.out.symm hdd (by rw [← AX.out]; exact Aok.out) hlk] at h1
                rw [← h1]
                exact ⟨rfl, (fun e => by cases e), AB3.out⟩
              go_wp2_with fail
              first | (rw [Exit.noGoto_ret]; go_ret) | go_ret
              exact AE.out
            | some j =>
              rw [hlk] at he
              simp only at he
              subst he
              have hjl := (AG.out _ AB3.out).kid _ _ _ hlk
              have AS := aside (AI.out.ans)
              rw [wlk_some f _ l Akd.out.symm hdd (by rw [← AX.out]; exact Aok.out) hlk] at AS
              have AKJ := aside (kind_at (AG.out _ AB3.out) hjl)
              obtain ⟨kj, hkj⟩ : ∃ kj, kj = (nk G j).k := ⟨_, rfl⟩
              rw [← hkj] at AKJ AS
              have Akj := aside hkj
              obtain ⟨J, hJ⟩ : ∃ J, J = ad j := ⟨_, rfl⟩
              rw [← hJ] at AKJ ⊢
              have AJ := aside hJ
              clear hkj hJ hlk
              go_wp2_with fail
              refine AKJ.out.mono ?_
              rintro e w4 ⟨rfl, rfl⟩
              clear AKJ
              by_cases h4 : kj = 4
              · subst h4
                rw [if_pos rfl] at AS
                have AE : Aside (AlongP G w lo wb ad R (.returned (.int .i64 192)) w4) := by
                  rw [← AS.out]
                  exact ⟨rfl, (fun e => by cases e), AB3.out⟩
                go_wp2_with fail
                first | (rw [Exit.noGoto_ret]; go_ret) | go_ret
                exact AE.out
              · rw [if_neg h4] at AS
                have q4 : (kj == 4) = false := beq_eq_false_iff_ne.2 h4
                by_cases h3 : kj = 3
                · subst h3
                  rw [if_pos rfl] at AS
                  obtain ⟨hul, huk⟩ := (AG.out _ AB3.out).und j Akj.out.symm
                  have AU := aside (under_at (AG.out _ AB3.out) hjl Akj.out.symm)
                  rw [← AJ.out] at AU
                  have ASD := aside (stand_any AK3.out x (nk G j).u (by have := AI.out.bnd; omega))
                  rw [← AX.out] at ASD
                  obtain ⟨V, hV⟩ : ∃ V, V = ad (nk G j).u := ⟨_, rfl⟩
                  rw [← hV] at AU ASD
                  clear hV
                  go_wp2_with fail
                  refine AU.out.mono ?_
                  rintro e w6 ⟨rfl, rfl⟩
                  clear AU
                  go_wp2_with fail
                  refine ASD.out.mono ?_
                  rintro e w5 ⟨rfl, hk5, hb5⟩
                  have hI : AlI G f w lo wb ad R ((16 - n) * 5000 + l.length) w5 (row ++ [(x, (nk G j).u)]) l n := by
                    have A := AI.out
                    refine ⟨hk5, AB3.out.trans hb5, A.n16, by simp, fun p hp => ?_, ?_, rfl, AS.out⟩
                    · rcases List.mem_append.1 hp with hp | hp
                      · exact A.inn p hp
                      · simp only [List.mem_singleton] at hp
                        subst hp
                        exact hul
                    · have h1 := A.bnd
                      have h2 := A.mea
                      simp only [List.length_cons, List.length_append, List.length_nil] at h2 ⊢
                      omega
                  have AII := aside hI
                  clear hk5 hb5 hI ASD
                  go_wp2_with fail
                  go_roundg ((16 - n) * 5000 + l.length)
                  case measure => have := AI.out.mea; simp only [List.length_cons] at this; omega
                  case rel => exact ⟨rfl, _, _, _, AII.out⟩
                · rw [if_neg h3] at AS
                  have q3 : (kj == 3) = false := beq_eq_false_iff_ne.2 h3
                  by_cases h2 : kj = 2
                  · subst h2
                    rw [if_pos rfl] at AS
                    cases f with
                    | true =>
                      rw [if_neg (by rintro ⟨e, -⟩; cases e)] at AS
                      by_cases h16 : n = 16
                      · subst h16
                        have AE : Aside (AlongP G w lo wb ad R (.returned (.int .i64 200)) w4) := by
                          have h1 := AS.out
                          rw [← h1]
                          exact ⟨rfl, (fun e => by cases e), AB3.out⟩
                        have hcl : w4.cell? ⟨wb, 2, none⟩ = some (.int .i64 16) := by
                          obtain ⟨_, _, _, -, -, h, -⟩ := AK3.out.len
                          exact h
                        go_wp2_with fail
                        first | (rw [Exit.noGoto_ret]; go_ret) | go_ret
                        exact AE.out
                      · have hcl : w4.cell? ⟨wb, 2, none⟩ = some (.int .i64 (n : Int)) := by
                          obtain ⟨_, _, _, -, -, h, -⟩ := AK3.out.len
                          exact h
                        have hn16 : ((n : Int) == 16) = false := beq_eq_false_iff_ne.2 (by omega)
                        have ALD := aside (lead_any AK3.out (fun W hW => AG.out W (AB3.out.trans hW)) (fun W hW => AM.out W (AB3.out.trans hW)) hjl Akj.out.symm hn (by have h1 := AI.out.bnd; have h2 := AI.out.mea; simp only [List.length_cons] at h2; omega) AI.out.ne)
                        rw [← AJ.out] at ALD
                        go_wp2_with fail
                        refine ALD.out.mono ?_
                        rintro e w5 ⟨rfl, hk5, hb5⟩
                        have hI : AlI G true w lo wb ad R ((16 - (n + 1)) * 5000 + (prt (nk G j).to ++ l).length) w5 (if abso (nk G j).to = true then row.take 1 else row) (prt (nk G j).to ++ l) (n + 1) := by
                          have A := AI.out
                          have hto := (to_at (AG.out _ AB3.out) hjl Akj.out.symm).2
                          have hpl := prt_len (nk G j).to
                          have hrl : 1 ≤ row.length := List.length_pos_iff.2 A.ne
                          refine ⟨hk5, AB3.out.trans hb5, by omega, ?_, fun p hp => ?_, ?_, rfl, ?_⟩
                          · split
                            · intro e
                              have hl := List.length_take (i := 1) (l := row)
                              rw [e, List.length_nil] at hl
                              omega
                            · exact A.ne
                          · split at hp
                            · exact A.inn p (List.mem_of_mem_take hp)
                            · exact A.inn p hp
                          · have h1 := A.bnd
                            have h2 := A.mea
                            have h3 := List.length_take_le' 1 row
                            simp only [List.length_cons, List.length_append] at h2 ⊢
                            split <;> omega
                          · have h1 := AS.out
                            rw [← h1, show 16 - n = (16 - (n + 1)) + 1 by omega]
                        have AII := aside hI
                        clear hk5 hb5 hI ALD
                        go_wp2_with fail
                        go_roundg ((16 - (n + 1)) * 5000 + (prt (nk G j).to ++ l).length)
                        case measure =>
                          have h1 := AI.out.mea
                          have hto := (to_at (AG.out _ AB3.out) hjl Akj.out.symm).2
                          have hpl := prt_len (nk G j).to
                          simp only [List.length_cons, List.length_append] at h1 ⊢
                          omega
                        case rel => exact ⟨rfl, _, _, _, AII.out⟩
                    | false =>
                      by_cases hm0 : m = 0
                      · subst hm0
                        have hl0 : l = [] := List.eq_nil_of_length_eq_zero AL.out
                        rw [if_pos ⟨rfl, hl0⟩] at AS
                        have ASD := aside (stand_any AK3.out x j (by have := AI.out.bnd; omega))
                        rw [← AX.out, ← AJ.out] at ASD
                        have hcl : ∃ a c, w4.cell? ⟨wb, 1, none⟩ = some (.slice a 0 c) := by
                          obtain ⟨_, _, _, -, h, -, ⟨a, c, h2, -⟩, -⟩ := AK3.out.len
                          rw [h2, hl0] at h
                          exact ⟨a, c, h⟩
                        obtain ⟨a8, c8, hcl⟩ := hcl
                        go_wp2_with fail
                        refine ASD.out.mono ?_
                        rintro e w5 ⟨rfl, hk5, hb5⟩
                        have AE : Aside (AlongP G w lo wb ad R (.returned (.int .i64 0)) w5) := by
                          rw [← AS.out]
                          refine ⟨rfl, fun _ => ⟨by simp, ?_, fun p hp => ?_, _, _, hk5⟩, AB3.out.trans hb5⟩
                          · have h1 := AI.out.bnd
                            have h2 := AI.out.mea
                            simp only [List.length_cons, List.length_append, List.length_nil] at h2 ⊢
                            omega
                          · rcases List.mem_append.1 hp with hp | hp
                            · exact AI.out.inn p hp
                            · simp only [List.mem_singleton] at hp
                              subst hp
                              exact hjl
                        clear hk5 hb5 ASD
                        go_wp2_with fail
                        first | (rw [Exit.noGoto_ret]; go_ret) | go_ret
                        exact AE.out
                      · rw [if_neg (by rintro ⟨-, e⟩; rw [e] at AL; exact hm0 AL.out.symm)] at AS
                        have hm1 : ((m : Int) == 0) = false := beq_eq_false_iff_ne.2 (by omega)
                        have hcl1 : ∃ a c, w4.cell? ⟨wb, 1, none⟩ = some (.slice a m c) := by
                          obtain ⟨_, _, _, -, h, -, ⟨a, c, h2, -⟩, -⟩ := AK3.out.len
                          rw [h2, AL.out] at h
                          exact ⟨a, c, h⟩
                        obtain ⟨a8, c8, hcl1⟩ := hcl1
                        by_cases h16 : n = 16
                        · subst h16
                          have AE : Aside (AlongP G w lo wb ad R (.returned (.int .i64 200)) w4) := by
                            have h1 := AS.out
                            rw [← h1]
                            exact ⟨rfl, (fun e => by cases e), AB3.out⟩
                          have hcl : w4.cell? ⟨wb, 2, none⟩ = some (.int .i64 16) := by
                            obtain ⟨_, _, _, -, -, h, -⟩ := AK3.out.len
                            exact h
                          go_wp2_with fail
                          first | (rw [Exit.noGoto_ret]; go_ret) | go_ret
                          exact AE.out
                        · have hcl : w4.cell? ⟨wb, 2, none⟩ = some (.int .i64 (n : Int)) := by
                            obtain ⟨_, _, _, -, -, h, -⟩ := AK3.out.len
                            exact h
                          have hn16 : ((n : Int) == 16) = false := beq_eq_false_iff_ne.2 (by omega)
                          have ALD := aside (lead_any AK3.out (fun W hW => AG.out W (AB3.out.trans hW)) (fun W hW => AM.out W (AB3.out.trans hW)) hjl Akj.out.symm hn (by have h1 := AI.out.bnd; have h2 := AI.out.mea; simp only [List.length_cons] at h2; omega) AI.out.ne)
                          rw [← AJ.out] at ALD
                          go_wp2_with fail
                          refine ALD.out.mono ?_
                          rintro e w5 ⟨rfl, hk5, hb5⟩
                          have hI : AlI G false w lo wb ad R ((16 - (n + 1)) * 5000 + (prt (nk G j).to ++ l).length) w5 (if abso (nk G j).to = true then row.take 1 else row) (prt (nk G j).to ++ l) (n + 1) := by
                            have A := AI.out
                            have hto := (to_at (AG.out _ AB3.out) hjl Akj.out.symm).2
                            have hpl := prt_len (nk G j).to
                            have hrl : 1 ≤ row.length := List.length_pos_iff.2 A.ne
                            refine ⟨hk5, AB3.out.trans hb5, by omega, ?_, fun p hp => ?_, ?_, rfl, ?_⟩
                            · split
                              · intro e
                                have hl := List.length_take (i := 1) (l := row)
                                rw [e, List.length_nil] at hl
                                omega
                              · exact A.ne
                            · split at hp
                              · exact A.inn p (List.mem_of_mem_take hp)
                              · exact A.inn p hp
                            · have h1 := A.bnd
                              have h2 := A.mea
                              have h3 := List.length_take_le' 1 row
                              simp only [List.length_cons, List.length_append] at h2 ⊢
                              split <;> omega
                            · have h1 := AS.out
                              rw [← h1, show 16 - n = (16 - (n + 1)) + 1 by omega]
                          have AII := aside hI
                          clear hk5 hb5 hI ALD
                          go_wp2_with fail
                          go_roundg ((16 - (n + 1)) * 5000 + (prt (nk G j).to ++ l).length)
                          case measure =>
                            have h1 := AI.out.mea
                            have hto := (to_at (AG.out _ AB3.out) hjl Akj.out.symm).2
                            have hpl := prt_len (nk G j).to
                            simp only [List.length_cons, List.length_append] at h1 ⊢
                            omega
                          case rel => exact ⟨rfl, _, _, _, AII.out⟩
                  · rw [if_neg h2] at AS
                    have q2 : (kj == 2) = false := beq_eq_false_iff_ne.2 h2
                    have ASD := aside (stand_any AK3.out x j (by have := AI.out.bnd; omega))
                    rw [← AX.out, ← AJ.out] at ASD
                    go_wp2_with fail
                    refine ASD.out.mono ?_
                    rintro e w5 ⟨rfl, hk5, hb5⟩
                    have hI : AlI G f w lo wb ad R ((16 - n) * 5000 + l.length) w5 (row ++ [(x, j)]) l n := by
                      have A := AI.out
                      refine ⟨hk5, AB3.out.trans hb5, A.n16, by simp, fun p hp => ?_, ?_, rfl, AS.out⟩
                      · rcases List.mem_append.1 hp with hp | hp
                        · exact A.inn p hp
                        · simp only [List.mem_singleton] at hp
                          subst hp
                          exact hjl
                      · have h1 := A.bnd
                        have h2 := A.mea
                        simp only [List.length_cons, List.length_append, List.length_nil] at h2 ⊢
                        omega
                    have AII := aside hI
                    clear hk5 hb5 hI ASD
                    go_wp2_with fail
                    go_roundg ((16 - n) * 5000 + l.length)
                    case measure => have := AI.out.mea; simp only [List.length_cons] at this; omega
                    case rel => exact ⟨rfl, _, _, _, AII.out⟩
          · have he := he1 (by simpa using hok)
            subst he
            have AE : Aside (AlongP G w lo wb ad R (.returned (.int .i64 190)) w3) := by
              have h1 := AI.out.ans
              rw [wlk_noname f _ l Akd.out.symm hdd (by rw [← AX.out]; simpa using hok)] at h1
              rw [← h1]
              exact ⟨rfl, (fun e => by cases e), AB3.out⟩
            clear he1 he2
            go_wp2_with fail
            first | (rw [Exit.noGoto_ret]; go_ret) | go_ret
            exact AE.out
      · have hq1 : (kd == 1) = false := beq_eq_false_iff_ne.2 hd1
        have AE : Aside (AlongP G w lo wb ad R (.returned (.int .i64 193)) w2) := by
          have h1 := AI.out.ans
          rw [wlk_notdir f _ x l (by rw [← Akd.out]; exact hd1)] at h1
          rw [← h1]
          exact ⟨rfl, (fun e => by cases e), ABU.out⟩
        go_wp2_with fail
        first | (rw [Exit.noGoto_ret]; go_ret) | go_ret
        exact AE.out
end Go.Proofs.YtknjclekfmmfeabGreatDoor
