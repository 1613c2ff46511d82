/- Place. -/
import Derived.Test.YtknjclekfmmfeabGreatDoorQPwl
namespace Go.Proofs.YtknjclekfmmfeabGreatDoor
open Go.RowKit Go.ChangeMaps Go.Shelf

set_option maxRecDepth 20000 in
set_option maxHeartbeats 4000000 in
theorem leaveLast_none {w : World} {lo wb : Nat} {ad : Nat → Nat} {row : Row} {n : Nat} (h : WkAt w lo wb ad row [] n) : Calls Tryz.prog 17 #[Pt wb] w fun e w' => e = .returned (.tuple #[.string ⟨#[]⟩, .int .i64 190]) ∧ w' = w := by
  obtain ⟨_, _, lv, -, hc1, -, ⟨a, c, hlv, -⟩, -⟩ := h.len
  rw [hlv] at hc1
  have hw : IntKind.i64.wrap ((0 : Int) - 1) = -1 := by decide
  clear h
  go_enter Tryz.func17, Tryz.ntmps17
  go_wp2_with fail
  go_ret2
  exact ⟨rfl, rfl⟩
theorem StAt.cut {w : World} {lv : Value} {l : List B} (h : StAt w lv l) {k : Nat} (hk : k < l.length) : ∃ g o c, lv = .slice (some ⟨g, o, none⟩) l.length c ∧ (∀ W, (Instr.slice 55 (.slice (some ⟨g, o, none⟩) l.length c) none (some (.int .i64 (k : Int))) (some (.int .i64 (k : Int)))).run Tryz.prog W = .ok (.slice (some ⟨g, o, none⟩) k k) W) ∧ StAt w (.slice (some ⟨g, o, none⟩) k k) (l.take k) ∧ (∀ x, l[k]? = some x → w.cell? ⟨g, o + k, none⟩ = some (enS x)) := by
  obtain ⟨a, c, e, hc, h⟩ := h
  obtain ⟨g, o, cs, rfl, h1, h2⟩ := h (fun e0 => by rw [e0] at hk; simp at hk)
  have hl : (l.take k).length = k := by rw [List.length_take]; omega
  refine ⟨g, o, c, e, slice_hm 55 elemS sizeS _ _ _ _ (by omega), ⟨_, _, by rw [hl], by omega, fun _ => ⟨g, o, cs, rfl, h1, fun j x hj => ?_⟩⟩, fun x hx => ?_⟩
  · rw [List.getElem?_take] at hj
    split at hj
    · exact h2 j x hj
    · cases hj
  · rw [cell_of_row w g _ _ _ _ h1]; exact h2 k x hx
set_option maxRecDepth 20000 in
set_option maxHeartbeats 4000000 in
theorem leaveLast_any {w : World} {lo wb : Nat} {ad : Nat → Nat} {row : Row} {l : List B} {x : B} {n : Nat} (h : WkAt w lo wb ad row (l ++ [x]) n) (hl : l.length ≤ 1000000) (hlo : lo ≤ w.heap.size) :
    Calls Tryz.prog 17 #[Pt wb] w fun e w' => e = .returned (.tuple #[.string (ba x), .int .i64 (if nameOk (ba x) = true then 0 else 190)]) ∧ WkAt w' lo wb ad row l n ∧ Below lo w w' := by
  obtain ⟨_, _, lv, -, hc1, -, hst, hfz, hwb⟩ := h.len
  obtain ⟨g, o, c, hlv, hsl, hst2, hcell⟩ := hst.cut (k := l.length) (by simp)
  have hcx := hcell x (by simp)
  rw [List.take_left] at hst2
  obtain ⟨hK, hB⟩ := h.left hst2
  have hf1 := hfz 1
  rw [hlv] at hc1
  rw [List.length_append, List.length_cons, List.length_nil] at hc1 hsl
  have AC := aside (fun W => check_any (ba x) W)
  obtain ⟨r, hr⟩ : ∃ r : Int, r = if nameOk (ba x) = true then 0 else 190 := ⟨_, rfl⟩
  rw [← hr] at AC ⊢
  obtain ⟨X, hX⟩ : ∃ X, X = ba x := ⟨_, rfl⟩
  rw [show enS x = .string X by rw [hX]] at hcx
  rw [← hX] at AC ⊢
  obtain ⟨m, hm⟩ : ∃ m, m = l.length := ⟨_, rfl⟩
  rw [← hm] at hc1 hsl hcx hK hB hl
  have hw : IntKind.i64.wrap (((m + 1 : Nat) : Int) - 1) = (m : Int) := by rw [wrap_small _ (by omega) (by omega)]; omega
  have hm0 : ¬ (m : Int) < 0 := by omega
  have hm1 : (0 : Int) ≤ (m : Int) := by omega
  have hm2 : (m : Int) < ((m + 1 : Nat) : Int) := by omega
  obtain ⟨U, hU⟩ : ∃ U, U = w.setCell ⟨wb, 1, none⟩ (.slice (some ⟨g, o, none⟩) m m) := ⟨_, rfl⟩
  rw [← hU] at hK hB
  have AK := aside hK
  have AB := aside hB
  clear h hst hst2 hcell hlv hr hX hm hK hB hfz
  go_enter Tryz.func17, Tryz.ntmps17
  go_wp2_with fail
  rw [← hU]
  refine (AC.out _).mono ?_
  rintro e w1 ⟨rfl, hb⟩
  have A1 := aside hb
  clear hb
  go_wp2_with fail
  go_ret2
  exact ⟨rfl, AK.out.below A1.out, AB.out.trans (A1.out.mono (by have := AB.out.size; omega))⟩
/-- What Place answers: its code; the directory; the name. -/
def plF (G : Gr) (i : Nat) (p : B) : Int × Nat × B :=
  if beg G i p ≠ 0 then (beg G i p, 0, []) else if prt p = [] then (190, 0, []) else if nameOk (ba ((prt p).getLast?.getD [])) = false then (190, 0, [])
  else if (wlk G true 16 (prt p).dropLast [([], i)]).1 ≠ 0 then ((wlk G true 16 (prt p).dropLast [([], i)]).1, 0, []) else if (nk G (lst (wlk G true 16 (prt p).dropLast [([], i)]).2)).k ≠ 1 then (193, 0, [])
  else (0, lst (wlk G true 16 (prt p).dropLast [([], i)]).2, (prt p).getLast?.getD [])
def PlaceA (ad : Nat → Nat) (R : Int × Nat × B) : Value := .tuple #[if R.1 = 0 then Pt (ad R.2.1) else .pointer none, .string (ba R.2.2), .int .i64 R.1]
set_option maxRecDepth 20000 in
set_option maxHeartbeats 8000000 in
theorem place_any {w : World} {G : Gr} {ad : Nat → Nat} (h : GAt w G ad) (hM : Mxl w) {i : Nat} (hi : i < G.length) (p : B) :
    Calls Tryz.prog 8 #[Pt (ad i), .string (ba p)] w fun e w' => e = .returned (PlaceA ad (plF G i p)) ∧ Below w.heap.size w w' := by
  obtain ⟨V, hV⟩ : ∃ V, V = PlaceA ad (plF G i p) := ⟨_, rfl⟩
  have AV := aside hV
  rw [← hV]
  clear hV
  have AS := aside (start_any h hM hi p)
  have AH := aside h
  have AM := aside hM
  obtain ⟨P, hP⟩ : ∃ P, P = ba p := ⟨_, rfl⟩
  rw [← hP] at AS ⊢
  obtain ⟨D, hD⟩ : ∃ D, D = ad i := ⟨_, rfl⟩
  rw [← hD] at AS ⊢
  clear h hM hP hD
  go_enter Tryz.func8, Tryz.ntmps8
  go_wp2_with fail
  refine AS.out.mono ?_
  rintro e w1 ⟨hb1, hno, hyes⟩
  have A1 := aside hb1
  clear AS hb1
  by_cases hb : beg G i p = 0
  · obtain ⟨wb, rfl, hk⟩ := hyes hb
    have hpl := prt_len p
    have hp4 : p.length ≤ 4096 := by
      unfold beg at hb
      by_cases h1 : (nk G i).k ≠ 1
      · rw [if_pos h1] at hb; omega
      · rw [if_neg h1] at hb
        by_cases h2 : 4096 < p.length
        · rw [if_pos h2] at hb; omega
        · omega
    by_cases hl0 : prt p = []
    · have AE : Aside (V = .tuple #[.pointer none, .string ⟨#[]⟩, .int .i64 190]) := by
        rw [AV.out]
        unfold plF
        rw [if_neg (fun e => e hb), if_pos hl0]
        exact rfl
      rw [hl0] at hk
      have AL := aside (leaveLast_none hk)
      clear hk hyes hno hl0 hpl hp4
      go_wp2_with fail
      refine AL.out.mono ?_
      rintro e w2 ⟨rfl, rfl⟩
      go_wp2_with fail
      go_ret3
      exact ⟨by rw [AE.out]; rfl, A1.out⟩
    · obtain ⟨l, x, hlx⟩ : ∃ l x, prt p = l ++ [x] := ⟨(prt p).dropLast, (prt p).getLast hl0, (List.dropLast_concat_getLast hl0).symm⟩
      have hdl : (prt p).dropLast = l := by rw [hlx, List.dropLast_concat]
      have hgl : (prt p).getLast?.getD [] = x := by rw [hlx]; simp
      have hll : l.length + 1 = (prt p).length := by rw [hlx]; simp
      rw [hlx] at hk
      have AL := aside (leaveLast_any hk (by omega) A1.out.size)
      unfold plF at AV
      rw [if_neg (fun e => e hb), if_neg hl0, hdl, hgl] at AV
      have hl1 : l.length ≤ p.length + 1 := by omega
      clear hk hyes hno hl0 hpl hp4 hlx hdl hgl hll
      obtain ⟨X, hX⟩ : ∃ X, X = ba x := ⟨_, rfl⟩
      rw [← hX] at AL AV
      have AX := aside hX
      clear hX
      by_cases hok : nameOk X = true
      · rw [if_pos hok] at AL
        rw [if_neg (by rw [hok]; decide)] at AV
        have Aok := aside hok
        clear hok
        go_wp2_with fail
        refine AL.out.mono ?_
        rintro e w2 ⟨rfl, hk2, hb2⟩
        have A2 := aside (A1.out.trans hb2)
        have AA := aside (start_along AH.out AM.out hi hb A2.out hl1 hk2 true)
        obtain ⟨R, hR⟩ : ∃ R, R = wlk G true 16 l [([], i)] := ⟨_, rfl⟩
        rw [← hR] at AA AV
        clear hk2 hb2 AL hR
        go_wp2_with fail
        refine AA.out.mono ?_
        rintro e w3 ⟨rfl, hk3, hb3⟩
        have A3 := aside (A2.out.trans hb3)
        clear hb3 AA
        by_cases hz : R.1 = 0
        · obtain ⟨hne, hle, hin, l', n', hk4⟩ := hk3 hz
          rw [hz]
          rw [if_neg (fun e => e hz)] at AV
          obtain ⟨q, hqm, hq⟩ := lst_mem hne
          have hlt : lst R.2 < G.length := by rw [hq]; exact hin q hqm
          have AT := aside (fun W (hW : Below w3.heap.size w3 W) => at_any (hk4.below hW) hne (by omega))
          have AKd := aside (fun W (hW : Below w3.heap.size w3 W) => kind_at (AH.out.below (A3.out.trans (hW.mono A3.out.size))) hlt)
          obtain ⟨kd, hkd⟩ : ∃ kd, kd = (nk G (lst R.2)).k := ⟨_, rfl⟩
          rw [← hkd] at AKd AV
          obtain ⟨E, hE⟩ : ∃ E, E = ad (lst R.2) := ⟨_, rfl⟩
          rw [← hE] at AT AKd
          have AEe := aside hE
          clear hk3 hk4 hq hqm hin hkd hE
          go_wp2_with fail
          refine (AT.out _ (Below.refl _ _)).mono ?_
          rintro e w4 ⟨rfl, hb4⟩
          have A4 := aside hb4
          clear hb4
          go_wp2_with fail
          refine (AKd.out _ A4.out).mono ?_
          rintro e w5 ⟨rfl, rfl⟩
          by_cases hd1 : kd = 1
          · subst hd1
            rw [if_neg (by decide)] at AV
            have AVE : Aside (V = .tuple #[Pt E, .string X, .int .i64 0]) := by
              rw [AV.out, AEe.out, AX.out]
              unfold PlaceA
              rw [if_pos rfl]
              exact rfl
            go_wp2_with fail
            refine (AT.out _ A4.out).mono ?_
            rintro e w6 ⟨rfl, hb6⟩
            have A6 := aside (A3.out.trans ((below_tr A4.out hb6).mono A3.out.size))
            clear hb6
            go_wp2_with fail
            go_ret3
            exact ⟨by rw [AVE.out]; rfl, A6.out⟩
          · have hd2 : (kd == 1) = false := beq_eq_false_iff_ne.2 hd1
            rw [if_pos hd1] at AV
            have AVE : Aside (V = .tuple #[.pointer none, .string ⟨#[]⟩, .int .i64 193]) := by
              rw [AV.out]
              exact rfl
            go_wp2_with fail
            go_ret3
            exact ⟨by rw [AVE.out]; rfl, A3.out.trans (A4.out.mono A3.out.size)⟩
        · have hz2 : (R.1 == 0) = false := beq_eq_false_iff_ne.2 hz
          rw [if_pos hz] at AV
          have AVE : Aside (V = .tuple #[.pointer none, .string ⟨#[]⟩, .int .i64 R.1]) := by
            rw [AV.out]
            unfold PlaceA
            rw [if_neg hz]
            exact rfl
          obtain ⟨c, hc⟩ : ∃ c, c = R.1 := ⟨_, rfl⟩
          rw [← hc] at hz2 AVE ⊢
          clear hc
          go_wp2_with fail
          go_ret3
          exact ⟨by rw [AVE.out]; rfl, A3.out⟩
      · rw [if_neg hok] at AL
        rw [if_pos (by simpa using hok)] at AV
        have AVE : Aside (V = .tuple #[.pointer none, .string ⟨#[]⟩, .int .i64 190]) := by
          rw [AV.out]
          exact rfl
        clear hok
        go_wp2_with fail
        refine AL.out.mono ?_
        rintro e w2 ⟨rfl, -, hb2⟩
        have A2 := aside (A1.out.trans hb2)
        clear hb2
        go_wp2_with fail
        go_ret3
        exact ⟨by rw [AVE.out]; rfl, A2.out⟩
  · have he := hno hb
    subst he
    have AVE : Aside (V = .tuple #[.pointer none, .string ⟨#[]⟩, .int .i64 (beg G i p)]) := by
      rw [AV.out]
      unfold plF PlaceA
      rw [if_pos hb, if_neg hb]
      exact rfl
    have hz2 : (beg G i p == 0) = false := beq_eq_false_iff_ne.2 hb
    obtain ⟨c, hc⟩ : ∃ c, c = beg G i p := ⟨_, rfl⟩
    rw [← hc] at hz2 AVE ⊢
    clear hno hyes hc
    go_wp2_with fail
    go_ret3
    exact ⟨by rw [AVE.out]; rfl, A1.out⟩
end Go.Proofs.YtknjclekfmmfeabGreatDoor
