/- The document's walk: begun, Walk. The document's walk: Place. The document's walk: Real; which node is which. -/
import Derived.Test.YtknjclekfmmfeaaGreatDoorQWd
import Derived.Test.YtknjclekfmmfeaaGreatDoorQPrq
import Derived.Test.YtknjclekfmmfeaaGreatDoorQPpl
import Derived.Test.YtknjclekfmmfeaaGreatDoorQPrl
import Derived.Test.YtknjclekfmmfeaaGreatDoorQLre
namespace Go.Proofs.YtknjclekfmmfeaaGreatDoor
open Go.RowKit Go.ChangeMaps Go.Shelf

def BegP (S : List Ne) (w : World) (i : Nat) (b : Int) (r : Ending) (w' : World) : Prop :=
  (b ≠ 0 ∧ r = .returned (.tuple #[.pointer none, .int .i64 b]) ∧ w' = w) ∨ (b = 0 ∧ ∃ wb, r = .returned (.tuple #[Pt wb, .int .i64 0]) ∧ Wyr S w' w.heap.size wb [([], i)] 0 ∧ Below w.heap.size w w')
set_option maxRecDepth 20000 in
set_option maxHeartbeats 4000000 in
theorem rbegun_any {w : World} {lo0 : Nat} {S : List Ne} (hR : RX lo0 w S) {i : Nat} {e : Ne} (he : S[i]? = some e) (p : B) :
    Calls Tryz.prog 34 #[Pt e.rb, .string (ba p)] w fun r w' => BegP S w i (beg (gr S) i p) r w' := by
  obtain ⟨t0, -, -, -⟩ := hR.cel he
  have hnk := (nk_of he).1
  have hrb := rbr_of he
  have hil := (List.getElem?_eq_some_iff.1 he).1
  unfold beg
  rw [hnk]
  obtain ⟨P, hP⟩ : ∃ P, P = ba p := ⟨_, rfl⟩
  have hps : P.size = p.length := by rw [hP, ba_size]
  rw [← hP]
  obtain ⟨rb, hrbe⟩ : ∃ rb, rb = e.rb := ⟨_, rfl⟩
  obtain ⟨k, hk⟩ : ∃ k, k = e.k := ⟨_, rfl⟩
  rw [← hrbe] at t0 hrb ⊢
  rw [← hk] at t0 hnk ⊢
  obtain ⟨n, hn⟩ : ∃ n, n = p.length := ⟨_, rfl⟩
  rw [← hn] at hps ⊢
  have Ahrb := aside hrb
  have Ank := aside hnk
  have Ail := aside hil
  clear hP hR he hrbe hk hn hrb hnk hil
  by_cases hk1 : k = 1
  · subst hk1
    rw [if_neg (by simp)]
    by_cases hl : 4096 < n
    · rw [if_pos hl]
      have hl2 : (4096 : Int) < (P.size : Int) := by omega
      go_enter Tryz.func34, Tryz.ntmps34
      go_wp2_with fail
      go_ret2
      exact .inl ⟨by decide, rfl, rfl⟩
    · rw [if_neg hl]
      have hl2 : ¬ (4096 : Int) < (P.size : Int) := by omega
      have AF : Aside (∀ V U : World, V = w.alloc (.cells #[Pt rb] 37) → U = V.alloc (.cells #[.slice (some ⟨w.heap.size, 0, none⟩) 1 1, .slice none 0 0, Pt rb, .string ⟨#[]⟩, .int .i64 0] 79) → Wyr S U w.heap.size V.heap.size [([], i)] 0 ∧ Below w.heap.size w U) := fun V U hV hU => by
        have b1 : Below w.heap.size w V := by rw [hV]; exact below_al _ _
        have b2 : Below V.heap.size V U := by rw [hU]; exact below_al _ _
        have g1 : V.heap[w.heap.size]? = some (.cells #[Pt rb] 37 (0, 0)) := by rw [hV]; exact heap_alloc_new w _
        have g2 := (b2.block _ (Array.getElem?_eq_some_iff.1 g1).1).trans g1
        have g3 : U.heap[V.heap.size]? = some (.cells #[.slice (some ⟨w.heap.size, 0, none⟩) 1 1, .slice none 0 0, Pt rb, .string ⟨#[]⟩, .int .i64 0] 79 (0, 0)) := by rw [hU]; exact heap_alloc_new V _
        refine ⟨wyr_dir (la := []) (by simp) (fun p hp => ?_) (fun p hp => ?_) ⟨b1.size, .slice (some ⟨w.heap.size, 0, none⟩) 1 1, .slice none 0 0, ?_, ?_, st_nil U⟩, below_tr b1 b2⟩
        · rw [List.mem_singleton.1 hp]; exact Ail.out
        · rw [List.mem_singleton.1 hp]; exact Ank.out
        · rw [show lst [(([] : B), i)] = i from rfl, Ahrb.out]; exact g3
        · refine ⟨some ⟨w.heap.size, 0, none⟩, 1, rfl, Nat.le_refl _, fun _ => ⟨w.heap.size, 0, _, rfl, g2, fun j x hj => ?_⟩⟩
          cases j with
          | zero =>
            simp only [rbs, List.map_cons, List.map_nil, List.getElem?_cons_zero, Option.some.injEq] at hj
            rw [← hj, Ahrb.out]; rfl
          | succ j => simp [rbs] at hj
      obtain ⟨V, hV⟩ : ∃ V, V = w.alloc (.cells #[Pt rb] 37) := ⟨_, rfl⟩
      obtain ⟨U, hU⟩ : ∃ U, U = V.alloc (.cells #[.slice (some ⟨w.heap.size, 0, none⟩) 1 1, .slice none 0 0, Pt rb, .string ⟨#[]⟩, .int .i64 0] 79) := ⟨_, rfl⟩
      obtain ⟨r1, r2⟩ := AF.out V U hV hU
      rw [hU, hV] at r1 r2
      have A1 := aside r1
      have A2 := aside r2
      clear AF r1 r2 hU hV
      go_enter Tryz.func34, Tryz.ntmps34
      go_wp2_with fail
      go_ret2
      exact .inr ⟨rfl, _, rfl, by simpa using A1.out, A2.out⟩
  · rw [if_pos hk1]
    have hkb : (k == 1) = false := beq_eq_false_iff_ne.2 hk1
    go_enter Tryz.func34, Tryz.ntmps34
    go_wp2_with fail
    go_ret2
    exact .inl ⟨by decide, rfl, rfl⟩
set_option maxRecDepth 20000 in
set_option maxHeartbeats 4000000 in
theorem rWalk_any {w : World} {lo0 : Nat} {S : List Ne} (hR : ∀ W, Below w.heap.size w W → RX lo0 W S) (hS : Sok S) {i : Nat} {e : Ne} (he : S[i]? = some e) (p : B) (f : Bool) :
    Calls Tryz.prog 12 #[Pt e.rb, .string (ba p), .bool f] w fun r w' => r = .returned (WalkA (rbr S) (wkF (gr S) i p f)) ∧ Below w.heap.size w w' ∧ ((wkF (gr S) i p f).1 = 0 → lst (wkF (gr S) i p f).2 < S.length) := by
  have AB := aside (rbegun_any (hR w (Below.refl _ _)) he p)
  have AR := aside hR
  have AS := aside hS
  obtain ⟨rb, hrbe⟩ : ∃ rb, rb = e.rb := ⟨_, rfl⟩
  rw [← hrbe] at AB ⊢
  obtain ⟨b, hb⟩ : ∃ b, b = beg (gr S) i p := ⟨_, rfl⟩
  have hpl : b = 0 → p.length ≤ 4096 := fun h => by
    rw [h] at hb
    unfold beg at hb
    split at hb
    · cases hb
    · split at hb
      · cases hb
      · omega
  obtain ⟨R, hRe⟩ : ∃ R, R = wkF (gr S) i p f := ⟨_, rfl⟩
  have hR1 : b ≠ 0 → R = (b, []) := fun h => by rw [hRe]; unfold wkF; rw [← hb, if_pos h]
  have hR2 : b = 0 → R = wlk (gr S) f 16 (prt p) [([], i)] := fun h => by rw [hRe]; unfold wkF; rw [← hb, if_neg (by simp [h])]
  rw [← hb] at AB
  rw [← hRe]
  have Ap := aside hpl
  have A1 := aside hR1
  have A2 := aside hR2
  obtain ⟨P, hP⟩ : ∃ P, P = ba p := ⟨_, rfl⟩
  have AP := aside hP
  rw [← hP] at AB ⊢
  clear hR hS he hrbe hb hRe hR1 hR2 hpl hP
  go_enter Tryz.func12, Tryz.ntmps12
  go_wp2_with fail
  refine AB.out.mono ?_
  rintro e w1 (⟨hb, rfl, rfl⟩ | ⟨rfl, wb, rfl, hw1, b1⟩)
  · have hbb : (b == 0) = false := beq_eq_false_iff_ne.2 hb
    have hRR := A1.out hb
    subst hRR
    go_wp2_with fail
    go_ret2
    refine ⟨by unfold WalkA; rw [if_neg hb]; rfl, ?_⟩
    first
      | exact Below.refl _ _
      | exact ⟨Below.refl _ _, fun h => absurd h hb⟩
  · have W1 := aside hw1
    have B1 := aside b1
    have hRR := A2.out rfl
    have APa := aside (rParts_any p w1 (by have := Ap.out rfl; omega))
    rw [← AP.out] at APa
    have Apl := aside (Ap.out rfl)
    clear hw1 b1 A1 A2 AB Ap
    go_wp2_with fail
    refine APa.out.mono ?_
    rintro e w2 ⟨v, rfl, hgw, b2⟩
    have W2 := aside (W1.out.below b2)
    have B2 := aside (B1.out.trans (b2.mono B1.out.size))
    have AO := aside (rover_any W2.out (fun W b => AR.out W (B2.out.trans b)) AS.out hgw.st (Nat.zero_le _) (by have h1 := prt_len p; have h2 := Apl.out; simp only [List.length_singleton]; omega) (fun x hx => by have h1 := prt_mem hx; have h2 := Apl.out; omega) f)
    rw [← hRR] at AO
    clear hgw b2 APa W1 hRR
    go_wp2_with fail
    refine AO.out.mono ?_
    rintro e w3 ⟨rfl, h3, b3⟩
    have B3 := aside (B2.out.trans b3)
    have A3 := aside h3
    clear h3 b3 AO
    by_cases h0 : R.1 = 0
    · obtain ⟨-, n, -, hw3⟩ := A3.out h0
      obtain ⟨ds, ns, la, hW, -, -⟩ := hw3.loc
      obtain ⟨a, c, a', c', -, -, k2, -, -, -, -, -, -, -, -⟩ := hW.cel
      rw [h0]
      obtain ⟨ab, hab⟩ : ∃ ab, ab = rbr S (lst R.2) := ⟨_, rfl⟩
      rw [← hab] at k2
      have Aab := aside hab
      have A0 := aside h0
      have Alt := aside (lst_lt hw3)
      clear hW hw3 hab h0
      go_wp2_with fail
      go_ret2
      exact ⟨by unfold WalkA; rw [if_pos A0.out, A0.out, ← Aab.out]; rfl, B3.out, fun _ => Alt.out⟩
    · have hne : (R.1 == 0) = false := beq_eq_false_iff_ne.2 h0
      obtain ⟨er, her⟩ : ∃ er, er = R.1 := ⟨_, rfl⟩
      have Aer := aside her
      rw [← her] at hne h0 ⊢
      clear her
      go_wp2_with fail
      go_ret2
      exact ⟨by unfold WalkA; rw [if_neg (by rw [← Aer.out]; exact h0), ← Aer.out]; rfl, B3.out, fun h => absurd h (by rw [← Aer.out]; exact h0)⟩
end Go.Proofs.YtknjclekfmmfeaaGreatDoor

namespace Go.Proofs.YtknjclekfmmfeaaGreatDoor
open Go.RowKit Go.ChangeMaps Go.Shelf

theorem beg_len {G : Gr} {i : Nat} {p : B} (h : beg G i p = 0) : p.length ≤ 4096 := by
  unfold beg at h
  split at h
  · cases h
  · split at h
    · cases h
    · omega
theorem StAt.cell {w : World} {v : Value} {l : List B} (h : StAt w v l) (hl : l ≠ []) : ∃ g o c, v = .slice (some ⟨g, o, none⟩) l.length c ∧ l.length ≤ c ∧ g < w.heap.size ∧ ∀ (j : Nat) (x : B), l[j]? = some x → w.cell? ⟨g, o + j, none⟩ = some (enS x) := by
  obtain ⟨a, c, e, hc, h⟩ := h
  obtain ⟨g, o, cs, rfl, h1, h2⟩ := h hl
  exact ⟨g, o, c, e, hc, (Array.getElem?_eq_some_iff.1 h1).1, fun j x hj => by rw [cell_of_row w g _ _ _ _ h1]; exact h2 j x hj⟩
set_option maxRecDepth 20000 in
set_option maxHeartbeats 4000000 in
theorem rPlace_any {w : World} {lo0 : Nat} {S : List Ne} (hR : ∀ W, Below w.heap.size w W → RX lo0 W S) (hS : Sok S) {i : Nat} {e : Ne} (he : S[i]? = some e) (p : B) :
    Calls Tryz.prog 15 #[Pt e.rb, .string (ba p)] w fun r w' => r = .returned (PlaceA (rbr S) (plF (gr S) i p)) ∧ Below w.heap.size w w' ∧ ((plF (gr S) i p).1 = 0 → (plF (gr S) i p).2.1 < S.length) := by
  have AB := aside (rbegun_any (hR w (Below.refl _ _)) he p)
  have AR := aside hR
  have AS := aside hS
  obtain ⟨rb, hrbe⟩ : ∃ rb, rb = e.rb := ⟨_, rfl⟩
  rw [← hrbe] at AB ⊢
  obtain ⟨R, hRe⟩ : ∃ R, R = plF (gr S) i p := ⟨_, rfl⟩
  rw [← hRe]
  obtain ⟨b, hb⟩ : ∃ b, b = beg (gr S) i p := ⟨_, rfl⟩
  have Ap : Aside (b = 0 → p.length ≤ 4096) := fun h => beg_len (by rw [← hb]; exact h)
  unfold plF at hRe
  rw [← hb] at AB hRe
  have Ae := aside hRe
  obtain ⟨P, hP⟩ : ∃ P, P = ba p := ⟨_, rfl⟩
  have AP := aside hP
  rw [← hP] at AB ⊢
  clear hR hS he hrbe hb hRe hP
  go_enter Tryz.func15, Tryz.ntmps15
  go_wp2_with fail
  refine AB.out.mono ?_
  rintro e w1 (⟨hb, rfl, rfl⟩ | ⟨rfl, wb, rfl, hw1, b1⟩)
  · have hbb : (b == 0) = false := beq_eq_false_iff_ne.2 hb
    rw [if_pos hb] at Ae
    go_wp2_with fail
    go_ret3
    exact ⟨by rw [Ae.out]; unfold PlaceA; rw [if_neg hb]; rfl, Below.refl _ _, fun h => by rw [Ae.out] at h; exact absurd h hb⟩
  · have W1 := aside hw1
    have B1 := aside b1
    have Apl := aside (Ap.out rfl)
    have APa := aside (rParts_any p w1 (by have := Apl.out; omega))
    rw [← AP.out] at APa
    rw [if_neg (by simp)] at Ae
    clear hw1 b1 AB Ap
    go_wp2_with fail
    refine APa.out.mono ?_
    rintro e w2 ⟨v, rfl, hgw, b2⟩
    have W2 := aside (W1.out.below b2)
    have B2 := aside (B1.out.trans (b2.mono B1.out.size))
    have hst := hgw.st
    clear hgw b2 APa W1
    by_cases hnil : prt p = []
    · rw [if_pos hnil] at Ae
      rw [hnil] at hst
      obtain ⟨a, c, rfl, -, -⟩ := hst
      clear hnil
      go_wp2_with fail
      go_ret3
      exact ⟨by rw [Ae.out]; rfl, B2.out, fun h => by rw [Ae.out] at h; cases h⟩
    · rw [if_neg hnil] at Ae
      obtain ⟨g, o, c, rfl, hlc, hgs, hcell⟩ := hst.cell hnil
      have hpos : 0 < (prt p).length := List.length_pos_iff.2 hnil
      obtain ⟨nm, hnm⟩ : ∃ nm, nm = (prt p).getLast?.getD [] := ⟨_, rfl⟩
      have hlast : (prt p)[(prt p).length - 1]? = some nm := by
        rw [← List.getLast?_eq_getElem?, hnm]
        rw [List.getLast?_eq_some_getLast hnil]
        rfl
      rw [← hnm] at Ae
      have hcx := hcell _ _ hlast
      have hml := List.mem_of_getElem? hlast
      have hnl := prt_mem hml
      obtain ⟨ac, cc, e9, -, hcut⟩ := hst.cutk ((prt p).length - 1) (by omega)
      injection e9 with e1 e2 e3
      subst e1 e3
      have hpn := prt_len p
      have hpb := Apl.out
      have ACt := aside hcut
      have ACk := aside (rCheck_any nm w2 (by omega))
      obtain ⟨q, hq⟩ : ∃ q, q = (prt p).length - 1 := ⟨_, rfl⟩
      have Aq := aside hq
      rw [show (prt p).length - 1 = q from hq.symm] at hcx ACt
      rw [show (prt p).length = q + 1 by omega] at hlc ⊢
      have hqb : q ≤ 5000 := by omega
      have hw1 : IntKind.i64.wrap (((q + 1 : Nat) : Int) - 1) = (q : Int) := by rw [wrap_small _ (by omega) (by omega)]; omega
      have hwq : IntKind.i64.wrap (q : Int) = (q : Int) := wrap_small _ (by omega) (by omega)
      have hi0 : (0 : Int) ≤ (q : Int) := by omega
      have hi1 : (q : Int) < ((q + 1 : Nat) : Int) := by omega
      have hi2 : (q : Int) < (q : Int) + 1 := by omega
      have hsl := slice_hS (some ⟨g, o, none⟩) (q + 1) c q (by omega)
      obtain ⟨N, hN⟩ : ∃ N, N = ba nm := ⟨_, rfl⟩
      rw [show enS nm = .string N by rw [hN]] at hcx
      rw [← hN] at ACk
      rw [← hN] at Ae
      have AN := aside hN
      clear hst hcell hcut hlast hml hnl hpos hq hN hnm e2 hpn
      cases hok : nameOk N with
      | false =>
        rw [hok, if_neg (by decide)] at ACk
        rw [hok, if_pos rfl] at Ae
        go_wp2_with fail
        refine ACk.out.mono ?_
        rintro e w3 ⟨rfl, rfl⟩
        go_wp2_with fail
        go_ret3
        exact ⟨by rw [Ae.out]; rfl, B2.out, fun h => by rw [Ae.out] at h; cases h⟩
      | true =>
        rw [hok, if_pos rfl] at ACk
        rw [hok, if_neg (by decide)] at Ae
        obtain ⟨Q, hQ⟩ : ∃ Q, Q = wlk (gr S) true 16 (prt p).dropLast [([], i)] := ⟨_, rfl⟩
        rw [← hQ] at Ae
        have htk : (prt p).take q = (prt p).dropLast := by rw [List.dropLast_eq_take, Aq.out]
        rw [htk] at ACt
        have hdl : (prt p).dropLast.length = q := by rw [List.length_dropLast, Aq.out]
        have AO := aside (rover_any W2.out (fun W b => AR.out W (B2.out.trans b)) AS.out ACt.out (Nat.zero_le _) (by simp only [List.length_singleton]; omega) (fun x hx => by have h1 := prt_mem ((List.dropLast_sublist _).mem hx); have h2 := Apl.out; omega) true)
        rw [show 16 - 0 = 16 from rfl, ← hQ] at AO
        clear htk hdl hQ ACt hnil
        go_wp2_with fail
        refine ACk.out.mono ?_
        rintro e w3 ⟨rfl, rfl⟩
        go_wp2_with fail
        refine AO.out.mono ?_
        rintro e w4 ⟨rfl, h3, b3⟩
        have B3 := aside (B2.out.trans b3)
        have A3 := aside h3
        clear h3 b3 AO ACk
        by_cases h0 : Q.1 = 0
        · obtain ⟨-, n, -, hw3⟩ := A3.out h0
          rw [if_neg (by simp [h0])] at Ae
          obtain ⟨e5, he5⟩ : ∃ e, S[lst Q.2]? = some e := ⟨_, List.getElem?_eq_getElem (lst_lt hw3)⟩
          obtain ⟨ds, ns, la, hW, -, -⟩ := hw3.loc
          obtain ⟨a, c, a', c', -, -, k2, -, -, -, -, -, -, -, -⟩ := hW.cel
          obtain ⟨t0, -, -, -⟩ := (AR.out w4 B3.out).cel he5
          rw [rbr_of he5] at k2
          rw [(nk_of he5).1] at Ae
          rw [h0]
          have Arb := aside (rbr_of he5)
          have Alt := aside (lst_lt hw3)
          obtain ⟨ab, hab⟩ : ∃ ab, ab = e5.rb := ⟨_, rfl⟩
          obtain ⟨kd, hkd⟩ : ∃ kd, kd = e5.k := ⟨_, rfl⟩
          rw [← hab] at k2 t0 Arb
          rw [← hkd] at t0 Ae
          clear hW hw3 hab h0 he5 hkd A3
          by_cases hk1 : kd = 1
          · subst hk1
            rw [if_neg (by simp)] at Ae
            go_wp2_with fail
            go_ret3
            exact ⟨by rw [Ae.out]; unfold PlaceA; rw [if_pos rfl, Arb.out, ← AN.out]; rfl, B3.out, fun _ => by rw [Ae.out]; exact Alt.out⟩
          · have hkb : (kd == 1) = false := beq_eq_false_iff_ne.2 hk1
            rw [if_pos hk1] at Ae
            go_wp2_with fail
            go_ret3
            exact ⟨by rw [Ae.out]; rfl, B3.out, fun h => by rw [Ae.out] at h; cases h⟩
        · have hne : (Q.1 == 0) = false := beq_eq_false_iff_ne.2 h0
          rw [if_pos h0] at Ae
          obtain ⟨er, her⟩ : ∃ er, er = Q.1 := ⟨_, rfl⟩
          rw [← her] at hne h0 Ae ⊢
          clear her A3
          go_wp2_with fail
          go_ret3
          exact ⟨by rw [Ae.out]; unfold PlaceA; rw [if_neg h0]; rfl, B3.out, fun h => by rw [Ae.out] at h; exact absurd h h0⟩
end Go.Proofs.YtknjclekfmmfeaaGreatDoor

namespace Go.Proofs.YtknjclekfmmfeaaGreatDoor
open Go.RowKit Go.ChangeMaps Go.Shelf

/-- The names of a way: its row's, whether it stands at a directory or not. -/
theorem Wyr.names {S : List Ne} {w : World} {lo wb : Nat} {row : Row} {n : Nat} (h : Wyr S w lo wb row n) : ∃ ds ns la, WyAt w lo wb ds ns (rbr S (lst row)) la n ∧ row.tail.map (·.1) = if (nk (gr S) (lst row)).k = 1 then ns else ns ++ [la] := by
  obtain ⟨ds, ns, la, hW, h1, h2⟩ := h.loc
  refine ⟨ds, ns, la, hW, ?_⟩
  by_cases hk : (nk (gr S) (lst row)).k = 1
  · rw [if_pos hk, (h1 hk).2]
  · obtain ⟨r, x, i, hr, rfl, -, rfl, rfl⟩ := h2 hk
    rw [if_neg hk]
    cases r with
    | nil => exact absurd rfl hr
    | cons p r => simp
set_option maxRecDepth 20000 in
set_option maxHeartbeats 4000000 in
theorem rReal_any {w : World} {lo0 : Nat} {S : List Ne} (hR : ∀ W, Below w.heap.size w W → RX lo0 W S) (hS : Sok S) {i : Nat} {e : Ne} (he : S[i]? = some e) (p : B) :
    Calls Tryz.prog 17 #[Pt e.rb, .string (ba p)] w fun r w' => (∃ m : Int, r = .returned (.tuple #[.string (ba (reF (wkF (gr S) i p true)).2), .int .i64 m, .int .i64 (reF (wkF (gr S) i p true)).1])) ∧ Below w.heap.size w w' := by
  have AB := aside (rbegun_any (hR w (Below.refl _ _)) he p)
  have AR := aside hR
  have AS := aside hS
  obtain ⟨rb, hrbe⟩ : ∃ rb, rb = e.rb := ⟨_, rfl⟩
  rw [← hrbe] at AB ⊢
  obtain ⟨b, hb⟩ : ∃ b, b = beg (gr S) i p := ⟨_, rfl⟩
  have Ap : Aside (b = 0 → p.length ≤ 4096) := fun h => beg_len (by rw [← hb]; exact h)
  obtain ⟨R, hRe⟩ : ∃ R, R = wkF (gr S) i p true := ⟨_, rfl⟩
  have A1 : Aside (b ≠ 0 → R = (b, [])) := fun h => by rw [hRe]; unfold wkF; rw [← hb, if_pos h]
  have A2 : Aside (b = 0 → R = wlk (gr S) true 16 (prt p) [([], i)]) := fun h => by rw [hRe]; unfold wkF; rw [← hb, if_neg (by simp [h])]
  rw [← hb] at AB
  rw [← hRe]
  obtain ⟨P, hP⟩ : ∃ P, P = ba p := ⟨_, rfl⟩
  have AP := aside hP
  rw [← hP] at AB ⊢
  clear hR hS he hrbe hb hRe hP
  go_enter Tryz.func17, Tryz.ntmps17
  go_wp2_with fail
  refine AB.out.mono ?_
  rintro e w1 (⟨hb, rfl, rfl⟩ | ⟨rfl, wb, rfl, hw1, b1⟩)
  · have hbb : (b == 0) = false := beq_eq_false_iff_ne.2 hb
    have hRR := A1.out hb
    subst hRR
    go_wp2_with fail
    go_ret3
    exact ⟨⟨_, by unfold reF; rw [if_pos hb]; rfl⟩, Below.refl _ _⟩
  · have W1 := aside hw1
    have B1 := aside b1
    have hRR := A2.out rfl
    have APa := aside (rParts_any p w1 (by have := Ap.out rfl; omega))
    rw [← AP.out] at APa
    have Apl := aside (Ap.out rfl)
    clear hw1 b1 A1 A2 AB Ap
    go_wp2_with fail
    refine APa.out.mono ?_
    rintro e w2 ⟨v, rfl, hgw, b2⟩
    have W2 := aside (W1.out.below b2)
    have B2 := aside (B1.out.trans (b2.mono B1.out.size))
    have AO := aside (rover_any W2.out (fun W b => AR.out W (B2.out.trans b)) AS.out hgw.st (Nat.zero_le _) (by have h1 := prt_len p; have h2 := Apl.out; simp only [List.length_singleton]; omega) (fun x hx => by have h1 := prt_mem hx; have h2 := Apl.out; omega) true)
    rw [show 16 - 0 = 16 from rfl, ← hRR] at AO
    have ARR := aside hRR
    clear hgw b2 APa W1 hRR
    go_wp2_with fail
    refine AO.out.mono ?_
    rintro e w3 ⟨rfl, h3, b3⟩
    have B3 := aside (B2.out.trans b3)
    have A3 := aside h3
    clear h3 b3 AO
    by_cases h0 : R.1 = 0
    · obtain ⟨hlen, n, -, hw3⟩ := A3.out h0
      obtain ⟨r, hr, hch⟩ := wlk_chn 16 (prt p) i [] R.2 (by unfold Chn; trivial) (show wlk (gr S) true 16 (prt p) [([], i)] = (0, R.2) by rw [← ARR.out, ← h0])
      have hok : Oks (R.2.tail.map (·.1)) := by rw [hr]; exact hch.oks
      have hww := oks_wid hok (by rw [List.length_map, List.length_tail]; omega)
      have hwd : wid (R.2.tail.map (·.1)) ≤ 1000000000 := by
        have h1 := wid_le (fun x hx => ok_len (hok x hx))
        rw [List.length_map, List.length_tail] at h1
        omega
      obtain ⟨e5, he5⟩ : ∃ e, S[lst R.2]? = some e := ⟨_, List.getElem?_eq_getElem (lst_lt hw3)⟩
      obtain ⟨ds, ns, la, hW, hnames⟩ := hw3.names
      obtain ⟨a, c, a', c', -, k1, k2, k3, k4, -, hwb, -, hs, -, hc'⟩ := hW.cel
      obtain ⟨t0, -, -, ht9⟩ := (AR.out w3 B3.out).cel he5
      rw [(nk_of he5).1] at hnames
      rw [rbr_of he5] at k2
      obtain ⟨M, hM⟩ : ∃ M, M = R.2.tail.map (·.1) := ⟨_, rfl⟩
      have Are : Aside (reF R = if 4096 < (pth M).length then (3, []) else (0, pth M)) := by show reF R = _; unfold reF; rw [if_neg (by simp [h0]), hM]
      rw [← hM] at hnames hww hwd hok
      rw [h0]
      obtain ⟨ab, hab⟩ : ∃ ab, ab = e5.rb := ⟨_, rfl⟩
      obtain ⟨kd, hkd⟩ : ∃ kd, kd = e5.k := ⟨_, rfl⟩
      rw [← hab] at k2 t0 ht9
      rw [← hkd] at t0 hnames
      obtain ⟨La, hLa⟩ : ∃ La, La = ba la := ⟨_, rfl⟩
      rw [← hLa] at k3
      have hns : ns.length ≤ 100000 := by
        have h1 := congrArg List.length hnames
        rw [hM, List.length_map, List.length_tail] at h1
        split at h1
        · omega
        · rw [List.length_append] at h1; simp only [List.length_singleton] at h1; omega
      obtain ⟨W0, hW0⟩ : ∃ W0, W0 = w3.alloc (.cells #[] 9) := ⟨_, rfl⟩
      have bW0 : Below w3.heap.size w3 W0 := by rw [hW0]; exact below_al _ _
      have AO0 : Aside (W0.ownsRow 0 9 1 (.slice (some ⟨w3.heap.size, 0, none⟩) 0 0) 0 []) := by rw [hW0]; exact own_empty w3 _
      have AS0 := aside (hs.keep (fun g _ hg => bW0.block g (Array.getElem?_eq_some_iff.1 hg).1)).src
      have k1W : W0.cell? ⟨wb, 1, none⟩ = some (.slice a' ns.length c') := (bW0.cell (p := ⟨wb, 1, none⟩) hwb).trans k1
      obtain ⟨m, hm⟩ : ∃ m, m = ns.length := ⟨_, rfl⟩
      have Am := aside hm
      rw [← hm] at k1 k1W AS0 hns
      rw [hW0] at k1W
      have A0 := aside bW0
      have Anames := aside hnames
      have Aww := aside hww
      have Awd := aside hwd
      have ALa := aside hLa
      clear hW hw3 hab h0 he5 hkd A3 hr hch hok hs bW0 hm hM hnames hww hwd hlen ARR hLa k1
      by_cases hk1 : kd = 1
      · subst hk1
        rw [if_pos rfl] at Anames
        go_wp2_with (at_builtin; rw [← hW0]; refine wpList_append_any W0 rfl _ _ 62 rfl 9 (.string ByteArray.empty) 1 16 Tryz.underlying62 infoS rfl (by omega) (.slice (some ⟨w3.heap.size, 0, none⟩) 0 0) 0 [] rfl AO0.out (.slice a' m c') m (ns.map enS) rfl (by have := Am.out; rw [List.length_map]; omega) AS0.out (enS_one ns) (by unfold maxLen; omega) (by omega) ?_; intro v4 w4 ho4 hu4 hv4; obtain ⟨q1, q2⟩ := grown_below (lo := w3.heap.size) hu4 A0.out.size (by intro k hk; simp only [Value.ownBlock, Option.some.injEq] at hk; omega) hv4; have P4 : Aside (StAt w4 v4 ns) := StAt.of_own (n := m) (by rw [Nat.zero_add, List.nil_append] at ho4; exact ho4); have B4 := aside (A0.out.trans q1); have x2 := (B4.out.cell (p := ⟨wb, 2, none⟩) hwb).trans k2; have x4 := (B4.out.cell (p := ⟨wb, 4, none⟩) hwb).trans k4; have y0 := (B4.out.cell (p := ⟨ab, 0, none⟩) ht9).trans t0; clear ho4 hu4 hv4 q1 q2)
        have AJ := aside (rJoined_any M v4 w4 (by rw [Anames.out]; exact P4.out) Aww.out.2 Awd.out)
        obtain ⟨N, hN⟩ : ∃ N, N = ba (pth M) := ⟨_, rfl⟩
        have hNs : N.size = (pth M).length := by rw [hN, ba_size]
        rw [← hN] at AJ
        have AN := aside hN
        obtain ⟨z, hz⟩ : ∃ z, z = (pth M).length := ⟨_, rfl⟩
        rw [← hz] at hNs Are
        clear hN hz
        refine AJ.out.mono ?_
        rintro e w5 ⟨rfl, rfl⟩
        clear AJ
        have BE := aside (B3.out.trans (B4.out.mono B3.out.size))
        by_cases hl : 4096 < z
        · have hl2 : (4096 : Int) < (N.size : Int) := by omega
          rw [if_pos hl] at Are
          clear hNs
          go_wp2_with fail
          go_ret3
          exact ⟨⟨_, by rw [Are.out]; rfl⟩, BE.out⟩
        · have hl2 : ¬ (4096 : Int) < (N.size : Int) := by omega
          rw [if_neg hl] at Are
          clear hNs
          go_wp2_with fail
          go_region
          go_wp2_with fail
          go_ret3
          exact ⟨⟨_, by rw [Are.out, AN.out]; rfl⟩, BE.out.trans ((below_dr _).mono BE.out.size)⟩
      · have hkb : (kd == 1) = false := beq_eq_false_iff_ne.2 hk1
        rw [if_neg hk1] at Anames
        go_wp2_with (at_builtin; first
          | (rw [← hV5]; refine wpList_append_any V5 rfl _ _ 62 rfl 9 (.string ByteArray.empty) 1 16 Tryz.underlying62 infoS rfl (by omega) v5 m (ns.map enS) rfl O5.out (.slice (some ⟨w5.heap.size, 0, none⟩) 1 1) 1 [.string La] rfl rfl S5.out (one_one La) (by unfold maxLen; omega) (by omega) ?_; intro v4 w4 ho4 hu4 hv4; obtain ⟨q1, q2⟩ := grown_below hu4 B5z.out L5.out hv4; have P4 : Aside (StAt w4 v4 (ns ++ [la])) := StAt.of_own (n := m + 1) (by rw [List.map_append, List.map_singleton, show enS la = .string La by rw [ALa.out]]; exact ho4); have B4 := aside (B5.out.trans q1); have x2 := (B4.out.cell (p := ⟨wb, 2, none⟩) hwb).trans k2; have x4 := (B4.out.cell (p := ⟨wb, 4, none⟩) hwb).trans k4; clear ho4 hu4 hv4 q1 q2)
          | (rw [← hW0]; refine wpList_append_any W0 rfl _ _ 62 rfl 9 (.string ByteArray.empty) 1 16 Tryz.underlying62 infoS rfl (by omega) (.slice (some ⟨w3.heap.size, 0, none⟩) 0 0) 0 [] rfl AO0.out (.slice a' m c') m (ns.map enS) rfl (by have := Am.out; rw [List.length_map]; omega) AS0.out (enS_one ns) (by unfold maxLen; omega) (by omega) ?_; intro v5 w5 ho5 hu5 hv5; obtain ⟨q1, q2⟩ := grown_below (lo := w3.heap.size) hu5 A0.out.size (by intro k hk; simp only [Value.ownBlock, Option.some.injEq] at hk; omega) hv5; obtain ⟨V5, hV5⟩ : ∃ V5, V5 = w5.alloc (.cells #[.string La] 9) := ⟨_, rfl⟩; have bV5 : Below w5.heap.size w5 V5 := (by rw [hV5]; exact below_al _ _); have b05 := A0.out.trans q1; have B5 := aside (b05.trans (bV5.mono b05.size)); have B5z : Aside (w3.heap.size ≤ V5.heap.size) := B5.out.size; have O5 : Aside (V5.ownsRow 0 9 1 v5 m (ns.map enS)) := (by have := row_below ho5 bV5; rw [Nat.zero_add, List.nil_append] at this; exact this); have S5 := aside (one_src hV5); have L5 := aside q2; have x2 := (b05.cell (p := ⟨wb, 2, none⟩) hwb).trans k2; have x3 := (b05.cell (p := ⟨wb, 3, none⟩) hwb).trans k3; have y0 := (b05.cell (p := ⟨ab, 0, none⟩) ht9).trans t0; clear ho5 hu5 hv5 q1 q2 bV5 b05))
        have AJ := aside (rJoined_any M v4 w4 (by rw [Anames.out]; exact P4.out) Aww.out.2 Awd.out)
        obtain ⟨N, hN⟩ : ∃ N, N = ba (pth M) := ⟨_, rfl⟩
        have hNs : N.size = (pth M).length := by rw [hN, ba_size]
        rw [← hN] at AJ
        have AN := aside hN
        obtain ⟨z, hz⟩ : ∃ z, z = (pth M).length := ⟨_, rfl⟩
        rw [← hz] at hNs Are
        clear hN hz
        refine AJ.out.mono ?_
        rintro e w5 ⟨rfl, rfl⟩
        clear AJ
        have BE := aside (B3.out.trans (B4.out.mono B3.out.size))
        by_cases hl : 4096 < z
        · have hl2 : (4096 : Int) < (N.size : Int) := by omega
          rw [if_pos hl] at Are
          clear hNs
          go_wp2_with fail
          go_ret3
          exact ⟨⟨_, by rw [Are.out]; rfl⟩, BE.out⟩
        · have hl2 : ¬ (4096 : Int) < (N.size : Int) := by omega
          rw [if_neg hl] at Are
          clear hNs
          go_wp2_with fail
          go_region
          go_wp2_with fail
          go_ret3
          exact ⟨⟨_, by rw [Are.out, AN.out]; rfl⟩, BE.out.trans ((below_dr _).mono BE.out.size)⟩
    · have hne : (R.1 == 0) = false := beq_eq_false_iff_ne.2 h0
      have Are : Aside (reF R = (R.1, [])) := by show reF R = _; unfold reF; rw [if_pos h0]
      obtain ⟨er, her⟩ : ∃ er, er = R.1 := ⟨_, rfl⟩
      rw [← her] at hne h0 Are ⊢
      clear her A3
      go_wp2_with fail
      go_ret3
      exact ⟨⟨_, by rw [Are.out]; rfl⟩, B3.out⟩
end Go.Proofs.YtknjclekfmmfeaaGreatDoor
