/- The document's own nodes: Add, walked. -/
import Derived.Test.YtknjclekfmmfeabGreatDoorQRad
namespace Go.Proofs.YtknjclekfmmfeabGreatDoor
open Go.RowKit Go.ChangeMaps

/-- What Add leaves there. -/
def RAddP (w : World) (nb eb : Nat) (f1 : Value) (to1 : ByteArray) (m1 : Value) (L : List RK) (up1 : Value) (k2 : Int) (f2 : Value) (to2 : ByteArray) (m2 : Value) (L2 : List RK) (x : B) (c : Int) (r : Ending) (w' : World) : Prop :=
  r = .returned (.int .i64 c) ∧ (c ≠ 0 → Below w.heap.size w w') ∧ (c = 0 → Rc w' nb 1 f1 to1 m1 (ins L x eb) up1 ∧ (k2 = 1 → Rc w' eb 1 f2 to2 m2 L2 (Pt nb)) ∧ Upd (fun k => k = nb ∨ k2 = 1 ∧ k = eb) w w')
set_option maxRecDepth 20000 in
set_option maxHeartbeats 8000000 in
theorem rAdd_any {w : World} {nb eb : Nat} {f1 : Value} {to1 : ByteArray} {m1 : Value} {L : List RK} {up1 : Value} {k2 : Int} {f2 : Value} {to2 : ByteArray} {m2 : Value} {L2 : List RK} {up2 : Value} (hD : Rc w nb 1 f1 to1 m1 L up1) (hE : Rc w eb k2 f2 to2 m2 L2 up2) (x : B) (hx : x.length ≤ 1000000000) (l : List Nat) (hU : RUp w (Pt nb) (nb :: l)) (hl : l.length ≤ 1000000) (hL : L.length ≤ 1000000)
    (st : Bool) (hst : (st = false ∧ up2 = .pointer none) ∨ (st = true ∧ ∃ u, up2 = Pt u)) (hh : k2 = 1 → eb ∈ nb :: l ∨ st = true ∨ L2 = []) (hh2 : k2 ≠ 1 → L2 = []) :
    Calls Tryz.prog 30 #[Pt nb, .string (ba x), Pt eb] w fun r w' => RAddP w nb eb f1 to1 m1 L up1 k2 f2 to2 m2 L2 x (rcd x L k2 (eb ∈ nb :: l) st l.length) r w' := by
  obtain ⟨a1, c1, hn1, hlc, hks⟩ := hD.cel
  obtain ⟨a2, c2, hn2, -, -⟩ := hE.cel
  have e0 : w.cell? ⟨nb, 0, none⟩ = some (.int .i8 1) := by rw [cell_of_row w nb 0 _ _ _ hn1]; rfl
  have AN := aside (rName_any x w hx)
  have AT := aside (rat_any hD x hL)
  obtain ⟨X, hX⟩ : ∃ X, X = ba x := ⟨_, rfl⟩
  have AX := aside hX
  obtain ⟨C, hC⟩ : ∃ C, C = rcd x L k2 (eb ∈ nb :: l) st l.length := ⟨_, rfl⟩
  rw [← hC]
  have AC := aside hC
  rw [← hX] at AN AT ⊢
  have AD := aside hD
  have AE := aside hE
  have AU := aside hU
  have A1 := aside hn1
  have A2 := aside hn2
  have AK : Aside (KsAt w a1 L) := hks
  clear hC hX hD hE hU hn1 hn2 hks
  go_enter Tryz.func30, Tryz.ntmps30
  by_cases hok : nameOk X = true
  · rw [hok] at AN
    have AC1 : Aside (C = if rth L x = true then 191 else if 4096 ≤ L.length then 4 else if k2 = 1 ∧ eb ∈ nb :: l then 200 else if k2 = 1 ∧ st = true then 191 else tcode l.length 0) := by
      rw [AC.out]
      unfold rcd
      rw [if_neg (by rw [← AX.out, hok]; decide)]
      exact rfl
    clear AC hok
    go_wp2_with fail
    refine AN.out.mono ?_
    rintro e w1 ⟨rfl, rfl⟩
    clear AN
    obtain ⟨q, hq⟩ : ∃ q, q = rpl L x := ⟨_, rfl⟩
    have Aq := aside hq
    have hqL : q ≤ L.length := by rw [hq]; exact rpl_le x L
    rw [← hq] at AT
    clear hq
    cases hth : rth L x with
    | true =>
      rw [hth] at AT AC1
      have AV : Aside (C = 191) := AC1.out
      clear AC1 hth
      go_wp2_with fail
      refine AT.out.mono ?_
      rintro e w2 ⟨rfl, hb2⟩
      have B2 := aside hb2
      clear hb2 AT
      go_wp2_with fail
      go_ret
      exact ⟨by rw [AV.out]; rfl, fun _ => B2.out, fun e => by rw [AV.out] at e; cases e⟩
    | false =>
      rw [hth, if_neg (by decide)] at AC1
      rw [hth] at AT
      clear hth
      go_wp2_with fail
      refine AT.out.mono ?_
      rintro e w2 ⟨rfl, hb2⟩
      have B2 := aside hb2
      have n1 := (hb2.block _ (Array.getElem?_eq_some_iff.1 A1.out).1).trans A1.out
      have n2 := (hb2.block _ (Array.getElem?_eq_some_iff.1 A2.out).1).trans A2.out
      have d4 : w2.cell? ⟨nb, 4, none⟩ = some (.slice a1 L.length c1) := by rw [cell_of_row w2 nb 4 _ _ _ n1]; rfl
      have g0 : w2.cell? ⟨eb, 0, none⟩ = some (.int .i8 k2) := by rw [cell_of_row w2 eb 0 _ _ _ n2]; rfl
      have g5 : w2.cell? ⟨eb, 5, none⟩ = some up2 := by rw [cell_of_row w2 eb 5 _ _ _ n2]; rfl
      have AU2 := aside (AU.out.below hb2)
      have AE2 := aside (AE.out.below hb2)
      have AD2 := aside (AD.out.below hb2)
      have N1 := aside n1
      have N2 := aside n2
      clear hb2 AT n1 n2
      obtain ⟨k, hk⟩ : ∃ k, k = L.length := ⟨_, rfl⟩
      have Ak := aside hk
      rw [← hk] at d4 AC1 hlc hqL hL
      clear hk
      by_cases hfu : 4096 ≤ k
      · have hfu2 : (4096 : Int) ≤ (k : Int) := by omega
        have AV : Aside (C = 4) := by rw [AC1.out, if_pos hfu]; exact rfl
        clear hfu AC1
        go_wp2_with fail
        go_ret
        exact ⟨by rw [AV.out]; rfl, fun _ => B2.out, fun e => by rw [AV.out] at e; cases e⟩
      · have hfu2 : ¬ (4096 : Int) ≤ (k : Int) := by omega
        rw [if_neg hfu] at AC1
        clear hfu
        by_cases hk1 : k2 = 1
        · subst hk1
          have ABl := aside (rbelow_any (Pt nb) (nb :: l) eb w2 N2.out AU2.out)
          by_cases hin : eb ∈ nb :: l
          · have AV : Aside (C = 200) := by rw [AC1.out, if_pos ⟨rfl, hin⟩]; exact rfl
            rw [decide_eq_true hin] at ABl
            clear hin AC1 hh
            go_wp2_with fail
            refine ABl.out.mono ?_
            rintro e w3 ⟨rfl, rfl⟩
            go_wp2_with fail
            go_ret
            exact ⟨by rw [AV.out]; rfl, fun _ => B2.out, fun e => by rw [AV.out] at e; cases e⟩
          · rw [decide_eq_false hin] at ABl
            rw [if_neg (fun e => hin e.2)] at AC1
            have hne : eb ≠ nb := fun e => hin (by rw [e]; simp)
            rcases hst with ⟨rfl, rfl⟩ | ⟨rfl, u, rfl⟩
            · have AL2 : Aside (L2 = []) := by
                rcases hh rfl with e | e | e
                · exact absurd e hin
                · cases e
                · exact e
              have AC2 : Aside (C = tcode l.length 0) := by rw [AC1.out, if_neg (fun e => by cases e.2)]; exact rfl
              clear hin AC1 hh
              have AH := aside (rheight_none (by have := AE2.out; rw [AL2.out] at this; exact this))
              have ADp := aside (rdepth_any nb l w2 AU2.out hl)
              obtain ⟨d, hd⟩ : ∃ d, d = l.length := ⟨_, rfl⟩
              rw [← hd] at ADp AC2 hl
              have Ad := aside hd
              have hwA : IntKind.i64.wrap (d : Int) = (d : Int) := wrap_small _ (by omega) (by omega)
              have hwB : IntKind.i64.wrap ((d : Int) + 1) = (d : Int) + 1 := wrap_small _ (by omega) (by omega)
              have hwC : IntKind.i64.wrap ((d : Int) + 0) = (d : Int) := wrap_small _ (by omega) (by omega)
              clear hd
              by_cases h64 : 64 < d + 0 + 1
              · have h642 : (64 : Int) < (d : Int) + 1 := by omega
                have AV : Aside (C = 3) := by rw [AC2.out]; unfold tcode; rw [if_pos h64]; exact rfl
                clear h64
                go_wp2_with fail
                refine ABl.out.mono ?_
                rintro e w3 ⟨rfl, rfl⟩
                go_wp2_with fail
                refine ADp.out.mono ?_
                rintro e w3 ⟨rfl, rfl⟩
                go_wp2_with fail
                refine AH.out.mono ?_
                rintro e w3 ⟨rfl, rfl⟩
                go_wp2_with fail
                go_ret
                exact ⟨by rw [AV.out]; rfl, fun _ => B2.out, fun e => by rw [AV.out] at e; cases e⟩
              · have h642 : ¬ (64 : Int) < (d : Int) + 1 := by omega
                have AV : Aside (C = 0) := by rw [AC2.out]; unfold tcode; rw [if_neg h64]; exact rfl
                clear h64
                have hsl1 := slice_hK a1 k c1 q (by omega)
                obtain ⟨a', hsl2, hks2⟩ := slice_lK a1 L c1 q (by have := Ak.out; omega) (by have := Ak.out; omega)
                rw [← Ak.out] at hsl2
                have AG0 : Aside (GwK w2 w2.heap.size (.slice none 0 0) []) := GwK.nil _ _
                have ANq : Aside ((L.take q).length = q) := by show (L.take q).length = q; rw [List.length_take]; have := Ak.out; omega
                have AK2 : Aside (KsAt w2 a1 L) := AK.out.keep (fun g _ hg => B2.out.block g (Array.getElem?_eq_some_iff.1 hg).1)
                have AS1 : Aside (SrcAt w2 (.slice a1 q c1) q (kcs (L.take q))) := by have := (AK2.out.take q).src c1; rw [ANq.out] at this; exact this
                have Al1 : Aside ((kcs (L.take q)).length = q * 2) := by show (kcs (L.take q)).length = q * 2; rw [kcs_len, ANq.out]
                have ANd : Aside ((L.drop q).length = k - q) := by show (L.drop q).length = k - q; rw [List.length_drop, ← Ak.out]
                have Al3 : Aside ((kcs (L.drop q)).length = (k - q) * 2) := by show (kcs (L.drop q)).length = (k - q) * 2; rw [kcs_len, ANd.out]
                have hqi : (0 : Int) ≤ (q : Int) := by omega
                have hqk : (q : Int) ≤ (k : Int) := by omega
                go_wp2_with fail
                refine ABl.out.mono ?_
                rintro e w3 ⟨rfl, rfl⟩
                go_wp2_with fail
                refine ADp.out.mono ?_
                rintro e w3 ⟨rfl, rfl⟩
                go_wp2_with fail
                refine AH.out.mono ?_
                rintro e w3 ⟨rfl, rfl⟩
                clear ADp AH
                go_wp2_with (at_builtin; first
                  | (refine wpList_append_any w5 rfl _ _ 112 rfl 131 (.agg #[.string ByteArray.empty, .pointer none]) 2 24 Tryz.underlying112 infoK rfl (by omega) v5 (q + 1) (kcs (L.take q ++ [(x, eb)])) rfl O5.out (.slice a' (k - q) (c1 - q)) (k - q) (kcs (L.drop q)) rfl Al3.out S5.out (kcs_one _) (by unfold maxLen; omega) (by omega) ?_; intro v6 w6 ho6 hu6 hv6; obtain ⟨h7, h8⟩ := G5.out.more (R := L.drop q) B5.out.size ho6 hu6 hv6; obtain ⟨a6, c6, hv6e, hlc6, hks6⟩ := h7.ks; obtain ⟨n6, hn6⟩ : ∃ n6, n6 = (L.take q ++ [(x, eb)] ++ L.drop q).length := ⟨_, rfl⟩; rw [← hn6] at hv6e hlc6; have An6 := aside hn6; subst hv6e; have B6 := aside (B5.out.trans h8); have K6 := aside hks6; have L6 := aside hlc6; have m1 := (B6.out.block _ (Array.getElem?_eq_some_iff.1 N1.out).1).trans N1.out; have m2 := (B6.out.block _ (Array.getElem?_eq_some_iff.1 N2.out).1).trans N2.out; have s4 : w6.cell? ⟨nb, 4, none⟩ = some (.slice a1 L.length c1) := (by rw [cell_of_row w6 nb 4 _ _ _ m1]; rfl); have s4f := frozen_of_row w6 nb 4 _ _ m1; have t2 := set_far (v := Value.slice a6 n6 c6) (i := 4) m2 hne; have t0 : (w6.setCell ⟨nb, 4, none⟩ (.slice a6 n6 c6)).cell? ⟨eb, 0, none⟩ = some (.int .i8 1) := (by rw [cell_of_row _ eb 0 _ _ _ t2]; rfl); have t5 : (w6.setCell ⟨nb, 4, none⟩ (.slice a6 n6 c6)).cell? ⟨eb, 5, none⟩ = some (.pointer none) := (by rw [cell_of_row _ eb 5 _ _ _ t2]; rfl); have t5f := frozen_of_row _ eb 5 _ _ t2; clear hn6 ho6 hu6 hv6 h7 h8 hks6 hlc6 m1 m2 t2)
                  | (refine wpList_append_any (w4.alloc (.cells #[.string X, Pt eb] 131)) rfl _ _ 112 rfl 131 (.agg #[.string ByteArray.empty, .pointer none]) 2 24 Tryz.underlying112 infoK rfl (by omega) v4 q (kcs (L.take q)) rfl O4.out (.slice (some ⟨w4.heap.size, 0, none⟩) 1 1) 1 (kcs [(x, eb)]) rfl rfl S4.out (kcs_one _) (by unfold maxLen; omega) (by omega) ?_; intro v5 w5 ho5 hu5 hv5; obtain ⟨h7, h8⟩ := G4a.out.more (R := [(x, eb)]) B4a.out.size ho5 hu5 hv5; have G5 := aside h7; have B5 := aside (B4a.out.trans h8); have O5 : Aside (w5.ownsRow 0 131 2 v5 (q + 1) (kcs (L.take q ++ [(x, eb)]))) := (by have := G5.out.1; rw [List.length_append, ANq.out] at this; exact this); have S5 : Aside (SrcAt w5 (.slice a' (k - q) (c1 - q)) (k - q) (kcs (L.drop q))) := (by have := ((hks2 _ AK2.out).keep (fun g _ hg => B5.out.block g (Array.getElem?_eq_some_iff.1 hg).1)).src (c1 - q); rw [ANd.out] at this; exact this); have r4 : w5.cell? ⟨nb, 4, none⟩ = some (.slice a1 k c1) := (by rw [(B5.out.cell (p := ⟨nb, 4, none⟩) (Array.getElem?_eq_some_iff.1 N1.out).1)]; exact d4); clear ho5 hu5 hv5 h7 h8)
                  | (refine wpList_append_any w3 rfl _ _ 112 rfl 131 (.agg #[.string ByteArray.empty, .pointer none]) 2 24 Tryz.underlying112 infoK rfl (by omega) (.slice none 0 0) 0 [] rfl AG0.out.1 (.slice a1 q c1) q (kcs (L.take q)) rfl Al1.out AS1.out (kcs_one _) (by unfold maxLen; omega) (by omega) ?_; intro v4 w4 ho4 hu4 hv4; obtain ⟨h7, h8⟩ := AG0.out.more (R := L.take q) (Nat.le_refl _) ho4 hu4 hv4; rw [List.nil_append] at h7; have G4 := aside h7; have B4 := aside h8; have G4a := aside (G4.out.below (below_al w4 (.cells #[.string X, Pt eb] 131))); have B4a := aside (B4.out.trans ((below_al w4 (.cells #[.string X, Pt eb] 131)).mono B4.out.size)); have O4 : Aside ((w4.alloc (.cells #[.string X, Pt eb] 131)).ownsRow 0 131 2 v4 q (kcs (L.take q))) := (by have := G4a.out.1; rw [ANq.out] at this; exact this); have S4 := aside (kid_src w4 AX.out eb); clear ho4 hu4 hv4 h7 h8))
                go_ret
                obtain ⟨-, z1, z2, z3⟩ := rAdd_end B2.out B6.out hne N1.out N2.out AE2.out K6.out An6.out L6.out
                exact ⟨by rw [AV.out]; rfl, fun e => absurd AV.out e, fun _ => ⟨by unfold ins; rw [← Aq.out]; exact z1, fun _ => z2, z3.mono (fun _ _ h => h.elim .inl (fun h => .inr ⟨rfl, h⟩))⟩⟩
            · have AV : Aside (C = 191) := by rw [AC1.out, if_pos ⟨rfl, rfl⟩]; exact rfl
              clear hin AC1 hh
              go_wp2_with fail
              refine ABl.out.mono ?_
              rintro e w3 ⟨rfl, rfl⟩
              go_wp2_with fail
              go_ret
              exact ⟨by rw [AV.out]; rfl, fun _ => B2.out, fun e => by rw [AV.out] at e; cases e⟩
        · have q1 : (k2 == 1) = false := beq_eq_false_iff_ne.2 hk1
          have AL2 : Aside (L2 = []) := hh2 hk1
          have AC2 : Aside (C = tcode l.length 0) := by rw [AC1.out, if_neg (fun e => hk1 e.1), if_neg (fun e => hk1 e.1)]; exact rfl
          have hne : eb ≠ nb := fun e => by
            have h1 := N1.out
            rw [← e, N2.out] at h1
            injection h1 with h1
            injection h1 with h1
            simp at h1
            exact hk1 h1.1
          clear AC1 hh hh2 hst
          have AH := aside (rheight_none (by have := AE2.out; rw [AL2.out] at this; exact this))
          have ADp := aside (rdepth_any nb l w2 AU2.out hl)
          obtain ⟨d, hd⟩ : ∃ d, d = l.length := ⟨_, rfl⟩
          rw [← hd] at ADp AC2 hl
          have Ad := aside hd
          have hwA : IntKind.i64.wrap (d : Int) = (d : Int) := wrap_small _ (by omega) (by omega)
          have hwB : IntKind.i64.wrap ((d : Int) + 1) = (d : Int) + 1 := wrap_small _ (by omega) (by omega)
          have hwC : IntKind.i64.wrap ((d : Int) + 0) = (d : Int) := wrap_small _ (by omega) (by omega)
          clear hd
          by_cases h64 : 64 < d + 0 + 1
          · have h642 : (64 : Int) < (d : Int) + 1 := by omega
            have AV : Aside (C = 3) := by rw [AC2.out]; unfold tcode; rw [if_pos h64]; exact rfl
            clear h64
            go_wp2_with fail
            refine ADp.out.mono ?_
            rintro e w3 ⟨rfl, rfl⟩
            go_wp2_with fail
            refine AH.out.mono ?_
            rintro e w3 ⟨rfl, rfl⟩
            go_wp2_with fail
            go_ret
            exact ⟨by rw [AV.out]; rfl, fun _ => B2.out, fun e => by rw [AV.out] at e; cases e⟩
          · have h642 : ¬ (64 : Int) < (d : Int) + 1 := by omega
            have AV : Aside (C = 0) := by rw [AC2.out]; unfold tcode; rw [if_neg h64]; exact rfl
            clear h64
            have hsl1 := slice_hK a1 k c1 q (by omega)
            obtain ⟨a', hsl2, hks2⟩ := slice_lK a1 L c1 q (by have := Ak.out; omega) (by have := Ak.out; omega)
            rw [← Ak.out] at hsl2
            have AG0 : Aside (GwK w2 w2.heap.size (.slice none 0 0) []) := GwK.nil _ _
            have ANq : Aside ((L.take q).length = q) := by show (L.take q).length = q; rw [List.length_take]; have := Ak.out; omega
            have AK2 : Aside (KsAt w2 a1 L) := AK.out.keep (fun g _ hg => B2.out.block g (Array.getElem?_eq_some_iff.1 hg).1)
            have AS1 : Aside (SrcAt w2 (.slice a1 q c1) q (kcs (L.take q))) := by have := (AK2.out.take q).src c1; rw [ANq.out] at this; exact this
            have Al1 : Aside ((kcs (L.take q)).length = q * 2) := by show (kcs (L.take q)).length = q * 2; rw [kcs_len, ANq.out]
            have ANd : Aside ((L.drop q).length = k - q) := by show (L.drop q).length = k - q; rw [List.length_drop, ← Ak.out]
            have Al3 : Aside ((kcs (L.drop q)).length = (k - q) * 2) := by show (kcs (L.drop q)).length = (k - q) * 2; rw [kcs_len, ANd.out]
            have hqi : (0 : Int) ≤ (q : Int) := by omega
            have hqk : (q : Int) ≤ (k : Int) := by omega
            go_wp2_with fail
            refine ADp.out.mono ?_
            rintro e w3 ⟨rfl, rfl⟩
            go_wp2_with fail
            refine AH.out.mono ?_
            rintro e w3 ⟨rfl, rfl⟩
            clear ADp AH
            go_wp2_with (at_builtin; first
              | (refine wpList_append_any w5 rfl _ _ 112 rfl 131 (.agg #[.string ByteArray.empty, .pointer none]) 2 24 Tryz.underlying112 infoK rfl (by omega) v5 (q + 1) (kcs (L.take q ++ [(x, eb)])) rfl O5.out (.slice a' (k - q) (c1 - q)) (k - q) (kcs (L.drop q)) rfl Al3.out S5.out (kcs_one _) (by unfold maxLen; omega) (by omega) ?_; intro v6 w6 ho6 hu6 hv6; obtain ⟨h7, h8⟩ := G5.out.more (R := L.drop q) B5.out.size ho6 hu6 hv6; obtain ⟨a6, c6, hv6e, hlc6, hks6⟩ := h7.ks; obtain ⟨n6, hn6⟩ : ∃ n6, n6 = (L.take q ++ [(x, eb)] ++ L.drop q).length := ⟨_, rfl⟩; rw [← hn6] at hv6e hlc6; have An6 := aside hn6; subst hv6e; have B6 := aside (B5.out.trans h8); have K6 := aside hks6; have L6 := aside hlc6; have m1 := (B6.out.block _ (Array.getElem?_eq_some_iff.1 N1.out).1).trans N1.out; have m2 := (B6.out.block _ (Array.getElem?_eq_some_iff.1 N2.out).1).trans N2.out; have s4 : w6.cell? ⟨nb, 4, none⟩ = some (.slice a1 L.length c1) := (by rw [cell_of_row w6 nb 4 _ _ _ m1]; rfl); have s4f := frozen_of_row w6 nb 4 _ _ m1; have t2 := set_far (v := Value.slice a6 n6 c6) (i := 4) m2 hne; have t0 : (w6.setCell ⟨nb, 4, none⟩ (.slice a6 n6 c6)).cell? ⟨eb, 0, none⟩ = some (.int .i8 k2) := (by rw [cell_of_row _ eb 0 _ _ _ t2]; rfl); have t5 : (w6.setCell ⟨nb, 4, none⟩ (.slice a6 n6 c6)).cell? ⟨eb, 5, none⟩ = some up2 := (by rw [cell_of_row _ eb 5 _ _ _ t2]; rfl); have t5f := frozen_of_row _ eb 5 _ _ t2; clear hn6 ho6 hu6 hv6 h7 h8 hks6 hlc6 m1 m2 t2)
              | (refine wpList_append_any (w4.alloc (.cells #[.string X, Pt eb] 131)) rfl _ _ 112 rfl 131 (.agg #[.string ByteArray.empty, .pointer none]) 2 24 Tryz.underlying112 infoK rfl (by omega) v4 q (kcs (L.take q)) rfl O4.out (.slice (some ⟨w4.heap.size, 0, none⟩) 1 1) 1 (kcs [(x, eb)]) rfl rfl S4.out (kcs_one _) (by unfold maxLen; omega) (by omega) ?_; intro v5 w5 ho5 hu5 hv5; obtain ⟨h7, h8⟩ := G4a.out.more (R := [(x, eb)]) B4a.out.size ho5 hu5 hv5; have G5 := aside h7; have B5 := aside (B4a.out.trans h8); have O5 : Aside (w5.ownsRow 0 131 2 v5 (q + 1) (kcs (L.take q ++ [(x, eb)]))) := (by have := G5.out.1; rw [List.length_append, ANq.out] at this; exact this); have S5 : Aside (SrcAt w5 (.slice a' (k - q) (c1 - q)) (k - q) (kcs (L.drop q))) := (by have := ((hks2 _ AK2.out).keep (fun g _ hg => B5.out.block g (Array.getElem?_eq_some_iff.1 hg).1)).src (c1 - q); rw [ANd.out] at this; exact this); have r4 : w5.cell? ⟨nb, 4, none⟩ = some (.slice a1 k c1) := (by rw [(B5.out.cell (p := ⟨nb, 4, none⟩) (Array.getElem?_eq_some_iff.1 N1.out).1)]; exact d4); clear ho5 hu5 hv5 h7 h8)
              | (refine wpList_append_any w3 rfl _ _ 112 rfl 131 (.agg #[.string ByteArray.empty, .pointer none]) 2 24 Tryz.underlying112 infoK rfl (by omega) (.slice none 0 0) 0 [] rfl AG0.out.1 (.slice a1 q c1) q (kcs (L.take q)) rfl Al1.out AS1.out (kcs_one _) (by unfold maxLen; omega) (by omega) ?_; intro v4 w4 ho4 hu4 hv4; obtain ⟨h7, h8⟩ := AG0.out.more (R := L.take q) (Nat.le_refl _) ho4 hu4 hv4; rw [List.nil_append] at h7; have G4 := aside h7; have B4 := aside h8; have G4a := aside (G4.out.below (below_al w4 (.cells #[.string X, Pt eb] 131))); have B4a := aside (B4.out.trans ((below_al w4 (.cells #[.string X, Pt eb] 131)).mono B4.out.size)); have O4 : Aside ((w4.alloc (.cells #[.string X, Pt eb] 131)).ownsRow 0 131 2 v4 q (kcs (L.take q))) := (by have := G4a.out.1; rw [ANq.out] at this; exact this); have S4 := aside (kid_src w4 AX.out eb); clear ho4 hu4 hv4 h7 h8))
            go_ret
            obtain ⟨⟨z1, z3⟩, -⟩ := rAdd_end B2.out B6.out hne N1.out N2.out AE2.out K6.out An6.out L6.out
            exact ⟨by rw [AV.out]; rfl, fun e => absurd AV.out e, fun _ => ⟨by unfold ins; rw [← Aq.out]; exact z1, fun e => absurd e hk1, z3.mono (fun _ _ h => .inl h)⟩⟩
  · have hok2 : nameOk X = false := by simpa using hok
    rw [hok2] at AN
    have AV : Aside (C = 190) := by
      rw [AC.out]
      unfold rcd
      rw [if_pos (by rw [← AX.out]; exact hok2)]
      exact rfl
    clear AC hok hok2
    go_wp2_with fail
    refine AN.out.mono ?_
    rintro e w1 ⟨rfl, rfl⟩
    go_wp2_with fail
    go_ret
    exact ⟨by rw [AV.out]; rfl, fun _ => Below.refl _ _, fun e => by rw [AV.out] at e; cases e⟩
end Go.Proofs.YtknjclekfmmfeabGreatDoor
