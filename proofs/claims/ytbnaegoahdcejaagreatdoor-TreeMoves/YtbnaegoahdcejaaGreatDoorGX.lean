/- The document's own nodes: how high they are; kids without one. The document's own nodes: Add of a node of any height; Take and Drop. The document's own nodes: Take and Drop. The document's own nodes: Drop. The document's tree, what its directories hold and stand in being told by functions of their paths. The document's tree, its mathematics: one kid less, one kid more, what a move makes of it. The document's tree: how high what stands at a path is. The document's tree: Take of what stands there, Add of what was taken. -/
import Derived.Test.YtbnaegoahdcejaaGreatDoorGR
import Derived.Test.YtbnaegoahdcejaaGreatDoorGU
namespace Go.Proofs.YtbnaegoahdcejaaGreatDoor
open Go.RowKit Go.ChangeMaps

/-- How high the node at b is, whatever else has come. -/
def RHt (w : World) (b n : Nat) : Prop := ∀ W, Below w.heap.size w W → Calls Tryz.prog 78 #[Pt b] W fun e w' => e = .returned (.int .i64 (n : Int)) ∧ w' = W
def rtop (f : Nat → Nat) (L : List RK) : Nat := L.foldr (fun p a => max (f p.2 + 1) a) 0
theorem rtop_le {f : Nat → Nat} {n : Nat} : ∀ {L : List RK}, (∀ p ∈ L, f p.2 + 1 ≤ n) → rtop f L ≤ n
  | [], _ => Nat.zero_le _
  | p :: L, h => by
    have h1 := h p (by simp)
    have h2 := rtop_le (L := L) (fun q hq => h q (by simp [hq]))
    show max (f p.2 + 1) (rtop f L) ≤ n
    omega
theorem le_rtop {f : Nat → Nat} : ∀ {L : List RK} {p : RK}, p ∈ L → f p.2 + 1 ≤ rtop f L
  | q :: L, p, h => by
    show _ ≤ max (f q.2 + 1) (rtop f L)
    rcases List.mem_cons.1 h with rfl | h
    · omega
    · have := le_rtop (f := f) h; omega
theorem rtop_is (f : Nat → Nat) : ∀ L : List RK, rtop f L = 0 ∨ ∃ q ∈ L, rtop f L = f q.2 + 1
  | [] => .inl rfl
  | p :: L => by
    show max (f p.2 + 1) (rtop f L) = 0 ∨ ∃ q ∈ p :: L, max (f p.2 + 1) (rtop f L) = f q.2 + 1
    rcases rtop_is f L with h | ⟨q, hq, h⟩
    · exact .inr ⟨p, by simp, by omega⟩
    · by_cases hm : f p.2 + 1 ≤ rtop f L
      · exact .inr ⟨q, by simp [hq], by omega⟩
      · exact .inr ⟨p, by simp, by omega⟩
set_option maxRecDepth 20000 in
set_option maxHeartbeats 2000000 in
theorem rheight_kids {w : World} {nb : Nat} {k : Int} {f : Value} {to : ByteArray} {m : Value} {L : List RK} {up : Value} (h : Rc w nb k f to m L up) (g : Nat → Nat) (hg : ∀ p ∈ L, RHt w p.2 (g p.2) ∧ g p.2 ≤ 1000000) (hL : L.length ≤ 1000000) : RHt w nb (rtop g L) := fun W hW => by
  have h := h.below hW
  obtain ⟨a, c, h1, -, h2⟩ := h.cells
  have hc4 : W.cell? ⟨nb, 4, none⟩ = some (.slice a L.length c) := by rw [cell_of_row W nb 4 _ _ _ h1]; rfl
  have AG : Aside (∀ p ∈ L, (Calls Tryz.prog 78 #[Pt p.2] W fun e w' => e = .returned (.int .i64 (g p.2 : Int)) ∧ w' = W) ∧ g p.2 ≤ 1000000) := fun p hp => ⟨(hg p hp).1 W hW, (hg p hp).2⟩
  obtain ⟨n, hn⟩ : ∃ n, n = L.length := ⟨_, rfl⟩
  have AN := aside hn
  rw [← hn] at hc4
  have hnl : n ≤ 1000000 := by rw [hn]; exact hL
  have A2 := aside h2
  obtain ⟨R, hR⟩ : ∃ R, R = rtop g L := ⟨_, rfl⟩
  have AR := aside hR
  rw [← hR]
  clear h h1 h2 hg hn hR hL
  go_enter Tryz.func78, Tryz.ntmps78
  go_wp2_with fail
  go_loopg [3, 4, 5] n (fun q s3 s4 _ wx => ∃ i hi : Nat, i + q = n ∧ s3 = .int .i64 (hi : Int) ∧ s4 = .int .i64 (i : Int) ∧ wx = W ∧ hi ≤ 1000001 ∧ (∀ p ∈ L.take i, g p.2 + 1 ≤ hi) ∧ (hi = 0 ∨ ∃ p ∈ L.take i, hi = g p.2 + 1))
  case atStart => exact ⟨0, 0, by omega, rfl, rfl, rfl, by omega, fun p hp => by simp at hp, .inl rfl⟩
  case round =>
    obtain ⟨i, hi, hiq, rfl, rfl, rfl, hh, hs1, hs2⟩ := hrel
    have As1 := aside hs1
    have As2 := aside hs2
    clear hs1 hs2
    cases gk with
    | zero =>
      obtain rfl : i = n := by omega
      have hlt : ¬ (i : Int) < (i : Int) := by omega
      have htk : L.take i = L := List.take_of_length_le (by rw [← AN.out]; exact Nat.le_refl _)
      have e1 : hi = R := by
        rw [AR.out]
        have a1 := As1.out
        have a2 := As2.out
        rw [htk] at a1 a2
        apply Nat.le_antisymm
        · rcases a2 with rfl | ⟨p, hp, rfl⟩
          · exact Nat.zero_le _
          · exact le_rtop hp
        · exact rtop_le a1
      subst e1
      clear htk
      go_wp2_with fail
      go_ret
      exact ⟨rfl, rfl⟩
    | succ gk =>
      have hlt : (i : Int) < (n : Int) := by omega
      have hi0 : (0 : Int) ≤ (i : Int) := by omega
      have hwi : IntKind.i64.wrap ((i : Int) + 1) = ((i + 1 : Nat) : Int) := by rw [wrap_small _ (by omega) (by omega)]; simp
      obtain ⟨p, hp⟩ : ∃ p, L[i]? = some p := ⟨_, List.getElem?_eq_getElem (by rw [← AN.out]; omega)⟩
      obtain ⟨b, o, rfl, h3⟩ := A2.out (fun e => by rw [e] at hp; simp at hp)
      have e0 := h3 _ _ (kcs_at hp).2
      rw [← Nat.add_assoc] at e0
      have hpm := List.mem_of_getElem? hp
      have AC := aside (AG.out p hpm).1
      have hgl := (AG.out p hpm).2
      have htk : L.take (i + 1) = L.take i ++ [p] := by rw [List.take_add_one, hp]; rfl
      obtain ⟨G, hG⟩ : ∃ G, G = g p.2 := ⟨_, rfl⟩
      obtain ⟨P, hP⟩ : ∃ P, P = p.2 := ⟨_, rfl⟩
      rw [← hP] at e0
      rw [← hG, ← hP] at AC
      rw [← hG] at hgl
      have AGe := aside hG
      have Atk := aside htk
      have hwg : IntKind.i64.wrap ((G : Int) + 1) = ((G + 1 : Nat) : Int) := by rw [wrap_small _ (by omega) (by omega)]; simp
      clear hG hP hp h3 hpm htk
      go_wp2_with fail
      refine AC.out.mono ?_
      rintro e w6 ⟨rfl, rfl⟩
      go_wp2_with fail
      go_roundg gk
      case measure => omega
      case rel =>
        refine ⟨i + 1, max hi (G + 1), by omega, by first | rfl | (simp; done) | (congr 1; omega), by first | rfl | simp, rfl, by omega, ?_, ?_⟩
        · rw [Atk.out]
          intro q hq
          rcases List.mem_append.1 hq with hq | hq
          · have := As1.out q hq; omega
          · rw [List.mem_singleton.1 hq, ← AGe.out]; omega
        · rw [Atk.out]
          by_cases hm : hi ≤ G + 1
          · exact .inr ⟨p, by simp, by rw [← AGe.out]; omega⟩
          · rcases As2.out with h0 | ⟨q, hq, h0⟩
            · omega
            · exact .inr ⟨q, by simp [hq], by omega⟩
/-- Kids without the one of a name. -/
def rem (L : List RK) (x : B) : List RK := L.take (rpl L x) ++ L.drop (rpl L x + 1)
end Go.Proofs.YtbnaegoahdcejaaGreatDoor

namespace Go.Proofs.YtbnaegoahdcejaaGreatDoor
open Go.RowKit Go.ChangeMaps

/-- What Add answers there. -/
def rcdh (x : B) (L : List RK) (k2 : Int) (inw : Prop) [Decidable inw] (stands : Bool) (dep H : Nat) : Int :=
  if nameOk (ba x) = false then 190 else if rth L x = true then 191 else if 4096 ≤ L.length then 4 else if k2 = 1 ∧ inw then 200 else if k2 = 1 ∧ stands = true then 191 else tcode dep H
set_option maxRecDepth 20000 in
set_option maxHeartbeats 8000000 in
theorem rAdd2_any {w : World} {nb eb : Nat} {f1 : Value} {to1 : ByteArray} {m1 : Value} {L : List RK} {up1 : Value} {k2 : Int} {f2 : Value} {to2 : ByteArray} {m2 : Value} {L2 : List RK} {up2 : Value} (hD : Rc w nb 1 f1 to1 m1 L up1) (hE : Rc w eb k2 f2 to2 m2 L2 up2) (x : B) (hx : x.length ≤ 1000000000) (l : List Nat) (hU : RUp w (Pt nb) (nb :: l)) (hl : l.length ≤ 1000000) (hL : L.length ≤ 1000000)
    (st : Bool) (hst : (st = false ∧ up2 = .pointer none) ∨ (st = true ∧ ∃ u, up2 = Pt u)) (H : Nat) (hH : RHt w eb H) (hHl : H ≤ 1000000) :
    Calls Tryz.prog 40 #[Pt nb, .string (ba x), Pt eb] w fun r w' => RAddP w nb eb f1 to1 m1 L up1 k2 f2 to2 m2 L2 x (rcdh x L k2 (eb ∈ nb :: l) st l.length H) r w' := by
  obtain ⟨a1, c1, hn1, hlc, hks⟩ := hD.cel
  obtain ⟨a2, c2, hn2, -, -⟩ := hE.cel
  have e0 : w.cell? ⟨nb, 0, none⟩ = some (.int .i8 1) := by rw [cell_of_row w nb 0 _ _ _ hn1]; rfl
  have AN := aside (rName_any x w hx)
  have AT := aside (rat_any hD x hL)
  obtain ⟨X, hX⟩ : ∃ X, X = ba x := ⟨_, rfl⟩
  have AX := aside hX
  obtain ⟨C, hC⟩ : ∃ C, C = rcdh x L k2 (eb ∈ nb :: l) st l.length H := ⟨_, rfl⟩
  rw [← hC]
  have AC := aside hC
  rw [← hX] at AN AT ⊢
  have AHt := aside hH
  have AD := aside hD
  have AE := aside hE
  have AU := aside hU
  have A1 := aside hn1
  have A2 := aside hn2
  have AK : Aside (KsAt w a1 L) := hks
  clear hC hX hD hE hU hn1 hn2 hks hH
  go_enter Tryz.func40, Tryz.ntmps40
  by_cases hok : nameOk X = true
  · rw [hok] at AN
    have AC1 : Aside (C = if rth L x = true then 191 else if 4096 ≤ L.length then 4 else if k2 = 1 ∧ eb ∈ nb :: l then 200 else if k2 = 1 ∧ st = true then 191 else tcode l.length H) := by
      rw [AC.out]
      unfold rcdh
      rw [if_neg (by rw [← AX.out, hok]; decide)]
      exact rfl
    clear AC hok
    go_wp2_with fail
    refine AN.out.mono ?_
    rintro e w1 ⟨rfl, rfl⟩
    clear AN
    obtain ⟨q, hq⟩ : ∃ q, q = rpl L x := ⟨_, rfl⟩
    have Aq := aside hq
    have hqL : q ≤ L.length := by rw [hq]; exact rpl_le x L
    rw [← hq] at AT
    clear hq
    cases hth : rth L x with
    | true =>
      rw [hth] at AT AC1
      have AV : Aside (C = 191) := AC1.out
      clear AC1 hth
      go_wp2_with fail
      refine AT.out.mono ?_
      rintro e w2 ⟨rfl, hb2⟩
      have B2 := aside hb2
      clear hb2 AT
      go_wp2_with fail
      go_ret
      exact ⟨by rw [AV.out]; rfl, fun _ => B2.out, fun e => by rw [AV.out] at e; cases e⟩
    | false =>
      rw [hth, if_neg (by decide)] at AC1
      rw [hth] at AT
      clear hth
      go_wp2_with fail
      refine AT.out.mono ?_
      rintro e w2 ⟨rfl, hb2⟩
      have B2 := aside hb2
      have n1 := (hb2.block _ (Array.getElem?_eq_some_iff.1 A1.out).1).trans A1.out
      have n2 := (hb2.block _ (Array.getElem?_eq_some_iff.1 A2.out).1).trans A2.out
      have d4 : w2.cell? ⟨nb, 4, none⟩ = some (.slice a1 L.length c1) := by rw [cell_of_row w2 nb 4 _ _ _ n1]; rfl
      have g0 : w2.cell? ⟨eb, 0, none⟩ = some (.int .i8 k2) := by rw [cell_of_row w2 eb 0 _ _ _ n2]; rfl
      have g5 : w2.cell? ⟨eb, 5, none⟩ = some up2 := by rw [cell_of_row w2 eb 5 _ _ _ n2]; rfl
      have AU2 := aside (AU.out.below hb2)
      have AE2 := aside (AE.out.below hb2)
      have AD2 := aside (AD.out.below hb2)
      have N1 := aside n1
      have N2 := aside n2
      clear hb2 AT n1 n2
      obtain ⟨k, hk⟩ : ∃ k, k = L.length := ⟨_, rfl⟩
      have Ak := aside hk
      rw [← hk] at d4 AC1 hlc hqL hL
      clear hk
      by_cases hfu : 4096 ≤ k
      · have hfu2 : (4096 : Int) ≤ (k : Int) := by omega
        have AV : Aside (C = 4) := by rw [AC1.out, if_pos hfu]; exact rfl
        clear hfu AC1
        go_wp2_with fail
        go_ret
        exact ⟨by rw [AV.out]; rfl, fun _ => B2.out, fun e => by rw [AV.out] at e; cases e⟩
      · have hfu2 : ¬ (4096 : Int) ≤ (k : Int) := by omega
        rw [if_neg hfu] at AC1
        clear hfu
        by_cases hk1 : k2 = 1
        · subst hk1
          have ABl := aside (rbelow_any (Pt nb) (nb :: l) eb w2 N2.out AU2.out)
          by_cases hin : eb ∈ nb :: l
          · have AV : Aside (C = 200) := by rw [AC1.out, if_pos ⟨rfl, hin⟩]; exact rfl
            rw [decide_eq_true hin] at ABl
            clear hin AC1
            go_wp2_with fail
            refine ABl.out.mono ?_
            rintro e w3 ⟨rfl, rfl⟩
            go_wp2_with fail
            go_ret
            exact ⟨by rw [AV.out]; rfl, fun _ => B2.out, fun e => by rw [AV.out] at e; cases e⟩
          · rw [decide_eq_false hin] at ABl
            rw [if_neg (fun e => hin e.2)] at AC1
            have hne : eb ≠ nb := fun e => hin (by rw [e]; simp)
            rcases hst with ⟨rfl, rfl⟩ | ⟨rfl, u, rfl⟩
            · have AC2 : Aside (C = tcode l.length H) := by rw [AC1.out, if_neg (fun e => by cases e.2)]; exact rfl
              clear hin AC1
              have AH := aside (AHt.out _ B2.out)
              have ADp := aside (rdepth_any nb l w2 AU2.out hl)
              obtain ⟨d, hd⟩ : ∃ d, d = l.length := ⟨_, rfl⟩
              rw [← hd] at ADp AC2 hl
              have Ad := aside hd
              have hwA : IntKind.i64.wrap (d : Int) = (d : Int) := wrap_small _ (by omega) (by omega)
              obtain ⟨dh, hdh⟩ : ∃ dh, dh = d + H := ⟨_, rfl⟩
              have hwC : IntKind.i64.wrap ((d : Int) + (H : Int)) = (dh : Int) := by rw [wrap_small _ (by omega) (by omega)]; omega
              obtain ⟨dk, hdk⟩ : ∃ dk, dk = dh + 1 := ⟨_, rfl⟩
              have hwB : IntKind.i64.wrap ((dh : Int) + 1) = (dk : Int) := by rw [wrap_small _ (by omega) (by omega)]; omega
              clear hd
              by_cases h64 : 64 < d + H + 1
              · have h642 : (64 : Int) < (dk : Int) := by omega
                have AV : Aside (C = 3) := by rw [AC2.out]; unfold tcode; rw [if_pos h64]; exact rfl
                clear h64 hdh hdk
                go_wp2_with fail
                refine ABl.out.mono ?_
                rintro e w3 ⟨rfl, rfl⟩
                go_wp2_with fail
                refine ADp.out.mono ?_
                rintro e w3 ⟨rfl, rfl⟩
                go_wp2_with fail
                refine AH.out.mono ?_
                rintro e w3 ⟨rfl, rfl⟩
                go_wp2_with fail
                go_ret
                exact ⟨by rw [AV.out]; rfl, fun _ => B2.out, fun e => by rw [AV.out] at e; cases e⟩
              · have h642 : ¬ (64 : Int) < (dk : Int) := by omega
                have AV : Aside (C = 0) := by rw [AC2.out]; unfold tcode; rw [if_neg h64]; exact rfl
                clear h64 hdh hdk
                have hsl1 := slice_hK a1 k c1 q (by omega)
                obtain ⟨a', hsl2, hks2⟩ := slice_lK a1 L c1 q (by have := Ak.out; omega) (by have := Ak.out; omega)
                rw [← Ak.out] at hsl2
                have AG0 : Aside (GwK w2 w2.heap.size (.slice none 0 0) []) := GwK.nil _ _
                have ANq : Aside ((L.take q).length = q) := by show (L.take q).length = q; rw [List.length_take]; have := Ak.out; omega
                have AK2 : Aside (KsAt w2 a1 L) := AK.out.keep (fun g _ hg => B2.out.block g (Array.getElem?_eq_some_iff.1 hg).1)
                have AS1 : Aside (SrcAt w2 (.slice a1 q c1) q (kcs (L.take q))) := by have := (AK2.out.take q).src c1; rw [ANq.out] at this; exact this
                have Al1 : Aside ((kcs (L.take q)).length = q * 2) := by show (kcs (L.take q)).length = q * 2; rw [kcs_len, ANq.out]
                have ANd : Aside ((L.drop q).length = k - q) := by show (L.drop q).length = k - q; rw [List.length_drop, ← Ak.out]
                have Al3 : Aside ((kcs (L.drop q)).length = (k - q) * 2) := by show (kcs (L.drop q)).length = (k - q) * 2; rw [kcs_len, ANd.out]
                have hqi : (0 : Int) ≤ (q : Int) := by omega
                have hqk : (q : Int) ≤ (k : Int) := by omega
                go_wp2_with fail
                refine ABl.out.mono ?_
                rintro e w3 ⟨rfl, rfl⟩
                go_wp2_with fail
                refine ADp.out.mono ?_
                rintro e w3 ⟨rfl, rfl⟩
                go_wp2_with fail
                refine AH.out.mono ?_
                rintro e w3 ⟨rfl, rfl⟩
                clear ADp AH
                go_wp2_with (at_builtin; first
                  | (refine wpList_append_any w5 rfl _ _ 125 rfl 132 (.agg #[.string ByteArray.empty, .pointer none]) 2 24 Tryz.underlying125 infoK rfl (by omega) v5 (q + 1) (kcs (L.take q ++ [(x, eb)])) rfl O5.out (.slice a' (k - q) (c1 - q)) (k - q) (kcs (L.drop q)) rfl Al3.out S5.out (kcs_one _) (by unfold maxLen; omega) (by omega) ?_; intro v6 w6 ho6 hu6 hv6; obtain ⟨h7, h8⟩ := G5.out.more (R := L.drop q) B5.out.size ho6 hu6 hv6; obtain ⟨a6, c6, hv6e, hlc6, hks6⟩ := h7.ks; obtain ⟨n6, hn6⟩ : ∃ n6, n6 = (L.take q ++ [(x, eb)] ++ L.drop q).length := ⟨_, rfl⟩; rw [← hn6] at hv6e hlc6; have An6 := aside hn6; subst hv6e; have B6 := aside (B5.out.trans h8); have K6 := aside hks6; have L6 := aside hlc6; have m1 := (B6.out.block _ (Array.getElem?_eq_some_iff.1 N1.out).1).trans N1.out; have m2 := (B6.out.block _ (Array.getElem?_eq_some_iff.1 N2.out).1).trans N2.out; have s4 : w6.cell? ⟨nb, 4, none⟩ = some (.slice a1 L.length c1) := (by rw [cell_of_row w6 nb 4 _ _ _ m1]; rfl); have s4f := frozen_of_row w6 nb 4 _ _ m1; have t2 := set_far (v := Value.slice a6 n6 c6) (i := 4) m2 hne; have t0 : (w6.setCell ⟨nb, 4, none⟩ (.slice a6 n6 c6)).cell? ⟨eb, 0, none⟩ = some (.int .i8 1) := (by rw [cell_of_row _ eb 0 _ _ _ t2]; rfl); have t5 : (w6.setCell ⟨nb, 4, none⟩ (.slice a6 n6 c6)).cell? ⟨eb, 5, none⟩ = some (.pointer none) := (by rw [cell_of_row _ eb 5 _ _ _ t2]; rfl); have t5f := frozen_of_row _ eb 5 _ _ t2; clear hn6 ho6 hu6 hv6 h7 h8 hks6 hlc6 m1 m2 t2)
                  | (refine wpList_append_any (w4.alloc (.cells #[.string X, Pt eb] 132)) rfl _ _ 125 rfl 132 (.agg #[.string ByteArray.empty, .pointer none]) 2 24 Tryz.underlying125 infoK rfl (by omega) v4 q (kcs (L.take q)) rfl O4.out (.slice (some ⟨w4.heap.size, 0, none⟩) 1 1) 1 (kcs [(x, eb)]) rfl rfl S4.out (kcs_one _) (by unfold maxLen; omega) (by omega) ?_; intro v5 w5 ho5 hu5 hv5; obtain ⟨h7, h8⟩ := G4a.out.more (R := [(x, eb)]) B4a.out.size ho5 hu5 hv5; have G5 := aside h7; have B5 := aside (B4a.out.trans h8); have O5 : Aside (w5.ownsRow 0 132 2 v5 (q + 1) (kcs (L.take q ++ [(x, eb)]))) := (by have := G5.out.1; rw [List.length_append, ANq.out] at this; exact this); have S5 : Aside (SrcAt w5 (.slice a' (k - q) (c1 - q)) (k - q) (kcs (L.drop q))) := (by have := ((hks2 _ AK2.out).keep (fun g _ hg => B5.out.block g (Array.getElem?_eq_some_iff.1 hg).1)).src (c1 - q); rw [ANd.out] at this; exact this); have r4 : w5.cell? ⟨nb, 4, none⟩ = some (.slice a1 k c1) := (by rw [(B5.out.cell (p := ⟨nb, 4, none⟩) (Array.getElem?_eq_some_iff.1 N1.out).1)]; exact d4); clear ho5 hu5 hv5 h7 h8)
                  | (refine wpList_append_any w3 rfl _ _ 125 rfl 132 (.agg #[.string ByteArray.empty, .pointer none]) 2 24 Tryz.underlying125 infoK rfl (by omega) (.slice none 0 0) 0 [] rfl AG0.out.1 (.slice a1 q c1) q (kcs (L.take q)) rfl Al1.out AS1.out (kcs_one _) (by unfold maxLen; omega) (by omega) ?_; intro v4 w4 ho4 hu4 hv4; obtain ⟨h7, h8⟩ := AG0.out.more (R := L.take q) (Nat.le_refl _) ho4 hu4 hv4; rw [List.nil_append] at h7; have G4 := aside h7; have B4 := aside h8; have G4a := aside (G4.out.below (below_al w4 (.cells #[.string X, Pt eb] 132))); have B4a := aside (B4.out.trans ((below_al w4 (.cells #[.string X, Pt eb] 132)).mono B4.out.size)); have O4 : Aside ((w4.alloc (.cells #[.string X, Pt eb] 132)).ownsRow 0 132 2 v4 q (kcs (L.take q))) := (by have := G4a.out.1; rw [ANq.out] at this; exact this); have S4 := aside (kid_src w4 AX.out eb); clear ho4 hu4 hv4 h7 h8))
                go_ret
                obtain ⟨-, z1, z2, z3⟩ := rAdd_end B2.out B6.out hne N1.out N2.out AE2.out K6.out An6.out L6.out
                exact ⟨by rw [AV.out]; rfl, fun e => absurd AV.out e, fun _ => ⟨by unfold ins; rw [← Aq.out]; exact z1, fun _ => z2, z3.mono (fun _ _ h => h.elim .inl (fun h => .inr ⟨rfl, h⟩))⟩⟩
            · have AV : Aside (C = 191) := by rw [AC1.out, if_pos ⟨rfl, rfl⟩]; exact rfl
              clear hin AC1
              go_wp2_with fail
              refine ABl.out.mono ?_
              rintro e w3 ⟨rfl, rfl⟩
              go_wp2_with fail
              go_ret
              exact ⟨by rw [AV.out]; rfl, fun _ => B2.out, fun e => by rw [AV.out] at e; cases e⟩
        · have q1 : (k2 == 1) = false := beq_eq_false_iff_ne.2 hk1
          have AC2 : Aside (C = tcode l.length H) := by rw [AC1.out, if_neg (fun e => hk1 e.1), if_neg (fun e => hk1 e.1)]; exact rfl
          have hne : eb ≠ nb := fun e => by
            have h1 := N1.out
            rw [← e, N2.out] at h1
            injection h1 with h1
            injection h1 with h1
            simp at h1
            exact hk1 h1.1
          clear AC1 hst
          have AH := aside (AHt.out _ B2.out)
          have ADp := aside (rdepth_any nb l w2 AU2.out hl)
          obtain ⟨d, hd⟩ : ∃ d, d = l.length := ⟨_, rfl⟩
          rw [← hd] at ADp AC2 hl
          have Ad := aside hd
          have hwA : IntKind.i64.wrap (d : Int) = (d : Int) := wrap_small _ (by omega) (by omega)
          obtain ⟨dh, hdh⟩ : ∃ dh, dh = d + H := ⟨_, rfl⟩
          have hwC : IntKind.i64.wrap ((d : Int) + (H : Int)) = (dh : Int) := by rw [wrap_small _ (by omega) (by omega)]; omega
          obtain ⟨dk, hdk⟩ : ∃ dk, dk = dh + 1 := ⟨_, rfl⟩
          have hwB : IntKind.i64.wrap ((dh : Int) + 1) = (dk : Int) := by rw [wrap_small _ (by omega) (by omega)]; omega
          clear hd
          by_cases h64 : 64 < d + H + 1
          · have h642 : (64 : Int) < (dk : Int) := by omega
            have AV : Aside (C = 3) := by rw [AC2.out]; unfold tcode; rw [if_pos h64]; exact rfl
            clear h64 hdh hdk
            go_wp2_with fail
            refine ADp.out.mono ?_
            rintro e w3 ⟨rfl, rfl⟩
            go_wp2_with fail
            refine AH.out.mono ?_
            rintro e w3 ⟨rfl, rfl⟩
            go_wp2_with fail
            go_ret
            exact ⟨by rw [AV.out]; rfl, fun _ => B2.out, fun e => by rw [AV.out] at e; cases e⟩
          · have h642 : ¬ (64 : Int) < (dk : Int) := by omega
            have AV : Aside (C = 0) := by rw [AC2.out]; unfold tcode; rw [if_neg h64]; exact rfl
            clear h64 hdh hdk
            have hsl1 := slice_hK a1 k c1 q (by omega)
            obtain ⟨a', hsl2, hks2⟩ := slice_lK a1 L c1 q (by have := Ak.out; omega) (by have := Ak.out; omega)
            rw [← Ak.out] at hsl2
            have AG0 : Aside (GwK w2 w2.heap.size (.slice none 0 0) []) := GwK.nil _ _
            have ANq : Aside ((L.take q).length = q) := by show (L.take q).length = q; rw [List.length_take]; have := Ak.out; omega
            have AK2 : Aside (KsAt w2 a1 L) := AK.out.keep (fun g _ hg => B2.out.block g (Array.getElem?_eq_some_iff.1 hg).1)
            have AS1 : Aside (SrcAt w2 (.slice a1 q c1) q (kcs (L.take q))) := by have := (AK2.out.take q).src c1; rw [ANq.out] at this; exact this
            have Al1 : Aside ((kcs (L.take q)).length = q * 2) := by show (kcs (L.take q)).length = q * 2; rw [kcs_len, ANq.out]
            have ANd : Aside ((L.drop q).length = k - q) := by show (L.drop q).length = k - q; rw [List.length_drop, ← Ak.out]
            have Al3 : Aside ((kcs (L.drop q)).length = (k - q) * 2) := by show (kcs (L.drop q)).length = (k - q) * 2; rw [kcs_len, ANd.out]
            have hqi : (0 : Int) ≤ (q : Int) := by omega
            have hqk : (q : Int) ≤ (k : Int) := by omega
            go_wp2_with fail
            refine ADp.out.mono ?_
            rintro e w3 ⟨rfl, rfl⟩
            go_wp2_with fail
            refine AH.out.mono ?_
            rintro e w3 ⟨rfl, rfl⟩
            clear ADp AH
            go_wp2_with (at_builtin; first
              | (refine wpList_append_any w5 rfl _ _ 125 rfl 132 (.agg #[.string ByteArray.empty, .pointer none]) 2 24 Tryz.underlying125 infoK rfl (by omega) v5 (q + 1) (kcs (L.take q ++ [(x, eb)])) rfl O5.out (.slice a' (k - q) (c1 - q)) (k - q) (kcs (L.drop q)) rfl Al3.out S5.out (kcs_one _) (by unfold maxLen; omega) (by omega) ?_; intro v6 w6 ho6 hu6 hv6; obtain ⟨h7, h8⟩ := G5.out.more (R := L.drop q) B5.out.size ho6 hu6 hv6; obtain ⟨a6, c6, hv6e, hlc6, hks6⟩ := h7.ks; obtain ⟨n6, hn6⟩ : ∃ n6, n6 = (L.take q ++ [(x, eb)] ++ L.drop q).length := ⟨_, rfl⟩; rw [← hn6] at hv6e hlc6; have An6 := aside hn6; subst hv6e; have B6 := aside (B5.out.trans h8); have K6 := aside hks6; have L6 := aside hlc6; have m1 := (B6.out.block _ (Array.getElem?_eq_some_iff.1 N1.out).1).trans N1.out; have m2 := (B6.out.block _ (Array.getElem?_eq_some_iff.1 N2.out).1).trans N2.out; have s4 : w6.cell? ⟨nb, 4, none⟩ = some (.slice a1 L.length c1) := (by rw [cell_of_row w6 nb 4 _ _ _ m1]; rfl); have s4f := frozen_of_row w6 nb 4 _ _ m1; have t2 := set_far (v := Value.slice a6 n6 c6) (i := 4) m2 hne; have t0 : (w6.setCell ⟨nb, 4, none⟩ (.slice a6 n6 c6)).cell? ⟨eb, 0, none⟩ = some (.int .i8 k2) := (by rw [cell_of_row _ eb 0 _ _ _ t2]; rfl); have t5 : (w6.setCell ⟨nb, 4, none⟩ (.slice a6 n6 c6)).cell? ⟨eb, 5, none⟩ = some up2 := (by rw [cell_of_row _ eb 5 _ _ _ t2]; rfl); have t5f := frozen_of_row _ eb 5 _ _ t2; clear hn6 ho6 hu6 hv6 h7 h8 hks6 hlc6 m1 m2 t2)
              | (refine wpList_append_any (w4.alloc (.cells #[.string X, Pt eb] 132)) rfl _ _ 125 rfl 132 (.agg #[.string ByteArray.empty, .pointer none]) 2 24 Tryz.underlying125 infoK rfl (by omega) v4 q (kcs (L.take q)) rfl O4.out (.slice (some ⟨w4.heap.size, 0, none⟩) 1 1) 1 (kcs [(x, eb)]) rfl rfl S4.out (kcs_one _) (by unfold maxLen; omega) (by omega) ?_; intro v5 w5 ho5 hu5 hv5; obtain ⟨h7, h8⟩ := G4a.out.more (R := [(x, eb)]) B4a.out.size ho5 hu5 hv5; have G5 := aside h7; have B5 := aside (B4a.out.trans h8); have O5 : Aside (w5.ownsRow 0 132 2 v5 (q + 1) (kcs (L.take q ++ [(x, eb)]))) := (by have := G5.out.1; rw [List.length_append, ANq.out] at this; exact this); have S5 : Aside (SrcAt w5 (.slice a' (k - q) (c1 - q)) (k - q) (kcs (L.drop q))) := (by have := ((hks2 _ AK2.out).keep (fun g _ hg => B5.out.block g (Array.getElem?_eq_some_iff.1 hg).1)).src (c1 - q); rw [ANd.out] at this; exact this); have r4 : w5.cell? ⟨nb, 4, none⟩ = some (.slice a1 k c1) := (by rw [(B5.out.cell (p := ⟨nb, 4, none⟩) (Array.getElem?_eq_some_iff.1 N1.out).1)]; exact d4); clear ho5 hu5 hv5 h7 h8)
              | (refine wpList_append_any w3 rfl _ _ 125 rfl 132 (.agg #[.string ByteArray.empty, .pointer none]) 2 24 Tryz.underlying125 infoK rfl (by omega) (.slice none 0 0) 0 [] rfl AG0.out.1 (.slice a1 q c1) q (kcs (L.take q)) rfl Al1.out AS1.out (kcs_one _) (by unfold maxLen; omega) (by omega) ?_; intro v4 w4 ho4 hu4 hv4; obtain ⟨h7, h8⟩ := AG0.out.more (R := L.take q) (Nat.le_refl _) ho4 hu4 hv4; rw [List.nil_append] at h7; have G4 := aside h7; have B4 := aside h8; have G4a := aside (G4.out.below (below_al w4 (.cells #[.string X, Pt eb] 132))); have B4a := aside (B4.out.trans ((below_al w4 (.cells #[.string X, Pt eb] 132)).mono B4.out.size)); have O4 : Aside ((w4.alloc (.cells #[.string X, Pt eb] 132)).ownsRow 0 132 2 v4 q (kcs (L.take q))) := (by have := G4a.out.1; rw [ANq.out] at this; exact this); have S4 := aside (kid_src w4 AX.out eb); clear ho4 hu4 hv4 h7 h8))
            go_ret
            obtain ⟨⟨z1, z3⟩, -⟩ := rAdd_end B2.out B6.out hne N1.out N2.out AE2.out K6.out An6.out L6.out
            exact ⟨by rw [AV.out]; rfl, fun e => absurd AV.out e, fun _ => ⟨by unfold ins; rw [← Aq.out]; exact z1, fun e => absurd e hk1, z3.mono (fun _ _ h => .inl h)⟩⟩
  · have hok2 : nameOk X = false := by simpa using hok
    rw [hok2] at AN
    have AV : Aside (C = 190) := by
      rw [AC.out]
      unfold rcdh
      rw [if_pos (by rw [← AX.out]; exact hok2)]
      exact rfl
    clear AC hok hok2
    go_wp2_with fail
    refine AN.out.mono ?_
    rintro e w1 ⟨rfl, rfl⟩
    go_wp2_with fail
    go_ret
    exact ⟨by rw [AV.out]; rfl, fun _ => Below.refl _ _, fun e => by rw [AV.out] at e; cases e⟩
end Go.Proofs.YtbnaegoahdcejaaGreatDoor

namespace Go.Proofs.YtbnaegoahdcejaaGreatDoor
open Go.RowKit Go.ChangeMaps

/-- kids[i:], as the run tells it. -/
theorem KsAt.drop {w : World} {a : Option Addr} {L : List RK} (h : KsAt w a L) (c i : Nat) (hi : i ≤ L.length) (hc : L.length ≤ c) : KsAt w (if c = i then a else Option.map (fun x => x.add (i * 2)) a) (L.drop i) := fun hL => by
  have hlt : i < L.length := by
    by_cases h0 : i < L.length
    · exact h0
    · exact absurd (List.drop_of_length_le (by omega)) hL
  obtain ⟨g, o, cs, rfl, h3, h4⟩ := h (fun e => by rw [e] at hlt; simp at hlt)
  rw [if_neg (by omega), Option.map_some, Addr.add_lit]
  refine ⟨g, o + i * 2, cs, rfl, h3, fun j v hj => ?_⟩
  have e : kcs L = kcs (L.take i) ++ kcs (L.drop i) := by rw [← kcs_app, List.take_append_drop]
  have hl : (kcs (L.take i)).length = i * 2 := by rw [kcs_len, List.length_take]; omega
  have := h4 (i * 2 + j) v (by rw [e, List.getElem?_append_right (by omega), hl, show i * 2 + j - i * 2 = j by omega]; exact hj)
  rw [show o + i * 2 + j = o + (i * 2 + j) by omega]
  exact this
/-- What Take and Drop leave. -/
theorem rRem_end {w w3 w6 : World} {nb eb : Nat} {f1 : Value} {to1 : ByteArray} {m1 s1 up1 : Value} {k2 : Int} {f2 : Value} {to2 : ByteArray} {m2 s2 up2 : Value} {L2 : List RK} {I : List RK} {a6 : Option Addr} {n6 c6 : Nat} (v : Value) (B2 : Below w.heap.size w w3) (B6 : Below w3.heap.size w3 w6) (hne : eb ≠ nb)
    (N1 : w3.heap[nb]? = some (.cells #[.int .i8 1, f1, .string to1, m1, s1, up1] 127 (0, 0))) (N2 : w3.heap[eb]? = some (.cells #[.int .i8 k2, f2, .string to2, m2, s2, up2] 127 (0, 0))) (hE : Rc w3 eb k2 f2 to2 m2 L2 up2) (K6 : KsAt w6 a6 I) (An : n6 = I.length) (hc : n6 ≤ c6) :
    (Rc (w6.setCell ⟨nb, 4, none⟩ (.slice a6 n6 c6)) nb 1 f1 to1 m1 I up1 ∧ Upd (fun k => k = nb) w (w6.setCell ⟨nb, 4, none⟩ (.slice a6 n6 c6))) ∧
    (Rc ((w6.setCell ⟨nb, 4, none⟩ (.slice a6 n6 c6)).setCell ⟨eb, 5, none⟩ v) nb 1 f1 to1 m1 I up1 ∧ Rc ((w6.setCell ⟨nb, 4, none⟩ (.slice a6 n6 c6)).setCell ⟨eb, 5, none⟩ v) eb k2 f2 to2 m2 L2 v ∧ Upd (fun k => k = nb ∨ k = eb) w ((w6.setCell ⟨nb, 4, none⟩ (.slice a6 n6 c6)).setCell ⟨eb, 5, none⟩ v)) := by
  have p1 := (B6.block _ (Array.getElem?_eq_some_iff.1 N1).1).trans N1
  have p2 := (B6.block _ (Array.getElem?_eq_some_iff.1 N2).1).trans N2
  obtain ⟨U, hU⟩ : ∃ U, U = w6.setCell ⟨nb, 4, none⟩ (.slice a6 n6 c6) := ⟨_, rfl⟩
  have u1 : U.heap[nb]? = some (.cells #[.int .i8 1, f1, .string to1, m1, .slice a6 n6 c6, up1] 127 (0, 0)) := by rw [hU]; exact set_node p1 4 _
  have u2 : U.heap[eb]? = some (.cells #[.int .i8 k2, f2, .string to2, m2, s2, up2] 127 (0, 0)) := by rw [hU]; exact set_far p2 hne
  have far : ∀ (T : TypeId) (hT : T ≠ 127) (g : Nat) (cs : Array Value), w6.heap[g]? = some (Obj.cells cs T (0, 0)) → U.heap[g]? = w6.heap[g]? := fun T hT g cs hg => by
    rw [hU]
    exact (set_far hg (fun e => by rw [e, p1] at hg; injection hg with hg; injection hg with h1 h2; exact hT h2.symm)).trans hg.symm
  have hB : Upd (fun k => k = nb) w U := by
    rw [hU]
    exact (Upd.of_below (below_tr B2 B6)).trans (Upd.setCell (F := fun k => k = nb) (p := ⟨nb, 4, none⟩) rfl _) (fun _ _ h => h)
  have kU := K6.keep (fun g cs => far _ (by decide) g cs)
  have r1 : Rc U nb 1 f1 to1 m1 I up1 := ⟨a6, c6, by rw [← An]; exact u1, by omega, kU⟩
  obtain ⟨V, hV⟩ : ∃ V, V = U.setCell ⟨eb, 5, none⟩ v := ⟨_, rfl⟩
  have v1 : V.heap[nb]? = U.heap[nb]? := by rw [hV]; exact set_far rfl (fun e => hne e.symm)
  have v2 : V.heap[eb]? = some (.cells #[.int .i8 k2, f2, .string to2, m2, s2, v] 127 (0, 0)) := by rw [hV]; exact set_node u2 5 _
  have farV : ∀ (T : TypeId) (hT : T ≠ 127) (g : Nat) (cs : Array Value), U.heap[g]? = some (Obj.cells cs T (0, 0)) → V.heap[g]? = U.heap[g]? := fun T hT g cs hg => by
    rw [hV]
    exact (set_far hg (fun e => by rw [e, u2] at hg; injection hg with hg; injection hg with h1 h2; exact hT h2.symm)).trans hg.symm
  rw [← hU]
  refine ⟨⟨r1, hB⟩, ?_⟩
  rw [← hV]
  refine ⟨r1.keep v1 (fun g cs => farV _ (by decide) g cs), ?_, ?_⟩
  · obtain ⟨a2, c2, q1, q2, q3⟩ := hE.cel
    have es : s2 = .slice a2 L2.length c2 := by
      rw [N2] at q1
      injection q1 with q1
      injection q1 with q1
      simpa using q1
    have k3 : KsAt w3 a2 L2 := q3
    refine ⟨a2, c2, by rw [← es]; exact v2, q2, ?_⟩
    exact ((k3.keep (fun g _ hg => B6.block g (Array.getElem?_eq_some_iff.1 hg).1)).keep (fun g cs => far _ (by decide) g cs)).keep (fun g cs => farV _ (by decide) g cs)
  · rw [hV]
    exact (hB.mono (G := fun k => k = nb ∨ k = eb) (fun _ _ h => .inl h)).trans (Upd.setCell (F := fun k => k = eb) (p := ⟨eb, 5, none⟩) rfl _) (fun _ _ h => .inr h)
/-- What Take and Drop leave. -/
def RRemP (w : World) (nb eb : Nat) (f1 : Value) (to1 : ByteArray) (m1 : Value) (L : List RK) (up1 : Value) (k2 : Int) (f2 : Value) (to2 : ByteArray) (m2 : Value) (L2 : List RK) (x : B) (w' : World) : Prop :=
  Rc w' nb 1 f1 to1 m1 (rem L x) up1 ∧ (k2 = 1 → Rc w' eb 1 f2 to2 m2 L2 (.pointer none)) ∧ Upd (fun k => k = nb ∨ k2 = 1 ∧ k = eb) w w'
set_option maxRecDepth 20000 in
set_option maxHeartbeats 8000000 in
theorem rTake_any {w : World} {nb eb : Nat} {f1 : Value} {to1 : ByteArray} {m1 : Value} {L : List RK} {up1 : Value} {k2 : Int} {f2 : Value} {to2 : ByteArray} {m2 : Value} {L2 : List RK} {up2 : Value} (hD : Rc w nb 1 f1 to1 m1 L up1) (hE : Rc w eb k2 f2 to2 m2 L2 up2) (x : B) (hL : L.length ≤ 1000000) (ht : rth L x = true) (hp : L[rpl L x]? = some (x, eb)) (hne : eb ≠ nb) :
    Calls Tryz.prog 81 #[Pt nb, .string (ba x)] w fun r w' => r = .returned (.tuple #[Pt eb, .int .i64 0]) ∧ RRemP w nb eb f1 to1 m1 L up1 k2 f2 to2 m2 L2 x w' := by
  obtain ⟨a1, c1, hn1, hlc, hks⟩ := hD.cel
  obtain ⟨a2, c2, hn2, -, -⟩ := hE.cel
  have AGt := aside (rGet_yes hD x hL ht hp)
  obtain ⟨X, hX⟩ : ∃ X, X = ba x := ⟨_, rfl⟩
  have AX := aside hX
  rw [← hX] at AGt ⊢
  have ATa := aside (fun W (hW : Below w.heap.size w W) => rat_any (hD.below hW) x hL)
  obtain ⟨q, hq⟩ : ∃ q, q = rpl L x := ⟨_, rfl⟩
  have Aq := aside hq
  rw [ht, ← hX, ← hq] at ATa
  have hqL : q < L.length := by rw [hq]; exact (List.getElem?_eq_some_iff.1 hp).1
  have AD := aside hD
  have AE := aside hE
  have A1 := aside hn1
  have A2 := aside hn2
  have AK : Aside (KsAt w a1 L) := hks
  clear hX hD hE hn1 hn2 hks ht hp hq
  go_enter Tryz.func81, Tryz.ntmps81
  go_wp2_with fail
  refine AGt.out.mono ?_
  rintro e w1 ⟨rfl, hb1⟩
  have B1 := aside hb1
  have AT := aside (ATa.out w1 hb1)
  clear hb1 AGt ATa
  go_wp2_with fail
  refine AT.out.mono ?_
  rintro e w2 ⟨rfl, hb2⟩
  have B2 : Aside (Below w.heap.size w w2) := below_tr B1.out hb2
  have n1 := (B2.out.block _ (Array.getElem?_eq_some_iff.1 A1.out).1).trans A1.out
  have n2 := (B2.out.block _ (Array.getElem?_eq_some_iff.1 A2.out).1).trans A2.out
  have d4 : w2.cell? ⟨nb, 4, none⟩ = some (.slice a1 L.length c1) := by rw [cell_of_row w2 nb 4 _ _ _ n1]; rfl
  have AE2 := aside (AE.out.below B2.out)
  have N1 := aside n1
  have N2 := aside n2
  clear hb2 AT n1 n2 B1
  obtain ⟨k, hk⟩ : ∃ k, k = L.length := ⟨_, rfl⟩
  have Ak := aside hk
  rw [← hk] at d4 hlc hqL hL
  clear hk
  have hsl1 := slice_hK a1 k c1 q (by omega)
  have AG0 : Aside (GwK w2 w2.heap.size (.slice none 0 0) []) := GwK.nil _ _
  have ANq : Aside ((L.take q).length = q) := by show (L.take q).length = q; rw [List.length_take]; have := Ak.out; omega
  have AK2 : Aside (KsAt w2 a1 L) := AK.out.keep (fun g _ hg => B2.out.block g (Array.getElem?_eq_some_iff.1 hg).1)
  have AS1 : Aside (SrcAt w2 (.slice a1 q c1) q (kcs (L.take q))) := by have := (AK2.out.take q).src c1; rw [ANq.out] at this; exact this
  have Al1 : Aside ((kcs (L.take q)).length = q * 2) := by show (kcs (L.take q)).length = q * 2; rw [kcs_len, ANq.out]
  have ANd : Aside ((L.drop (q + 1)).length = k - (q + 1)) := by show (L.drop (q + 1)).length = k - (q + 1); rw [List.length_drop, ← Ak.out]
  have Al3 : Aside ((kcs (L.drop (q + 1))).length = (k - (q + 1)) * 2) := by show (kcs (L.drop (q + 1))).length = (k - (q + 1)) * 2; rw [kcs_len, ANd.out]
  have AI : Aside (L.take q ++ L.drop (q + 1) = rem L x) := by show L.take q ++ L.drop (q + 1) = rem L x; unfold rem; rw [← Aq.out]
  have hqi : (0 : Int) ≤ (q : Int) := by omega
  have hqk : (q : Int) ≤ (k : Int) := by omega
  have hqk1 : (q : Int) + 1 ≤ (k : Int) := by omega
  by_cases hk1 : k2 = 1
  · subst hk1
    go_wp2_with (at_builtin; first
      | (refine wpList_append_any w4 rfl _ _ 125 rfl 132 (.agg #[.string ByteArray.empty, .pointer none]) 2 24 Tryz.underlying125 infoK rfl (by omega) v4 q (kcs (L.take q)) rfl O4.out (.slice (if c1 = q + 1 then a1 else Option.map (fun x => x.add ((q + 1) * 2)) a1) (k - (q + 1)) (c1 - (q + 1))) (k - (q + 1)) (kcs (L.drop (q + 1))) rfl Al3.out S4.out (kcs_one _) (by unfold maxLen; omega) (by omega) ?_; intro v6 w6 ho6 hu6 hv6; obtain ⟨h7, h8⟩ := G4.out.more (R := L.drop (q + 1)) B4.out.size ho6 hu6 hv6; rw [AI.out] at h7; obtain ⟨a6, c6, hv6e, hlc6, hks6⟩ := h7.ks; obtain ⟨n6, hn6⟩ : ∃ n6, n6 = (rem L x).length := ⟨_, rfl⟩; rw [← hn6] at hv6e hlc6; have An6 := aside hn6; subst hv6e; have B6 := aside (B4.out.trans h8); have K6 := aside hks6; have L6 := aside hlc6; have m1 := (B6.out.block _ (Array.getElem?_eq_some_iff.1 N1.out).1).trans N1.out; have m2 := (B6.out.block _ (Array.getElem?_eq_some_iff.1 N2.out).1).trans N2.out; have s4 : w6.cell? ⟨nb, 4, none⟩ = some (.slice a1 L.length c1) := (by rw [cell_of_row w6 nb 4 _ _ _ m1]; rfl); have s4f := frozen_of_row w6 nb 4 _ _ m1; have t2 := set_far (v := Value.slice a6 n6 c6) (i := 4) m2 hne; have t0 : (w6.setCell ⟨nb, 4, none⟩ (.slice a6 n6 c6)).cell? ⟨eb, 0, none⟩ = some (.int .i8 1) := (by rw [cell_of_row _ eb 0 _ _ _ t2]; rfl); have t5 : (w6.setCell ⟨nb, 4, none⟩ (.slice a6 n6 c6)).cell? ⟨eb, 5, none⟩ = some up2 := (by rw [cell_of_row _ eb 5 _ _ _ t2]; rfl); have t5f := frozen_of_row _ eb 5 _ _ t2; clear hn6 ho6 hu6 hv6 h7 h8 hks6 hlc6 m1 m2 t2)
      | (refine wpList_append_any w2 rfl _ _ 125 rfl 132 (.agg #[.string ByteArray.empty, .pointer none]) 2 24 Tryz.underlying125 infoK rfl (by omega) (.slice none 0 0) 0 [] rfl AG0.out.1 (.slice a1 q c1) q (kcs (L.take q)) rfl Al1.out AS1.out (kcs_one _) (by unfold maxLen; omega) (by omega) ?_; intro v4 w4 ho4 hu4 hv4; obtain ⟨h7, h8⟩ := AG0.out.more (R := L.take q) (Nat.le_refl _) ho4 hu4 hv4; rw [List.nil_append] at h7; have G4 := aside h7; have B4 := aside h8; have O4 : Aside (w4.ownsRow 0 132 2 v4 q (kcs (L.take q))) := (by have := G4.out.1; rw [ANq.out] at this; exact this); have S4 : Aside (SrcAt w4 (.slice (if c1 = q + 1 then a1 else Option.map (fun x => x.add ((q + 1) * 2)) a1) (k - (q + 1)) (c1 - (q + 1))) (k - (q + 1)) (kcs (L.drop (q + 1)))) := (by have := ((AK2.out.drop c1 (q + 1) (by have := Ak.out; omega) (by have := Ak.out; omega)).keep (fun g _ hg => B4.out.block g (Array.getElem?_eq_some_iff.1 hg).1)).src (c1 - (q + 1)); rw [ANd.out] at this; exact this); have r4 : w4.cell? ⟨nb, 4, none⟩ = some (.slice a1 k c1) := (by rw [(B4.out.cell (p := ⟨nb, 4, none⟩) (Array.getElem?_eq_some_iff.1 N1.out).1)]; exact d4); clear ho4 hu4 hv4 h7 h8))
    all_goals (
    go_ret2
    obtain ⟨-, z1, z2, z3⟩ := rRem_end (.pointer none) B2.out B6.out hne N1.out N2.out AE2.out K6.out An6.out L6.out
    exact ⟨rfl, z1, fun _ => z2, z3.mono (fun _ _ h => h.elim .inl (fun h => .inr ⟨rfl, h⟩))⟩)
  · have hk1b : (k2 == 1) = false := beq_eq_false_iff_ne.2 hk1
    go_wp2_with (at_builtin; first
      | (refine wpList_append_any w4 rfl _ _ 125 rfl 132 (.agg #[.string ByteArray.empty, .pointer none]) 2 24 Tryz.underlying125 infoK rfl (by omega) v4 q (kcs (L.take q)) rfl O4.out (.slice (if c1 = q + 1 then a1 else Option.map (fun x => x.add ((q + 1) * 2)) a1) (k - (q + 1)) (c1 - (q + 1))) (k - (q + 1)) (kcs (L.drop (q + 1))) rfl Al3.out S4.out (kcs_one _) (by unfold maxLen; omega) (by omega) ?_; intro v6 w6 ho6 hu6 hv6; obtain ⟨h7, h8⟩ := G4.out.more (R := L.drop (q + 1)) B4.out.size ho6 hu6 hv6; rw [AI.out] at h7; obtain ⟨a6, c6, hv6e, hlc6, hks6⟩ := h7.ks; obtain ⟨n6, hn6⟩ : ∃ n6, n6 = (rem L x).length := ⟨_, rfl⟩; rw [← hn6] at hv6e hlc6; have An6 := aside hn6; subst hv6e; have B6 := aside (B4.out.trans h8); have K6 := aside hks6; have L6 := aside hlc6; have m1 := (B6.out.block _ (Array.getElem?_eq_some_iff.1 N1.out).1).trans N1.out; have m2 := (B6.out.block _ (Array.getElem?_eq_some_iff.1 N2.out).1).trans N2.out; have s4 : w6.cell? ⟨nb, 4, none⟩ = some (.slice a1 L.length c1) := (by rw [cell_of_row w6 nb 4 _ _ _ m1]; rfl); have s4f := frozen_of_row w6 nb 4 _ _ m1; have t2 := set_far (v := Value.slice a6 n6 c6) (i := 4) m2 hne; have t0 : (w6.setCell ⟨nb, 4, none⟩ (.slice a6 n6 c6)).cell? ⟨eb, 0, none⟩ = some (.int .i8 k2) := (by rw [cell_of_row _ eb 0 _ _ _ t2]; rfl); have t5 : (w6.setCell ⟨nb, 4, none⟩ (.slice a6 n6 c6)).cell? ⟨eb, 5, none⟩ = some up2 := (by rw [cell_of_row _ eb 5 _ _ _ t2]; rfl); have t5f := frozen_of_row _ eb 5 _ _ t2; clear hn6 ho6 hu6 hv6 h7 h8 hks6 hlc6 m1 m2 t2)
      | (refine wpList_append_any w2 rfl _ _ 125 rfl 132 (.agg #[.string ByteArray.empty, .pointer none]) 2 24 Tryz.underlying125 infoK rfl (by omega) (.slice none 0 0) 0 [] rfl AG0.out.1 (.slice a1 q c1) q (kcs (L.take q)) rfl Al1.out AS1.out (kcs_one _) (by unfold maxLen; omega) (by omega) ?_; intro v4 w4 ho4 hu4 hv4; obtain ⟨h7, h8⟩ := AG0.out.more (R := L.take q) (Nat.le_refl _) ho4 hu4 hv4; rw [List.nil_append] at h7; have G4 := aside h7; have B4 := aside h8; have O4 : Aside (w4.ownsRow 0 132 2 v4 q (kcs (L.take q))) := (by have := G4.out.1; rw [ANq.out] at this; exact this); have S4 : Aside (SrcAt w4 (.slice (if c1 = q + 1 then a1 else Option.map (fun x => x.add ((q + 1) * 2)) a1) (k - (q + 1)) (c1 - (q + 1))) (k - (q + 1)) (kcs (L.drop (q + 1)))) := (by have := ((AK2.out.drop c1 (q + 1) (by have := Ak.out; omega) (by have := Ak.out; omega)).keep (fun g _ hg => B4.out.block g (Array.getElem?_eq_some_iff.1 hg).1)).src (c1 - (q + 1)); rw [ANd.out] at this; exact this); have r4 : w4.cell? ⟨nb, 4, none⟩ = some (.slice a1 k c1) := (by rw [(B4.out.cell (p := ⟨nb, 4, none⟩) (Array.getElem?_eq_some_iff.1 N1.out).1)]; exact d4); clear ho4 hu4 hv4 h7 h8))
    all_goals (
    go_ret2
    obtain ⟨⟨z1, z3⟩, -⟩ := rRem_end (.pointer none) B2.out B6.out hne N1.out N2.out AE2.out K6.out An6.out L6.out
    exact ⟨rfl, z1, fun h => absurd h hk1, z3.mono (fun _ _ h => .inl h)⟩)
end Go.Proofs.YtbnaegoahdcejaaGreatDoor

namespace Go.Proofs.YtbnaegoahdcejaaGreatDoor
open Go.RowKit Go.ChangeMaps

set_option maxRecDepth 20000 in
set_option maxHeartbeats 2000000 in
theorem rDrop_full {w : World} {nb eb : Nat} {f1 : Value} {to1 : ByteArray} {m1 : Value} {L : List RK} {up1 : Value} {f2 : Value} {to2 : ByteArray} {m2 : Value} {L2 : List RK} {up2 : Value} (hD : Rc w nb 1 f1 to1 m1 L up1) (hE : Rc w eb 1 f2 to2 m2 L2 up2) (x : B) (hL : L.length ≤ 1000000) (ht : rth L x = true) (hp : L[rpl L x]? = some (x, eb)) (hL2 : 0 < L2.length) :
    Calls Tryz.prog 50 #[Pt nb, .string (ba x)] w fun r w' => r = .returned (.int .i64 194) ∧ Below w.heap.size w w' := by
  obtain ⟨a1, c1, hn1, hlc, hks⟩ := hD.cel
  obtain ⟨a2, c2, hn2, -, -⟩ := hE.cel
  have AIs := aside (ris_any hD 1)
  rw [if_pos rfl] at AIs
  have Ahp := aside hp
  obtain ⟨X, hX⟩ : ∃ X, X = ba x := ⟨_, rfl⟩
  rw [← hX]
  have AT := aside (rat_any hD x hL)
  obtain ⟨q, hq⟩ : ∃ q, q = rpl L x := ⟨_, rfl⟩
  rw [ht, ← hX, ← hq] at AT
  rw [← hq] at Ahp
  have hqL : q < L.length := by rw [hq]; exact (List.getElem?_eq_some_iff.1 hp).1
  have A1 := aside hn1
  have A2 := aside hn2
  have AK : Aside (KsAt w a1 L) := hks
  obtain ⟨l2, hl2⟩ : ∃ l2, l2 = L2.length := ⟨_, rfl⟩
  have Al2 := aside hl2
  have hl2p : (0 : Int) < (l2 : Int) := by omega
  clear hX hD hE hn1 hn2 hks ht hp hq hl2 hL2
  go_enter Tryz.func50, Tryz.ntmps50
  go_wp2_with fail
  refine AIs.out.mono ?_
  rintro e w1 ⟨rfl, rfl⟩
  clear AIs
  go_wp2_with fail
  refine AT.out.mono ?_
  rintro e w2 ⟨rfl, hb2⟩
  have B2 := aside hb2
  have n1 := (B2.out.block _ (Array.getElem?_eq_some_iff.1 A1.out).1).trans A1.out
  have n2 := (B2.out.block _ (Array.getElem?_eq_some_iff.1 A2.out).1).trans A2.out
  have d4 : w2.cell? ⟨nb, 4, none⟩ = some (.slice a1 L.length c1) := by rw [cell_of_row w2 nb 4 _ _ _ n1]; rfl
  have AK2 : Aside (KsAt w2 a1 L) := AK.out.keep (fun g _ hg => B2.out.block g (Array.getElem?_eq_some_iff.1 hg).1)
  obtain ⟨gk, ok, csk, rfl, hkr, hkc⟩ := AK2.out (fun e => by have h0 := Ahp.out; rw [e] at h0; simp at h0)
  have e0 : w2.cell? ⟨gk, ok + q * 2 + 1, none⟩ = some (Pt eb) := by rw [cell_of_row w2 gk _ _ _ _ hkr, Nat.add_assoc]; exact hkc _ _ (kcs_at Ahp.out).2
  have f0 : w2.cell? ⟨eb, 0, none⟩ = some (.int .i8 1) := by rw [cell_of_row w2 eb 0 _ _ _ n2]; rfl
  have f4 : w2.cell? ⟨eb, 4, none⟩ = some (.slice a2 l2 c2) := by rw [Al2.out, cell_of_row w2 eb 4 _ _ _ n2]; rfl
  obtain ⟨k, hk⟩ : ∃ k, k = L.length := ⟨_, rfl⟩
  rw [← hk] at d4 hlc hqL hL
  have hqi : (0 : Int) ≤ (q : Int) := by omega
  have hqk2 : (q : Int) < (k : Int) := by omega
  clear hkr hkc hk hb2 n1 n2 AT
  go_wp2_with fail
  go_ret
  exact ⟨rfl, B2.out⟩
set_option maxRecDepth 20000 in
set_option maxHeartbeats 2000000 in
theorem rDrop_none {w : World} {nb : Nat} {f1 : Value} {to1 : ByteArray} {m1 : Value} {L : List RK} {up1 : Value} (hD : Rc w nb 1 f1 to1 m1 L up1) (x : B) (hL : L.length ≤ 1000000) (ht : rth L x = false) :
    Calls Tryz.prog 50 #[Pt nb, .string (ba x)] w fun r w' => r = .returned (.int .i64 192) ∧ Below w.heap.size w w' := by
  have AIs := aside (ris_any hD 1)
  rw [if_pos rfl] at AIs
  obtain ⟨X, hX⟩ : ∃ X, X = ba x := ⟨_, rfl⟩
  rw [← hX]
  have AT := aside (rat_any hD x hL)
  rw [ht, ← hX] at AT
  obtain ⟨q, hq⟩ : ∃ q, q = rpl L x := ⟨_, rfl⟩
  rw [← hq] at AT
  clear hX hD ht hq
  go_enter Tryz.func50, Tryz.ntmps50
  go_wp2_with fail
  refine AIs.out.mono ?_
  rintro e w1 ⟨rfl, rfl⟩
  clear AIs
  go_wp2_with fail
  refine AT.out.mono ?_
  rintro e w2 ⟨rfl, hb2⟩
  have B2 := aside hb2
  clear hb2 AT
  go_wp2_with fail
  go_ret
  exact ⟨rfl, B2.out⟩
set_option maxRecDepth 20000 in
set_option maxHeartbeats 1000000 in
theorem rDrop_leaf {w : World} {nb : Nat} {k : Int} {f : Value} {to : ByteArray} {m : Value} {L : List RK} {up : Value} (h : Rc w nb k f to m L up) (hk : k ≠ 1) (Z : ByteArray) :
    Calls Tryz.prog 50 #[Pt nb, .string Z] w fun r w' => r = .returned (.int .i64 193) ∧ w' = w := by
  have AIs := aside (ris_any h 1)
  rw [if_neg hk] at AIs
  clear h
  go_enter Tryz.func50, Tryz.ntmps50
  go_wp2_with fail
  refine AIs.out.mono ?_
  rintro e w1 ⟨rfl, rfl⟩
  go_wp2_with fail
  go_ret
  exact ⟨rfl, rfl⟩
set_option maxRecDepth 20000 in
set_option maxHeartbeats 1000000 in
theorem rDrop_nil (w : World) (Z : ByteArray) : Calls Tryz.prog 50 #[.pointer none, .string Z] w fun r w' => r = .returned (.int .i64 1) ∧ w' = w := by
  have AIs : Aside (Calls Tryz.prog 71 #[.pointer none, .int .i8 1] w fun e w' => e = .returned (.int .i64 1) ∧ w' = w) := by
    show Calls Tryz.prog 71 #[.pointer none, .int .i8 1] w fun e w' => e = .returned (.int .i64 1) ∧ w' = w
    go_enter Tryz.func71, Tryz.ntmps71
    go_wp2_with fail
    go_ret
    exact ⟨rfl, rfl⟩
  go_enter Tryz.func50, Tryz.ntmps50
  go_wp2_with fail
  refine AIs.out.mono ?_
  rintro e w1 ⟨rfl, rfl⟩
  go_wp2_with fail
  go_ret
  exact ⟨rfl, rfl⟩
set_option maxRecDepth 20000 in
set_option maxHeartbeats 8000000 in
theorem rDrop_any {w : World} {nb eb : Nat} {f1 : Value} {to1 : ByteArray} {m1 : Value} {L : List RK} {up1 : Value} {k2 : Int} {f2 : Value} {to2 : ByteArray} {m2 : Value} {L2 : List RK} {up2 : Value} (hD : Rc w nb 1 f1 to1 m1 L up1) (hE : Rc w eb k2 f2 to2 m2 L2 up2) (x : B) (hL : L.length ≤ 1000000) (ht : rth L x = true) (hp : L[rpl L x]? = some (x, eb)) (hne : eb ≠ nb) (hkl : k2 = 1 → L2 = []) :
    Calls Tryz.prog 50 #[Pt nb, .string (ba x)] w fun r w' => r = .returned (.int .i64 0) ∧ RRemP w nb eb f1 to1 m1 L up1 k2 f2 to2 m2 L2 x w' := by
  obtain ⟨a1, c1, hn1, hlc, hks⟩ := hD.cel
  obtain ⟨a2, c2, hn2, -, -⟩ := hE.cel
  have Ahkl := aside hkl
  clear hkl
  have AIs := aside (ris_any hD 1)
  rw [if_pos rfl] at AIs
  have Ahp := aside hp
  obtain ⟨X, hX⟩ : ∃ X, X = ba x := ⟨_, rfl⟩
  have AX := aside hX
  rw [← hX]
  have AT := aside (rat_any hD x hL)
  obtain ⟨q, hq⟩ : ∃ q, q = rpl L x := ⟨_, rfl⟩
  have Aq := aside hq
  rw [ht, ← hX, ← hq] at AT
  rw [← hq] at Ahp
  have hqL : q < L.length := by rw [hq]; exact (List.getElem?_eq_some_iff.1 hp).1
  have AD := aside hD
  have AE := aside hE
  have A1 := aside hn1
  have A2 := aside hn2
  have AK : Aside (KsAt w a1 L) := hks
  clear hX hD hE hn1 hn2 hks ht hp hq
  go_enter Tryz.func50, Tryz.ntmps50
  go_wp2_with fail
  refine AIs.out.mono ?_
  rintro e w1 ⟨rfl, rfl⟩
  clear AIs
  go_wp2_with fail
  refine AT.out.mono ?_
  rintro e w2 ⟨rfl, hb2⟩
  have B2 := aside hb2
  have n1 := (B2.out.block _ (Array.getElem?_eq_some_iff.1 A1.out).1).trans A1.out
  have n2 := (B2.out.block _ (Array.getElem?_eq_some_iff.1 A2.out).1).trans A2.out
  have d4 : w2.cell? ⟨nb, 4, none⟩ = some (.slice a1 L.length c1) := by rw [cell_of_row w2 nb 4 _ _ _ n1]; rfl
  have AE2 := aside (AE.out.below B2.out)
  have N1 := aside n1
  have N2 := aside n2
  clear hb2 AT n1 n2
  obtain ⟨k, hk⟩ : ∃ k, k = L.length := ⟨_, rfl⟩
  have Ak := aside hk
  rw [← hk] at d4 hlc hqL hL
  clear hk
  have hsl1 := slice_hK a1 k c1 q (by omega)
  have AG0 : Aside (GwK w2 w2.heap.size (.slice none 0 0) []) := GwK.nil _ _
  have ANq : Aside ((L.take q).length = q) := by show (L.take q).length = q; rw [List.length_take]; have := Ak.out; omega
  have AK2 : Aside (KsAt w2 a1 L) := AK.out.keep (fun g _ hg => B2.out.block g (Array.getElem?_eq_some_iff.1 hg).1)
  have AS1 : Aside (SrcAt w2 (.slice a1 q c1) q (kcs (L.take q))) := by have := (AK2.out.take q).src c1; rw [ANq.out] at this; exact this
  have Al1 : Aside ((kcs (L.take q)).length = q * 2) := by show (kcs (L.take q)).length = q * 2; rw [kcs_len, ANq.out]
  have ANd : Aside ((L.drop (q + 1)).length = k - (q + 1)) := by show (L.drop (q + 1)).length = k - (q + 1); rw [List.length_drop, ← Ak.out]
  have Al3 : Aside ((kcs (L.drop (q + 1))).length = (k - (q + 1)) * 2) := by show (kcs (L.drop (q + 1))).length = (k - (q + 1)) * 2; rw [kcs_len, ANd.out]
  have AI : Aside (L.take q ++ L.drop (q + 1) = rem L x) := by show L.take q ++ L.drop (q + 1) = rem L x; unfold rem; rw [← Aq.out]
  have hqi : (0 : Int) ≤ (q : Int) := by omega
  have hqk : (q : Int) ≤ (k : Int) := by omega
  have hqk1 : (q : Int) + 1 ≤ (k : Int) := by omega
  obtain ⟨gk, ok, csk, rfl, hkr, hkc⟩ := AK2.out (fun e => by have h0 := Ahp.out; rw [e] at h0; simp at h0)
  have e0 : w2.cell? ⟨gk, ok + q * 2 + 1, none⟩ = some (Pt eb) := by rw [cell_of_row w2 gk _ _ _ _ hkr, Nat.add_assoc]; exact hkc _ _ (kcs_at Ahp.out).2
  have hqk2 : (q : Int) < (k : Int) := by omega
  have f0 : w2.cell? ⟨eb, 0, none⟩ = some (.int .i8 k2) := by rw [cell_of_row w2 eb 0 _ _ _ N2.out]; rfl
  have f4 : w2.cell? ⟨eb, 4, none⟩ = some (.slice a2 L2.length c2) := by rw [cell_of_row w2 eb 4 _ _ _ N2.out]; rfl
  clear hkr hkc
  by_cases hk1 : k2 = 1
  · subst hk1
    have hL0 : L2.length = 0 := by rw [Ahkl.out rfl]; rfl
    rw [hL0] at f4
    clear hL0
    go_wp2_with (at_builtin; first
      | (refine wpList_append_any w4 rfl _ _ 125 rfl 132 (.agg #[.string ByteArray.empty, .pointer none]) 2 24 Tryz.underlying125 infoK rfl (by omega) v4 q (kcs (L.take q)) rfl O4.out (.slice (if c1 = q + 1 then some ⟨gk, ok, none⟩ else some ((⟨gk, ok, none⟩ : Addr).add ((q + 1) * 2))) (k - (q + 1)) (c1 - (q + 1))) (k - (q + 1)) (kcs (L.drop (q + 1))) rfl Al3.out S4.out (kcs_one _) (by unfold maxLen; omega) (by omega) ?_; intro v6 w6 ho6 hu6 hv6; obtain ⟨h7, h8⟩ := G4.out.more (R := L.drop (q + 1)) B4.out.size ho6 hu6 hv6; rw [AI.out] at h7; obtain ⟨a6, c6, hv6e, hlc6, hks6⟩ := h7.ks; obtain ⟨n6, hn6⟩ : ∃ n6, n6 = (rem L x).length := ⟨_, rfl⟩; rw [← hn6] at hv6e hlc6; have An6 := aside hn6; subst hv6e; have B6 := aside (B4.out.trans h8); have K6 := aside hks6; have L6 := aside hlc6; have m1 := (B6.out.block _ (Array.getElem?_eq_some_iff.1 N1.out).1).trans N1.out; have m2 := (B6.out.block _ (Array.getElem?_eq_some_iff.1 N2.out).1).trans N2.out; have s4 : w6.cell? ⟨nb, 4, none⟩ = some (.slice (some ⟨gk, ok, none⟩) L.length c1) := (by rw [cell_of_row w6 nb 4 _ _ _ m1]; rfl); have s4f := frozen_of_row w6 nb 4 _ _ m1; have t2 := set_far (v := Value.slice a6 n6 c6) (i := 4) m2 hne; have t0 : (w6.setCell ⟨nb, 4, none⟩ (.slice a6 n6 c6)).cell? ⟨eb, 0, none⟩ = some (.int .i8 1) := (by rw [cell_of_row _ eb 0 _ _ _ t2]; rfl); have t5 : (w6.setCell ⟨nb, 4, none⟩ (.slice a6 n6 c6)).cell? ⟨eb, 5, none⟩ = some up2 := (by rw [cell_of_row _ eb 5 _ _ _ t2]; rfl); have t5f := frozen_of_row _ eb 5 _ _ t2; clear hn6 ho6 hu6 hv6 h7 h8 hks6 hlc6 m1 m2 t2)
      | (refine wpList_append_any w2 rfl _ _ 125 rfl 132 (.agg #[.string ByteArray.empty, .pointer none]) 2 24 Tryz.underlying125 infoK rfl (by omega) (.slice none 0 0) 0 [] rfl AG0.out.1 (.slice (some ⟨gk, ok, none⟩) q c1) q (kcs (L.take q)) rfl Al1.out AS1.out (kcs_one _) (by unfold maxLen; omega) (by omega) ?_; intro v4 w4 ho4 hu4 hv4; obtain ⟨h7, h8⟩ := AG0.out.more (R := L.take q) (Nat.le_refl _) ho4 hu4 hv4; rw [List.nil_append] at h7; have G4 := aside h7; have B4 := aside h8; have O4 : Aside (w4.ownsRow 0 132 2 v4 q (kcs (L.take q))) := (by have := G4.out.1; rw [ANq.out] at this; exact this); have S4 : Aside (SrcAt w4 (.slice (if c1 = q + 1 then some ⟨gk, ok, none⟩ else some ((⟨gk, ok, none⟩ : Addr).add ((q + 1) * 2))) (k - (q + 1)) (c1 - (q + 1))) (k - (q + 1)) (kcs (L.drop (q + 1)))) := (by have := ((AK2.out.drop c1 (q + 1) (by have := Ak.out; omega) (by have := Ak.out; omega)).keep (fun g _ hg => B4.out.block g (Array.getElem?_eq_some_iff.1 hg).1)).src (c1 - (q + 1)); rw [ANd.out] at this; exact this); have r4 : w4.cell? ⟨nb, 4, none⟩ = some (.slice (some ⟨gk, ok, none⟩) k c1) := (by rw [(B4.out.cell (p := ⟨nb, 4, none⟩) (Array.getElem?_eq_some_iff.1 N1.out).1)]; exact d4); clear ho4 hu4 hv4 h7 h8))
    all_goals (
    go_ret
    obtain ⟨-, z1, z2, z3⟩ := rRem_end (.pointer none) B2.out B6.out hne N1.out N2.out AE2.out K6.out An6.out L6.out
    exact ⟨rfl, z1, fun _ => z2, z3.mono (fun _ _ h => h.elim .inl (fun h => .inr ⟨rfl, h⟩))⟩)
  · have hk1b : (k2 == 1) = false := beq_eq_false_iff_ne.2 hk1
    go_wp2_with (at_builtin; first
      | (refine wpList_append_any w4 rfl _ _ 125 rfl 132 (.agg #[.string ByteArray.empty, .pointer none]) 2 24 Tryz.underlying125 infoK rfl (by omega) v4 q (kcs (L.take q)) rfl O4.out (.slice (if c1 = q + 1 then some ⟨gk, ok, none⟩ else some ((⟨gk, ok, none⟩ : Addr).add ((q + 1) * 2))) (k - (q + 1)) (c1 - (q + 1))) (k - (q + 1)) (kcs (L.drop (q + 1))) rfl Al3.out S4.out (kcs_one _) (by unfold maxLen; omega) (by omega) ?_; intro v6 w6 ho6 hu6 hv6; obtain ⟨h7, h8⟩ := G4.out.more (R := L.drop (q + 1)) B4.out.size ho6 hu6 hv6; rw [AI.out] at h7; obtain ⟨a6, c6, hv6e, hlc6, hks6⟩ := h7.ks; obtain ⟨n6, hn6⟩ : ∃ n6, n6 = (rem L x).length := ⟨_, rfl⟩; rw [← hn6] at hv6e hlc6; have An6 := aside hn6; subst hv6e; have B6 := aside (B4.out.trans h8); have K6 := aside hks6; have L6 := aside hlc6; have m1 := (B6.out.block _ (Array.getElem?_eq_some_iff.1 N1.out).1).trans N1.out; have m2 := (B6.out.block _ (Array.getElem?_eq_some_iff.1 N2.out).1).trans N2.out; have s4 : w6.cell? ⟨nb, 4, none⟩ = some (.slice (some ⟨gk, ok, none⟩) L.length c1) := (by rw [cell_of_row w6 nb 4 _ _ _ m1]; rfl); have s4f := frozen_of_row w6 nb 4 _ _ m1; have t2 := set_far (v := Value.slice a6 n6 c6) (i := 4) m2 hne; have t0 : (w6.setCell ⟨nb, 4, none⟩ (.slice a6 n6 c6)).cell? ⟨eb, 0, none⟩ = some (.int .i8 k2) := (by rw [cell_of_row _ eb 0 _ _ _ t2]; rfl); have t5 : (w6.setCell ⟨nb, 4, none⟩ (.slice a6 n6 c6)).cell? ⟨eb, 5, none⟩ = some up2 := (by rw [cell_of_row _ eb 5 _ _ _ t2]; rfl); have t5f := frozen_of_row _ eb 5 _ _ t2; clear hn6 ho6 hu6 hv6 h7 h8 hks6 hlc6 m1 m2 t2)
      | (refine wpList_append_any w2 rfl _ _ 125 rfl 132 (.agg #[.string ByteArray.empty, .pointer none]) 2 24 Tryz.underlying125 infoK rfl (by omega) (.slice none 0 0) 0 [] rfl AG0.out.1 (.slice (some ⟨gk, ok, none⟩) q c1) q (kcs (L.take q)) rfl Al1.out AS1.out (kcs_one _) (by unfold maxLen; omega) (by omega) ?_; intro v4 w4 ho4 hu4 hv4; obtain ⟨h7, h8⟩ := AG0.out.more (R := L.take q) (Nat.le_refl _) ho4 hu4 hv4; rw [List.nil_append] at h7; have G4 := aside h7; have B4 := aside h8; have O4 : Aside (w4.ownsRow 0 132 2 v4 q (kcs (L.take q))) := (by have := G4.out.1; rw [ANq.out] at this; exact this); have S4 : Aside (SrcAt w4 (.slice (if c1 = q + 1 then some ⟨gk, ok, none⟩ else some ((⟨gk, ok, none⟩ : Addr).add ((q + 1) * 2))) (k - (q + 1)) (c1 - (q + 1))) (k - (q + 1)) (kcs (L.drop (q + 1)))) := (by have := ((AK2.out.drop c1 (q + 1) (by have := Ak.out; omega) (by have := Ak.out; omega)).keep (fun g _ hg => B4.out.block g (Array.getElem?_eq_some_iff.1 hg).1)).src (c1 - (q + 1)); rw [ANd.out] at this; exact this); have r4 : w4.cell? ⟨nb, 4, none⟩ = some (.slice (some ⟨gk, ok, none⟩) k c1) := (by rw [(B4.out.cell (p := ⟨nb, 4, none⟩) (Array.getElem?_eq_some_iff.1 N1.out).1)]; exact d4); clear ho4 hu4 hv4 h7 h8))
    all_goals (
    go_ret
    obtain ⟨⟨z1, z3⟩, -⟩ := rRem_end (.pointer none) B2.out B6.out hne N1.out N2.out AE2.out K6.out An6.out L6.out
    exact ⟨rfl, z1, fun h => absurd h hk1, z3.mono (fun _ _ h => .inl h)⟩)
end Go.Proofs.YtbnaegoahdcejaaGreatDoor

namespace Go.Proofs.YtbnaegoahdcejaaGreatDoor
open Go.RowKit Go.ChangeMaps

/-- The plain facts of a tree. -/
structure Rq (S : List En) (rb : List B → Nat) : Prop where
  one : (S.map En.p).Nodup
  root : ∃ r ∈ S, r.p = [] ∧ r.k = 1
  par : ∀ e ∈ S, e.p ≠ [] → ∃ d ∈ S, d.p = e.p.dropLast ∧ d.k = 1
  knd : ∀ e ∈ S, e.k = 0 ∨ e.k = 1 ∨ e.k = 2 ∨ e.k = 3 ∨ e.k = 4
  few : S.length ≤ 100000
  inj : ∀ d ∈ S, ∀ c ∈ S, rb d.p = rb c.p → d.p = c.p
/-- The nodes in memory. -/
structure Rg (F : World → Nat → B → Prop) (w : World) (S : List En) (rb : List B → Nat) (kd : List B → List RK) (up : List B → Value) : Prop where
  dir : ∀ d ∈ S, d.k = 1 → Rc w (rb d.p) 1 (.pointer none) ⟨#[]⟩ (.pointer none) (kd d.p) (up d.p)
  lnk : ∀ e ∈ S, e.k = 2 → Rc w (rb e.p) 2 (.pointer none) (ba e.x) (.pointer none) [] (.pointer none)
  fil : ∀ e ∈ S, e.k = 0 → ∃ fb, Rc w (rb e.p) 0 (Pt fb) ⟨#[]⟩ (.pointer none) [] (.pointer none) ∧ F w fb e.x
  mnt : ∀ e ∈ S, e.k = 3 ∨ e.k = 4 → e.x = [] ∧ ∃ m, Rc w (rb e.p) (e.k : Int) (.pointer none) ⟨#[]⟩ m [] (.pointer none) ∧ (e.k = 3 → ∃ mb, m = Pt mb)
def upf (rb : List B → Nat) (p : List B) : Value := if p = [] then .pointer none else Pt (rb p.dropLast)
theorem Rt.rq {F : World → Nat → B → Prop} {lo : Nat} {w : World} {S : List En} {rb : List B → Nat} (h : Rt F lo w S rb) : Rq S rb := ⟨h.one, h.root, h.par, h.knd, h.few, h.inj⟩
theorem Rt.rg {F : World → Nat → B → Prop} {lo : Nat} {w : World} {S : List En} {rb : List B → Nat} (h : Rt F lo w S rb) : Rg F w S rb (rkd S rb) (upf rb) := ⟨h.dir, h.lnk, h.fil, h.mnt⟩
theorem Rt.of {F : World → Nat → B → Prop} {lo : Nat} {w : World} {S : List En} {rb : List B → Nat} (q : Rq S rb) (hl : ∀ e ∈ S, lo ≤ rb e.p) (g : Rg F w S rb (rkd S rb) (upf rb)) : Rt F lo w S rb := ⟨q.one, q.root, q.par, q.knd, q.few, q.inj, hl, g.dir, g.lnk, g.fil, g.mnt⟩
theorem Rg.lef {F : World → Nat → B → Prop} {w : World} {S : List En} {rb : List B → Nat} {kd : List B → List RK} {up : List B → Value} (h : Rg F w S rb kd up) (q : Rq S rb) {e : En} (he : e ∈ S) (hk : e.k ≠ 1) : ∃ f t m, Rc w (rb e.p) (e.k : Int) f t m [] (.pointer none) ∧ (e.k = 3 → ∃ mb, m = Pt mb) := by
  rcases q.knd e he with h0 | h1 | h2 | h3
  · obtain ⟨fb, hR, -⟩ := h.fil e he h0
    rw [h0]; exact ⟨_, _, _, hR, fun e => by cases e⟩
  · exact absurd h1 hk
  · rw [h2]; exact ⟨_, _, _, h.lnk e he h2, fun e => by cases e⟩
  · obtain ⟨-, m, hR, hm⟩ := h.mnt e he h3
    exact ⟨_, _, _, hR, hm⟩
theorem Rg.rc {F : World → Nat → B → Prop} {w : World} {S : List En} {rb : List B → Nat} {kd : List B → List RK} {up : List B → Value} (h : Rg F w S rb kd up) (q : Rq S rb) {e : En} (he : e ∈ S) : ∃ f t m L u, Rc w (rb e.p) (e.k : Int) f t m L u := by
  by_cases hk : e.k = 1
  · rw [hk]; exact ⟨_, _, _, _, _, h.dir e he hk⟩
  · obtain ⟨f, t, m, hR, -⟩ := h.lef q he hk
    exact ⟨_, _, _, _, _, hR⟩
theorem Rc.node {w : World} {nb : Nat} {k : Int} {f : Value} {to : ByteArray} {m : Value} {L : List RK} {up : Value} (h : Rc w nb k f to m L up) : (∃ cs, w.heap[nb]? = some (.cells cs 127 (0, 0))) ∧ w.cell? ⟨nb, 0, none⟩ = some (.int .i8 k) := by
  obtain ⟨a, c, h1, -⟩ := h.cel
  exact ⟨⟨_, h1⟩, by rw [cell_of_row w nb 0 _ _ _ h1]; rfl⟩
theorem Rg.below {F : World → Nat → B → Prop} (hF : Fst F) {w w' : World} {S : List En} {rb : List B → Nat} {kd : List B → List RK} {up : List B → Value} (h : Rg F w S rb kd up) (b : Below w.heap.size w w') : Rg F w' S rb kd up :=
  ⟨fun d hd hk => (h.dir d hd hk).below b, fun e he hk => (h.lnk e he hk).below b, fun e he hk => by
    obtain ⟨fb, h1, h2⟩ := h.fil e he hk
    exact ⟨fb, h1.below b, hF w w' fb e.x b.size (fun g hg _ => b.block g hg) h2⟩, fun e he hk => by
    obtain ⟨h1, m, h2, h3⟩ := h.mnt e he hk
    exact ⟨h1, m, h2.below b, h3⟩⟩
/-- Directories' nodes are changed, no other thing. -/
theorem Rg.step {F : World → Nat → B → Prop} (hF : Fst F) {w w' : World} {S : List En} {rb : List B → Nat} {kd kd' : List B → List RK} {up up' : List B → Value} (h : Rg F w S rb kd up) (q : Rq S rb) (X : List B → Prop) (u : Upd (fun k => ∃ e ∈ S, e.k = 1 ∧ X e.p ∧ k = rb e.p) w w')
    (hn : ∀ e ∈ S, e.k = 1 → X e.p → Rc w' (rb e.p) 1 (.pointer none) ⟨#[]⟩ (.pointer none) (kd' e.p) (up' e.p)) (hs : ∀ e ∈ S, e.k = 1 → ¬ X e.p → kd' e.p = kd e.p ∧ up' e.p = up e.p) : Rg F w' S rb kd' up' := by
  have far : ∀ (T : TypeId), T ≠ 127 → ∀ (g : Nat) (cs : Array Value), w.heap[g]? = some (Obj.cells cs T (0, 0)) → w'.heap[g]? = w.heap[g]? := fun T hT g cs hg => by
    refine u.block g (Array.getElem?_eq_some_iff.1 hg).1 ?_
    rintro ⟨e, he, hk, -, rfl⟩
    obtain ⟨cs2, h2⟩ := (h.dir e he hk).node.1
    rw [h2] at hg
    simp only [Option.some.injEq, Obj.cells.injEq] at hg
    exact hT hg.2.1.symm
  have hot : ∀ (g : Nat), g < w.heap.size → (∀ k : Int, w.cell? ⟨g, 0, none⟩ ≠ some (.int .i8 k)) → w'.heap[g]? = w.heap[g]? := fun g hg hk2 => by
    refine u.block g hg ?_
    rintro ⟨e, he, hk, -, rfl⟩
    exact hk2 1 (h.dir e he hk).node.2
  have keep : ∀ {c : En} {k : Int} {f : Value} {t : ByteArray} {m : Value} {L : List RK} {u2 : Value}, c ∈ S → (c.k = 1 → ¬ X c.p) → Rc w (rb c.p) k f t m L u2 → Rc w' (rb c.p) k f t m L u2 := fun {c} {k} {f} {t} {m} {L} {u2} hc hx hR => by
    refine hR.keep (u.block _ hR.lt ?_) (far _ (by decide))
    rintro ⟨e, he, hk, hxe, e1⟩
    have hp := q.inj c hc e he e1
    have : c = e := rone_p q.one hc he hp
    subst this
    exact hx hk hxe
  refine ⟨fun d hd hk => ?_, fun e he hk => keep he (fun e1 => by omega) (h.lnk e he hk), fun e he hk => ?_, fun e he hk => ?_⟩
  · by_cases hx : X d.p
    · exact hn d hd hk hx
    · obtain ⟨e1, e2⟩ := hs d hd hk hx
      rw [e1, e2]
      exact keep hd (fun _ => hx) (h.dir d hd hk)
  · obtain ⟨fb, h1, h2⟩ := h.fil e he hk
    exact ⟨fb, keep he (fun e1 => by omega) h1, hF w w' fb e.x u.size hot h2⟩
  · obtain ⟨h1, m, h2, h3⟩ := h.mnt e he hk
    exact ⟨h1, m, keep he (fun e1 => by omega) h2, h3⟩
/-- What has been changed are nodes of the document's. -/
theorem Rg.chg {F : World → Nat → B → Prop} {w w' : World} {S : List En} {rb : List B → Nat} {kd kd' : List B → List RK} {up up' : List B → Value} (h : Rg F w S rb kd up) (h' : Rg F w' S rb kd' up') {X : List B → Prop} (u : Upd (fun k => ∃ e ∈ S, e.k = 1 ∧ X e.p ∧ k = rb e.p) w w') : Ch 0 (Ty [127]) w w' :=
  Ch.of_upd u (fun k _ _ => by
    rintro ⟨e, he, hk, -, rfl⟩
    obtain ⟨c1, h1⟩ := (h.dir e he hk).node.1
    obtain ⟨c2, h2⟩ := (h'.dir e he hk).node.1
    exact ⟨_, _, h1, h2, ⟨_, _, _, by simp, rfl⟩, ⟨_, _, _, by simp, rfl⟩⟩)
/-- The way up from a directory. -/
theorem Rg.ways {F : World → Nat → B → Prop} {w : World} {S : List En} {rb : List B → Nat} {kd : List B → List RK} {up : List B → Value} (h : Rg F w S rb kd up) (q : Rq S rb) : ∀ (n : Nat) {d : En}, d ∈ S → d.k = 1 → d.p.length = n → (∀ r, r <+: d.p → up r = upf rb r) → RUp w (Pt (rb d.p)) (rb d.p :: rway rb n d.p)
  | 0, d, hd, hk, hn, hu => by
    have hp : d.p = [] := List.eq_nil_of_length_eq_zero hn
    obtain ⟨a, c, h1, -⟩ := (h.dir d hd hk).cel
    rw [hu _ (List.prefix_refl _), upf, if_pos hp] at h1
    exact ⟨rfl, _, _, _, _, _, _, h1, rfl⟩
  | n + 1, d, hd, hk, hn, hu => by
    have hp : d.p ≠ [] := fun e => by rw [e] at hn; simp at hn
    obtain ⟨a, c, h1, -⟩ := (h.dir d hd hk).cel
    rw [hu _ (List.prefix_refl _), upf, if_neg hp] at h1
    obtain ⟨u, hu1, hup, huk⟩ := q.par d hd hp
    have ih := Rg.ways h q n hu1 huk (by rw [hup, List.length_dropLast]; omega) (fun r hr => hu r (hr.trans (by rw [hup]; exact List.dropLast_prefix _)))
    rw [hup] at ih
    exact ⟨rfl, _, _, _, _, _, _, h1, ih⟩
theorem Rq.pre {S : List En} {rb : List B → Nat} (h : Rq S rb) : ∀ (n : Nat) {d : En} {q : List B}, d ∈ S → d.p.length = n → q <+: d.p → ∃ c ∈ S, c.p = q
  | 0, d, q, hd, hn, hq => by
    have hp : d.p = [] := List.eq_nil_of_length_eq_zero hn
    rw [hp] at hq
    exact ⟨d, hd, by rw [hp, List.prefix_nil.1 hq]⟩
  | n + 1, d, q, hd, hn, hq => by
    have hp : d.p ≠ [] := fun e => by rw [e] at hn; simp at hn
    by_cases he : q = d.p
    · exact ⟨d, hd, he.symm⟩
    · obtain ⟨u, hu, hup, -⟩ := h.par d hd hp
      exact Rq.pre h n hu (by rw [hup, List.length_dropLast]; omega) (by rw [hup]; exact pre_drop hq he)
theorem rkd_few {S : List En} {rb : List B → Nat} (q : Rq S rb) (p : List B) : (rkd S rb p).length ≤ 100000 := by
  unfold rkd kidE kidU
  rw [List.length_map, (srt_perm En.nm _).length_eq]
  exact Nat.le_trans (List.length_filter_le _ _) q.few
end Go.Proofs.YtbnaegoahdcejaaGreatDoor

namespace Go.Proofs.YtbnaegoahdcejaaGreatDoor
open Go.RowKit Go.ChangeMaps

theorem rem_split {L : List RK} {x : B} (ht : rth L x = true) : ∃ b, L = L.take (rpl L x) ++ (x, b) :: L.drop (rpl L x + 1) := by
  obtain ⟨p, hp, hx⟩ := rth_some ht
  obtain ⟨y, b⟩ := p
  simp only at hx
  subst hx
  refine ⟨b, ?_⟩
  have hl := (List.getElem?_eq_some_iff.1 hp).1
  conv => lhs; rw [← List.take_append_drop (rpl L y) L]
  rw [List.drop_eq_getElem_cons hl, (List.getElem?_eq_some_iff.1 hp).2]
theorem rem_pw {L : List RK} {x : B} (h : L.Pairwise (fun a b => a.1 < b.1)) : (rem L x).Pairwise (fun a b => a.1 < b.1) := by
  unfold rem
  rw [← List.eraseIdx_eq_take_drop_succ]
  exact h.sublist (List.eraseIdx_sublist _ _)
theorem rem_mem {L : List RK} {x : B} (h : L.Pairwise (fun a b => a.1 < b.1)) (ht : rth L x = true) {q : RK} : q ∈ rem L x ↔ q ∈ L ∧ q.1 ≠ x := by
  obtain ⟨b, hb⟩ := rem_split ht
  obtain ⟨A, hA⟩ : ∃ A, A = L.take (rpl L x) := ⟨_, rfl⟩
  obtain ⟨C, hC⟩ : ∃ C, C = L.drop (rpl L x + 1) := ⟨_, rfl⟩
  unfold rem
  rw [← hA, ← hC] at hb ⊢
  rw [hb] at h ⊢
  obtain ⟨h1, h2, h3⟩ := List.pairwise_append.1 h
  obtain ⟨h4, h5⟩ := List.pairwise_cons.1 h2
  simp only [List.mem_append, List.mem_cons]
  constructor
  · rintro (hq | hq)
    · refine ⟨.inl hq, fun e => ?_⟩
      have := h3 q hq (x, b) (by simp)
      rw [e] at this
      exact List.lt_irrefl _ this
    · refine ⟨.inr (.inr hq), fun e => ?_⟩
      have := h4 q hq
      rw [e] at this
      exact List.lt_irrefl _ this
  · rintro ⟨hq | rfl | hq, hn⟩
    · exact .inl hq
    · exact absurd rfl hn
    · exact .inr hq
theorem ins_rem {L : List RK} {x : B} {b : Nat} (h : L.Pairwise (fun a b => a.1 < b.1)) (hm : (x, b) ∈ L) : ins (rem L x) x b = L := by
  have ht := (rth_pw x h).2 ⟨b, hm⟩
  refine pw_ext (ins_pw (rem_pw h) (fun q hq => ((rem_mem h ht).1 hq).2)) h (fun q => ?_)
  rw [ins_mem, rem_mem h ht]
  constructor
  · rintro (⟨h1, -⟩ | rfl)
    · exact h1
    · exact hm
  · intro hq
    by_cases e : q.1 = x
    · refine .inr ?_
      obtain ⟨y, v⟩ := q
      simp only at e
      subst e
      obtain ⟨i, hi⟩ := List.getElem?_of_mem hq
      obtain ⟨j, hj⟩ := List.getElem?_of_mem hm
      have := List.pairwise_iff_getElem.1 h
      rcases Nat.lt_trichotomy i j with hij | hij | hij
      · have h2 := this i j (List.getElem?_eq_some_iff.1 hi).1 (List.getElem?_eq_some_iff.1 hj).1 hij
        rw [(List.getElem?_eq_some_iff.1 hi).2, (List.getElem?_eq_some_iff.1 hj).2] at h2
        exact absurd h2 (List.lt_irrefl _)
      · subst hij
        rw [hi] at hj
        injection hj
      · have h2 := this j i (List.getElem?_eq_some_iff.1 hj).1 (List.getElem?_eq_some_iff.1 hi).1 hij
        rw [(List.getElem?_eq_some_iff.1 hi).2, (List.getElem?_eq_some_iff.1 hj).2] at h2
        exact absurd h2 (List.lt_irrefl _)
    · exact .inl ⟨hq, e⟩
/-- The directories' kids, n taken out of the one at dp; and one more put into the one at tp. -/
def kcut (T : List En) (rb : List B → Nat) (dp : List B) (n : B) (p : List B) : List RK := if p = dp then rem (rkd T rb dp) n else rkd T rb p
def kmv (T : List En) (rb : List B → Nat) (dp : List B) (n : B) (tp : List B) (a : B) (b : Nat) (p : List B) : List RK := if p = tp then ins (kcut T rb dp n tp) a b else kcut T rb dp n p
def ucut (rb : List B → Nat) (cp p : List B) : Value := if p = cp then .pointer none else upf rb p
def umv (rb : List B → Nat) (cp tp p : List B) : Value := if p = cp then Pt (rb tp) else upf rb p
/-- Blocks by paths behind a move. -/
def rbm (rb : List B → Nat) (cp q : List B) (p : List B) : Nat := if q <+: p then rb (cp ++ p.drop q.length) else rb p
theorem mem_mvd {T : List En} {c : En} {q : List B} {e : En} : e ∈ mvd T c q ↔ (e ∈ T ∧ ¬ c.p <+: e.p) ∨ ∃ y ∈ T, c.p <+: y.p ∧ e = (y.rel c.p).ins q := by
  unfold mvd
  rw [List.mem_append, mem_out, List.mem_map]
  refine or_congr Iff.rfl ⟨?_, ?_⟩
  · rintro ⟨z, hz, rfl⟩
    obtain ⟨y, hy, h1, rfl⟩ := mem_sub.1 hz
    exact ⟨y, hy, h1, rfl⟩
  · rintro ⟨y, hy, h1, rfl⟩
    exact ⟨_, mem_sub.2 ⟨y, hy, h1, rfl⟩, rfl⟩
theorem kcut_pw {T : List En} {rb : List B → Nat} (h : (T.map En.p).Nodup) (dp : List B) (n : B) (p : List B) : (kcut T rb dp n p).Pairwise (fun a b => a.1 < b.1) := by
  unfold kcut
  split
  · exact rem_pw (rkd_pw h rb dp)
  · exact rkd_pw h rb p
theorem kcut_mem {T : List En} {rb : List B → Nat} (h : (T.map En.p).Nodup) {dp : List B} {n : B} (hn : ∃ e ∈ T, e.p = dp ++ [n]) {p : List B} {x : B} {v : Nat} : (x, v) ∈ kcut T rb dp n p ↔ ((∃ e ∈ T, e.p = p ++ [x]) ∧ v = rb (p ++ [x])) ∧ p ++ [x] ≠ dp ++ [n] := by
  have ht : rth (rkd T rb dp) n = true := (rth_pw n (rkd_pw h rb dp)).2 ⟨_, rkd_mem.2 ⟨hn, rfl⟩⟩
  unfold kcut
  by_cases hp : p = dp
  · subst hp
    rw [if_pos rfl, rem_mem (rkd_pw h rb p) ht, rkd_mem]
    refine and_congr_right fun _ => not_congr ⟨fun e => ?_, fun e => (snoc_inj e).2⟩
    show p ++ [x] = p ++ [n]
    rw [show x = n from e]
  · rw [if_neg hp, rkd_mem]
    exact ⟨fun h1 => ⟨h1, fun e => hp (snoc_inj e).1⟩, fun h1 => h1.1⟩
/-- What is given of a move. -/
structure Mvg (T : List En) (rb : List B → Nat) (d c t : En) (n a : B) : Prop where
  q : Rq T rb
  hd : d ∈ T
  hc : c ∈ T
  ht : t ∈ T
  tk : t.k = 1
  hp : c.p = d.p ++ [n]
  no : ¬ ∃ e ∈ T, e.p = t.p ++ [a]
  nb : ¬ c.p <+: t.p
theorem Mvg.nq {T : List En} {rb : List B → Nat} {d c t : En} {n a : B} (h : Mvg T rb d c t n a) {e : En} (he : e ∈ T) : ¬ (t.p ++ [a]) <+: e.p := fun hp => h.no (h.q.pre _ he rfl hp)
theorem Mvg.nd {T : List En} {rb : List B → Nat} {d c t : En} {n a : B} (h : Mvg T rb d c t n a) : ¬ c.p <+: d.p := fun e => by
  have := e.length_le
  rw [h.hp, List.length_append, List.length_singleton] at this
  omega
theorem rbm_out {T : List En} {rb : List B → Nat} {d c t : En} {n a : B} (h : Mvg T rb d c t n a) {e : En} (he : e ∈ T) : rbm rb c.p (t.p ++ [a]) e.p = rb e.p := by
  unfold rbm
  rw [if_neg (h.nq he)]
theorem rbm_ins {rb : List B → Nat} {cp q r : List B} : rbm rb cp q (q ++ r) = rb (cp ++ r) := by
  unfold rbm
  rw [if_pos (List.prefix_append _ _), List.drop_left]
theorem rbm_at {rb : List B → Nat} {cp q : List B} : rbm rb cp q q = rb cp := by
  unfold rbm
  rw [if_pos (List.prefix_refl _)]
  simp
theorem ins_path {y : En} {cp q : List B} : ((y.rel cp).ins q).p = q ++ y.p.drop cp.length := rfl
theorem pre_split {cp yp : List B} (h : cp <+: yp) : ∃ r, yp = cp ++ r ∧ yp.drop cp.length = r := by
  obtain ⟨r, rfl⟩ := h
  exact ⟨r, rfl, List.drop_left⟩
/-- The plain facts behind a move. -/
theorem Mvg.rq {T : List En} {rb : List B → Nat} {d c t : En} {n a : B} (h : Mvg T rb d c t n a) : Rq (mvd T c (t.p ++ [a])) (rbm rb c.p (t.p ++ [a])) := by
  have hcp : c.p ≠ [] := by rw [h.hp]; simp
  refine ⟨?_, ?_, ?_, ?_, ?_, ?_⟩
  · unfold mvd
    rw [List.map_append, List.map_map, List.nodup_append]
    refine ⟨h.q.one.sublist ((List.filter_sublist).map En.p), ?_, ?_⟩
    · unfold sub
      rw [List.map_map]
      have h1 : ((und c.p T).map En.p).Nodup := h.q.one.sublist ((List.filter_sublist).map En.p)
      rw [List.Nodup, List.pairwise_map] at h1 ⊢
      refine h1.imp_of_mem fun {x y} hx hy hxy e => hxy ?_
      have e2 : (x.rel c.p).p = (y.rel c.p).p := List.append_cancel_left e
      rw [← rel_p (mem_und.1 hx).2, ← rel_p (mem_und.1 hy).2, e2]
    · intro x hx y hy e
      obtain ⟨z, hz, rfl⟩ := List.mem_map.1 hx
      obtain ⟨v, hv, rfl⟩ := List.mem_map.1 hy
      exact h.nq (mem_out.1 hz).1 (by rw [e]; exact List.prefix_append _ _)
  · obtain ⟨r, h1, h2, h3⟩ := h.q.root
    exact ⟨r, mem_mvd.2 (.inl ⟨h1, fun e => hcp (List.prefix_nil.1 (h2 ▸ e))⟩), h2, h3⟩
  · intro e he hn
    rcases mem_mvd.1 he with ⟨h1, h2⟩ | ⟨y, hy, h1, rfl⟩
    · obtain ⟨x, k1, k2, k3⟩ := h.q.par e h1 hn
      exact ⟨x, mem_mvd.2 (.inl ⟨k1, fun e2 => h2 (e2.trans (by rw [k2]; exact List.dropLast_prefix _))⟩), k2, k3⟩
    · obtain ⟨r, hr, hr2⟩ := pre_split h1
      by_cases hr0 : r = []
      · exact ⟨t, mem_mvd.2 (.inl ⟨h.ht, h.nb⟩), by rw [ins_path, hr2, hr0, List.append_nil, List.dropLast_concat], h.tk⟩
      · obtain ⟨x, k1, k2, k3⟩ := h.q.par y hy (by rw [hr]; simp [hr0])
        rw [hr, List.dropLast_append_of_ne_nil hr0] at k2
        exact ⟨(x.rel c.p).ins (t.p ++ [a]), mem_mvd.2 (.inr ⟨x, k1, by rw [k2]; exact List.prefix_append _ _, rfl⟩), by rw [ins_path, ins_path, hr2, k2, List.drop_left, List.dropLast_append_of_ne_nil hr0], k3⟩
  · intro e he
    rcases mem_mvd.1 he with ⟨h1, -⟩ | ⟨y, hy, -, rfl⟩
    · exact h.q.knd e h1
    · exact h.q.knd y hy
  · have : (mvd T c (t.p ++ [a])).length = T.length := by
      unfold mvd sub
      rw [List.length_append, List.length_map, List.length_map, ← List.length_append]
      exact (out_und c.p T).length_eq
    rw [this]; exact h.q.few
  · intro x hx y hy e
    rcases mem_mvd.1 hx with ⟨h1, h2⟩ | ⟨u, hu, h1, rfl⟩ <;> rcases mem_mvd.1 hy with ⟨g1, g2⟩ | ⟨v, hv, g1, rfl⟩
    · rw [rbm_out h h1, rbm_out h g1] at e
      exact h.q.inj x h1 y g1 e
    · obtain ⟨r, hr, hr2⟩ := pre_split g1
      rw [rbm_out h h1, ins_path, hr2, rbm_ins, ← hr] at e
      exact absurd (h.q.inj x h1 v hv e ▸ g1) h2
    · obtain ⟨r, hr, hr2⟩ := pre_split h1
      rw [rbm_out h g1, ins_path, hr2, rbm_ins, ← hr] at e
      exact absurd (h.q.inj u hu y g1 e ▸ h1) g2
    · obtain ⟨r, hr, hr2⟩ := pre_split h1
      obtain ⟨s, hs, hs2⟩ := pre_split g1
      rw [ins_path, ins_path, hr2, hs2, rbm_ins, rbm_ins, ← hr, ← hs] at e
      have := h.q.inj u hu v hv e
      rw [hr, hs] at this
      rw [ins_path, ins_path, hr2, hs2, List.append_cancel_left this]
/-- What the directories hold behind a move. -/
theorem Mvg.kids {T : List En} {rb : List B → Nat} {d c t : En} {n a : B} (h : Mvg T rb d c t n a) :
    (∀ e ∈ T, ¬ c.p <+: e.p → rkd (mvd T c (t.p ++ [a])) (rbm rb c.p (t.p ++ [a])) e.p = kmv T rb d.p n t.p a (rb c.p) e.p) ∧
    (∀ y ∈ T, c.p <+: y.p → rkd (mvd T c (t.p ++ [a])) (rbm rb c.p (t.p ++ [a])) ((y.rel c.p).ins (t.p ++ [a])).p = kmv T rb d.p n t.p a (rb c.p) y.p) := by
  have hn : ∃ e ∈ T, e.p = d.p ++ [n] := ⟨c, h.hc, h.hp⟩
  have hone := h.rq.one
  refine ⟨fun e he hce => ?_, fun y hy hcy => ?_⟩
  · have hmem : ∀ x v, (x, v) ∈ rkd (mvd T c (t.p ++ [a])) (rbm rb c.p (t.p ++ [a])) e.p ↔ (x, v) ∈ kcut T rb d.p n e.p ∨ (e.p = t.p ∧ x = a ∧ v = rb c.p) := fun x v => by
      rw [rkd_mem, kcut_mem h.q.one hn]
      constructor
      · rintro ⟨⟨z, hz, hzp⟩, rfl⟩
        rcases mem_mvd.1 hz with ⟨h1, h2⟩ | ⟨u, hu, h1, rfl⟩
        · refine .inl ⟨⟨⟨z, h1, hzp⟩, by rw [← hzp, rbm_out h h1]⟩, fun e2 => h2 ?_⟩
          rw [hzp, e2, ← h.hp]
          exact List.prefix_refl _
        · obtain ⟨r, hr, hr2⟩ := pre_split h1
          rw [ins_path, hr2] at hzp
          by_cases hr0 : r = []
          · rw [hr0, List.append_nil] at hzp
            have := snoc_inj hzp
            refine .inr ⟨this.1.symm, this.2.symm, ?_⟩
            rw [← hzp, rbm_at]
          · refine absurd ?_ (h.nq he)
            have h3 : (t.p ++ [a]) <+: (e.p ++ [x]).dropLast := by rw [← hzp, List.dropLast_append_of_ne_nil hr0]; exact List.prefix_append _ _
            rwa [List.dropLast_concat] at h3
      · rintro (⟨⟨⟨z, hz, hzp⟩, rfl⟩, hne⟩ | ⟨h1, rfl, rfl⟩)
        · refine ⟨⟨z, mem_mvd.2 (.inl ⟨hz, fun h3 => ?_⟩), hzp⟩, by rw [← hzp, rbm_out h hz]⟩
          rw [hzp] at h3
          rcases pre_snoc h3 with e3 | e3
          · rw [h.hp] at e3; exact hne e3.symm
          · exact hce e3
        · refine ⟨⟨(c.rel c.p).ins (t.p ++ [x]), mem_mvd.2 (.inr ⟨c, h.hc, List.prefix_refl _, rfl⟩), ?_⟩, ?_⟩
          · rw [ins_path, h1]; simp
          · rw [h1, rbm_at]
    unfold kmv
    by_cases het : e.p = t.p
    · rw [if_pos het]
      refine pw_ext (rkd_pw hone _ _) (ins_pw (kcut_pw h.q.one _ _ _) (fun r hr hx => ?_)) (fun r => ?_)
      · obtain ⟨y, v⟩ := r
        simp only at hx
        subst hx
        exact h.no ((kcut_mem h.q.one hn).1 hr).1.1
      · obtain ⟨y, v⟩ := r
        rw [hmem, ins_mem, het, Prod.mk.injEq]
        exact or_congr Iff.rfl ⟨fun h1 => h1.2, fun h1 => ⟨rfl, h1⟩⟩
    · rw [if_neg het]
      refine pw_ext (rkd_pw hone _ _) (kcut_pw h.q.one _ _ _) (fun r => ?_)
      obtain ⟨y, v⟩ := r
      rw [hmem]
      exact ⟨fun h1 => h1.resolve_right (fun h2 => het h2.1), .inl⟩
  · obtain ⟨r, hr, hr2⟩ := pre_split hcy
    have h1 : y.p ≠ t.p := fun e => h.nb (e ▸ hcy)
    have h2 : y.p ≠ d.p := fun e => h.nd (e ▸ hcy)
    unfold kmv kcut
    rw [if_neg h1, if_neg h2]
    refine pw_ext (rkd_pw hone _ _) (rkd_pw h.q.one _ _) (fun s => ?_)
    obtain ⟨x, v⟩ := s
    rw [rkd_mem, rkd_mem, ins_path, hr2]
    have e1 : (t.p ++ [a]) ++ r ++ [x] = (t.p ++ [a]) ++ (r ++ [x]) := List.append_assoc _ _ _
    have e2 : y.p ++ [x] = c.p ++ (r ++ [x]) := by rw [hr, List.append_assoc]
    rw [e1, rbm_ins, e2]
    refine and_congr ⟨?_, ?_⟩ Iff.rfl
    · rintro ⟨z, hz, hzp⟩
      rcases mem_mvd.1 hz with ⟨g1, -⟩ | ⟨u, hu, g1, rfl⟩
      · exact absurd (by rw [hzp]; exact List.prefix_append _ _) (h.nq g1)
      · obtain ⟨s, hs, hs2⟩ := pre_split g1
        rw [ins_path, hs2] at hzp
        exact ⟨u, hu, by rw [hs, List.append_cancel_left hzp]⟩
    · rintro ⟨z, hz, hzp⟩
      exact ⟨(z.rel c.p).ins _, mem_mvd.2 (.inr ⟨z, hz, by rw [hzp]; exact List.prefix_append _ _, rfl⟩), by rw [ins_path, hzp, List.drop_left]⟩
theorem Mvg.ups {T : List En} {rb : List B → Nat} {d c t : En} {n a : B} (h : Mvg T rb d c t n a) :
    (∀ e ∈ T, ¬ c.p <+: e.p → upf (rbm rb c.p (t.p ++ [a])) e.p = umv rb c.p t.p e.p) ∧
    (∀ y ∈ T, c.p <+: y.p → upf (rbm rb c.p (t.p ++ [a])) ((y.rel c.p).ins (t.p ++ [a])).p = umv rb c.p t.p y.p) := by
  refine ⟨fun e he hce => ?_, fun y hy hcy => ?_⟩
  · have hne : e.p ≠ c.p := fun e2 => hce (by rw [e2]; exact List.prefix_refl _)
    unfold umv
    rw [if_neg hne]
    unfold upf
    by_cases h0 : e.p = []
    · rw [if_pos h0, if_pos h0]
    · rw [if_neg h0, if_neg h0]
      obtain ⟨x, k1, k2, -⟩ := h.q.par e he h0
      rw [← k2, rbm_out h k1]
  · obtain ⟨r, hr, hr2⟩ := pre_split hcy
    rw [ins_path, hr2]
    have hL : upf (rbm rb c.p (t.p ++ [a])) ((t.p ++ [a]) ++ r) = Pt (rbm rb c.p (t.p ++ [a]) ((t.p ++ [a]) ++ r).dropLast) := by
      unfold upf
      rw [if_neg (by simp)]
    rw [hL]
    unfold umv
    by_cases hr0 : r = []
    · rw [hr0, List.append_nil] at hr ⊢
      rw [if_pos hr, List.dropLast_concat]
      exact congrArg Pt (rbm_out h h.ht)
    · have hne : y.p ≠ c.p := fun e => hr0 (by rw [hr] at e; simpa using e)
      rw [if_neg hne, List.dropLast_append_of_ne_nil hr0, rbm_ins]
      unfold upf
      rw [if_neg (by rw [hr]; simp [hr0]), hr, List.dropLast_append_of_ne_nil hr0]
/-- The document's tree behind a move. -/
theorem Mvg.told {F : World → Nat → B → Prop} {lo : Nat} {w : World} {T : List En} {rb : List B → Nat} {d c t : En} {n a : B} (h : Mvg T rb d c t n a) (hl : ∀ e ∈ T, lo ≤ rb e.p) (g : Rg F w T rb (kmv T rb d.p n t.p a (rb c.p)) (umv rb c.p t.p)) : Rt F lo w (mvd T c (t.p ++ [a])) (rbm rb c.p (t.p ++ [a])) := by
  obtain ⟨k1, k2⟩ := h.kids
  obtain ⟨u1, u2⟩ := h.ups
  have hbk : ∀ y ∈ T, c.p <+: y.p → rbm rb c.p (t.p ++ [a]) ((y.rel c.p).ins (t.p ++ [a])).p = rb y.p := fun y _ hcy => by
    obtain ⟨r, hr, hr2⟩ := pre_split hcy
    rw [ins_path, hr2, rbm_ins, hr]
  refine Rt.of h.rq (fun e he => ?_) ⟨fun e he hk => ?_, fun e he hk => ?_, fun e he hk => ?_, fun e he hk => ?_⟩ <;> rcases mem_mvd.1 he with ⟨h1, h2⟩ | ⟨y, hy, h1, rfl⟩
  · rw [rbm_out h h1]; exact hl e h1
  · rw [hbk y hy h1]; exact hl y hy
  · rw [rbm_out h h1, k1 e h1 h2, u1 e h1 h2]; exact g.dir e h1 hk
  · rw [hbk y hy h1, k2 y hy h1, u2 y hy h1]; exact g.dir y hy hk
  · rw [rbm_out h h1]; exact g.lnk e h1 hk
  · rw [hbk y hy h1]; exact g.lnk y hy hk
  · rw [rbm_out h h1]; exact g.fil e h1 hk
  · rw [hbk y hy h1]; exact g.fil y hy hk
  · rw [rbm_out h h1]; exact g.mnt e h1 hk
  · rw [hbk y hy h1]; exact g.mnt y hy hk
/-- The document's tree without a node that holds nothing. -/
theorem Rg.dropped {F : World → Nat → B → Prop} {lo : Nat} {w : World} {T : List En} {rb : List B → Nat} {d c : En} {n : B} (q : Rq T rb) (hc : c ∈ T) (hp : c.p = d.p ++ [n]) (hno : ∀ e ∈ T, c.p <+: e.p → e = c) (hl : ∀ e ∈ T, lo ≤ rb e.p) (g : Rg F w T rb (kcut T rb d.p n) (ucut rb c.p)) : Rt F lo w (out c.p T) rb := by
  have hcp : c.p ≠ [] := by rw [hp]; simp
  have hn : ∃ e ∈ T, e.p = d.p ++ [n] := ⟨c, hc, hp⟩
  have hone : ((out c.p T).map En.p).Nodup := q.one.sublist ((List.filter_sublist).map En.p)
  refine Rt.of ⟨hone, ?_, ?_, fun e he => q.knd e (mem_out.1 he).1, Nat.le_trans (List.length_filter_le _ _) q.few, fun a ha b hb => q.inj a (mem_out.1 ha).1 b (mem_out.1 hb).1⟩ (fun e he => hl e (mem_out.1 he).1) ⟨fun e he hk => ?_, fun e he hk => g.lnk e (mem_out.1 he).1 hk, fun e he hk => g.fil e (mem_out.1 he).1 hk, fun e he hk => g.mnt e (mem_out.1 he).1 hk⟩
  · obtain ⟨r, h1, h2, h3⟩ := q.root
    exact ⟨r, mem_out.2 ⟨h1, fun e => hcp (List.prefix_nil.1 (h2 ▸ e))⟩, h2, h3⟩
  · intro e he h0
    obtain ⟨h1, h2⟩ := mem_out.1 he
    obtain ⟨x, k1, k2, k3⟩ := q.par e h1 h0
    exact ⟨x, mem_out.2 ⟨k1, fun e2 => h2 (e2.trans (by rw [k2]; exact List.dropLast_prefix _))⟩, k2, k3⟩
  · obtain ⟨h1, h2⟩ := mem_out.1 he
    have e1 : rkd (out c.p T) rb e.p = kcut T rb d.p n e.p := by
      refine pw_ext (rkd_pw hone _ _) (kcut_pw q.one _ _ _) (fun r => ?_)
      obtain ⟨x, v⟩ := r
      rw [rkd_mem, kcut_mem q.one hn]
      constructor
      · rintro ⟨⟨z, hz, hzp⟩, rfl⟩
        obtain ⟨h3, h4⟩ := mem_out.1 hz
        exact ⟨⟨⟨z, h3, hzp⟩, rfl⟩, fun e2 => h4 (by rw [hzp, e2, ← hp]; exact List.prefix_refl _)⟩
      · rintro ⟨⟨⟨z, hz, hzp⟩, rfl⟩, hne⟩
        refine ⟨⟨z, mem_out.2 ⟨hz, fun h3 => hne ?_⟩, hzp⟩, rfl⟩
        rw [← hzp, hno z hz h3, hp]
    have e2 : upf rb e.p = ucut rb c.p e.p := by
      unfold ucut
      rw [if_neg (fun e3 => h2 (by rw [e3]; exact List.prefix_refl _))]
    rw [e1, e2]
    exact g.dir e h1 hk
/-- Put back where it stood. -/
theorem kmv_back {T : List En} {rb : List B → Nat} {d c : En} {n : B} (q : Rq T rb) (hc : c ∈ T) (hp : c.p = d.p ++ [n]) : (∀ p, kmv T rb d.p n d.p n (rb c.p) p = rkd T rb p) ∧ ∀ p, umv rb c.p d.p p = upf rb p := by
  refine ⟨fun p => ?_, fun p => ?_⟩
  · unfold kmv kcut
    by_cases h : p = d.p
    · rw [if_pos h, if_pos rfl, h]
      exact ins_rem (rkd_pw q.one rb d.p) (rkd_mem.2 ⟨⟨c, hc, hp⟩, by rw [hp]⟩)
    · rw [if_neg h, if_neg h]
  · unfold umv upf
    by_cases h : p = c.p
    · rw [if_pos h, h, if_neg (by rw [hp]; simp), hp, List.dropLast_concat]
    · rw [if_neg h]
end Go.Proofs.YtbnaegoahdcejaaGreatDoor

namespace Go.Proofs.YtbnaegoahdcejaaGreatDoor
open Go.RowKit Go.ChangeMaps

/-- How high what stands at p is, where the directories from p down hold what they hold. -/
theorem Rg.height {F : World → Nat → B → Prop} {w : World} {S : List En} {rb : List B → Nat} {kd : List B → List RK} {up : List B → Value} (h : Rg F w S rb kd up) (q : Rq S rb) (hdep : ∀ e ∈ S, e.p.length ≤ 64) (cp : List B) (hkd : ∀ p, cp <+: p → kd p = rkd S rb p) : ∀ (n : Nat) (e : En), e ∈ S → cp <+: e.p → 64 ≤ e.p.length + n → RHt w (rb e.p) (hgt S e.p) := by
  have hz : ∀ e ∈ S, (∀ c ∈ S, e.p <+: c.p → c.p.length ≤ e.p.length) → hgt S e.p = 0 := fun e he h1 => (hgt_eq (fun c hc hp => by have := h1 c hc hp; omega) (.inl rfl)).symm
  have leaf : ∀ e ∈ S, e.k ≠ 1 → ∀ c ∈ S, e.p <+: c.p → c.p.length ≤ e.p.length := fun e he hk c hc hp => by
    by_cases hl : c.p.length ≤ e.p.length
    · exact hl
    · obtain ⟨r, hr⟩ := hp
      cases r with
      | nil => rw [← hr]; simp
      | cons x r =>
        obtain ⟨z, hz1, hz2⟩ := q.pre _ hc rfl (show e.p ++ [x] <+: c.p from ⟨r, by rw [← hr]; simp⟩)
        obtain ⟨d, hd1, hd2, hd3⟩ := q.par z hz1 (by rw [hz2]; simp)
        rw [hz2, List.dropLast_concat] at hd2
        rw [rone_p q.one hd1 he hd2] at hd3
        exact absurd hd3 hk
  intro n
  induction n with
  | zero =>
    intro e he hce hn
    have h1 : ∀ c ∈ S, e.p <+: c.p → c.p.length ≤ e.p.length := fun c hc _ => by have := hdep c hc; omega
    rw [hz e he h1]
    by_cases hk : e.k = 1
    · have hR := h.dir e he hk
      rw [hkd e.p hce] at hR
      have hnil : rkd S rb e.p = [] := by
        cases hL : rkd S rb e.p with
        | nil => rfl
        | cons y L =>
          obtain ⟨x, v⟩ := y
          have hm : (x, v) ∈ rkd S rb e.p := by rw [hL]; simp
          obtain ⟨⟨z, hz1, hz2⟩, -⟩ := rkd_mem.1 hm
          have h2 := hdep z hz1
          rw [hz2, List.length_append, List.length_singleton] at h2
          omega
      rw [hnil] at hR
      exact fun W hW => rheight_none (hR.below hW)
    · obtain ⟨f, t, m, hR, -⟩ := h.lef q he hk
      exact fun W hW => rheight_none (hR.below hW)
  | succ n ih =>
    intro e he hce hn
    by_cases hk : e.k = 1
    · have hR := h.dir e he hk
      rw [hkd e.p hce] at hR
      obtain ⟨g, hg⟩ : ∃ g : Nat → Nat, ∀ p ∈ rkd S rb e.p, g p.2 = hgt S (e.p ++ [p.1]) := by
        classical
        refine ⟨fun b => if hb : ∃ x, (x, b) ∈ rkd S rb e.p then hgt S (e.p ++ [hb.choose]) else 0, fun p hp => ?_⟩
        have hb : ∃ x, (x, p.2) ∈ rkd S rb e.p := ⟨p.1, hp⟩
        show (if hb : ∃ x, (x, p.2) ∈ rkd S rb e.p then hgt S (e.p ++ [hb.choose]) else 0) = _
        rw [dif_pos hb]
        obtain ⟨⟨z, hz1, hz2⟩, hz3⟩ := rkd_mem.1 hb.choose_spec
        obtain ⟨⟨y, hy1, hy2⟩, hy3⟩ := rkd_mem.1 (show (p.1, p.2) ∈ _ from hp)
        have h3 : rb z.p = rb y.p := by rw [hz2, hy2, ← hz3, ← hy3]
        have h4 := q.inj z hz1 y hy1 h3
        rw [hz2, hy2] at h4
        rw [h4]
      have hgk : ∀ p ∈ rkd S rb e.p, RHt w p.2 (g p.2) ∧ g p.2 ≤ 1000000 := fun p hp => by
        obtain ⟨⟨y, hy1, hy2⟩, hy3⟩ := rkd_mem.1 (show (p.1, p.2) ∈ _ from hp)
        rw [hg p hp, hy3, ← hy2]
        refine ⟨ih y hy1 (by rw [hy2]; exact hce.trans (List.prefix_append _ _)) (by rw [hy2, List.length_append, List.length_singleton]; omega), ?_⟩
        rcases hgt_is S y.p with h0 | ⟨z, hz1, -, hz2⟩
        · omega
        · have := hdep z hz1; omega
      have hT := rheight_kids hR g hgk (Nat.le_trans (rkd_few q e.p) (by decide))
      have heq : rtop g (rkd S rb e.p) = hgt S e.p := by
        refine hgt_eq (fun c hc hp => ?_) ?_
        · obtain ⟨r, hr⟩ := hp
          cases r with
          | nil => rw [← hr]; simp
          | cons x r =>
            obtain ⟨z, hz1, hz2⟩ := q.pre _ hc rfl (show e.p ++ [x] <+: c.p from ⟨r, by rw [← hr]; simp⟩)
            have hm : (x, rb (e.p ++ [x])) ∈ rkd S rb e.p := rkd_mem.2 ⟨⟨z, hz1, hz2⟩, rfl⟩
            have h1 : hgt S (e.p ++ [x]) + 1 ≤ rtop g (rkd S rb e.p) := by
              have := le_rtop (f := g) hm
              rw [hg _ hm] at this
              exact this
            have h2 := hgt_le hc (show e.p ++ [x] <+: c.p from ⟨r, by rw [← hr]; simp⟩)
            rw [List.length_append, List.length_singleton] at h2
            omega
        · rcases rtop_is g (rkd S rb e.p) with h0 | ⟨p, hp, h0⟩
          · exact .inl h0
          · rw [hg p hp] at h0
            obtain ⟨⟨y, hy1, hy2⟩, -⟩ := rkd_mem.1 (show (p.1, p.2) ∈ _ from hp)
            rcases hgt_is S (e.p ++ [p.1]) with h1 | ⟨z, hz1, hz2, hz3⟩
            · exact .inr ⟨y, hy1, by rw [hy2]; exact List.prefix_append _ _, by rw [hy2, h0, h1]; simp⟩
            · exact .inr ⟨z, hz1, (List.prefix_append _ _).trans hz2, by rw [hz3, h0]; simp; omega⟩
      rw [← heq]
      exact hT
    · rw [hz e he (leaf e he hk)]
      obtain ⟨f, t, m, hR, -⟩ := h.lef q he hk
      exact fun W hW => rheight_none (hR.below hW)
end Go.Proofs.YtbnaegoahdcejaaGreatDoor

namespace Go.Proofs.YtbnaegoahdcejaaGreatDoor
open Go.RowKit Go.ChangeMaps

set_option maxRecDepth 20000 in
set_option maxHeartbeats 1000000 in
theorem below19_any (v : Value) (l : List Nat) (top : Nat) (w : World) {ct : Array Value} {tt : TypeId} (ht : w.heap[top]? = some (.cells ct tt (0, 0))) (h : RUp w v l) : Calls Tryz.prog 80 #[Pt top, v] w fun e w' => e = .returned (.bool (decide (top ∈ l))) ∧ w' = w := by
  have HU := aside h
  clear h
  go_enter Tryz.func80, Tryz.ntmps80
  go_wp2_with fail
  go_loopg [5] l.length (fun g s5 wx => ∃ l', l'.length = g ∧ RUp w s5 l' ∧ wx = w ∧ (top ∈ l ↔ top ∈ l'))
  case atStart => exact ⟨l, rfl, HU.out, rfl, Iff.rfl⟩
  case round =>
    obtain ⟨l', hl, hu, rfl, hm⟩ := hrel
    cases l' with
    | nil =>
      obtain rfl : _ = Value.pointer none := hu
      go_wp2_with fail
      go_ret
      exact ⟨by rw [decide_eq_false (by rw [hm]; simp)]; rfl, rfl⟩
    | cons d l2 =>
      obtain ⟨rfl, a, b, c, e, f, u, hd, hu2⟩ := hu
      have hc : wr.cell? ⟨d, 5, none⟩ = some u := by rw [cell_of_row wr d 5 _ _ _ hd]; rfl
      have heq := eq_rnode hd ht
      have HU2 := aside hu2
      have HM := aside hm
      clear hu2 hm hd
      by_cases hd : d = top
      · subst hd
        rw [decide_eq_true rfl] at heq
        go_wp2_with fail
        go_ret
        exact ⟨by rw [decide_eq_true (by rw [HM.out]; simp)]; rfl, rfl⟩
      · rw [decide_eq_false hd] at heq
        go_wp2_with fail
        go_roundg l2.length
        case measure => simp at hl; omega
        case rel => exact ⟨l2, rfl, HU2.out, rfl, by rw [HM.out, List.mem_cons]; exact ⟨fun h => h.resolve_left (fun e => hd e.symm), .inr⟩⟩
theorem rkd_at {T : List En} {rb : List B → Nat} (q : Rq T rb) {d c : En} {n : B} (hc : c ∈ T) (hp : c.p = d.p ++ [n]) : rth (rkd T rb d.p) n = true ∧ (rkd T rb d.p)[rpl (rkd T rb d.p) n]? = some (n, rb c.p) := by
  have ht : rth (rkd T rb d.p) n = true := (rth_pw n (rkd_pw q.one rb d.p)).2 ⟨_, rkd_mem.2 ⟨⟨c, hc, hp⟩, rfl⟩⟩
  refine ⟨ht, ?_⟩
  obtain ⟨p, h1, h2⟩ := rth_some ht
  obtain ⟨y, v⟩ := p
  simp only at h2
  subst h2
  obtain ⟨-, rfl⟩ := rkd_mem.1 (List.mem_of_getElem? h1)
  rw [h1, hp]
theorem rkd_few2 {T : List En} {rb : List B → Nat} (q : Rq T rb) (p : List B) : (rkd T rb p).length < T.length := by
  unfold rkd kidE
  rw [List.length_map, (srt_perm En.nm _).length_eq]
  obtain ⟨r, hr, hrp, -⟩ := q.root
  unfold kidU
  rw [List.length_filter_lt_length_iff_exists]
  exact ⟨r, hr, by simp [hrp]⟩
/-- Take. -/
theorem rg_take {F : World → Nat → B → Prop} (hF : Fst F) {w : World} {T : List En} {rb : List B → Nat} (g : Rg F w T rb (rkd T rb) (upf rb)) (q : Rq T rb) {d c : En} {n : B} (hd : d ∈ T) (hdk : d.k = 1) (hc : c ∈ T) (hp : c.p = d.p ++ [n]) :
    Calls Tryz.prog 81 #[Pt (rb d.p), .string (ba n)] w fun r w' => r = .returned (.tuple #[Pt (rb c.p), .int .i64 0]) ∧ Rg F w' T rb (kcut T rb d.p n) (ucut rb c.p) ∧ Upd (fun k => ∃ e ∈ T, e.k = 1 ∧ (e.p = d.p ∨ e.p = c.p) ∧ k = rb e.p) w w' := by
  obtain ⟨ht, hat⟩ := rkd_at q hc hp
  have hcd : c.p ≠ d.p := fun e => by have := congrArg List.length (e ▸ hp); simp at this
  have hne : rb c.p ≠ rb d.p := fun e => hcd (q.inj c hc d hd e)
  have hL := Nat.le_trans (rkd_few q d.p) (show 100000 ≤ 1000000 by decide)
  have fin : ∀ {k2 : Int} {f2 : Value} {t2 : ByteArray} {m2 : Value} {L2 : List RK} {u2 : Value}, Rc w (rb c.p) k2 f2 t2 m2 L2 u2 → k2 = (c.k : Int) → (c.k = 1 → f2 = .pointer none ∧ t2 = ⟨#[]⟩ ∧ m2 = .pointer none ∧ L2 = rkd T rb c.p) → Calls Tryz.prog 81 #[Pt (rb d.p), .string (ba n)] w fun r w' => r = .returned (.tuple #[Pt (rb c.p), .int .i64 0]) ∧ Rg F w' T rb (kcut T rb d.p n) (ucut rb c.p) ∧ Upd (fun k => ∃ e ∈ T, e.k = 1 ∧ (e.p = d.p ∨ e.p = c.p) ∧ k = rb e.p) w w' := by
    intro k2 f2 t2 m2 L2 u2 hE hk2 h1
    refine (rTake_any (g.dir d hd hdk) hE n hL ht hat hne).mono ?_
    rintro r w' ⟨rfl, z1, z2, z3⟩
    have u : Upd (fun k => ∃ e ∈ T, e.k = 1 ∧ (e.p = d.p ∨ e.p = c.p) ∧ k = rb e.p) w w' := z3.mono (fun k _ hk => by
      rcases hk with rfl | ⟨e, rfl⟩
      · exact ⟨d, hd, hdk, .inl rfl, rfl⟩
      · exact ⟨c, hc, by omega, .inr rfl, rfl⟩)
    refine ⟨rfl, g.step hF q (fun p => p = d.p ∨ p = c.p) u (fun e he hk hx => ?_) (fun e he hk hx => ?_), u⟩
    · rcases hx with hx | hx
      · rw [hx]
        unfold kcut ucut
        rw [if_pos rfl, if_neg (fun e2 => hcd e2.symm)]
        exact z1
      · obtain rfl : e = c := rone_p q.one he hc hx
        obtain ⟨rfl, rfl, rfl, rfl⟩ := h1 hk
        unfold kcut ucut
        rw [if_neg hcd, if_pos rfl]
        exact z2 (by omega)
    · unfold kcut ucut
      rw [if_neg (fun e2 => hx (.inl e2)), if_neg (fun e2 => hx (.inr e2))]
      exact ⟨rfl, rfl⟩
  by_cases hk : c.k = 1
  · exact fin (g.dir c hc hk) (by rw [hk]; rfl) (fun _ => ⟨rfl, rfl, rfl, rfl⟩)
  · obtain ⟨f, t, m, hR, -⟩ := g.lef q hc hk
    exact fin hR rfl (fun e => absurd e hk)
/-- What Add of what was taken answers, where the name is free. -/
def acx (T : List En) (cp tp : List B) (a : B) : Int := if nameOk (ba a) = false then 190 else if 64 < tp.length + hgt T cp + 1 then 3 else 0
theorem rg_add {F : World → Nat → B → Prop} (hF : Fst F) {w : World} {T : List En} {rb : List B → Nat} {d c t : En} {n : B} (g : Rg F w T rb (kcut T rb d.p n) (ucut rb c.p)) (q : Rq T rb) (hdep : ∀ e ∈ T, e.p.length ≤ 64) (hfew : T.length ≤ 4096) (hc : c ∈ T) (ht : t ∈ T) (htk : t.k = 1) (hp : c.p = d.p ++ [n]) (hnb : ¬ c.p <+: t.p) (a : B) (ha : a.length ≤ 1000000000) (hno : t.p ++ [a] = c.p ∨ ¬ ∃ e ∈ T, e.p = t.p ++ [a]) :
    Calls Tryz.prog 40 #[Pt (rb t.p), .string (ba a), Pt (rb c.p)] w fun r w' => r = .returned (.int .i64 (acx T c.p t.p a)) ∧ ((acx T c.p t.p a = 0 ∧ Rg F w' T rb (kmv T rb d.p n t.p a (rb c.p)) (umv rb c.p t.p) ∧ Upd (fun k => ∃ e ∈ T, e.k = 1 ∧ (e.p = t.p ∨ e.p = c.p) ∧ k = rb e.p) w w') ∨ (acx T c.p t.p a ≠ 0 ∧ Below w.heap.size w w')) := by
  have hn : ∃ e ∈ T, e.p = d.p ++ [n] := ⟨c, hc, hp⟩
  have htc : t.p ≠ c.p := fun e => hnb (by rw [e]; exact List.prefix_refl _)
  have hU := g.ways q _ ht htk rfl (fun r hr => by
    unfold ucut
    exact if_neg (fun e : r = c.p => hnb (by rw [← e]; exact hr)))
  have hH := g.height q hdep c.p (fun p hcp => by
    unfold kcut
    rw [if_neg]
    intro e
    have := hcp.length_le
    rw [e, hp, List.length_append, List.length_singleton] at this
    omega) 64 c hc (List.prefix_refl _) (by omega)
  have hHl : hgt T c.p ≤ 1000000 := by
    rcases hgt_is T c.p with h0 | ⟨z, hz1, -, hz2⟩
    · omega
    · have := hdep z hz1; omega
  have hin : ¬ rb c.p ∈ rb t.p :: rway rb t.p.length t.p := fun hm => by
    rcases List.mem_cons.1 hm with e | hm
    · exact htc (q.inj c hc t ht e).symm
    · obtain ⟨r, hr, e⟩ := rway_mem hm
      obtain ⟨z, hz, hzp⟩ := q.pre _ ht rfl hr
      rw [← hzp] at e
      have := q.inj c hc z hz e
      rw [this, hzp] at hnb
      exact hnb hr
  have hkl : (kcut T rb d.p n t.p).length < 4096 := by
    have h1 : (kcut T rb d.p n t.p).length ≤ (rkd T rb t.p).length := by
      unfold kcut
      split
      · next e =>
        rw [e]
        unfold rem
        rw [← List.eraseIdx_eq_take_drop_succ]
        exact List.length_eraseIdx_le _ _
      · exact Nat.le_refl _
    have := rkd_few2 q t.p
    omega
  have hth : rth (kcut T rb d.p n t.p) a = false := by
    rw [← Bool.not_eq_true, rth_pw a (kcut_pw q.one d.p n t.p)]
    rintro ⟨v, hv⟩
    obtain ⟨⟨⟨z, hz1, hz2⟩, -⟩, hz3⟩ := (kcut_mem q.one hn).1 hv
    rcases hno with e | hno
    · exact hz3 (by rw [e, hp])
    · exact hno ⟨z, hz1, hz2⟩
  have hdt := hdep t ht
  have fin : ∀ {k2 : Int} {f2 : Value} {t2 : ByteArray} {m2 : Value} {L2 : List RK}, Rc w (rb c.p) k2 f2 t2 m2 L2 (.pointer none) → k2 = (c.k : Int) → (c.k = 1 → f2 = .pointer none ∧ t2 = ⟨#[]⟩ ∧ m2 = .pointer none ∧ L2 = kcut T rb d.p n c.p) → Calls Tryz.prog 40 #[Pt (rb t.p), .string (ba a), Pt (rb c.p)] w fun r w' => r = .returned (.int .i64 (acx T c.p t.p a)) ∧ ((acx T c.p t.p a = 0 ∧ Rg F w' T rb (kmv T rb d.p n t.p a (rb c.p)) (umv rb c.p t.p) ∧ Upd (fun k => ∃ e ∈ T, e.k = 1 ∧ (e.p = t.p ∨ e.p = c.p) ∧ k = rb e.p) w w') ∨ (acx T c.p t.p a ≠ 0 ∧ Below w.heap.size w w')) := by
    intro k2 f2 t2 m2 L2 hE hk2 h1
    have hcode : rcdh a (kcut T rb d.p n t.p) k2 (rb c.p ∈ rb t.p :: rway rb t.p.length t.p) false (rway rb t.p.length t.p).length (hgt T c.p) = acx T c.p t.p a := by
      unfold rcdh acx tcode
      rw [rway_len]
      by_cases c1 : nameOk (ba a) = false
      · rw [if_pos c1, if_pos c1]
      · rw [if_neg c1, if_neg c1, if_neg (by rw [hth]; decide), if_neg (by omega), if_neg (fun e => hin e.2), if_neg (fun e => by cases e.2)]
    refine (rAdd2_any (g.dir t ht htk) hE a ha (rway rb t.p.length t.p) hU (by rw [rway_len]; omega) (by omega) false (.inl ⟨rfl, rfl⟩) (hgt T c.p) hH hHl).mono ?_
    rintro r w' ⟨z0, z1, z2⟩
    rw [hcode] at z0 z1 z2
    refine ⟨z0, ?_⟩
    by_cases h0 : acx T c.p t.p a = 0
    · obtain ⟨y1, y2, y3⟩ := z2 h0
      have u : Upd (fun k => ∃ e ∈ T, e.k = 1 ∧ (e.p = t.p ∨ e.p = c.p) ∧ k = rb e.p) w w' := y3.mono (fun k _ hk => by
        rcases hk with rfl | ⟨e, rfl⟩
        · exact ⟨t, ht, htk, .inl rfl, rfl⟩
        · exact ⟨c, hc, by omega, .inr rfl, rfl⟩)
      refine .inl ⟨h0, g.step hF q (fun p => p = t.p ∨ p = c.p) u (fun e he hk hx => ?_) (fun e he hk hx => ?_), u⟩
      · rcases hx with hx | hx
        · rw [hx]
          unfold kmv umv
          rw [if_pos rfl, if_neg htc]
          have := y1
          unfold ucut at this
          rw [if_neg htc] at this
          exact this
        · obtain rfl : e = c := rone_p q.one he hc hx
          obtain ⟨rfl, rfl, rfl, rfl⟩ := h1 hk
          unfold kmv umv
          rw [if_neg (fun e2 => htc e2.symm), if_pos rfl]
          exact y2 (by omega)
      · unfold kmv umv ucut
        rw [if_neg (fun e2 => hx (.inl e2)), if_neg (fun e2 => hx (.inr e2)), if_neg (fun e2 => hx (.inr e2))]
        exact ⟨rfl, rfl⟩
    · exact .inr ⟨h0, z1 h0⟩
  by_cases hk : c.k = 1
  · have hR := g.dir c hc hk
    rw [show ucut rb c.p c.p = .pointer none by unfold ucut; rw [if_pos rfl]] at hR
    exact fin hR (by rw [hk]; rfl) (fun _ => ⟨rfl, rfl, rfl, rfl⟩)
  · obtain ⟨f, t2, m, hR, -⟩ := g.lef q hc hk
    exact fin hR rfl (fun e => absurd e hk)
end Go.Proofs.YtbnaegoahdcejaaGreatDoor
