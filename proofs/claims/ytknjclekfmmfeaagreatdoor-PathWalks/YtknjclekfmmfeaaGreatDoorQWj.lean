/- Which node of the program's is which one of the document's. PathWalks, walked. -/
import Derived.Test.YtknjclekfmmfeaaGreatDoorQWg
import Derived.Test.YtknjclekfmmfeaaGreatDoorQLon
import Derived.Test.YtknjclekfmmfeaaGreatDoorQLrf
namespace Go.Proofs.YtknjclekfmmfeaaGreatDoor
open Go.RowKit Go.ChangeMaps Go.Shelf

theorem Ld.sok {w0 w : World} {wb n : Nat} {L : List Spx} {S : List Ne} (h : Ld w0 wb L n w S) (hn : n ≤ 1000000) : Sok S := by
  refine ⟨fun i e he hk => ?_, fun i e x j he hx => ?_, fun i e he => Nat.le_trans (h.li.few i e he) hn, fun i e he hk => ?_⟩
  · obtain ⟨-, -, -, -, hx⟩ := h.gx.nod i e he
    rcases hx with ⟨hk2, -⟩ | ⟨hk2, -⟩ | ⟨hk2, -⟩ | ⟨-, d, hd, hdk, -⟩ | ⟨hk2, -⟩
    · omega
    · omega
    · omega
    · exact ⟨d, hd, hdk⟩
    · omega
  · obtain ⟨d, hd, -⟩ := h.gx.kid i e x j he hx
    exact ⟨d, hd⟩
  · obtain ⟨-, -, -, -, hx⟩ := h.gx.nod i e he
    rcases hx with ⟨hk2, -⟩ | ⟨hk2, -⟩ | ⟨-, ht, -⟩ | ⟨hk2, -⟩ | ⟨hk2, -⟩
    · omega
    · omega
    · exact ht
    · omega
    · omega
set_option maxRecDepth 20000 in
set_option maxHeartbeats 4000000 in
theorem alike_nil (wb : Nat) (w : World) : Calls Tryz.prog 13 #[Pt wb, .pointer none, .pointer none] w fun e w' => e = .returned (.bool true) ∧ w' = w := by
  go_enter Tryz.func13, Tryz.ntmps13
  go_wp2_with fail
  go_ret
  exact ⟨rfl, rfl⟩
set_option maxRecDepth 20000 in
set_option maxHeartbeats 4000000 in
theorem alike_node {w0 w : World} {wb n : Nat} {L : List Spx} {S : List Ne} (h : Ld w0 wb L n w S) (hS : S.length ≤ 1000000) {j : Nat} (hj : j < S.length) :
    Calls Tryz.prog 13 #[Pt wb, Pt (adr S j), Pt (rbr S j)] w fun e w' => e = .returned (.bool true) ∧ w' = w := by
  obtain ⟨g, c, g', c', hc0, hc1, hat, -, -⟩ := h.lw.stay
  obtain ⟨ej, hej⟩ : ∃ e, S[j]? = some e := ⟨_, List.getElem?_eq_getElem hj⟩
  have hrow : ∀ (i : Nat) (e : Ne), S[i]? = some e → ∃ cs : Array Value, w.heap[e.rb]? = some (Obj.cells cs 84 (0, 0)) := fun i e he => by
    obtain ⟨-, f, m, K, hR, -⟩ := h.rx.nod i e he
    obtain ⟨a, c, h1, -⟩ := hR.cel
    exact ⟨_, h1⟩
  obtain ⟨nt, nbk, hnd⟩ := h.gx.gat.nd (i := j) (by unfold gr; rw [List.length_map]; exact hj)
  have heqn := eq_node hnd hnd
  rw [decide_eq_true rfl] at heqn
  have AE : Aside (∀ (i : Nat) (e : Ne), S[i]? = some e → (binOp .eql 37 (Pt e.rb) (Pt (rbr S j))).run Tryz.prog w = .ok (.bool (decide (i = j))) w) := fun i e he => by
    obtain ⟨ca, ha⟩ := hrow i e he
    obtain ⟨cb, hb⟩ := hrow j ej hej
    rw [rbr_of hej]
    have := eq_rnode ha hb
    rw [this]
    by_cases hij : i = j
    · subst hij
      rw [he] at hej
      cases hej
      simp
    · rw [decide_eq_false hij, decide_eq_false (h.rx.one i j e ej he hej hij)]
  have Aat := aside hat
  obtain ⟨sl, hsl⟩ : ∃ sl, sl = S.length := ⟨_, rfl⟩
  have Asl := aside hsl
  have hlj := (hat j ej hej).1
  rw [← adr_of hej] at hlj
  obtain ⟨na, hna⟩ : ∃ na, na = adr S j := ⟨_, rfl⟩
  obtain ⟨nr, hnr⟩ : ∃ nr, nr = rbr S j := ⟨_, rfl⟩
  rw [← hsl] at hc0 hc1 hS hj
  rw [← hna] at hlj heqn ⊢
  rw [← hnr] at AE ⊢
  clear h hat hsl hej hrow hnd hna hnr
  go_enter Tryz.func13, Tryz.ntmps13
  go_wp2_with fail
  go_loopg [6, 7, 25] sl (fun gk s6 _ s25 wx => s6 = .bool false ∧ wx = w ∧ ∃ i : Nat, i + gk = sl ∧ i ≤ j ∧ s25 = .int .i64 (i : Int))
  case atStart => exact ⟨rfl, rfl, 0, by omega, by omega, rfl⟩
  case round =>
    obtain ⟨rfl, rfl, i, hig, hij, rfl⟩ := hrel
    have hi : (i : Int) < (sl : Int) := by omega
    have hi0 : (0 : Int) ≤ (i : Int) := by omega
    have hwi : IntKind.i64.wrap ((i : Int) + 1) = ((i + 1 : Nat) : Int) := by rw [wrap_small _ (by omega) (by omega)]; simp
    obtain ⟨ei, hei⟩ : ∃ e, S[i]? = some e := ⟨_, List.getElem?_eq_getElem (by rw [← Asl.out]; omega)⟩
    have hxi := (Aat.out i ei hei).2
    have hEi := AE.out i ei hei
    obtain ⟨ri, hri⟩ : ∃ ri, ri = ei.rb := ⟨_, rfl⟩
    rw [← hri] at hxi hEi
    clear hei hri
    by_cases hd : i = j
    · subst hd
      rw [decide_eq_true rfl] at hEi
      go_wp2_with fail
      go_ret
      exact ⟨rfl, rfl⟩
    · rw [decide_eq_false hd] at hEi
      cases gk with
      | zero => omega
      | succ gk =>
        go_wp2_with fail
        go_roundg gk
        case measure => omega
        case rel => exact ⟨rfl, rfl, i + 1, by omega, by omega, by first | rfl | simp⟩
end Go.Proofs.YtknjclekfmmfeaaGreatDoor

namespace Go.Proofs.YtknjclekfmmfeaaGreatDoor
open Go.RowKit Go.ChangeMaps Go.Shelf

/-- A node or none. -/
def nv (ad : Nat → Nat) : Option Nat → Value
  | some j => Pt (ad j)
  | none => .pointer none
theorem walkA_nv (ad : Nat → Nat) (R : Int × Row) : WalkA ad R = .tuple #[nv ad (if R.1 = 0 then some (lst R.2) else none), .int .i64 R.1] := by
  unfold WalkA
  by_cases h : R.1 = 0
  · rw [if_pos h, if_pos h]; rfl
  · rw [if_neg h, if_neg h]; rfl
theorem placeA_nv (ad : Nat → Nat) (R : Int × Nat × B) : PlaceA ad R = .tuple #[nv ad (if R.1 = 0 then some R.2.1 else none), .string (ba R.2.2), .int .i64 R.1] := by
  unfold PlaceA
  by_cases h : R.1 = 0
  · rw [if_pos h, if_pos h]; rfl
  · rw [if_neg h, if_neg h]; rfl
set_option maxRecDepth 20000 in
set_option maxHeartbeats 8000000 in
theorem pathWalks_walk {w : World} (hM : Mxl w) (a : Option Addr) (L : List Spx) (ca : Nat) (h : SpAt w a L) (hL : L.length ≤ 140737488351232) (hz : ∀ s ∈ L, s.to.length ≤ 140737488351232 ∧ s.nm.length ≤ 140737488351232) (fr : Int) (p : B) (fl : Bool) :
    Calls Tryz.prog 3 #[.slice a L.length ca, .int .i64 fr, .string (ba p), .bool fl] w fun e w' => e = .returned (.bool true) ∧ Below w.heap.size w w' := by
  obtain ⟨n, hn⟩ : ∃ n, n = L.length := ⟨_, rfl⟩
  have AM := aside hM
  have AI := aside h
  have An := aside hn
  have Az := aside hz
  have AL := aside hL
  obtain ⟨P, hP⟩ : ∃ P, P = ba p := ⟨_, rfl⟩
  have AP := aside hP
  rw [← hn, ← hP]
  clear hM h hn hz hL hP
  go_enter Tryz.func3, Tryz.ntmps3
  go_wp2_with fail
  refine (works_any w AM.out).mono ?_
  rintro e w1 ⟨rfl, b1⟩
  have A1 := aside b1
  have M1 := aside (AM.out.below b1 AM.out.lt)
  clear b1
  go_wp2_with fail
  obtain ⟨V, hV⟩ : ∃ V, V = w1.alloc (.cells #[.string P] 9) := ⟨_, rfl⟩
  have hBV : Below w1.heap.size w1 V := by rw [hV]; exact below_al _ _
  have hcp : V.cell? ⟨w1.heap.size, 0, none⟩ = some (.string (ba p)) := by
    rw [cell_of_row V w1.heap.size 0 _ _ _ (by rw [hV]; exact heap_alloc_new w1 _), AP.out]; rfl
  rw [← hV]
  have AB := aside (beyond_any a L ca ((AI.out.old A1.out).old hBV) AL.out Az.out w1.heap.size p hcp)
  rw [← An.out] at AB
  have AV := aside (below_tr A1.out hBV)
  have MV := aside (M1.out.below hBV M1.out.lt)
  clear hV hBV hcp
  refine AB.out.mono ?_
  rintro e w2 ⟨b2, t, rfl, ht⟩
  have A2 := aside (below_tr AV.out b2)
  have M2 := aside (MV.out.below b2 MV.out.lt)
  have At := aside ht
  clear b2 ht AB
  cases t with
  | true =>
    go_wp2_with fail
    refine (works_any w2 M2.out).mono ?_
    rintro e w3 ⟨rfl, b3⟩
    have A3 := aside (below_tr A2.out b3)
    clear b3
    go_wp2_with fail
    go_ret
    exact ⟨rfl, A3.out⟩
  | false =>
    obtain ⟨l1, l2, l3⟩ := At.out rfl
    have AO := aside (laid_any a L ca (AI.out.old A2.out) (by omega) l3)
    have hnl : n ≤ 200 := by rw [An.out]; exact l1
    rw [← An.out] at AO
    clear l1 l2 l3 At
    go_wp2_with fail
    refine AO.out.mono ?_
    rintro e w3 ⟨wb, S, rfl, hld⟩
    obtain ⟨e1, he1, -⟩ := hld.li.fst
    have hs0 := mem_len he1
    have hsl := hld.li.len
    have hsok := hld.sok (by omega)
    have A3 := aside (below_tr A2.out (show Below w2.heap.size w2 w3 from hld.bel))
    have M3 := aside (M2.out.below hld.bel M2.out.lt)
    have ALd := aside hld
    have ASk := aside hsok
    obtain ⟨sl, hsle⟩ : ∃ sl, sl = S.length := ⟨_, rfl⟩
    have Asl := aside hsle
    obtain ⟨g, c, g', c', hc0, hc1, hat, hwb, -⟩ := hld.lw.stay
    rw [← hsle] at hs0 hsl hc0 hc1
    have Aat := aside hat
    clear hld hat he1 hsle AO hsok
    go_wp2_with fail
    refine (pick_any fr sl w3 hs0 (by omega)).mono ?_
    rintro e w4 ⟨i, hi, rfl, rfl⟩
    obtain ⟨d, hd⟩ : ∃ d, S[i]? = some d := ⟨_, List.getElem?_eq_getElem (by rw [← Asl.out]; exact hi)⟩
    obtain ⟨hcl, hcx⟩ := Aat.out i d hd
    rw [← adr_of hd] at hcl
    have hgl : i < (gr S).length := by unfold gr; rw [List.length_map, ← Asl.out]; exact hi
    have Agl := aside hgl
    have hiS : i < S.length := by rw [← Asl.out]; exact hi
    have AiS := aside hiS
    have hi0 : (0 : Int) ≤ (i : Int) := by omega
    have hi1 : (i : Int) < (sl : Int) := by omega
    have HL : Aside (∀ W, Below w4.heap.size w4 W → Ld w2 wb L n W S) := fun W b => ALd.out.below b
    have HC : Aside (∀ W, Below w4.heap.size w4 W → W.cell? ⟨wb, 0, none⟩ = some (.slice (some ⟨g, 0, none⟩) sl c) ∧ W.cell? ⟨wb, 1, none⟩ = some (.slice (some ⟨g', 0, none⟩) sl c') ∧ W.cell? ⟨g, i, none⟩ = some (Pt (adr S i)) ∧ W.cell? ⟨g', i, none⟩ = some (Pt d.rb)) := fun W b => ⟨(b.cell (World.block_lt_of_cell? _ _ hc0)).trans hc0, (b.cell (World.block_lt_of_cell? _ _ hc1)).trans hc1, (b.cell (World.block_lt_of_cell? _ _ hcl)).trans hcl, (b.cell (World.block_lt_of_cell? _ _ hcx)).trans hcx⟩
    have HW : Aside (∀ W, Below w4.heap.size w4 W → Calls Tryz.prog 11 #[Pt (adr S i), .string P, .bool fl] W fun e w' => e = .returned (WalkA (adr S) (wkF (gr S) i p fl)) ∧ Below W.heap.size W w') := fun W b => by rw [AP.out]; exact walk_any (HL.out W b).gx.gat (M3.out.below b M3.out.lt) Agl.out p fl
    have HX : Aside (∀ W, Below w4.heap.size w4 W → Calls Tryz.prog 12 #[Pt d.rb, .string P, .bool fl] W fun e w' => e = .returned (WalkA (rbr S) (wkF (gr S) i p fl)) ∧ Below W.heap.size W w' ∧ ((wkF (gr S) i p fl).1 = 0 → lst (wkF (gr S) i p fl).2 < S.length)) := fun W b => by rw [AP.out]; exact rWalk_any (fun W' b' => (HL.out W' (below_tr b b')).rx) ASk.out hd p fl
    have HP : Aside (∀ W, Below w4.heap.size w4 W → Calls Tryz.prog 14 #[Pt (adr S i), .string P] W fun e w' => e = .returned (PlaceA (adr S) (plF (gr S) i p)) ∧ Below W.heap.size W w') := fun W b => by rw [AP.out]; exact place_any (HL.out W b).gx.gat (M3.out.below b M3.out.lt) Agl.out p
    have HQ : Aside (∀ W, Below w4.heap.size w4 W → Calls Tryz.prog 15 #[Pt d.rb, .string P] W fun e w' => e = .returned (PlaceA (rbr S) (plF (gr S) i p)) ∧ Below W.heap.size W w' ∧ ((plF (gr S) i p).1 = 0 → (plF (gr S) i p).2.1 < S.length)) := fun W b => by rw [AP.out]; exact rPlace_any (fun W' b' => (HL.out W' (below_tr b b')).rx) ASk.out hd p
    have HR : Aside (∀ W, Below w4.heap.size w4 W → Calls Tryz.prog 16 #[Pt (adr S i), .string P] W fun e w' => e = .returned (.tuple #[.string (ba (reF (wkF (gr S) i p true)).2), .int .i64 (reF (wkF (gr S) i p true)).1]) ∧ Below W.heap.size W w') := fun W b => by rw [AP.out]; exact real_any (HL.out W b).gx.gat (M3.out.below b M3.out.lt) Agl.out p
    have HS : Aside (∀ W, Below w4.heap.size w4 W → Calls Tryz.prog 17 #[Pt d.rb, .string P] W fun r w' => (∃ m : Int, r = .returned (.tuple #[.string (ba (reF (wkF (gr S) i p true)).2), .int .i64 m, .int .i64 (reF (wkF (gr S) i p true)).1])) ∧ Below W.heap.size W w') := fun W b => by rw [AP.out]; exact rReal_any (fun W' b' => (HL.out W' (below_tr b b')).rx) ASk.out hd p
    have HA : Aside (∀ W, Below w4.heap.size w4 W → ∀ (o : Option Nat), (∀ j, o = some j → j < S.length) → Calls Tryz.prog 13 #[Pt wb, nv (adr S) o, nv (rbr S) o] W fun e w' => e = .returned (.bool true) ∧ w' = W) := fun W b o ho => by
      cases o with
      | none => exact alike_nil wb W
      | some j => exact alike_node (HL.out W b) (by rw [← Asl.out]; omega) (ho j rfl)
    obtain ⟨ab, hab⟩ : ∃ ab, ab = adr S i := ⟨_, rfl⟩
    obtain ⟨rb, hrb⟩ : ∃ rb, rb = d.rb := ⟨_, rfl⟩
    rw [← hab] at HC HW HP HR
    rw [← hrb] at HC HX HQ HS
    obtain ⟨R, hR⟩ : ∃ R, R = wkF (gr S) i p fl := ⟨_, rfl⟩
    obtain ⟨Q, hQ⟩ : ∃ Q, Q = plF (gr S) i p := ⟨_, rfl⟩
    obtain ⟨T, hT⟩ : ∃ T, T = reF (wkF (gr S) i p true) := ⟨_, rfl⟩
    rw [← hR] at HW HX
    rw [← hQ] at HP HQ
    rw [← hT] at HR HS
    obtain ⟨o1, ho1⟩ : ∃ o : Option Nat, o = if R.1 = 0 then some (lst R.2) else none := ⟨_, rfl⟩
    obtain ⟨o2, ho2⟩ : ∃ o : Option Nat, o = if Q.1 = 0 then some Q.2.1 else none := ⟨_, rfl⟩
    simp only [walkA_nv] at HW HX
    simp only [placeA_nv] at HP HQ
    rw [← ho1] at HW HX
    rw [← ho2] at HP HQ
    have Ao1 : Aside ((R.1 = 0 → lst R.2 < S.length) → ∀ j, o1 = some j → j < S.length) := fun h j hj => by
      rw [ho1] at hj
      by_cases h0 : R.1 = 0
      · rw [if_pos h0] at hj; cases hj; exact h h0
      · rw [if_neg h0] at hj; cases hj
    have Ao2 : Aside ((Q.1 = 0 → Q.2.1 < S.length) → ∀ j, o2 = some j → j < S.length) := fun h j hj => by
      rw [ho2] at hj
      by_cases h0 : Q.1 = 0
      · rw [if_pos h0] at hj; cases hj; exact h h0
      · rw [if_neg h0] at hj; cases hj
    have HA1 := aside (fun W b => HA.out W b o1)
    have HA2 := aside (fun W b => HA.out W b o2)
    obtain ⟨va, hva⟩ : ∃ v, v = nv (adr S) o1 := ⟨_, rfl⟩
    obtain ⟨vb, hvb⟩ : ∃ v, v = nv (rbr S) o1 := ⟨_, rfl⟩
    obtain ⟨vc, hvc⟩ : ∃ v, v = nv (adr S) o2 := ⟨_, rfl⟩
    obtain ⟨vd, hvd⟩ : ∃ v, v = nv (rbr S) o2 := ⟨_, rfl⟩
    rw [← hva] at HW HA1
    rw [← hvb] at HX HA1
    rw [← hvc] at HP HA2
    rw [← hvd] at HQ HA2
    obtain ⟨r1, hr1⟩ : ∃ r, r = R.1 := ⟨_, rfl⟩
    obtain ⟨q1, hq1⟩ : ∃ r, r = Q.1 := ⟨_, rfl⟩
    obtain ⟨q2, hq2⟩ : ∃ r, r = ba Q.2.2 := ⟨_, rfl⟩
    obtain ⟨t1, ht1⟩ : ∃ r, r = T.1 := ⟨_, rfl⟩
    obtain ⟨t2, ht2⟩ : ∃ r, r = ba T.2 := ⟨_, rfl⟩
    rw [← hr1] at HW HX Ao1
    rw [← hq1, ← hq2] at HP HQ
    rw [← hq1] at Ao2
    rw [← ht1, ← ht2] at HR HS
    clear hd hgl hab hrb hR hQ hT hc0 hc1 hcl hcx hiS hva hvb hvc hvd hr1 hq1 hq2 ht1 ht2 ho1 ho2 HA
    obtain ⟨m0, m1, m2, m3⟩ := HC.out w4 (Below.refl _ _)
    have W1 := aside (HW.out w4 (Below.refl _ _))
    go_wp2_with fail
    refine W1.out.mono ?_
    rintro e w5 ⟨rfl, b5⟩
    have A5 := aside b5
    clear b5 W1 m0 m1 m2 m3
    obtain ⟨m0, m1, m2, m3⟩ := HC.out w5 A5.out
    have X1 := aside (HX.out w5 A5.out)
    go_wp2_with fail
    refine X1.out.mono ?_
    rintro e w6 ⟨rfl, b6, hin⟩
    have A6 := aside (below_tr A5.out b6)
    have L1 := aside (HA1.out w6 A6.out (Ao1.out hin))
    clear b6 X1 m0 m1 m2 m3 hin
    obtain ⟨m0, m1, m2, m3⟩ := HC.out w6 A6.out
    have P1 := aside (HP.out w6 A6.out)
    go_wp2_with fail
    refine L1.out.mono ?_
    rintro e w7 ⟨rfl, rfl⟩
    go_wp2_with fail
    refine P1.out.mono ?_
    rintro e w8 ⟨rfl, b8⟩
    have A8 := aside (below_tr A6.out b8)
    clear b8 P1 m0 m1 m2 m3 L1
    obtain ⟨m0, m1, m2, m3⟩ := HC.out w8 A8.out
    have Q1 := aside (HQ.out w8 A8.out)
    go_wp2_with fail
    refine Q1.out.mono ?_
    rintro e w9 ⟨rfl, b9, hin⟩
    have A9 := aside (below_tr A8.out b9)
    have L2 := aside (HA2.out w9 A9.out (Ao2.out hin))
    clear b9 Q1 m0 m1 m2 m3 hin
    obtain ⟨m0, m1, m2, m3⟩ := HC.out w9 A9.out
    have R1 := aside (HR.out w9 A9.out)
    go_wp2_with fail
    refine L2.out.mono ?_
    rintro e w10 ⟨rfl, rfl⟩
    go_wp2_with fail
    refine R1.out.mono ?_
    rintro e w11 ⟨rfl, b11⟩
    have A11 := aside (below_tr A9.out b11)
    clear b11 R1 m0 m1 m2 m3 L2
    obtain ⟨m0, m1, m2, m3⟩ := HC.out w11 A11.out
    have S1 := aside (HS.out w11 A11.out)
    go_wp2_with fail
    refine S1.out.mono ?_
    rintro e w12 ⟨⟨lk, rfl⟩, b12⟩
    have A12 := aside (below_tr A11.out b12)
    clear b12 S1 m0 m1 m2 m3
    go_wp2_with fail
    go_ret
    exact ⟨rfl, below_tr A3.out A12.out⟩
end Go.Proofs.YtknjclekfmmfeaaGreatDoor
