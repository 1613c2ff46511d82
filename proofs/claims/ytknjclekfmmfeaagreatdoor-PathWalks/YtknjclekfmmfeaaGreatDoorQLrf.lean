/- PathReal, walked. -/
import Derived.Test.YtknjclekfmmfeaaGreatDoorQLre
namespace Go.Proofs.YtknjclekfmmfeaaGreatDoor
open Go.RowKit Go.ChangeMaps Go.Shelf

set_option maxRecDepth 20000 in
set_option maxHeartbeats 8000000 in
theorem pathReal_walk {w : World} (hM : Mxl w) (a : Option Addr) (L : List Spx) (ca : Nat) (h : SpAt w a L) (hL : L.length ≤ 140737488351232) (hz : ∀ s ∈ L, s.to.length ≤ 140737488351232 ∧ s.nm.length ≤ 140737488351232) (fr : Int) (p : B) :
    Calls Tryz.prog 4 #[.slice a L.length ca, .int .i64 fr, .string (ba p)] w fun e w' => e = .returned (.bool true) ∧ Below w.heap.size w w' := by
  obtain ⟨n, hn⟩ : ∃ n, n = L.length := ⟨_, rfl⟩
  have AM := aside hM
  have AI := aside h
  have An := aside hn
  have Az := aside hz
  have AL := aside hL
  obtain ⟨P, hP⟩ : ∃ P, P = ba p := ⟨_, rfl⟩
  have AP := aside hP
  rw [← hn, ← hP]
  clear hM h hn hz hL hP
  go_enter Tryz.func4, Tryz.ntmps4
  go_wp2_with fail
  refine (works_any w AM.out).mono ?_
  rintro e w1 ⟨rfl, b1⟩
  have A1 := aside b1
  have M1 := aside (AM.out.below b1 AM.out.lt)
  clear b1
  go_wp2_with fail
  obtain ⟨V, hV⟩ : ∃ V, V = w1.alloc (.cells #[.string P] 9) := ⟨_, rfl⟩
  have hBV : Below w1.heap.size w1 V := by rw [hV]; exact below_al _ _
  have hcp : V.cell? ⟨w1.heap.size, 0, none⟩ = some (.string (ba p)) := by
    rw [cell_of_row V w1.heap.size 0 _ _ _ (by rw [hV]; exact heap_alloc_new w1 _), AP.out]; rfl
  rw [← hV]
  have AB := aside (beyond_any a L ca ((AI.out.old A1.out).old hBV) AL.out Az.out w1.heap.size p hcp)
  rw [← An.out] at AB
  have AV := aside (below_tr A1.out hBV)
  have MV := aside (M1.out.below hBV M1.out.lt)
  clear hV hBV hcp
  refine AB.out.mono ?_
  rintro e w2 ⟨b2, t, rfl, ht⟩
  have A2 := aside (below_tr AV.out b2)
  have M2 := aside (MV.out.below b2 MV.out.lt)
  have At := aside ht
  clear b2 ht AB
  cases t with
  | true =>
    go_wp2_with fail
    refine (works_any w2 M2.out).mono ?_
    rintro e w3 ⟨rfl, b3⟩
    have A3 := aside (below_tr A2.out b3)
    clear b3
    go_wp2_with fail
    go_ret
    exact ⟨rfl, A3.out⟩
  | false =>
    obtain ⟨l1, l2, l3⟩ := At.out rfl
    have AO := aside (only_any a L ca (AI.out.old A2.out) (by omega) l3)
    have hnl : n ≤ 200 := by rw [An.out]; exact l1
    rw [← An.out] at AO
    clear l1 l2 l3 At
    go_wp2_with fail
    refine AO.out.mono ?_
    rintro e w3 ⟨wb, S, g, c, rfl, hld, hat⟩
    obtain ⟨e1, he1, -⟩ := hld.li.fst
    have hs0 := mem_len he1
    have hsl := hld.li.len
    rw [← An.out] at hsl
    have A3 := aside (below_tr A2.out (show Below w2.heap.size w2 w3 from hld.bel))
    have M3 := aside (M2.out.below hld.bel M2.out.lt)
    have AG := aside hld.gx
    have Aat := aside hat
    obtain ⟨sl, hsle⟩ : ∃ sl, sl = S.length := ⟨_, rfl⟩
    have Asl := aside hsle
    rw [← hsle] at hs0 hsl ⊢
    have hsn : ¬ (sl : Int) = 0 := by omega
    have hsb : ((sl : Int) == 0) = false := beq_eq_false_iff_ne.2 hsn
    clear hld hat he1 hsle AO
    go_wp2_with fail
    refine (pick_any fr sl w3 hs0 (by omega)).mono ?_
    rintro e w4 ⟨i, hi, rfl, rfl⟩
    obtain ⟨d, hd⟩ : ∃ d, S[i]? = some d := ⟨_, List.getElem?_eq_getElem (by rw [← Asl.out]; exact hi)⟩
    have hcell := Aat.out i d hd
    rw [← adr_of hd] at hcell
    have hgl : i < (gr S).length := by unfold gr; rw [List.length_map, ← Asl.out]; exact hi
    have Agl := aside hgl
    have hi0 : (0 : Int) ≤ (i : Int) := by omega
    have hi1 : (i : Int) < (sl : Int) := by omega
    have HW : Aside (∀ W, Below w4.heap.size w4 W → ∀ (q : B) (f : Bool), Calls Tryz.prog 11 #[Pt (adr S i), .string (ba q), .bool f] W fun e w' => e = .returned (WalkA (adr S) (wkF (gr S) i q f)) ∧ Below W.heap.size W w') := fun W b q f => walk_any (AG.out.below b).gat (M3.out.below b M3.out.lt) Agl.out q f
    have HR : Aside (∀ W, Below w4.heap.size w4 W → ∀ (q : B), Calls Tryz.prog 16 #[Pt (adr S i), .string (ba q)] W fun e w' => e = .returned (.tuple #[.string (ba (reF (wkF (gr S) i q true)).2), .int .i64 (reF (wkF (gr S) i q true)).1]) ∧ Below W.heap.size W w') := fun W b q => real_any (AG.out.below b).gat (M3.out.below b M3.out.lt) Agl.out q
    have HC : Aside (∀ W, Below w4.heap.size w4 W → ∀ (q : B), Calls Tryz.prog 19 #[.string (ba q)] W fun e w' => e = .returned (clA q) ∧ Below W.heap.size W w') := fun W b q => clean_any q W (M3.out.below b M3.out.lt)
    obtain ⟨ab, hab⟩ : ∃ ab, ab = adr S i := ⟨_, rfl⟩
    rw [← hab] at hcell HW HR
    have W1 := aside (HW.out w4 (Below.refl _ _) p true)
    rw [← AP.out] at W1
    unfold WalkA at W1
    obtain ⟨R, hR⟩ : ∃ R, R = wkF (gr S) i p true := ⟨_, rfl⟩
    rw [← hR] at W1
    have AR := aside hR
    clear hd hgl hab hR
    go_wp2_with fail
    refine W1.out.mono ?_
    rintro e w5 ⟨rfl, b5⟩
    have A5 := aside b5
    have R1 := aside (HR.out w5 b5 p)
    rw [← AP.out, ← AR.out] at R1
    clear b5 W1
    by_cases c0 : R.1 = 0
    · rw [if_pos c0, c0]
      obtain ⟨want, hwant⟩ : ∃ z, z = adr S (lst R.2) := ⟨_, rfl⟩
      rw [← hwant]
      have Aw := aside hwant
      have Ac0 := aside c0
      clear hwant c0
      by_cases c1 : (reF R).1 = 0
      · obtain ⟨s, hs⟩ : ∃ s, s = (reF R).2 := ⟨_, rfl⟩
        have AA := aside (real_again (G := gr S) (i := i) (p := p) (s := s) (by rw [← AR.out]; exact c1) (by rw [← AR.out]; exact hs))
        rw [c1, ← hs] at R1
        obtain ⟨N, hN⟩ : ∃ N, N = ba s := ⟨_, rfl⟩
        have AN := aside hN
        rw [← hN] at R1
        clear c1 hs hN
        go_wp2_with fail
        refine R1.out.mono ?_
        rintro e w6 ⟨rfl, b6⟩
        have A6 := aside (below_tr A5.out b6)
        clear b6 R1
        have W2 := aside (HW.out w6 A6.out s true)
        rw [← AN.out, AA.out.2.1, ← AR.out] at W2
        unfold WalkA at W2
        simp only [if_true] at W2
        rw [← Aw.out] at W2
        go_wp2_with fail
        refine W2.out.mono ?_
        rintro e w7 ⟨rfl, b7⟩
        have A7 := aside (below_tr A6.out b7)
        clear b7 W2
        have W3 := aside (HW.out w7 A7.out s false)
        rw [← AN.out, AA.out.2.1, ← AR.out] at W3
        unfold WalkA at W3
        simp only [if_true] at W3
        rw [← Aw.out] at W3
        go_wp2_with fail
        refine W3.out.mono ?_
        rintro e w8 ⟨rfl, b8⟩
        have A8 := aside (below_tr A7.out b8)
        clear b8 W3
        have C3 := aside (HC.out w8 A8.out s)
        rw [AA.out.2.2.1, ← AN.out] at C3
        go_wp2_with fail
        refine C3.out.mono ?_
        rintro e w9 ⟨rfl, b9⟩
        have A9 := aside (below_tr A8.out b9)
        clear b9 C3
        have R2 := aside (HR.out w9 A9.out s)
        rw [AA.out.2.2.2.1, ← AN.out] at R2
        go_wp2_with fail
        refine R2.out.mono ?_
        rintro e w10 ⟨rfl, b10⟩
        have A10 := aside (below_tr A9.out b10)
        clear b10 R2
        obtain ⟨r, hr, hc⟩ := AA.out.2.2.2.2.2
        obtain ⟨nt, nbk, hnd⟩ := (AG.out.below A10.out).gat.nd (hc.last AG.out.gat Agl.out (x := []))
        rw [← hr, ← AR.out, ← Aw.out] at hnd
        have heq := eq_node hnd hnd
        rw [decide_eq_true rfl] at heq
        clear hr hc hnd
        have hsz : (N.size : Int) ≤ 4096 := by rw [AN.out, ba_size]; have := AA.out.2.2.2.2.1; omega
        go_wp2_with fail
        go_ret
        exact ⟨rfl, below_tr A3.out A10.out⟩
      · have hf : (reF R).1 = 3 ∧ (reF R).2 = [] := by
          unfold reF at c1 ⊢
          rw [if_neg (by simp [Ac0.out])] at c1 ⊢
          by_cases c2 : 4096 < (pth (R.2.tail.map (·.1))).length
          · rw [if_pos c2]; exact ⟨rfl, rfl⟩
          · rw [if_neg c2] at c1; exact absurd rfl c1
        rw [hf.1, hf.2, show ba [] = ⟨#[]⟩ from rfl] at R1
        clear c1 hf
        go_wp2_with fail
        refine R1.out.mono ?_
        rintro e w6 ⟨rfl, b6⟩
        have A6 := aside (below_tr A5.out b6)
        clear b6 R1
        go_wp2_with fail
        go_ret
        exact ⟨rfl, below_tr A3.out A6.out⟩
    · rw [if_neg c0]
      have hf : reF R = (R.1, []) := by unfold reF; rw [if_pos c0]
      rw [hf] at R1
      obtain ⟨er, her⟩ : ∃ er, er = R.1 := ⟨_, rfl⟩
      simp only at R1
      rw [show ba [] = ⟨#[]⟩ from rfl] at R1
      rw [← her] at c0 R1 ⊢
      have c0b : (er == 0) = false := beq_eq_false_iff_ne.2 c0
      clear her hf
      go_wp2_with fail
      refine R1.out.mono ?_
      rintro e w6 ⟨rfl, b6⟩
      have A6 := aside (below_tr A5.out b6)
      clear b6 R1
      go_wp2_with fail
      go_ret
      exact ⟨rfl, below_tr A3.out A6.out⟩
end Go.Proofs.YtknjclekfmmfeaaGreatDoor
