/- PathPlaces, walked. -/
import Derived.Test.YtknjclekfmmfeaaGreatDoorQLpa
import Derived.Test.YtknjclekfmmfeaaGreatDoorQLon
import Derived.Test.YtknjclekfmmfeaaGreatDoorQPwo
namespace Go.Proofs.YtknjclekfmmfeaaGreatDoor
open Go.RowKit Go.ChangeMaps Go.Shelf

set_option maxRecDepth 20000 in
set_option maxHeartbeats 8000000 in
theorem pathPlaces_walk {w : World} (hM : Mxl w) (a : Option Addr) (L : List Spx) (ca : Nat) (h : SpAt w a L) (hL : L.length ≤ 140737488351232) (hz : ∀ s ∈ L, s.to.length ≤ 140737488351232 ∧ s.nm.length ≤ 140737488351232) (fr : Int) (p : B) :
    Calls Tryz.prog 6 #[.slice a L.length ca, .int .i64 fr, .string (ba p)] w fun e w' => e = .returned (.bool true) ∧ Below w.heap.size w w' := by
  obtain ⟨n, hn⟩ : ∃ n, n = L.length := ⟨_, rfl⟩
  have AM := aside hM
  have AI := aside h
  have An := aside hn
  have Az := aside hz
  have AL := aside hL
  obtain ⟨P, hP⟩ : ∃ P, P = ba p := ⟨_, rfl⟩
  have AP := aside hP
  rw [← hn, ← hP]
  clear hM h hn hz hL hP
  go_enter Tryz.func6, Tryz.ntmps6
  go_wp2_with fail
  refine (works_any w AM.out).mono ?_
  rintro e w1 ⟨rfl, b1⟩
  have A1 := aside b1
  have M1 := aside (AM.out.below b1 AM.out.lt)
  clear b1
  go_wp2_with fail
  obtain ⟨V, hV⟩ : ∃ V, V = w1.alloc (.cells #[.string P] 9) := ⟨_, rfl⟩
  have hBV : Below w1.heap.size w1 V := by rw [hV]; exact below_al _ _
  have hcp : V.cell? ⟨w1.heap.size, 0, none⟩ = some (.string (ba p)) := by
    rw [cell_of_row V w1.heap.size 0 _ _ _ (by rw [hV]; exact heap_alloc_new w1 _), AP.out]; rfl
  rw [← hV]
  have AB := aside (beyond_any a L ca ((AI.out.old A1.out).old hBV) AL.out Az.out w1.heap.size p hcp)
  rw [← An.out] at AB
  have AV := aside (below_tr A1.out hBV)
  have MV := aside (M1.out.below hBV M1.out.lt)
  clear hV hBV hcp
  refine AB.out.mono ?_
  rintro e w2 ⟨b2, t, rfl, ht⟩
  have A2 := aside (below_tr AV.out b2)
  have M2 := aside (MV.out.below b2 MV.out.lt)
  have At := aside ht
  clear b2 ht AB
  cases t with
  | true =>
    go_wp2_with fail
    refine (works_any w2 M2.out).mono ?_
    rintro e w3 ⟨rfl, b3⟩
    have A3 := aside (below_tr A2.out b3)
    clear b3
    go_wp2_with fail
    go_ret
    exact ⟨rfl, A3.out⟩
  | false =>
    obtain ⟨l1, l2, l3⟩ := At.out rfl
    have AO := aside (only_any a L ca (AI.out.old A2.out) (by omega) l3)
    have hnl : n ≤ 200 := by rw [An.out]; exact l1
    rw [← An.out] at AO
    clear l1 l2 l3 At
    go_wp2_with fail
    refine AO.out.mono ?_
    rintro e w3 ⟨wb, S, g, c, rfl, hld, hat⟩
    obtain ⟨e1, he1, -⟩ := hld.li.fst
    have hs0 := mem_len he1
    have hsl := hld.li.len
    rw [← An.out] at hsl
    have A3 := aside (below_tr A2.out (show Below w2.heap.size w2 w3 from hld.bel))
    have M3 := aside (M2.out.below hld.bel M2.out.lt)
    have AG := aside hld.gx
    have Aat := aside hat
    obtain ⟨sl, hsle⟩ : ∃ sl, sl = S.length := ⟨_, rfl⟩
    have Asl := aside hsle
    rw [← hsle] at hs0 hsl ⊢
    have hsn : ¬ (sl : Int) = 0 := by omega
    have hsb : ((sl : Int) == 0) = false := beq_eq_false_iff_ne.2 hsn
    clear hld hat he1 hsle AO
    go_wp2_with fail
    refine (pick_any fr sl w3 hs0 (by omega)).mono ?_
    rintro e w4 ⟨i, hi, rfl, rfl⟩
    obtain ⟨d, hd⟩ : ∃ d, S[i]? = some d := ⟨_, List.getElem?_eq_getElem (by rw [← Asl.out]; exact hi)⟩
    have hcell := Aat.out i d hd
    rw [← adr_of hd] at hcell
    have hgl : i < (gr S).length := by unfold gr; rw [List.length_map, ← Asl.out]; exact hi
    have Agl := aside hgl
    have hi0 : (0 : Int) ≤ (i : Int) := by omega
    have hi1 : (i : Int) < (sl : Int) := by omega
    have HG : Aside (∀ W, Below w4.heap.size w4 W → GAt W (gr S) (adr S)) := fun W b => (AG.out.below b).gat
    have P1 := aside (place_any AG.out.gat M3.out Agl.out p)
    have HW : Aside (∀ W, Below w4.heap.size w4 W → Calls Tryz.prog 11 #[Pt (adr S i), .string (ba p), .bool false] W fun e w' => e = .returned (WalkA (adr S) (wkF (gr S) i p false)) ∧ Below W.heap.size W w') := fun W b => walk_any (AG.out.below b).gat (M3.out.below b M3.out.lt) Agl.out p false
    obtain ⟨ab, hab⟩ : ∃ ab, ab = adr S i := ⟨_, rfl⟩
    rw [← hab] at hcell HW P1
    rw [← AP.out] at HW P1
    unfold PlaceA at P1
    unfold WalkA at HW
    obtain ⟨G, hGr⟩ : ∃ G, G = gr S := ⟨_, rfl⟩
    obtain ⟨ad, had⟩ : ∃ ad, ad = adr S := ⟨_, rfl⟩
    rw [← hGr, ← had] at HG
    rw [← hGr] at Agl
    rw [← hGr, ← had] at HW P1
    clear hd hgl hab hGr had
    by_cases c0 : (plF G i p).1 = 0
    · obtain ⟨d, hd⟩ : ∃ d, d = (plF G i p).2.1 := ⟨_, rfl⟩
      obtain ⟨nm, hnm⟩ : ∃ nm, nm = (plF G i p).2.2 := ⟨_, rfl⟩
      obtain ⟨hdl, hok, hk1, hno, hyes⟩ := place_step (HG.out w4 (Below.refl _ _)) Agl.out (p := p) (d := d) (nm := nm) (by rw [hd, hnm, ← c0])
      rw [if_pos c0, c0, ← hd, ← hnm] at P1
      have Adl := aside hdl
      have Ak1 := aside hk1
      have HC := aside (fun W => check_any (ba nm) W)
      rw [if_pos hok] at HC
      have HK : Aside (∀ W, Below w4.heap.size w4 W → Calls Tryz.prog 21 #[Pt (ad d)] W fun e w' => e = .returned (.int .i8 1) ∧ w' = W) := fun W b => by rw [← Ak1.out]; exact kind_at (HG.out W b) Adl.out
      have HGt : Aside (∀ W, Below w4.heap.size w4 W → Calls Tryz.prog 22 #[Pt (ad d), .string (ba nm)] W fun e w' => e = .returned (match lkp (nk G d).L nm with | some j => .tuple #[Pt (ad j), .int .i64 0] | none => .tuple #[.pointer none, .int .i64 192]) ∧ w' = W) := fun W b => get_at (HG.out W b) Adl.out Ak1.out nm
      obtain ⟨N, hN⟩ : ∃ N, N = ba nm := ⟨_, rfl⟩
      obtain ⟨db, hdb⟩ : ∃ db, db = ad d := ⟨_, rfl⟩
      rw [← hdb, ← hN] at P1 HGt
      rw [← hdb] at HK
      rw [← hN] at HC
      clear c0 hd hnm hok hk1 hdl hN hdb
      cases hlk : lkp (nk G d).L nm with
      | none =>
        have hw1 := hno hlk
        rw [hlk] at HGt
        simp only at HGt
        rw [if_neg (by rw [hw1]; decide), hw1] at HW
        clear hno hyes hlk hw1
        go_wp2_with fail
        refine P1.out.mono ?_
        rintro e w5 ⟨rfl, b5⟩
        have A5 := aside b5
        clear b5 P1
        go_wp2_with fail
        refine (HW.out w5 A5.out).mono ?_
        rintro e w6 ⟨rfl, b6⟩
        have A6 := aside (below_tr A5.out b6)
        clear b6
        go_wp2_with fail
        refine (HC.out w6).mono ?_
        rintro e w7 ⟨rfl, b7⟩
        have A7 := aside (below_tr A6.out b7)
        clear b7
        go_wp2_with fail
        refine (HK.out w7 A7.out).mono ?_
        rintro e wa ⟨rfl, rfl⟩
        go_wp2_with fail
        refine (HGt.out wa A7.out).mono ?_
        rintro e w7 ⟨rfl, rfl⟩
        go_wp2_with fail
        go_ret
        exact ⟨rfl, below_tr A3.out A7.out⟩
      | some j =>
        obtain ⟨hjl, y4, y3, y0⟩ := hyes j hlk
        rw [hlk] at HGt
        simp only at HGt
        have Ajl := aside hjl
        obtain ⟨K, hK⟩ : ∃ K, K = (nk G j).k := ⟨_, rfl⟩
        have HKj : Aside (∀ W, Below w4.heap.size w4 W → Calls Tryz.prog 21 #[Pt (ad j)] W fun e w' => e = .returned (.int .i8 K) ∧ w' = W) := fun W b => by rw [hK]; exact kind_at (HG.out W b) Ajl.out
        have HNd : Aside (∀ W, Below w4.heap.size w4 W → ∃ t b, Nd W (ad j) t b) := fun W b => (HG.out W b).nd Ajl.out
        by_cases c4 : K = 4
        · have hw1 := y4 (by rw [← hK]; exact c4)
          rw [if_neg (by rw [hw1]; decide), hw1] at HW
          rw [c4] at HKj
          obtain ⟨jb, hjb⟩ : ∃ jb, jb = ad j := ⟨_, rfl⟩
          rw [← hjb] at HGt HKj
          clear hno hyes hlk hw1 y4 y3 y0 hjl c4 hK hjb
          go_wp2_with fail
          refine P1.out.mono ?_
          rintro e w5 ⟨rfl, b5⟩
          have A5 := aside b5
          clear b5 P1
          go_wp2_with fail
          refine (HW.out w5 A5.out).mono ?_
          rintro e w6 ⟨rfl, b6⟩
          have A6 := aside (below_tr A5.out b6)
          clear b6
          go_wp2_with fail
          refine (HC.out w6).mono ?_
          rintro e w7 ⟨rfl, b7⟩
          have A7 := aside (below_tr A6.out b7)
          clear b7
          go_wp2_with fail
          refine (HK.out w7 A7.out).mono ?_
          rintro e wa ⟨rfl, rfl⟩
          go_wp2_with fail
          refine (HGt.out wa A7.out).mono ?_
          rintro e w7 ⟨rfl, rfl⟩
          go_wp2_with fail
          refine (HKj.out w7 A7.out).mono ?_
          rintro e w8 ⟨rfl, rfl⟩
          go_wp2_with fail
          go_ret
          exact ⟨rfl, below_tr A3.out A7.out⟩
        · by_cases c3 : K = 3
          · obtain ⟨hw1, hw2⟩ := y3 (by rw [← hK]; exact c3)
            rw [if_pos hw1, hw1, hw2] at HW
            have HU : Aside (∀ W, Below w4.heap.size w4 W → Calls Tryz.prog 23 #[Pt (ad j)] W fun e w' => e = .returned (.tuple #[Pt (ad (nk G j).u), .int .i64 0]) ∧ w' = W) := fun W b => under_at (HG.out W b) Ajl.out (by rw [← hK]; exact c3)
            have HNu : Aside (∀ W, Below w4.heap.size w4 W → ∃ t b, Nd W (ad (nk G j).u) t b) := fun W b => (HG.out W b).nd ((HG.out W b).und j (by rw [← hK]; exact c3)).1
            rw [c3] at HKj
            obtain ⟨jb, hjb⟩ : ∃ jb, jb = ad j := ⟨_, rfl⟩
            obtain ⟨ub, hub⟩ : ∃ ub, ub = ad (nk G j).u := ⟨_, rfl⟩
            rw [← hjb] at HGt HKj HU
            rw [← hub] at HW HU HNu
            clear hno hyes hlk hw1 hw2 y4 y3 y0 hjl c4 c3 hK hjb hub
            go_wp2_with fail
            refine P1.out.mono ?_
            rintro e w5 ⟨rfl, b5⟩
            have A5 := aside b5
            clear b5 P1
            go_wp2_with fail
            refine (HW.out w5 A5.out).mono ?_
            rintro e w6 ⟨rfl, b6⟩
            have A6 := aside (below_tr A5.out b6)
            clear b6
            go_wp2_with fail
            refine (HC.out w6).mono ?_
            rintro e w7 ⟨rfl, b7⟩
            have A7 := aside (below_tr A6.out b7)
            clear b7
            go_wp2_with fail
            refine (HK.out w7 A7.out).mono ?_
            rintro e wa ⟨rfl, rfl⟩
            go_wp2_with fail
            refine (HGt.out wa A7.out).mono ?_
            rintro e w7 ⟨rfl, rfl⟩
            go_wp2_with fail
            refine (HKj.out w7 A7.out).mono ?_
            rintro e w8 ⟨rfl, rfl⟩
            go_wp2_with fail
            refine (HKj.out w8 A7.out).mono ?_
            rintro e w9 ⟨rfl, rfl⟩
            go_wp2_with fail
            refine (HU.out w9 A7.out).mono ?_
            rintro e w10 ⟨rfl, rfl⟩
            obtain ⟨nt, nbk, hnd⟩ := HNu.out w10 A7.out
            have heq := eq_node hnd hnd
            rw [decide_eq_true rfl] at heq
            clear hnd
            go_wp2_with fail
            go_ret
            exact ⟨rfl, below_tr A3.out A7.out⟩
          · obtain ⟨hw1, hw2⟩ := y0 (by rw [← hK]; exact c4) (by rw [← hK]; exact c3)
            rw [if_pos hw1, hw1, hw2] at HW
            obtain ⟨jb, hjb⟩ : ∃ jb, jb = ad j := ⟨_, rfl⟩
            rw [← hjb] at HGt HKj HW HNd
            have c4b : (K == 4) = false := beq_eq_false_iff_ne.2 c4
            have c3b : (K == 3) = false := beq_eq_false_iff_ne.2 c3
            clear hno hyes hlk hw1 hw2 y4 y3 y0 hjl hK hjb
            go_wp2_with fail
            refine P1.out.mono ?_
            rintro e w5 ⟨rfl, b5⟩
            have A5 := aside b5
            clear b5 P1
            go_wp2_with fail
            refine (HW.out w5 A5.out).mono ?_
            rintro e w6 ⟨rfl, b6⟩
            have A6 := aside (below_tr A5.out b6)
            clear b6
            go_wp2_with fail
            refine (HC.out w6).mono ?_
            rintro e w7 ⟨rfl, b7⟩
            have A7 := aside (below_tr A6.out b7)
            clear b7
            go_wp2_with fail
            refine (HK.out w7 A7.out).mono ?_
            rintro e wa ⟨rfl, rfl⟩
            go_wp2_with fail
            refine (HGt.out wa A7.out).mono ?_
            rintro e w7 ⟨rfl, rfl⟩
            go_wp2_with fail
            refine (HKj.out w7 A7.out).mono ?_
            rintro e w8 ⟨rfl, rfl⟩
            go_wp2_with fail
            refine (HKj.out w8 A7.out).mono ?_
            rintro e w9 ⟨rfl, rfl⟩
            obtain ⟨nt, nbk, hnd⟩ := HNd.out w9 A7.out
            have heq := eq_node hnd hnd
            rw [decide_eq_true rfl] at heq
            clear hnd
            go_wp2_with fail
            go_ret
            exact ⟨rfl, below_tr A3.out A7.out⟩
    · have hn0 := place_none c0
      rw [if_neg c0, hn0, show ba [] = ⟨#[]⟩ from rfl] at P1
      obtain ⟨er, her⟩ : ∃ er, er = (plF G i p).1 := ⟨_, rfl⟩
      rw [← her] at c0 P1
      have c0b : (er == 0) = false := beq_eq_false_iff_ne.2 c0
      obtain ⟨V1, hV1⟩ : ∃ V1 : Value, V1 = if (wkF G i p false).1 = 0 then Pt (ad (lst (wkF G i p false).2)) else .pointer none := ⟨_, rfl⟩
      rw [← hV1] at HW
      clear her hn0 hV1
      go_wp2_with fail
      refine P1.out.mono ?_
      rintro e w5 ⟨rfl, b5⟩
      have A5 := aside b5
      clear b5 P1
      go_wp2_with fail
      refine (HW.out w5 A5.out).mono ?_
      rintro e w6 ⟨rfl, b6⟩
      have A6 := aside (below_tr A5.out b6)
      clear b6
      go_wp2_with fail
      go_ret
      exact ⟨rfl, below_tr A3.out A6.out⟩
end Go.Proofs.YtknjclekfmmfeaaGreatDoor
