/- PathPlain, walked. -/
import Derived.Test.YtknjclekfmmfeaaGreatDoorQLqa
namespace Go.Proofs.YtknjclekfmmfeaaGreatDoor
open Go.RowKit Go.ChangeMaps Go.Shelf

set_option maxRecDepth 20000 in
set_option maxHeartbeats 8000000 in
theorem pathPlain_walk {w : World} (hM : Mxl w) (a : Option Addr) (L : List Spx) (ca : Nat) (h : SpAt w a L) (hL : L.length ≤ 140737488351232) (hz : ∀ s ∈ L, s.to.length ≤ 140737488351232 ∧ s.nm.length ≤ 140737488351232) (fr : Int) (p : B) :
    Calls Tryz.prog 5 #[.slice a L.length ca, .int .i64 fr, .string (ba p)] w fun e w' => e = .returned (.bool true) ∧ Below w.heap.size w w' := by
  obtain ⟨n, hn⟩ : ∃ n, n = L.length := ⟨_, rfl⟩
  have AM := aside hM
  have AI := aside h
  have An := aside hn
  have Az := aside hz
  have AL := aside hL
  obtain ⟨P, hP⟩ : ∃ P, P = ba p := ⟨_, rfl⟩
  have AP := aside hP
  rw [← hn, ← hP]
  clear hM h hn hz hL hP
  go_enter Tryz.func5, Tryz.ntmps5
  go_wp2_with fail
  refine (works_any w AM.out).mono ?_
  rintro e w1 ⟨rfl, b1⟩
  have A1 := aside b1
  have M1 := aside (AM.out.below b1 AM.out.lt)
  clear b1
  go_wp2_with fail
  obtain ⟨V, hV⟩ : ∃ V, V = w1.alloc (.cells #[.string P] 9) := ⟨_, rfl⟩
  have hBV : Below w1.heap.size w1 V := by rw [hV]; exact below_al _ _
  have hcp : V.cell? ⟨w1.heap.size, 0, none⟩ = some (.string (ba p)) := by
    rw [cell_of_row V w1.heap.size 0 _ _ _ (by rw [hV]; exact heap_alloc_new w1 _), AP.out]; rfl
  rw [← hV]
  have AB := aside (beyond_any a L ca ((AI.out.old A1.out).old hBV) AL.out Az.out w1.heap.size p hcp)
  rw [← An.out] at AB
  have AV := aside (below_tr A1.out hBV)
  have MV := aside (M1.out.below hBV M1.out.lt)
  clear hV hBV hcp
  refine AB.out.mono ?_
  rintro e w2 ⟨b2, t, rfl, ht⟩
  have A2 := aside (below_tr AV.out b2)
  have M2 := aside (MV.out.below b2 MV.out.lt)
  have At := aside ht
  clear b2 ht AB
  cases t with
  | true =>
    go_wp2_with fail
    refine (works_any w2 M2.out).mono ?_
    rintro e w3 ⟨rfl, b3⟩
    have A3 := aside (below_tr A2.out b3)
    clear b3
    go_wp2_with fail
    go_ret
    exact ⟨rfl, A3.out⟩
  | false =>
    obtain ⟨l1, l2, l3⟩ := At.out rfl
    have hnl : n ≤ 200 := by rw [An.out]; exact l1
    have AI2 := aside (AI.out.old A2.out)
    have Al3 := aside l3
    clear l1 l2 l3 At
    go_wp2_with fail
    go_loopg [7, 9, 31] n (fun gk s4 _ si wx => ∃ i : Nat, i + gk = n ∧ si = .int .i64 (i : Int) ∧ GwP wx w2.heap.size s4 (fil (L.take i)) ∧ Below w2.heap.size w2 wx)
    case atStart => exact ⟨0, by omega, rfl, GwP.nil _ _, Below.refl _ _⟩
    case round =>
      obtain ⟨i, hig, rfl, hgw, hbx⟩ := hrel
      have AG := aside hgw
      have AX := aside hbx
      clear hgw hbx
      cases gk with
      | zero =>
        obtain rfl : i = n := by omega
        have hi : ¬ (i : Int) < (i : Int) := by omega
        have hfl := fil_len L
        rw [← An.out] at hfl
        have htk : L.take i = L := by rw [List.take_of_length_le (by rw [← An.out]; exact Nat.le_refl _)]
        rw [htk] at AG
        obtain ⟨fa, fc, rfl, hsp⟩ := AG.out.at
        have AO := aside (only_any fa (fil L) fc hsp (by omega) (fun s hs => Al3.out s (fil_mem hs).1))
        obtain ⟨fn, hfn⟩ : ∃ fn, fn = (fil L).length := ⟨_, rfl⟩
        have Afn := aside hfn
        rw [← hfn] at AO hfl ⊢
        have A3 := aside (below_tr A2.out AX.out)
        have M3 := aside (M2.out.below AX.out M2.out.lt)
        clear hsp htk hfn AI2
        go_wp2_with fail
        refine AO.out.mono ?_
        rintro e w3 ⟨wb, S, g, c, rfl, hld, hat⟩
        obtain ⟨e1, he1, -⟩ := hld.li.fst
        have hs0 := mem_len he1
        have hsl := hld.li.len
        rw [← Afn.out] at hsl
        have Anl := aside hld.nolink
        have A4 := aside (below_tr A3.out (show Below wr.heap.size wr w3 from hld.bel))
        have M4 := aside (M3.out.below hld.bel M3.out.lt)
        have AGx := aside hld.gx
        have Aat := aside hat
        obtain ⟨sl, hsle⟩ : ∃ sl, sl = S.length := ⟨_, rfl⟩
        have Asl := aside hsle
        rw [← hsle] at hs0 hsl ⊢
        have hsn : ¬ (sl : Int) = 0 := by omega
        have hsb : ((sl : Int) == 0) = false := beq_eq_false_iff_ne.2 hsn
        clear hld hat he1 hsle AO
        go_wp2_with fail
        refine (pick_any fr sl w3 hs0 (by omega)).mono ?_
        rintro e w4 ⟨j, hj, rfl, rfl⟩
        obtain ⟨d, hd⟩ : ∃ d, S[j]? = some d := ⟨_, List.getElem?_eq_getElem (by rw [← Asl.out]; exact hj)⟩
        have hcell := Aat.out j d hd
        rw [← adr_of hd] at hcell
        have hgl : j < (gr S).length := by unfold gr; rw [List.length_map, ← Asl.out]; exact hj
        have Agl := aside hgl
        have hi0 : (0 : Int) ≤ (j : Int) := by omega
        have hi1 : (j : Int) < (sl : Int) := by omega
        have HW : Aside (∀ W, Below w4.heap.size w4 W → ∀ (q : B) (f : Bool), Calls Tryz.prog 11 #[Pt (adr S j), .string (ba q), .bool f] W fun e w' => e = .returned (WalkA (adr S) (wkF (gr S) j q f)) ∧ Below W.heap.size W w') := fun W b q f => walk_any (AGx.out.below b).gat (M4.out.below b M4.out.lt) Agl.out q f
        have HR : Aside (∀ W, Below w4.heap.size w4 W → ∀ (q : B), Calls Tryz.prog 16 #[Pt (adr S j), .string (ba q)] W fun e w' => e = .returned (.tuple #[.string (ba (reF (wkF (gr S) j q true)).2), .int .i64 (reF (wkF (gr S) j q true)).1]) ∧ Below W.heap.size W w') := fun W b q => real_any (AGx.out.below b).gat (M4.out.below b M4.out.lt) Agl.out q
        have HC : Aside (∀ W, Below w4.heap.size w4 W → ∀ (q : B), Calls Tryz.prog 19 #[.string (ba q)] W fun e w' => e = .returned (clA q) ∧ Below W.heap.size W w') := fun W b q => clean_any q W (M4.out.below b M4.out.lt)
        obtain ⟨ab, hab⟩ : ∃ ab, ab = adr S j := ⟨_, rfl⟩
        rw [← hab] at hcell HW HR
        have C1 := aside (HC.out w4 (Below.refl _ _) p)
        rw [← AP.out] at C1
        have HWp : Aside (∀ W, Below w4.heap.size w4 W → Calls Tryz.prog 11 #[Pt ab, .string P, .bool true] W fun e w' => e = .returned (WalkA (adr S) (wkF (gr S) j p true)) ∧ Below W.heap.size W w') := fun W b => by rw [AP.out]; exact HW.out W b p true
        have HRp : Aside (∀ W, Below w4.heap.size w4 W → Calls Tryz.prog 16 #[Pt ab, .string P] W fun e w' => e = .returned (.tuple #[.string (ba (reF (wkF (gr S) j p true)).2), .int .i64 (reF (wkF (gr S) j p true)).1]) ∧ Below W.heap.size W w') := fun W b => by rw [AP.out]; exact HR.out W b p
        have APl := aside (fun h => plain_real (G := gr S) Anl.out (i := j) (p := p) h)
        obtain ⟨R, hR⟩ : ∃ R, R = wkF (gr S) j p true := ⟨_, rfl⟩
        rw [← hR] at HWp HRp APl
        clear hd hgl hab hR HW HR
        by_cases hok : p.length ≤ 4096 ∧ ∃ b, cln (prt p) [] = some b
        · obtain ⟨hpl, b, hb⟩ := hok
          obtain ⟨q1, q2⟩ := clean_again hpl hb
          rw [q1] at C1
          have ARe : Aside (R.1 = 0 → reF R = (0, pth b)) := fun h0 => by
            obtain ⟨-, b', hb', hr⟩ := APl.out h0
            rw [hb] at hb'
            cases hb'
            exact hr
          have HC2 : Aside (∀ W, Below w4.heap.size w4 W → Calls Tryz.prog 19 #[.string (ba (pth b))] W fun e w' => e = .returned (.tuple #[.string (ba (pth b)), .int .i64 0]) ∧ Below W.heap.size W w') := fun W hb => by rw [← q2]; exact HC.out W hb (pth b)
          obtain ⟨N, hN⟩ : ∃ N, N = ba (pth b) := ⟨_, rfl⟩
          have AN := aside hN
          rw [← hN] at C1 HC2
          clear q1 q2 hb hpl hN HC APl
          go_wp2_with fail
          refine C1.out.mono ?_
          rintro e w5 ⟨rfl, b5⟩
          have A5 := aside b5
          clear b5 C1
          have C2 := aside (HC2.out w5 A5.out)
          go_wp2_with fail
          refine C2.out.mono ?_
          rintro e w6 ⟨rfl, b6⟩
          have A6 := aside (below_tr A5.out b6)
          clear b6 C2 HC2
          have W1 := aside (HWp.out w6 A6.out)
          unfold WalkA at W1
          go_wp2_with fail
          refine W1.out.mono ?_
          rintro e w7 ⟨rfl, b7⟩
          have A7 := aside (below_tr A6.out b7)
          clear b7 W1 HWp
          have R1 := aside (HRp.out w7 A7.out)
          clear HRp
          by_cases c0 : R.1 = 0
          · rw [ARe.out c0] at R1
            simp only at R1
            rw [← AN.out] at R1
            rw [if_pos c0, c0]
            obtain ⟨want, hwant⟩ : ∃ z, z = adr S (lst R.2) := ⟨_, rfl⟩
            rw [← hwant]
            clear hwant c0 ARe
            go_wp2_with fail
            refine R1.out.mono ?_
            rintro e w8 ⟨rfl, b8⟩
            have A8 := aside (below_tr A7.out b8)
            clear b8 R1
            go_wp2_with fail
            go_ret
            exact ⟨rfl, below_tr A4.out A8.out⟩
          · rw [if_neg c0]
            obtain ⟨er, her⟩ : ∃ er, er = R.1 := ⟨_, rfl⟩
            rw [← her] at c0 ⊢
            have c0b : (er == 0) = false := beq_eq_false_iff_ne.2 c0
            clear her R1 ARe
            go_wp2_with fail
            go_ret
            exact ⟨rfl, below_tr A4.out A7.out⟩
        · have c0 : ¬ R.1 = 0 := fun h0 => by
            obtain ⟨hpl, b, hb, -⟩ := APl.out h0
            exact hok ⟨hpl, b, hb⟩
          have hcl : ∃ ec : Int, clA p = .tuple #[.string ⟨#[]⟩, .int .i64 ec] ∧ (ec = 3 ∨ ec = 190) := by
            unfold clA
            by_cases hpl : 4096 < p.length
            · exact ⟨3, by rw [if_pos hpl], .inl rfl⟩
            · rw [if_neg hpl]
              cases hb : cln (prt p) [] with
              | none => exact ⟨190, rfl, .inr rfl⟩
              | some b => exact absurd ⟨by omega, b, hb⟩ hok
          obtain ⟨ec, hce, hec⟩ := hcl
          rw [hce] at C1
          obtain ⟨er, her⟩ : ∃ er, er = R.1 := ⟨_, rfl⟩
          have HWq : Aside (∀ W, Below w4.heap.size w4 W → Calls Tryz.prog 11 #[Pt ab, .string P, .bool true] W fun e w' => e = .returned (.tuple #[.pointer none, .int .i64 er]) ∧ Below W.heap.size W w') := fun W b => by
            have := HWp.out W b
            unfold WalkA at this
            rw [if_neg c0, ← her] at this
            exact this
          rw [← her] at c0
          have c0b : (er == 0) = false := beq_eq_false_iff_ne.2 c0
          clear her hce hok HWp HRp APl HC
          rcases hec with rfl | rfl
          · go_wp2_with fail
            refine C1.out.mono ?_
            rintro e w5 ⟨rfl, b5⟩
            have A5 := aside b5
            clear b5 C1
            have W1 := aside (HWq.out w5 A5.out)
            go_wp2_with fail
            refine W1.out.mono ?_
            rintro e w6 ⟨rfl, b6⟩
            have A6 := aside (below_tr A5.out b6)
            clear b6 W1
            go_wp2_with fail
            go_ret
            exact ⟨rfl, below_tr A4.out A6.out⟩
          · go_wp2_with fail
            refine C1.out.mono ?_
            rintro e w5 ⟨rfl, b5⟩
            have A5 := aside b5
            clear b5 C1
            have W1 := aside (HWq.out w5 A5.out)
            go_wp2_with fail
            refine W1.out.mono ?_
            rintro e w6 ⟨rfl, b6⟩
            have A6 := aside (below_tr A5.out b6)
            clear b6 W1
            go_wp2_with fail
            go_ret
            exact ⟨rfl, below_tr A4.out A6.out⟩
      | succ gk =>
        have hi : (i : Int) < (n : Int) := by omega
        have hi0 : (0 : Int) ≤ (i : Int) := by omega
        have hwi : IntKind.i64.wrap ((i : Int) + 1) = ((i + 1 : Nat) : Int) := by rw [wrap_small _ (by omega) (by omega)]; simp
        obtain ⟨s, hs⟩ : ∃ s, L[i]? = some s := ⟨_, List.getElem?_eq_getElem (by rw [← An.out]; omega)⟩
        have Aft := aside (fil_take hs)
        obtain ⟨g, o, rfl, hsp⟩ := AI2.out (fun e => by rw [e] at hs; simp at hs)
        have hcell : ∀ t v, (spc L)[i * 5 + t]? = some v → wr.cell? ⟨g, o + i * 5 + t, none⟩ = some v := fun t v hv => by
          have h1 := hsp _ v hv
          rw [← Nat.add_assoc] at h1
          exact (AX.out.cell (p := ⟨g, o + i * 5 + t, none⟩) (World.block_lt_of_cell? w2 _ h1)).trans h1
        obtain ⟨t0, t1, t2, t3, t4⟩ := spc_at hs
        have d0 := hcell 0 _ t0
        have d1 := hcell 1 _ t1
        have d2 := hcell 2 _ t2
        have d3 := hcell 3 _ t3
        have d4 := hcell 4 _ t4
        rw [Nat.add_zero] at d0
        clear hcell t0 t1 t2 t3 t4 hs hsp
        obtain ⟨si, so, nm, k, to⟩ := s
        simp only at d0 d1 d2 d3 d4
        obtain ⟨N, hN⟩ : ∃ N, N = ba nm := ⟨_, rfl⟩
        obtain ⟨T, hT⟩ : ∃ T, T = ba to := ⟨_, rfl⟩
        rw [← hN] at d2
        rw [← hT] at d4
        have AN := aside hN
        have AT := aside hT
        have hfl := fil_len (L.take i)
        have htl : (L.take i).length ≤ i := by rw [List.length_take]; omega
        clear hN hT
        by_cases hk : k = 2
        · subst hk
          rw [if_pos rfl, List.append_nil] at Aft
          go_wp2_with fail
          go_roundg gk
          case measure => omega
          case rel => exact ⟨i + 1, by omega, by first | rfl | simp, by rw [Aft.out]; exact AG.out.below (below_al _ _), AX.out.trans ((below_al _ _).mono AX.out.size)⟩
        · have hkb : (k == 2) = false := beq_eq_false_iff_ne.2 hk
          rw [if_neg hk] at Aft
          obtain ⟨V, hV⟩ : ∃ V, V = wr.alloc (.cells #[.int .i64 si, .int .i64 so, .string N, .int .i8 k, .string T] 55) := ⟨_, rfl⟩
          obtain ⟨W, hW⟩ : ∃ W, W = V.alloc (.cells #[.int .i64 si, .int .i64 so, .string N, .int .i8 k, .string T] 55) := ⟨_, rfl⟩
          have hBW : Below wr.heap.size wr W := by rw [hW, hV]; exact below_tr (below_al _ _) (below_al _ _)
          have AGW := aside (AG.out.below hBW)
          have AXW := aside (AX.out.trans (hBW.mono AX.out.size))
          have ASr : Aside (SrcAt W (.slice (some ⟨wr.heap.size + 1, 0, none⟩) 1 1) 1 [.int .i64 si, .int .i64 so, .string N, .int .i8 k, .string T]) := by
            rw [← show V.heap.size = wr.heap.size + 1 by rw [hV]; simp]
            exact ⟨_, _, rfl, fun _ => ⟨_, rfl, fun j u hj => by
            rw [Addr.add_lit, Nat.zero_add, hW, cell_of_row _ _ j _ _ _ (heap_alloc_new V _)]
            simpa using hj⟩⟩
          obtain ⟨dl, hdl⟩ : ∃ dl, dl = (fil (L.take i)).length := ⟨_, rfl⟩
          have Aow := aside AGW.out.1
          rw [← hdl] at Aow hfl
          have Adn := aside hdl
          clear hBW hdl
          go_wp2_with (at_builtin; (first | rw [← hV, ← hW] | rw [← hW]); refine wpList_append_any W rfl _ _ 22 rfl 55 (.agg #[.int .i64 0, .int .i64 0, .string ⟨#[]⟩, .int .i8 0, .string ⟨#[]⟩]) 5 56 Tryz.underlying22 infoSpx rfl (by omega) _ dl (spc (fil (L.take i))) rfl Aow.out _ 1 [.int .i64 si, .int .i64 so, .string N, .int .i8 k, .string T] rfl rfl ASr.out (by intro u hm; simp only [List.mem_cons, List.not_mem_nil, or_false] at hm; rcases hm with rfl | rfl | rfl | rfl | rfl <;> rfl) (by unfold maxLen; omega) (by omega) ?_; intro v4 w4 ho4 hu4 hv4; obtain ⟨h5, h6⟩ := AGW.out.more (x := ⟨si, so, nm, k, to⟩) AXW.out.size (by rw [← Adn.out, ← AN.out, ← AT.out]; exact ho4) hu4 hv4; have A5 := aside h5; have A6 := aside (AXW.out.trans h6); clear ho4 hu4 hv4 h5 h6)
          go_roundg gk
          case measure => omega
          case rel => exact ⟨i + 1, by omega, by first | rfl | simp, by rw [Aft.out]; exact A5.out, A6.out⟩
end Go.Proofs.YtknjclekfmmfeaaGreatDoor
