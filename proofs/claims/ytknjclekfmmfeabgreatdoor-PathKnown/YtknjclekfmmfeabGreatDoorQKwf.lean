/- laid: a world of specs that are all made and taken, told exactly. -/
import Derived.Test.YtknjclekfmmfeabGreatDoorQKwe
namespace Go.Proofs.YtknjclekfmmfeabGreatDoor
open Go.RowKit Go.ChangeMaps

set_option maxRecDepth 20000 in
set_option maxHeartbeats 8000000 in
theorem laid_good {w : World} (a : Option Addr) (L : List Spx) (ca : Nat) (h : SpAt w a L) (hL : L.length ≤ 1000) (hto : ∀ s ∈ L, s.to.length ≤ 1048576 ∧ s.nm.length ≤ 1048576) (hgd : ∀ s ∈ L, Good s) (I : Nat → List Ne → Prop) (hI0 : ∀ nb db mb rb, I 0 [⟨1, [], [], 0, none, nb, db, mb, rb⟩])
    (hI : ∀ (i : Nat) (s : Spx) (S : List Ne) (e d : Ne) (q : Nat), L[i]? = some s → I i S → e.k = s.k → e.L = [] → e.par = none → (e.to = if s.k = 2 then s.to else []) → e.u = 0 → (dls S S.length)[pk s.i (dls S S.length).length]? = some q → S[q]? = some d → adc (S ++ [e]) q d s.nm S.length e = 0 ∧ I (i + 1) (sadd (S ++ [e]) q S.length s.nm)) :
    Calls Tryz.prog 13 #[.slice a L.length ca] w fun r w' => ∃ wb S, r = .returned (.tuple #[Pt wb, .bool true]) ∧ Ld w wb L L.length w' S ∧ I L.length S := by
  have AH := aside h
  have Agd := aside hgd
  have AI := aside hI
  have Ato := aside hto
  obtain ⟨n, hn⟩ : ∃ n, n = L.length := ⟨_, rfl⟩
  have An := aside hn
  rw [← hn] at hL ⊢
  clear h hto hn hgd hI
  go_enter Tryz.func13, Tryz.ntmps13
  go_wp2_with fail
  refine (dir_new w).mono ?_
  rintro e w1 ⟨nb, db, mb, rfl, h1, h2, h3, hD, b1⟩
  have A1 := aside b1
  have AD := aside hD
  clear b1 hD
  go_wp2_with fail
  obtain ⟨V1, hV1⟩ : ∃ V1, V1 = w1.alloc (.cells #[Pt nb] 29) := ⟨_, rfl⟩
  have hBV1 : Below w1.heap.size w1 V1 := by rw [hV1]; exact below_al _ _
  have hr1 : V1.heap[w1.heap.size]? = some (.cells #[Pt nb] 29 (0, 0)) := by rw [hV1]; exact heap_alloc_new w1 _
  rw [← hV1]
  clear hV1
  refine (rDir_any V1).mono ?_
  rintro e w2 ⟨rfl, hr, b2⟩
  have hz1 := A1.out.size
  have hz2 := hBV1.size
  have hz3 := b2.size
  have AF := aside (fresh_dir (GX.empty w.heap.size w) (RX.empty w.heap.size w) (Nat.le_refl _) h1 h2 h3 (AD.out.below hBV1) (below_tr A1.out hBV1) hr b2)
  have hr12 := (b2.block _ (Array.getElem?_eq_some_iff.1 hr1).1).trans hr1
  have A2 := aside (below_tr A1.out (below_tr hBV1 b2))
  have Ahr := aside hr12
  clear hr b2 hr1 hr12 hBV1
  go_wp2_with fail
  obtain ⟨U, hU⟩ : ∃ U, U = (w2.alloc (.cells #[Pt V1.heap.size] 61)).alloc (.cells #[.slice (some ⟨w1.heap.size, 0, none⟩) 1 1, .slice (some ⟨w2.heap.size, 0, none⟩) 1 1] 46) := ⟨_, rfl⟩
  have hBU : Below w2.heap.size w2 U := by rw [hU]; exact below_tr (below_al _ _) (below_al _ _)
  have hu0 : U.heap[w2.heap.size]? = some (.cells #[Pt V1.heap.size] 61 (0, 0)) := by rw [hU, (below_al _ _).block _ (by simp)]; exact heap_alloc_new w2 _
  have hu1 : U.heap[w2.heap.size + 1]? = some (.cells #[.slice (some ⟨w1.heap.size, 0, none⟩) 1 1, .slice (some ⟨w2.heap.size, 0, none⟩) 1 1] 46 (0, 0)) := by rw [hU]; exact heap_alloc2_new w2 _ _
  have hul : U.heap[w1.heap.size]? = some (.cells #[Pt nb] 29 (0, 0)) := (hBU.block _ (Array.getElem?_eq_some_iff.1 Ahr.out).1).trans Ahr.out
  obtain ⟨e0, he0⟩ : ∃ e0 : Ne, e0 = ⟨1, [], [], 0, none, nb, db, mb, V1.heap.size⟩ := ⟨_, rfl⟩
  have A0 : Aside (Ld w (w2.heap.size + 1) L 0 U [e0]) := by
    rw [he0]
    refine ⟨AF.out.2.2.2.1.below hBU, AF.out.2.2.2.2.below hBU, ⟨by omega, _, _, hu1, ?_, ?_⟩, ⟨Nat.le_refl _, ⟨_, rfl, rfl⟩, fun i e he hk h0 => ?_, fun i e he => ?_⟩, below_tr A2.out hBU, fun i e he hk => ?_⟩
    · exact ⟨w1.heap.size, 1, #[Pt nb], rfl, hz1, hul, Nat.le_refl _, by decide, .inl rfl, rfl⟩
    · exact ⟨w2.heap.size, 1, #[Pt V1.heap.size], rfl, by omega, hu0, Nat.le_refl _, by decide, .inl rfl, rfl⟩
    · cases i with
      | zero => exact absurd rfl h0
      | succ i => simp at he
    · cases i with
      | zero => simp only [List.getElem?_cons_zero, Option.some.injEq] at he; subst he; exact Nat.le_refl _
      | succ i => simp at he
    · cases i with
      | zero => simp only [List.getElem?_cons_zero, Option.some.injEq] at he; subst he; cases hk
      | succ i => simp at he
  have AI0 : Aside (I 0 [e0]) := by rw [he0]; exact hI0 _ _ _ _
  rw [← hU]
  obtain ⟨wb, hwb⟩ : ∃ wb, wb = w2.heap.size + 1 := ⟨_, rfl⟩
  rw [← hwb] at A0 ⊢
  clear hU hBU hu0 hu1 hul he0 hwb AF Ahr A2 AD A1 h1 h2 h3 hz1 hz2 hz3
  go_loopg [2, 3, 6, 7, 8, 9, 10, 11, 12, 13, 22] n (fun gk s2 s3 _ _ _ _ _ _ _ _ s22 wx => s2 = .pointer none ∧ s3 = .bool false ∧ ∃ (i : Nat) (S : List Ne), i + gk = n ∧ s22 = .int .i64 (i : Int) ∧ Ld w wb L i wx S ∧ I i S)
  case atStart => exact ⟨rfl, rfl, 0, [e0], by omega, rfl, A0.out, AI0.out⟩
  case round =>
    obtain ⟨rfl, rfl, i, S, hig, rfl, hld, hIS⟩ := hrel
    have AL := aside hld
    have AIS := aside hIS
    clear hld A0 hIS AI0
    cases gk with
    | zero =>
      obtain rfl : i = n := by omega
      have hi : ¬ (i : Int) < (i : Int) := by omega
      obtain ⟨g, c, g', c', hc0, -, hat, -, -⟩ := AL.out.lw.stay
      obtain ⟨e1, he1, -⟩ := AL.out.li.fst
      have hcl := (hat 0 e1 he1).1
      have hsl := mem_len he1
      obtain ⟨sl, hsle⟩ : ∃ sl, sl = S.length := ⟨_, rfl⟩
      rw [← hsle] at hc0 hsl
      have hs0 : (0 : Int) < (sl : Int) := by omega
      obtain ⟨b, hb⟩ : ∃ b, b = e1.nb := ⟨_, rfl⟩
      rw [← hb] at hcl
      have E1 := fun dd os => ext_cell hc0 dd os
      have E2 := fun dd os => ext_cell hcl dd os
      clear hat he1 hsle hb hc0 hcl
      go_wp2_with fail
      refine region_ext (by kernel_rfl) (by kernel_rfl) ?_
      repeat (any_goals (first | go_big_quiet_step (fail) | quiet_step (fail)))
      refine wpQuiet_nil ?_
      intro w7 hw7
      have AB := aside hw7
      clear hw7 E1 E2
      go_wp2_with fail
      go_ret2
      exact ⟨wb, S, rfl, AL.out.below AB.out, AIS.out⟩
    | succ gk =>
      have hi : (i : Int) < (n : Int) := by omega
      have hi0 : (0 : Int) ≤ (i : Int) := by omega
      have hwi : IntKind.i64.wrap ((i : Int) + 1) = ((i + 1 : Nat) : Int) := by rw [wrap_small _ (by omega) (by omega)]; simp
      obtain ⟨s, hs⟩ : ∃ s, L[i]? = some s := ⟨_, List.getElem?_eq_getElem (by rw [← An.out]; omega)⟩
      obtain ⟨g, o, rfl, hsp⟩ := AH.out (fun e => by rw [e] at hs; simp at hs)
      have hcell : ∀ t v, (spc L)[i * 5 + t]? = some v → wr.cell? ⟨g, o + i * 5 + t, none⟩ = some v := fun t v hv => by
        have h1 := hsp _ v hv
        rw [← Nat.add_assoc] at h1
        exact (AL.out.bel.cell (p := ⟨g, o + i * 5 + t, none⟩) (World.block_lt_of_cell? w _ h1)).trans h1
      obtain ⟨t0, t1, t2, t3, t4⟩ := spc_at hs
      have d0 := hcell 0 _ t0
      have d1 := hcell 1 _ t1
      have d2 := hcell 2 _ t2
      have d3 := hcell 3 _ t3
      have d4 := hcell 4 _ t4
      rw [Nat.add_zero] at d0
      have Asm := aside (List.mem_of_getElem? hs)
      have Agt := aside hs
      clear hcell t0 t1 t2 t3 t4 hs hsp
      obtain ⟨si, so, nm, k, to⟩ := s
      simp only at d0 d1 d2 d3 d4
      obtain ⟨N, hN⟩ : ∃ N, N = ba nm := ⟨_, rfl⟩
      obtain ⟨T, hT⟩ : ∃ T, T = ba to := ⟨_, rfl⟩
      rw [← hN] at d2
      rw [← hT] at d4
      have AN := aside hN
      have AT := aside hT
      clear hN hT
      go_wp2_with fail
      obtain ⟨V, hV⟩ : ∃ V, V = wr.alloc (.cells #[.int .i64 si, .int .i64 so, .string N, .int .i8 k, .string T] 24) := ⟨_, rfl⟩
      have hBV : Below wr.heap.size wr V := by rw [hV]; exact below_al _ _
      have hsb : V.heap[wr.heap.size]? = some (.cells #[.int .i64 si, .int .i64 so, .string N, .int .i8 k, .string T] 24 (0, 0)) := by rw [hV]; exact heap_alloc_new wr _
      rw [← hV]
      have AV := aside (AL.out.below hBV)
      have Asb := aside hsb
      obtain ⟨e1, he1, he1k⟩ := AL.out.li.fst
      have hSl := AL.out.li.len
      have AM := aside (made_good AV.out.lw AV.out.gx AV.out.rx AV.out.bel.size (by omega) he1 he1k ⟨si, so, nm, k, to⟩ (Ato.out _ Asm.out).1 (Agd.out _ Asm.out))
      unfold Spx.val at AM
      simp only at AM
      rw [← AN.out, ← AT.out] at AM
      have Ae1 := aside he1
      obtain ⟨sb, hsbe⟩ : ∃ sb, sb = wr.heap.size := ⟨_, rfl⟩
      rw [← hsbe] at Asb ⊢
      clear hV hBV hsb he1 d0 d1 d2 d3 d4 hsbe
      refine AM.out.mono ?_
      rintro r w1 ⟨hb1, v1, v2, e, rfl, ⟨hLe0, hpe0, hke0, hG1, hR1⟩, rfl, rfl, heto, heu⟩
      have A1 := aside (AV.out.below hb1)
      have hsl1 := (Array.getElem?_eq_some_iff.1 Asb.out).1
      have As1 := aside ((hb1.block _ hsl1).trans Asb.out)
      have hk5 : k ≠ 5 := by
        rcases Agd.out _ Asm.out with h | h | ⟨h, -⟩
        · simp only at h; omega
        · simp only at h; omega
        · simp only at h; omega
      obtain ⟨S1, hS1⟩ : ∃ S1, S1 = S ++ [e] := ⟨_, rfl⟩
      obtain ⟨j, hj1⟩ : ∃ j, j = S.length := ⟨_, rfl⟩
      rw [← hS1] at hG1 hR1
      have Acd : Aside (Cand S k S1 j e) := .inl ⟨hk5, hS1, hj1, hLe0, hpe0, hke0⟩
      have AG1 := aside hG1
      have AR1 := aside hR1
      have AeL := aside hLe0
      have AeP := aside hpe0
      have AeK := aside hke0
      have AeT := aside heto
      have AeU := aside heu
      have AS1 := aside hS1
      have Aj1 := aside hj1
      clear AM hb1 hsl1 hG1 hR1 hLe0 hpe0 hke0 heto heu hS1 hj1
      · skip
        have ADr := aside (dirs_any A1.out.lw A1.out.rx (by omega))
        go_wp2_with fail
        refine ADr.out.mono ?_
        rintro r w2 ⟨v, rfl, hgi, b2⟩
        have hne := dls_ne Ae1.out he1k (i := S.length) (by have := mem_len Ae1.out; omega)
        obtain ⟨dg, dc, rfl, hget⟩ := hgi.get hne
        have hdl := dls_len S S.length
        have hdn : 0 < (dls S S.length).length := List.length_pos_iff.2 hne
        have Aget := aside hget
        have A2 := aside b2
        have s2 := (b2.block _ (Array.getElem?_eq_some_iff.1 As1.out).1).trans As1.out
        have f0 : w2.cell? ⟨sb, 0, none⟩ = some (.int .i64 si) := by rw [cell_of_row w2 sb 0 _ _ _ s2]; rfl
        have f2 : w2.cell? ⟨sb, 2, none⟩ = some (.string N) := by rw [cell_of_row w2 sb 2 _ _ _ s2]; rfl
        have As2 := aside s2
        obtain ⟨dn, hdn2⟩ : ∃ dn, dn = (dls S S.length).length := ⟨_, rfl⟩
        rw [← hdn2] at hdl hdn ⊢
        have Adn := aside hdn2
        clear b2 hgi hget hdn2 hne ADr s2
        go_wp2_with fail
        refine (pick_val si dn w2 hdn (by omega)).mono ?_
        rintro r w3 ⟨rfl, rfl⟩
        have ht := pk_lt si hdn
        obtain ⟨t, hte⟩ : ∃ t, t = pk si dn := ⟨_, rfl⟩
        rw [← hte] at ht ⊢
        have Ate := aside hte
        clear hte
        obtain ⟨q, hq⟩ : ∃ q, (dls S S.length)[t]? = some q := ⟨_, List.getElem?_eq_getElem (by rw [← Adn.out]; exact ht)⟩
        have hcq := Aget.out t q hq
        obtain ⟨d, hd, hdk⟩ := dls_dir (List.mem_of_getElem? hq)
        have ht0 : (0 : Int) ≤ (t : Int) := by omega
        have ht1 : (t : Int) < (dn : Int) := by omega
        have A3 := aside (A1.out.below A2.out)
        obtain ⟨k1, k2, k3, k4⟩ := Acd.out.facts A3.out.li A3.out.gx hd hdk
        obtain ⟨lg, lc, xg, xc, hl0, hx1, hlat, hwb2, hstay⟩ := A3.out.lw.stay
        obtain ⟨hla, hxa⟩ := hlat q d hd
        have hq0 : (0 : Int) ≤ (q : Int) := by omega
        obtain ⟨sl, hsl⟩ : ∃ sl, sl = S.length := ⟨_, rfl⟩
        have hq1 : (q : Int) < (sl : Int) := by have := mem_len hd; omega
        rw [← hsl] at hl0 hx1
        have hdL := A3.out.li.few q d hd
        have hlo3 := A3.out.bel.size
        obtain ⟨C, hC⟩ : ∃ C, C = adc S1 q d nm j e := ⟨_, rfl⟩
        have hgh := AI.out i ⟨si, so, nm, k, to⟩ S e d q Agt.out AIS.out AeK.out AeL.out AeP.out AeT.out AeU.out (by rw [← Adn.out]; simp only; rw [← Ate.out]; exact hq) hd
        rw [← AS1.out, ← Aj1.out] at hgh
        have hC0 : C = 0 := by rw [hC]; exact hgh.1
        have AIn := aside hgh.2
        clear hgh
        have HA : Aside (∀ W, Below w3.heap.size w3 W → Calls Tryz.prog 25 #[Pt d.nb, .string N, Pt e.nb] W fun r w' => AddP w.heap.size S1 q j nm C W r w') := fun W hW => by
          rw [hC, AN.out]
          exact gadd ((AG1.out.below A2.out).below hW) (by have := hW.size; omega) k1 hdk k2 nm (by omega) (by omega) k3
        have HR : Aside (∀ W W', Below w3.heap.size w3 W → ∀ r, AddP w.heap.size S1 q j nm C W r W' → Calls Tryz.prog 30 #[Pt d.rb, .string N, Pt e.rb] W' fun r w' => RAdP w.heap.size S1 q j nm C W' r w') := fun W W' hW r hr => by
          rw [AN.out]
          rw [hC] at hr ⊢
          exact radd (hr.rx ((AR1.out.below A2.out).below hW)) (AG1.out.below A2.out) (by have := hr.2.1.size; have := hW.size; omega) k1 hdk k2 nm (by have := (Ato.out _ Asm.out).2; simp only at this; omega) (by omega) (by omega) k3
        have HS : Aside (∀ W W' r, Below w3.heap.size w3 W → AddP w.heap.size S1 q j nm C W r W' → (∀ o, W'.cell? ⟨wb, o, none⟩ = w3.cell? ⟨wb, o, none⟩) ∧ (∀ o, W'.cell? ⟨lg, o, none⟩ = w3.cell? ⟨lg, o, none⟩) ∧ (∀ o, W'.cell? ⟨xg, o, none⟩ = w3.cell? ⟨xg, o, none⟩) ∧ W'.cell? ⟨sb, 2, none⟩ = some (.string N)) := fun W W' r hW hr => by
          have hkeep : ∀ (T : TypeId), T ≠ 106 → ∀ (q : Nat) (cs : Array Value), w3.heap[q]? = some (Obj.cells cs T (0, 0)) → W'.heap[q]? = w3.heap[q]? := fun T hT q cs hq => by
            have h1 := hW.block q (Array.getElem?_eq_some_iff.1 hq).1
            exact (hr.alone T hT q cs (h1.trans hq)).trans h1
          obtain ⟨z1, z2, z3⟩ := hstay W' (fun T hT => hkeep T (by rcases hT with rfl | rfl | rfl <;> decide))
          exact ⟨z1, z2, z3, by rw [World.cell?_of_block (hkeep _ (by decide) _ _ As2.out)]; exact f2⟩
        have HS5 : Aside (∀ W W' W5 r r5, Below w3.heap.size w3 W → AddP w.heap.size S1 q j nm C W r W' → RAdP w.heap.size S1 q j nm C W' r5 W5 → (∀ o, W5.cell? ⟨wb, o, none⟩ = w3.cell? ⟨wb, o, none⟩) ∧ (∀ o, W5.cell? ⟨lg, o, none⟩ = w3.cell? ⟨lg, o, none⟩) ∧ (∀ o, W5.cell? ⟨xg, o, none⟩ = w3.cell? ⟨xg, o, none⟩) ∧ W5.cell? ⟨sb, 2, none⟩ = some (.string N) ∧ W5.cell? ⟨sb, 3, none⟩ = some (.int .i8 k) ∧ LW W5 w.heap.size wb S) := fun W W' W5 r r5 hW hr hr5 => by
          have hkeep : ∀ (T : TypeId), T ≠ 106 → T ≠ 114 → ∀ (q : Nat) (cs : Array Value), w3.heap[q]? = some (Obj.cells cs T (0, 0)) → W5.heap[q]? = w3.heap[q]? := fun T hT hT2 q cs hq => by
            have h1 := hW.block q (Array.getElem?_eq_some_iff.1 hq).1
            have h2 := hr.alone T hT q cs (h1.trans hq)
            exact (hr5.alone T hT2 q cs (h2.trans (h1.trans hq))).trans (h2.trans h1)
          have hk3 := fun (T : TypeId) (hT : T = 46 ∨ T = 29 ∨ T = 61) => hkeep T (by rcases hT with rfl | rfl | rfl <;> decide) (by rcases hT with rfl | rfl | rfl <;> decide)
          obtain ⟨z1, z2, z3⟩ := hstay W5 hk3
          refine ⟨z1, z2, z3, by rw [World.cell?_of_block (hkeep _ (by decide) (by decide) _ _ As2.out)]; exact f2, ?_, A3.out.lw.keep hk3⟩
          rw [World.cell?_of_block (hkeep _ (by decide) (by decide) _ _ As2.out), cell_of_row w3 sb 3 _ _ _ As2.out]; rfl
        obtain ⟨dnb, hdnb⟩ : ∃ z, z = d.nb := ⟨_, rfl⟩
        obtain ⟨drb, hdrb⟩ : ∃ z, z = d.rb := ⟨_, rfl⟩
        obtain ⟨enb, henb⟩ : ∃ z, z = e.nb := ⟨_, rfl⟩
        obtain ⟨erb, herb⟩ : ∃ z, z = e.rb := ⟨_, rfl⟩
        rw [← hdnb] at hla HA
        rw [← hdrb] at hxa HR
        rw [← henb] at HA ⊢
        rw [← herb] at HR ⊢
        have Ad := aside hd
        have Aenb := aside henb
        have Aerb := aside herb
        have Al0 := aside hl0
        have Ax1 := aside hx1
        have Ala := aside hla
        have Axa := aside hxa
        clear hd hdnb hdrb henb herb hlat hsl hq hstay hC
        go_wp2_with fail
        go_region_held3 (fun w' => w'.cell? ⟨wb, 0, none⟩ = some (.slice (some ⟨lg, 0, none⟩) sl lc) ∧ w'.cell? ⟨wb, 1, none⟩ = some (.slice (some ⟨xg, 0, none⟩) sl xc) ∧ w'.cell? ⟨lg, q, none⟩ = some (Pt dnb) ∧ w'.cell? ⟨xg, q, none⟩ = some (Pt drb) ∧ w'.cell? ⟨sb, 2, none⟩ = some (.string N)) (go_keep) (first
          | (go_at_call 25; refine (HA.out _ (below_dr w3)).mono ?_; intro r w4 ha4; obtain ⟨rfl, -⟩ := id ha4; obtain ⟨z1, z2, z3, y5⟩ := HS.out _ _ _ (below_dr w3) ha4; have y1 := (z1 0).trans Al0.out; have y2 := (z1 1).trans Ax1.out; have y3 := (z2 q).trans Ala.out; have y4 := (z3 q).trans Axa.out; have AA4 := aside ha4; clear ha4 z1 z2 z3)
          | (go_at_call 30; refine (HR.out _ _ (below_dr w3) _ AA4.out).mono ?_; intro r w5 ha5; obtain ⟨rfl, -⟩ := id ha5; obtain ⟨z1, z2, z3, x5, x6, x7⟩ := HS5.out _ _ _ _ _ (below_dr w3) AA4.out ha5; have x1 := (z1 0).trans Al0.out; have x2 := (z1 1).trans Ax1.out; have x3 := (z2 q).trans Ala.out; have x4 := (z3 q).trans Axa.out; have AA5 := aside ha5; have AX7 := aside x7; clear ha5 z1 z2 z3 x7))
        · subst hC0
          have Agr := aside (both_adds AA4.out AA5.out rfl)
          have B5 : Aside (Below w.heap.size w w5) := (A3.out.bel.trans ((below_dr w3).mono hlo3)).trans (AA4.out.2.1.trans AA5.out.2.1)
          · have hk5b : (k == 5) = false := beq_eq_false_iff_ne.2 hk5
            have ALe := AeL
            have Ake := AeK
            obtain ⟨lv, xv, q1, q2, q3⟩ := AX7.out.cel
            have elv : lv = .slice (some ⟨lg, 0, none⟩) sl lc := by rw [cell_of_row w5 wb 0 _ _ _ q1] at x1; simpa using x1
            have exv : xv = .slice (some ⟨xg, 0, none⟩) sl xc := by rw [cell_of_row w5 wb 1 _ _ _ q1] at x2; simpa using x2
            rw [elv] at q1 q2
            rw [exv] at q1 q3
            have ATw : Aside (Tw w.heap.size wb (sadd S1 q j nm) w5.drew (.slice (some ⟨lg, 0, none⟩) sl lc) (.slice (some ⟨xg, 0, none⟩) sl xc) (.slice (some ⟨lg, 0, none⟩) sl lc) (.slice (some ⟨xg, 0, none⟩) sl xc) (S.map fun e => Pt e.nb) (S.map fun e => Pt e.rb)) := (show Tw w.heap.size wb (sadd S1 q j nm) w5 _ _ _ _ _ _ from ⟨Agr.out.1, Agr.out.2, q2, q3, q1, B5.out.size⟩).below (below_dr w5)
            have Hnb : Aside ((S.map fun e => Pt e.nb) ++ [Pt enb] = (sadd S1 q j nm).map fun e => Pt e.nb) := by
              show (S.map fun e => Pt e.nb) ++ [Pt enb] = (sadd S1 q j nm).map fun e => Pt e.nb
              rw [sadd_nbs, AS1.out, List.map_append, Aenb.out]; rfl
            have Hrb : Aside ((S.map fun e => Pt e.rb) ++ [Pt erb] = (sadd S1 q j nm).map fun e => Pt e.rb) := by
              show (S.map fun e => Pt e.rb) ++ [Pt erb] = (sadd S1 q j nm).map fun e => Pt e.rb
              rw [sadd_rbs, AS1.out, List.map_append, Aerb.out]; rfl
            have Hl : Aside ((S.map fun e => Pt e.nb).length ≤ 1000000 ∧ (S.map fun e => Pt e.rb).length ≤ 1000000) := by
              show (S.map fun e => Pt e.nb).length ≤ 1000000 ∧ (S.map fun e => Pt e.rb).length ≤ 1000000
              rw [List.length_map, List.length_map]; omega
            have Alo := aside A3.out.lw.bnd
            have hl5 : wb < w5.heap.size := (Array.getElem?_eq_some_iff.1 q1).1
            have x1a := fun ob => ((below_al w5 ob).cell (p := ⟨wb, 0, none⟩) hl5).trans x1
            have x2a := fun ob => ((below_al w5 ob).cell (p := ⟨wb, 1, none⟩) hl5).trans x2
            have x1b := fun ob ob' => ((below_al (w5.alloc ob) ob').cell (p := ⟨wb, 0, none⟩) (Nat.lt_of_lt_of_le hl5 (below_al w5 ob).size)).trans (x1a ob)
            have x2b := fun ob ob' => ((below_al (w5.alloc ob) ob').cell (p := ⟨wb, 1, none⟩) (Nat.lt_of_lt_of_le hl5 (below_al w5 ob).size)).trans (x2a ob)
            have AFin : Aside (∀ W, Below w.heap.size w5 W → GX w.heap.size W (sadd S1 q j nm) → RX w.heap.size W (sadd S1 q j nm) → LW W w.heap.size wb (sadd S1 q j nm) → Ld w wb L (i + 1) W (sadd S1 q j nm)) := fun W b g1 g2 g3 => by
              refine ⟨g1, g2, g3, ?_, B5.out.trans b, fun a f hf hk => ?_⟩
              · rw [AS1.out, Aj1.out]; exact A3.out.li.fresh ALe.out q nm
              · rw [sadd_get, AS1.out] at hf
                obtain ⟨g1, hg1, rfl⟩ := Option.map_eq_some_iff.1 hf
                have hk2 : g1.k = 2 := hk
                rcases app_cases hg1 with hg1 | ⟨-, he⟩
                · exact A3.out.lnk a g1 hg1 hk2
                · first | rw [he] at hk2 | rw [← he] at hk2
                  exact ⟨_, Asm.out, Ake.out.symm.trans hk2⟩
            clear elv exv q1 q2 q3 hk5
            go_wp2_with fail
            go_region_law (first
              | (refine step_x (nb := erb) rfl _ _ rfl rfl rfl (by first | exact T8.out | exact T8.out.al _ | exact (T8.out.al _).al _) (by first | assumption | go_simp) Hl.out.2 ?_; intro xk xn xc2 w9 ht9 hb9 _; rw [Hnb.out, Hrb.out] at ht9; obtain ⟨hst9, o1, o2, o3, o4⟩ := ht9.stored Alo.out; have A9 := aside hst9; have BB9 : Aside (Below w.heap.size w5 w9) := (by first | exact BB8.out.trans hb9 | exact BB8.out.trans (((below_al _ _).mono T8.out.lo).trans hb9) | exact BB8.out.trans ((((below_tr (below_al _ _) (below_al _ _))).mono T8.out.lo).trans hb9)); clear ht9 hb9 hst9)
              | (refine step_l (nb := enb) rfl _ _ rfl rfl rfl (by first | exact T8.out | exact T8.out.al _ | exact (T8.out.al _).al _) (by first | assumption | go_simp) Hl.out.1 ?_; intro xk xn xc2 w9 ht9 hb9 _; rw [Hnb.out, Hrb.out] at ht9; obtain ⟨hst9, o1, o2, o3, o4⟩ := ht9.stored Alo.out; have A9 := aside hst9; have BB9 : Aside (Below w.heap.size w5 w9) := (by first | exact BB8.out.trans hb9 | exact BB8.out.trans (((below_al _ _).mono T8.out.lo).trans hb9) | exact BB8.out.trans ((((below_tr (below_al _ _) (below_al _ _))).mono T8.out.lo).trans hb9)); clear ht9 hb9 hst9)
              | (refine step_l (nb := enb) rfl _ _ rfl rfl rfl (by first | exact ATw.out | exact ATw.out.al _ | exact (ATw.out.al _).al _) (by first | assumption | go_simp) Hl.out.1 ?_; intro lk ln lc2 w8 ht8 hb8 hp8; have T8 := aside ht8; have BB8 : Aside (Below w.heap.size w5 w8) := (by first | exact ((below_dr w5).mono B5.out.size).trans hb8 | exact ((below_dr w5).mono B5.out.size).trans (((below_al _ _).mono ATw.out.lo).trans hb8) | exact ((below_dr w5).mono B5.out.size).trans (((below_tr (below_al _ _) (below_al _ _)).mono ATw.out.lo).trans hb8)); have o8 : w8.cell? ⟨wb, 0, none⟩ = some (.slice (some ⟨lg, 0, none⟩) sl lc) := (by rw [cell_of_row w8 wb 0 _ _ _ ht8.hw]; rfl); have o9 : w8.cell? ⟨wb, 1, none⟩ = some (.slice (some ⟨xg, 0, none⟩) sl xc) := (by rw [cell_of_row w8 wb 1 _ _ _ ht8.hw]; rfl); have hl8 : wb < w8.heap.size := (Array.getElem?_eq_some_iff.1 ht8.hw).1; have o8a := (fun ob => ((below_al w8 ob).cell (p := ⟨wb, 0, none⟩) hl8).trans o8); have o9a := (fun ob => ((below_al w8 ob).cell (p := ⟨wb, 1, none⟩) hl8).trans o9); (first | (have p8 := hp8 _ (Pt erb) _ (heap_alloc_new _ _) (by go_simp); simp at p8) | (have p8 := hp8 w5.heap.size (Pt erb) _ (((below_al _ _).block _ (by simp)).trans (heap_alloc_new w5.drew _)) (by go_simp)) | skip); clear ht8 hb8 hp8)
              | (refine step_x (nb := erb) rfl _ _ rfl rfl rfl (by first | exact ATw.out | exact ATw.out.al _ | exact (ATw.out.al _).al _) (by first | assumption | go_simp) Hl.out.2 ?_; intro lk ln lc2 w8 ht8 hb8 hp8; have T8 := aside ht8; have BB8 : Aside (Below w.heap.size w5 w8) := (by first | exact ((below_dr w5).mono B5.out.size).trans hb8 | exact ((below_dr w5).mono B5.out.size).trans (((below_al _ _).mono ATw.out.lo).trans hb8) | exact ((below_dr w5).mono B5.out.size).trans (((below_tr (below_al _ _) (below_al _ _)).mono ATw.out.lo).trans hb8)); have o8 : w8.cell? ⟨wb, 0, none⟩ = some (.slice (some ⟨lg, 0, none⟩) sl lc) := (by rw [cell_of_row w8 wb 0 _ _ _ ht8.hw]; rfl); have o9 : w8.cell? ⟨wb, 1, none⟩ = some (.slice (some ⟨xg, 0, none⟩) sl xc) := (by rw [cell_of_row w8 wb 1 _ _ _ ht8.hw]; rfl); have hl8 : wb < w8.heap.size := (Array.getElem?_eq_some_iff.1 ht8.hw).1; have o8a := (fun ob => ((below_al w8 ob).cell (p := ⟨wb, 0, none⟩) hl8).trans o8); have o9a := (fun ob => ((below_al w8 ob).cell (p := ⟨wb, 1, none⟩) hl8).trans o9); (first | (have p8 := hp8 _ (Pt enb) _ (heap_alloc_new _ _) (by go_simp); simp at p8) | (have p8 := hp8 w5.heap.size (Pt enb) _ (((below_al _ _).block _ (by simp)).trans (heap_alloc_new w5.drew _)) (by go_simp)) | skip); clear ht8 hb8 hp8))
            all_goals
              clear T8 BB8 o8 o9 hl8 o8a o9a o1 o2 o3 o4 ATw Hnb Hrb Hl Agr AX7 AA4 AA5 x1 x2 x1a x2a x1b x2b
              go_wp2_with fail
              go_roundg gk
              case measure => omega
              case rel => exact ⟨rfl, rfl, i + 1, sadd S1 q j nm, by omega, by first | rfl | simp, AFin.out _ (BB9.out.trans A9.out.2.2.2) A9.out.1 A9.out.2.1 A9.out.2.2.1, AIn.out⟩
end Go.Proofs.YtknjclekfmmfeabGreatDoor
