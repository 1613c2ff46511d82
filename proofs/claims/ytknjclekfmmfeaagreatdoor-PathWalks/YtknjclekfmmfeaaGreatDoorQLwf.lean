/- laid: a world of specs; its beginning. -/
import Derived.Test.YtknjclekfmmfeaaGreatDoorQLwd
import Derived.Test.YtknjclekfmmfeaaGreatDoorQLwe
import Derived.Test.YtknjclekfmmfeaaGreatDoorQLwg
namespace Go.Proofs.YtknjclekfmmfeaaGreatDoor
open Go.RowKit Go.ChangeMaps

def spc (L : List Spx) : List Value := L.flatMap fun s => [.int .i64 s.i, .int .i64 s.o, .string (ba s.nm), .int .i8 s.k, .string (ba s.to)]
/-- Specs that can be read. -/
def SpAt (w : World) (a : Option Addr) (L : List Spx) : Prop := L ≠ [] → ∃ g o, a = some ⟨g, o, none⟩ ∧ ∀ (j : Nat) (v : Value), (spc L)[j]? = some v → w.cell? ⟨g, o + j, none⟩ = some v
theorem SpAt.below {w w' : World} {a : Option Addr} {L : List Spx} {n : Nat} (h : SpAt w a L) (b : Below n w w') (hn : ∀ (g o : Nat) (v : Value), w.cell? ⟨g, o, none⟩ = some v → g < n) : SpAt w' a L := fun hL => by
  obtain ⟨g, o, e, h1⟩ := h hL
  refine ⟨g, o, e, fun j v hj => ?_⟩
  have h2 := h1 j v hj
  exact (b.cell (p := ⟨g, o + j, none⟩) (hn _ _ _ h2)).trans h2
theorem spc_at : ∀ {L : List Spx} {i : Nat} {s : Spx}, L[i]? = some s → (spc L)[i * 5]? = some (.int .i64 s.i) ∧ (spc L)[i * 5 + 1]? = some (.int .i64 s.o) ∧ (spc L)[i * 5 + 2]? = some (.string (ba s.nm)) ∧ (spc L)[i * 5 + 3]? = some (.int .i8 s.k) ∧ (spc L)[i * 5 + 4]? = some (.string (ba s.to))
  | [], i, s, h => by simp at h
  | q :: L, 0, s, h => by
    simp only [List.getElem?_cons_zero, Option.some.injEq] at h
    subst h
    exact ⟨rfl, rfl, rfl, rfl, rfl⟩
  | q :: L, i + 1, s, h => by
    simp only [List.getElem?_cons_succ] at h
    have ih := spc_at h
    have e : spc (q :: L) = [.int .i64 q.i, .int .i64 q.o, .string (ba q.nm), .int .i8 q.k, .string (ba q.to)] ++ spc L := rfl
    rw [e, show (i + 1) * 5 = i * 5 + 5 by omega, show i * 5 + 5 + 1 = (i * 5 + 1) + 5 by omega, show i * 5 + 5 + 2 = (i * 5 + 2) + 5 by omega, show i * 5 + 5 + 3 = (i * 5 + 3) + 5 by omega, show i * 5 + 5 + 4 = (i * 5 + 4) + 5 by omega]
    exact ih
/-- What laid keeps in memory. -/
structure Ld (w0 : World) (wb : Nat) (L : List Spx) (n : Nat) (w : World) (S : List Ne) : Prop where
  gx : GX w0.heap.size w S
  rx : RX w0.heap.size w S
  lw : LW w w0.heap.size wb S
  li : Li S n
  bel : Below w0.heap.size w0 w
  lnk : ∀ (i : Nat) (e : Ne), S[i]? = some e → e.k = 2 → ∃ s ∈ L, s.k = 2
theorem Ld.below {w0 : World} {wb : Nat} {L : List Spx} {n : Nat} {w w' : World} {S : List Ne} (h : Ld w0 wb L n w S) (b : Below w.heap.size w w') : Ld w0 wb L n w' S := ⟨h.gx.below b, h.rx.below b, h.lw.below b, h.li, h.bel.trans (b.mono h.bel.size), h.lnk⟩
/-- Where rows lie, they stay by their kinds. -/
theorem LW.stay {w : World} {lo wb : Nat} {S : List Ne} (h : LW w lo wb S) : ∃ g c g' c', w.cell? ⟨wb, 0, none⟩ = some (.slice (some ⟨g, 0, none⟩) S.length c) ∧ w.cell? ⟨wb, 1, none⟩ = some (.slice (some ⟨g', 0, none⟩) S.length c') ∧ (∀ (i : Nat) (e : Ne), S[i]? = some e → w.cell? ⟨g, i, none⟩ = some (Pt e.nb) ∧ w.cell? ⟨g', i, none⟩ = some (Pt e.rb)) ∧ wb < w.heap.size ∧
    ∀ w' : World, (∀ (T : TypeId), (T = 32 ∨ T = 33 ∨ T = 37) → ∀ (q : Nat) (cs : Array Value), w.heap[q]? = some (Obj.cells cs T (0, 0)) → w'.heap[q]? = w.heap[q]?) → (∀ o, w'.cell? ⟨wb, o, none⟩ = w.cell? ⟨wb, o, none⟩) ∧ (∀ o, w'.cell? ⟨g, o, none⟩ = w.cell? ⟨g, o, none⟩) ∧ (∀ o, w'.cell? ⟨g', o, none⟩ = w.cell? ⟨g', o, none⟩) := by
  obtain ⟨lv, xv, h1, h2, h3⟩ := h.cel
  obtain ⟨g, c, cs, e1, -, k1, -⟩ := id h2
  obtain ⟨g', c', cs', e2, -, k2, -⟩ := id h3
  rw [e1] at h2
  rw [e2] at h3
  rw [List.length_map] at e1 e2
  refine ⟨g, c, g', c', ?_, ?_, fun i e he => ⟨h2.cell (by rw [List.getElem?_map, he]; rfl), h3.cell (by rw [List.getElem?_map, he]; rfl)⟩, (Array.getElem?_eq_some_iff.1 h1).1, fun w' hk => ⟨fun o => ?_, fun o => ?_, fun o => ?_⟩⟩
  · rw [cell_of_row w wb 0 _ _ _ h1, e1]; rfl
  · rw [cell_of_row w wb 1 _ _ _ h1, e2]; rfl
  · exact World.cell?_of_block (hk _ (.inl rfl) _ _ h1)
  · exact World.cell?_of_block (hk _ (.inr (.inl rfl)) _ _ k1)
  · exact World.cell?_of_block (hk _ (.inr (.inr rfl)) _ _ k2)
/-- What the program's Add leaves alone. -/
theorem AddP.alone {lo : Nat} {w w1 : World} {S : List Ne} {i j : Nat} {x : B} {c : Int} {r1 : Ending} (h1 : AddP lo S i j x c w r1 w1) (T : TypeId) (hT : T ≠ 104) (q : Nat) (cs : Array Value) (hq : w.heap[q]? = some (Obj.cells cs T (0, 0))) : w1.heap[q]? = w.heap[q]? := by
  obtain ⟨-, -, g1, g2⟩ := h1
  have hl := (Array.getElem?_eq_some_iff.1 hq).1
  by_cases hc : c = 0
  · obtain ⟨-, F, hu, hF⟩ := g2 hc
    refine hu.block q hl (fun hf => ?_)
    rcases hF q hf with ⟨es, k, e⟩ | ⟨ds, e⟩
    · exact cells_map hq e rfl
    · exact dir_cells hq e hT rfl
  · exact (g1 hc).block q hl
theorem RAdP.alone {lo : Nat} {w w1 : World} {S : List Ne} {i j : Nat} {x : B} {c : Int} {r1 : Ending} (h1 : RAdP lo S i j x c w r1 w1) (T : TypeId) (hT : T ≠ 84) (q : Nat) (cs : Array Value) (hq : w.heap[q]? = some (Obj.cells cs T (0, 0))) : w1.heap[q]? = w.heap[q]? := by
  obtain ⟨-, -, g1, g2⟩ := h1
  have hl := (Array.getElem?_eq_some_iff.1 hq).1
  by_cases hc : c = 0
  · obtain ⟨-, F, hu, hF⟩ := g2 hc
    refine hu.block q hl (fun hf => ?_)
    obtain ⟨ds, e⟩ := hF q hf
    exact dir_cells hq e hT rfl
  · exact (g1 hc).block q hl
set_option maxRecDepth 20000 in
set_option maxHeartbeats 8000000 in
theorem laid_any {w : World} (a : Option Addr) (L : List Spx) (ca : Nat) (h : SpAt w a L) (hL : L.length ≤ 1000) (hto : ∀ s ∈ L, s.to.length ≤ 1048576 ∧ s.nm.length ≤ 1048576) :
    Calls Tryz.prog 9 #[.slice a L.length ca] w fun r w' => ∃ wb S, r = .returned (.tuple #[Pt wb, .bool true]) ∧ Ld w wb L L.length w' S := by
  have AH := aside h
  have Ato := aside hto
  obtain ⟨n, hn⟩ : ∃ n, n = L.length := ⟨_, rfl⟩
  have An := aside hn
  rw [← hn] at hL ⊢
  clear h hto hn
  go_enter Tryz.func9, Tryz.ntmps9
  go_wp2_with fail
  refine (dir_new w).mono ?_
  rintro e w1 ⟨nb, db, mb, rfl, h1, h2, h3, hD, b1⟩
  have A1 := aside b1
  have AD := aside hD
  clear b1 hD
  go_wp2_with fail
  obtain ⟨V1, hV1⟩ : ∃ V1, V1 = w1.alloc (.cells #[Pt nb] 33) := ⟨_, rfl⟩
  have hBV1 : Below w1.heap.size w1 V1 := by rw [hV1]; exact below_al _ _
  have hr1 : V1.heap[w1.heap.size]? = some (.cells #[Pt nb] 33 (0, 0)) := by rw [hV1]; exact heap_alloc_new w1 _
  rw [← hV1]
  clear hV1
  refine (rDir_any V1).mono ?_
  rintro e w2 ⟨rfl, hr, b2⟩
  have hz1 := A1.out.size
  have hz2 := hBV1.size
  have hz3 := b2.size
  have AF := aside (fresh_dir (GX.empty w.heap.size w) (RX.empty w.heap.size w) (Nat.le_refl _) h1 h2 h3 (AD.out.below hBV1) (below_tr A1.out hBV1) hr b2)
  have hr12 := (b2.block _ (Array.getElem?_eq_some_iff.1 hr1).1).trans hr1
  have A2 := aside (below_tr A1.out (below_tr hBV1 b2))
  have Ahr := aside hr12
  clear hr b2 hr1 hr12 hBV1
  go_wp2_with fail
  obtain ⟨U, hU⟩ : ∃ U, U = (w2.alloc (.cells #[Pt V1.heap.size] 37)).alloc (.cells #[.slice (some ⟨w1.heap.size, 0, none⟩) 1 1, .slice (some ⟨w2.heap.size, 0, none⟩) 1 1] 32) := ⟨_, rfl⟩
  have hBU : Below w2.heap.size w2 U := by rw [hU]; exact below_tr (below_al _ _) (below_al _ _)
  have hu0 : U.heap[w2.heap.size]? = some (.cells #[Pt V1.heap.size] 37 (0, 0)) := by rw [hU, (below_al _ _).block _ (by simp)]; exact heap_alloc_new w2 _
  have hu1 : U.heap[w2.heap.size + 1]? = some (.cells #[.slice (some ⟨w1.heap.size, 0, none⟩) 1 1, .slice (some ⟨w2.heap.size, 0, none⟩) 1 1] 32 (0, 0)) := by rw [hU]; exact heap_alloc2_new w2 _ _
  have hul : U.heap[w1.heap.size]? = some (.cells #[Pt nb] 33 (0, 0)) := (hBU.block _ (Array.getElem?_eq_some_iff.1 Ahr.out).1).trans Ahr.out
  obtain ⟨e0, he0⟩ : ∃ e0 : Ne, e0 = ⟨1, [], [], 0, none, nb, db, mb, V1.heap.size⟩ := ⟨_, rfl⟩
  have A0 : Aside (Ld w (w2.heap.size + 1) L 0 U [e0]) := by
    rw [he0]
    refine ⟨AF.out.2.2.2.1.below hBU, AF.out.2.2.2.2.below hBU, ⟨by omega, _, _, hu1, ?_, ?_⟩, ⟨Nat.le_refl _, ⟨_, rfl, rfl⟩, fun i e he hk h0 => ?_, fun i e he => ?_⟩, below_tr A2.out hBU, fun i e he hk => ?_⟩
    · exact ⟨w1.heap.size, 1, #[Pt nb], rfl, hz1, hul, Nat.le_refl _, by decide, .inl rfl, rfl⟩
    · exact ⟨w2.heap.size, 1, #[Pt V1.heap.size], rfl, by omega, hu0, Nat.le_refl _, by decide, .inl rfl, rfl⟩
    · cases i with
      | zero => exact absurd rfl h0
      | succ i => simp at he
    · cases i with
      | zero => simp only [List.getElem?_cons_zero, Option.some.injEq] at he; subst he; exact Nat.le_refl _
      | succ i => simp at he
    · cases i with
      | zero => simp only [List.getElem?_cons_zero, Option.some.injEq] at he; subst he; cases hk
      | succ i => simp at he
  rw [← hU]
  obtain ⟨wb, hwb⟩ : ∃ wb, wb = w2.heap.size + 1 := ⟨_, rfl⟩
  rw [← hwb] at A0 ⊢
  clear hU hBU hu0 hu1 hul he0 hwb AF Ahr A2 AD A1 h1 h2 h3 hz1 hz2 hz3
  go_loopg [2, 3, 6, 7, 8, 9, 10, 11, 12, 13, 22] n (fun gk s2 s3 _ _ _ _ _ _ _ _ s22 wx => s2 = .pointer none ∧ s3 = .bool false ∧ ∃ (i : Nat) (S : List Ne), i + gk = n ∧ s22 = .int .i64 (i : Int) ∧ Ld w wb L i wx S)
  case atStart => exact ⟨rfl, rfl, 0, [e0], by omega, rfl, A0.out⟩
  case round =>
    obtain ⟨rfl, rfl, i, S, hig, rfl, hld⟩ := hrel
    have AL := aside hld
    clear hld A0
    cases gk with
    | zero =>
      obtain rfl : i = n := by omega
      have hi : ¬ (i : Int) < (i : Int) := by omega
      obtain ⟨g, c, g', c', hc0, -, hat, -, -⟩ := AL.out.lw.stay
      obtain ⟨e1, he1, -⟩ := AL.out.li.fst
      have hcl := (hat 0 e1 he1).1
      have hsl := mem_len he1
      obtain ⟨sl, hsle⟩ : ∃ sl, sl = S.length := ⟨_, rfl⟩
      rw [← hsle] at hc0 hsl
      have hs0 : (0 : Int) < (sl : Int) := by omega
      obtain ⟨b, hb⟩ : ∃ b, b = e1.nb := ⟨_, rfl⟩
      rw [← hb] at hcl
      have E1 := fun dd os => ext_cell hc0 dd os
      have E2 := fun dd os => ext_cell hcl dd os
      clear hat he1 hsle hb hc0 hcl
      go_wp2_with fail
      refine region_ext (by kernel_rfl) (by kernel_rfl) ?_
      repeat (any_goals (first | go_big_quiet_step (fail) | quiet_step (fail)))
      refine wpQuiet_nil ?_
      intro w7 hw7
      have AB := aside hw7
      clear hw7 E1 E2
      go_wp2_with fail
      go_ret2
      exact ⟨wb, S, rfl, AL.out.below AB.out⟩
    | succ gk =>
      have hi : (i : Int) < (n : Int) := by omega
      have hi0 : (0 : Int) ≤ (i : Int) := by omega
      have hwi : IntKind.i64.wrap ((i : Int) + 1) = ((i + 1 : Nat) : Int) := by rw [wrap_small _ (by omega) (by omega)]; simp
      obtain ⟨s, hs⟩ : ∃ s, L[i]? = some s := ⟨_, List.getElem?_eq_getElem (by rw [← An.out]; omega)⟩
      obtain ⟨g, o, rfl, hsp⟩ := AH.out (fun e => by rw [e] at hs; simp at hs)
      have hcell : ∀ t v, (spc L)[i * 5 + t]? = some v → wr.cell? ⟨g, o + i * 5 + t, none⟩ = some v := fun t v hv => by
        have h1 := hsp _ v hv
        rw [← Nat.add_assoc] at h1
        exact (AL.out.bel.cell (p := ⟨g, o + i * 5 + t, none⟩) (World.block_lt_of_cell? w _ h1)).trans h1
      obtain ⟨t0, t1, t2, t3, t4⟩ := spc_at hs
      have d0 := hcell 0 _ t0
      have d1 := hcell 1 _ t1
      have d2 := hcell 2 _ t2
      have d3 := hcell 3 _ t3
      have d4 := hcell 4 _ t4
      rw [Nat.add_zero] at d0
      have Asm := aside (List.mem_of_getElem? hs)
      clear hcell t0 t1 t2 t3 t4 hs hsp
      obtain ⟨si, so, nm, k, to⟩ := s
      simp only at d0 d1 d2 d3 d4
      obtain ⟨N, hN⟩ : ∃ N, N = ba nm := ⟨_, rfl⟩
      obtain ⟨T, hT⟩ : ∃ T, T = ba to := ⟨_, rfl⟩
      rw [← hN] at d2
      rw [← hT] at d4
      have AN := aside hN
      have AT := aside hT
      clear hN hT
      go_wp2_with fail
      obtain ⟨V, hV⟩ : ∃ V, V = wr.alloc (.cells #[.int .i64 si, .int .i64 so, .string N, .int .i8 k, .string T] 55) := ⟨_, rfl⟩
      have hBV : Below wr.heap.size wr V := by rw [hV]; exact below_al _ _
      have hsb : V.heap[wr.heap.size]? = some (.cells #[.int .i64 si, .int .i64 so, .string N, .int .i8 k, .string T] 55 (0, 0)) := by rw [hV]; exact heap_alloc_new wr _
      rw [← hV]
      have AV := aside (AL.out.below hBV)
      have Asb := aside hsb
      obtain ⟨e1, he1, he1k⟩ := AL.out.li.fst
      have hSl := AL.out.li.len
      have AM := aside (made_any AV.out.lw AV.out.gx AV.out.rx AV.out.bel.size (by omega) he1 he1k ⟨si, so, nm, k, to⟩ (Ato.out _ Asm.out).1)
      unfold Spx.val at AM
      simp only at AM
      rw [← AN.out, ← AT.out] at AM
      have Ae1 := aside he1
      obtain ⟨sb, hsbe⟩ : ∃ sb, sb = wr.heap.size := ⟨_, rfl⟩
      rw [← hsbe] at Asb ⊢
      clear hV hBV hsb he1 d0 d1 d2 d3 d4 hsbe
      refine AM.out.mono ?_
      intro e w1 hm
      obtain ⟨hb1, v1, v2, ok, rfl, -⟩ := id hm
      have AM1 := aside hm
      have A1 := aside (AV.out.below hb1)
      have hsl1 := (Array.getElem?_eq_some_iff.1 Asb.out).1
      have As1 := aside ((hb1.block _ hsl1).trans Asb.out)
      clear hm AM hb1 hsl1
      cases ok with
      | false =>
        go_wp2_with fail
        go_roundg gk
        case measure => omega
        case rel => exact ⟨rfl, rfl, i + 1, S, by omega, by first | rfl | simp, ⟨A1.out.gx, A1.out.rx, A1.out.lw, A1.out.li.more (by omega), A1.out.bel, A1.out.lnk⟩⟩
      | true =>
        obtain ⟨S1, j, e, hcand, hG1, hR1, rfl, rfl⟩ := AM1.out.cand A1.out.gx A1.out.rx
        have Acd := aside hcand
        have AG1 := aside hG1
        have AR1 := aside hR1
        have ADr := aside (dirs_any A1.out.lw A1.out.rx (by omega))
        clear hcand hG1 hR1 AM1
        go_wp2_with fail
        refine ADr.out.mono ?_
        rintro r w2 ⟨v, rfl, hgi, b2⟩
        have hne := dls_ne Ae1.out he1k (i := S.length) (by have := mem_len Ae1.out; omega)
        obtain ⟨dg, dc, rfl, hget⟩ := hgi.get hne
        have hdl := dls_len S S.length
        have hdn : 0 < (dls S S.length).length := List.length_pos_iff.2 hne
        have Aget := aside hget
        have A2 := aside b2
        have s2 := (b2.block _ (Array.getElem?_eq_some_iff.1 As1.out).1).trans As1.out
        have f0 : w2.cell? ⟨sb, 0, none⟩ = some (.int .i64 si) := by rw [cell_of_row w2 sb 0 _ _ _ s2]; rfl
        have f2 : w2.cell? ⟨sb, 2, none⟩ = some (.string N) := by rw [cell_of_row w2 sb 2 _ _ _ s2]; rfl
        have As2 := aside s2
        obtain ⟨dn, hdn2⟩ : ∃ dn, dn = (dls S S.length).length := ⟨_, rfl⟩
        rw [← hdn2] at hdl hdn ⊢
        have Adn := aside hdn2
        clear b2 hgi hget hdn2 hne ADr s2
        go_wp2_with fail
        refine (pick_any si dn w2 hdn (by omega)).mono ?_
        rintro r w3 ⟨t, ht, rfl, rfl⟩
        obtain ⟨q, hq⟩ : ∃ q, (dls S S.length)[t]? = some q := ⟨_, List.getElem?_eq_getElem (by rw [← Adn.out]; exact ht)⟩
        have hcq := Aget.out t q hq
        obtain ⟨d, hd, hdk⟩ := dls_dir (List.mem_of_getElem? hq)
        have ht0 : (0 : Int) ≤ (t : Int) := by omega
        have ht1 : (t : Int) < (dn : Int) := by omega
        have A3 := aside (A1.out.below A2.out)
        obtain ⟨k1, k2, k3, k4⟩ := Acd.out.facts A3.out.li A3.out.gx hd hdk
        obtain ⟨lg, lc, xg, xc, hl0, hx1, hlat, hwb2, hstay⟩ := A3.out.lw.stay
        obtain ⟨hla, hxa⟩ := hlat q d hd
        have hq0 : (0 : Int) ≤ (q : Int) := by omega
        obtain ⟨sl, hsl⟩ : ∃ sl, sl = S.length := ⟨_, rfl⟩
        have hq1 : (q : Int) < (sl : Int) := by have := mem_len hd; omega
        rw [← hsl] at hl0 hx1
        have hdL := A3.out.li.few q d hd
        have hlo3 := A3.out.bel.size
        obtain ⟨C, hC⟩ : ∃ C, C = adc S1 q d nm j e := ⟨_, rfl⟩
        have HA : Aside (∀ W, Below w3.heap.size w3 W → Calls Tryz.prog 26 #[Pt d.nb, .string N, Pt e.nb] W fun r w' => AddP w.heap.size S1 q j nm C W r w') := fun W hW => by
          rw [hC, AN.out]
          exact gadd ((AG1.out.below A2.out).below hW) (by have := hW.size; omega) k1 hdk k2 nm (by omega) (by omega) k3
        have HR : Aside (∀ W W', Below w3.heap.size w3 W → ∀ r, AddP w.heap.size S1 q j nm C W r W' → Calls Tryz.prog 30 #[Pt d.rb, .string N, Pt e.rb] W' fun r w' => RAdP w.heap.size S1 q j nm C W' r w') := fun W W' hW r hr => by
          rw [AN.out]
          rw [hC] at hr ⊢
          exact radd (hr.rx ((AR1.out.below A2.out).below hW)) (AG1.out.below A2.out) (by have := hr.2.1.size; have := hW.size; omega) k1 hdk k2 nm (by have := (Ato.out _ Asm.out).2; simp only at this; omega) (by omega) (by omega) k3
        have HS : Aside (∀ W W' r, Below w3.heap.size w3 W → AddP w.heap.size S1 q j nm C W r W' → (∀ o, W'.cell? ⟨wb, o, none⟩ = w3.cell? ⟨wb, o, none⟩) ∧ (∀ o, W'.cell? ⟨lg, o, none⟩ = w3.cell? ⟨lg, o, none⟩) ∧ (∀ o, W'.cell? ⟨xg, o, none⟩ = w3.cell? ⟨xg, o, none⟩) ∧ W'.cell? ⟨sb, 2, none⟩ = some (.string N)) := fun W W' r hW hr => by
          have hkeep : ∀ (T : TypeId), T ≠ 104 → ∀ (q : Nat) (cs : Array Value), w3.heap[q]? = some (Obj.cells cs T (0, 0)) → W'.heap[q]? = w3.heap[q]? := fun T hT q cs hq => by
            have h1 := hW.block q (Array.getElem?_eq_some_iff.1 hq).1
            exact (hr.alone T hT q cs (h1.trans hq)).trans h1
          obtain ⟨z1, z2, z3⟩ := hstay W' (fun T hT => hkeep T (by rcases hT with rfl | rfl | rfl <;> decide))
          exact ⟨z1, z2, z3, by rw [World.cell?_of_block (hkeep _ (by decide) _ _ As2.out)]; exact f2⟩
        have HS5 : Aside (∀ W W' W5 r r5, Below w3.heap.size w3 W → AddP w.heap.size S1 q j nm C W r W' → RAdP w.heap.size S1 q j nm C W' r5 W5 → (∀ o, W5.cell? ⟨wb, o, none⟩ = w3.cell? ⟨wb, o, none⟩) ∧ (∀ o, W5.cell? ⟨lg, o, none⟩ = w3.cell? ⟨lg, o, none⟩) ∧ (∀ o, W5.cell? ⟨xg, o, none⟩ = w3.cell? ⟨xg, o, none⟩) ∧ W5.cell? ⟨sb, 2, none⟩ = some (.string N) ∧ W5.cell? ⟨sb, 3, none⟩ = some (.int .i8 k) ∧ LW W5 w.heap.size wb S) := fun W W' W5 r r5 hW hr hr5 => by
          have hkeep : ∀ (T : TypeId), T ≠ 104 → T ≠ 84 → ∀ (q : Nat) (cs : Array Value), w3.heap[q]? = some (Obj.cells cs T (0, 0)) → W5.heap[q]? = w3.heap[q]? := fun T hT hT2 q cs hq => by
            have h1 := hW.block q (Array.getElem?_eq_some_iff.1 hq).1
            have h2 := hr.alone T hT q cs (h1.trans hq)
            exact (hr5.alone T hT2 q cs (h2.trans (h1.trans hq))).trans (h2.trans h1)
          have hk3 := fun (T : TypeId) (hT : T = 32 ∨ T = 33 ∨ T = 37) => hkeep T (by rcases hT with rfl | rfl | rfl <;> decide) (by rcases hT with rfl | rfl | rfl <;> decide)
          obtain ⟨z1, z2, z3⟩ := hstay W5 hk3
          refine ⟨z1, z2, z3, by rw [World.cell?_of_block (hkeep _ (by decide) (by decide) _ _ As2.out)]; exact f2, ?_, A3.out.lw.keep hk3⟩
          rw [World.cell?_of_block (hkeep _ (by decide) (by decide) _ _ As2.out), cell_of_row w3 sb 3 _ _ _ As2.out]; rfl
        obtain ⟨dnb, hdnb⟩ : ∃ z, z = d.nb := ⟨_, rfl⟩
        obtain ⟨drb, hdrb⟩ : ∃ z, z = d.rb := ⟨_, rfl⟩
        obtain ⟨enb, henb⟩ : ∃ z, z = e.nb := ⟨_, rfl⟩
        obtain ⟨erb, herb⟩ : ∃ z, z = e.rb := ⟨_, rfl⟩
        rw [← hdnb] at hla HA
        rw [← hdrb] at hxa HR
        rw [← henb] at HA ⊢
        rw [← herb] at HR ⊢
        have Ad := aside hd
        have Aenb := aside henb
        have Aerb := aside herb
        have Al0 := aside hl0
        have Ax1 := aside hx1
        have Ala := aside hla
        have Axa := aside hxa
        clear hd hdnb hdrb henb herb hlat hsl hq hstay hC
        go_wp2_with fail
        go_region_held3 (fun w' => w'.cell? ⟨wb, 0, none⟩ = some (.slice (some ⟨lg, 0, none⟩) sl lc) ∧ w'.cell? ⟨wb, 1, none⟩ = some (.slice (some ⟨xg, 0, none⟩) sl xc) ∧ w'.cell? ⟨lg, q, none⟩ = some (Pt dnb) ∧ w'.cell? ⟨xg, q, none⟩ = some (Pt drb) ∧ w'.cell? ⟨sb, 2, none⟩ = some (.string N)) (go_keep) (first
          | (go_at_call 26; refine (HA.out _ (below_dr w3)).mono ?_; intro r w4 ha4; obtain ⟨rfl, -⟩ := id ha4; obtain ⟨z1, z2, z3, y5⟩ := HS.out _ _ _ (below_dr w3) ha4; have y1 := (z1 0).trans Al0.out; have y2 := (z1 1).trans Ax1.out; have y3 := (z2 q).trans Ala.out; have y4 := (z3 q).trans Axa.out; have AA4 := aside ha4; clear ha4 z1 z2 z3)
          | (go_at_call 30; refine (HR.out _ _ (below_dr w3) _ AA4.out).mono ?_; intro r w5 ha5; obtain ⟨rfl, -⟩ := id ha5; obtain ⟨z1, z2, z3, x5, x6, x7⟩ := HS5.out _ _ _ _ _ (below_dr w3) AA4.out ha5; have x1 := (z1 0).trans Al0.out; have x2 := (z1 1).trans Ax1.out; have x3 := (z2 q).trans Ala.out; have x4 := (z3 q).trans Axa.out; have AA5 := aside ha5; have AX7 := aside x7; clear ha5 z1 z2 z3 x7))
        by_cases hC0 : C = 0
        · subst hC0
          have Agr := aside (both_adds AA4.out AA5.out rfl)
          have B5 : Aside (Below w.heap.size w w5) := (A3.out.bel.trans ((below_dr w3).mono hlo3)).trans (AA4.out.2.1.trans AA5.out.2.1)
          by_cases hk5 : k = 5
          · subst hk5
            have hS1 : S1 = S := by
              rcases Acd.out with ⟨h5, -⟩ | ⟨-, h5, -⟩
              · exact absurd rfl h5
              · exact h5
            have AS1 := aside hS1
            clear hS1
            go_wp2_with fail
            go_roundg gk
            case measure => omega
            case rel =>
              refine ⟨rfl, rfl, i + 1, sadd S q j nm, by omega, by first | rfl | simp, ?_⟩
              have h1 := Agr.out
              rw [AS1.out] at h1
              refine ⟨h1.1, h1.2, AX7.out.sadd q j nm, A3.out.li.add q j nm, B5.out, fun a f hf hk => ?_⟩
              rw [sadd_get] at hf
              obtain ⟨g1, hg1, rfl⟩ := Option.map_eq_some_iff.1 hf
              exact A3.out.lnk a g1 hg1 hk
          · have hk5b : (k == 5) = false := beq_eq_false_iff_ne.2 hk5
            obtain ⟨hS1, hj1, hLe, hpe, hke⟩ : S1 = S ++ [e] ∧ j = S.length ∧ e.L = [] ∧ e.par = none ∧ e.k = k := by
              rcases Acd.out with ⟨-, h1, h2, h3, h4, h5⟩ | ⟨h5, -⟩
              · exact ⟨h1, h2, h3, h4, h5⟩
              · exact absurd h5 hk5
            have AS1 := aside hS1
            have Aj1 := aside hj1
            have ALe := aside hLe
            have Ake := aside hke
            obtain ⟨lv, xv, q1, q2, q3⟩ := AX7.out.cel
            have elv : lv = .slice (some ⟨lg, 0, none⟩) sl lc := by rw [cell_of_row w5 wb 0 _ _ _ q1] at x1; simpa using x1
            have exv : xv = .slice (some ⟨xg, 0, none⟩) sl xc := by rw [cell_of_row w5 wb 1 _ _ _ q1] at x2; simpa using x2
            rw [elv] at q1 q2
            rw [exv] at q1 q3
            have ATw : Aside (Tw w.heap.size wb (sadd S1 q j nm) w5.drew (.slice (some ⟨lg, 0, none⟩) sl lc) (.slice (some ⟨xg, 0, none⟩) sl xc) (.slice (some ⟨lg, 0, none⟩) sl lc) (.slice (some ⟨xg, 0, none⟩) sl xc) (S.map fun e => Pt e.nb) (S.map fun e => Pt e.rb)) := (show Tw w.heap.size wb (sadd S1 q j nm) w5 _ _ _ _ _ _ from ⟨Agr.out.1, Agr.out.2, q2, q3, q1, B5.out.size⟩).below (below_dr w5)
            have Hnb : Aside ((S.map fun e => Pt e.nb) ++ [Pt enb] = (sadd S1 q j nm).map fun e => Pt e.nb) := by
              show (S.map fun e => Pt e.nb) ++ [Pt enb] = (sadd S1 q j nm).map fun e => Pt e.nb
              rw [sadd_nbs, AS1.out, List.map_append, Aenb.out]; rfl
            have Hrb : Aside ((S.map fun e => Pt e.rb) ++ [Pt erb] = (sadd S1 q j nm).map fun e => Pt e.rb) := by
              show (S.map fun e => Pt e.rb) ++ [Pt erb] = (sadd S1 q j nm).map fun e => Pt e.rb
              rw [sadd_rbs, AS1.out, List.map_append, Aerb.out]; rfl
            have Hl : Aside ((S.map fun e => Pt e.nb).length ≤ 1000000 ∧ (S.map fun e => Pt e.rb).length ≤ 1000000) := by
              show (S.map fun e => Pt e.nb).length ≤ 1000000 ∧ (S.map fun e => Pt e.rb).length ≤ 1000000
              rw [List.length_map, List.length_map]; omega
            have Alo := aside A3.out.lw.bnd
            have hl5 : wb < w5.heap.size := (Array.getElem?_eq_some_iff.1 q1).1
            have x1a := fun ob => ((below_al w5 ob).cell (p := ⟨wb, 0, none⟩) hl5).trans x1
            have x2a := fun ob => ((below_al w5 ob).cell (p := ⟨wb, 1, none⟩) hl5).trans x2
            have x1b := fun ob ob' => ((below_al (w5.alloc ob) ob').cell (p := ⟨wb, 0, none⟩) (Nat.lt_of_lt_of_le hl5 (below_al w5 ob).size)).trans (x1a ob)
            have x2b := fun ob ob' => ((below_al (w5.alloc ob) ob').cell (p := ⟨wb, 1, none⟩) (Nat.lt_of_lt_of_le hl5 (below_al w5 ob).size)).trans (x2a ob)
            have AFin : Aside (∀ W, Below w.heap.size w5 W → GX w.heap.size W (sadd S1 q j nm) → RX w.heap.size W (sadd S1 q j nm) → LW W w.heap.size wb (sadd S1 q j nm) → Ld w wb L (i + 1) W (sadd S1 q j nm)) := fun W b g1 g2 g3 => by
              refine ⟨g1, g2, g3, ?_, B5.out.trans b, fun a f hf hk => ?_⟩
              · rw [AS1.out, Aj1.out]; exact A3.out.li.fresh ALe.out q nm
              · rw [sadd_get, AS1.out] at hf
                obtain ⟨g1, hg1, rfl⟩ := Option.map_eq_some_iff.1 hf
                have hk2 : g1.k = 2 := hk
                rcases app_cases hg1 with hg1 | ⟨-, he⟩
                · exact A3.out.lnk a g1 hg1 hk2
                · first | rw [he] at hk2 | rw [← he] at hk2
                  exact ⟨_, Asm.out, Ake.out.symm.trans hk2⟩
            clear elv exv q1 q2 q3 hS1 hj1 hLe hpe hke hk5
            go_wp2_with fail
            go_region_law (first
              | (refine step_x (nb := erb) rfl _ _ rfl rfl rfl (by first | exact T8.out | exact T8.out.al _ | exact (T8.out.al _).al _) (by first | assumption | go_simp) Hl.out.2 ?_; intro xk xn xc2 w9 ht9 hb9 _; rw [Hnb.out, Hrb.out] at ht9; obtain ⟨hst9, o1, o2, o3, o4⟩ := ht9.stored Alo.out; have A9 := aside hst9; have BB9 : Aside (Below w.heap.size w5 w9) := (by first | exact BB8.out.trans hb9 | exact BB8.out.trans (((below_al _ _).mono T8.out.lo).trans hb9) | exact BB8.out.trans ((((below_tr (below_al _ _) (below_al _ _))).mono T8.out.lo).trans hb9)); clear ht9 hb9 hst9)
              | (refine step_l (nb := enb) rfl _ _ rfl rfl rfl (by first | exact T8.out | exact T8.out.al _ | exact (T8.out.al _).al _) (by first | assumption | go_simp) Hl.out.1 ?_; intro xk xn xc2 w9 ht9 hb9 _; rw [Hnb.out, Hrb.out] at ht9; obtain ⟨hst9, o1, o2, o3, o4⟩ := ht9.stored Alo.out; have A9 := aside hst9; have BB9 : Aside (Below w.heap.size w5 w9) := (by first | exact BB8.out.trans hb9 | exact BB8.out.trans (((below_al _ _).mono T8.out.lo).trans hb9) | exact BB8.out.trans ((((below_tr (below_al _ _) (below_al _ _))).mono T8.out.lo).trans hb9)); clear ht9 hb9 hst9)
              | (refine step_l (nb := enb) rfl _ _ rfl rfl rfl (by first | exact ATw.out | exact ATw.out.al _ | exact (ATw.out.al _).al _) (by first | assumption | go_simp) Hl.out.1 ?_; intro lk ln lc2 w8 ht8 hb8 hp8; have T8 := aside ht8; have BB8 : Aside (Below w.heap.size w5 w8) := (by first | exact ((below_dr w5).mono B5.out.size).trans hb8 | exact ((below_dr w5).mono B5.out.size).trans (((below_al _ _).mono ATw.out.lo).trans hb8) | exact ((below_dr w5).mono B5.out.size).trans (((below_tr (below_al _ _) (below_al _ _)).mono ATw.out.lo).trans hb8)); have o8 : w8.cell? ⟨wb, 0, none⟩ = some (.slice (some ⟨lg, 0, none⟩) sl lc) := (by rw [cell_of_row w8 wb 0 _ _ _ ht8.hw]; rfl); have o9 : w8.cell? ⟨wb, 1, none⟩ = some (.slice (some ⟨xg, 0, none⟩) sl xc) := (by rw [cell_of_row w8 wb 1 _ _ _ ht8.hw]; rfl); have hl8 : wb < w8.heap.size := (Array.getElem?_eq_some_iff.1 ht8.hw).1; have o8a := (fun ob => ((below_al w8 ob).cell (p := ⟨wb, 0, none⟩) hl8).trans o8); have o9a := (fun ob => ((below_al w8 ob).cell (p := ⟨wb, 1, none⟩) hl8).trans o9); (first | (have p8 := hp8 _ (Pt erb) _ (heap_alloc_new _ _) (by go_simp); simp at p8) | (have p8 := hp8 w5.heap.size (Pt erb) _ (((below_al _ _).block _ (by simp)).trans (heap_alloc_new w5.drew _)) (by go_simp)) | skip); clear ht8 hb8 hp8)
              | (refine step_x (nb := erb) rfl _ _ rfl rfl rfl (by first | exact ATw.out | exact ATw.out.al _ | exact (ATw.out.al _).al _) (by first | assumption | go_simp) Hl.out.2 ?_; intro lk ln lc2 w8 ht8 hb8 hp8; have T8 := aside ht8; have BB8 : Aside (Below w.heap.size w5 w8) := (by first | exact ((below_dr w5).mono B5.out.size).trans hb8 | exact ((below_dr w5).mono B5.out.size).trans (((below_al _ _).mono ATw.out.lo).trans hb8) | exact ((below_dr w5).mono B5.out.size).trans (((below_tr (below_al _ _) (below_al _ _)).mono ATw.out.lo).trans hb8)); have o8 : w8.cell? ⟨wb, 0, none⟩ = some (.slice (some ⟨lg, 0, none⟩) sl lc) := (by rw [cell_of_row w8 wb 0 _ _ _ ht8.hw]; rfl); have o9 : w8.cell? ⟨wb, 1, none⟩ = some (.slice (some ⟨xg, 0, none⟩) sl xc) := (by rw [cell_of_row w8 wb 1 _ _ _ ht8.hw]; rfl); have hl8 : wb < w8.heap.size := (Array.getElem?_eq_some_iff.1 ht8.hw).1; have o8a := (fun ob => ((below_al w8 ob).cell (p := ⟨wb, 0, none⟩) hl8).trans o8); have o9a := (fun ob => ((below_al w8 ob).cell (p := ⟨wb, 1, none⟩) hl8).trans o9); (first | (have p8 := hp8 _ (Pt enb) _ (heap_alloc_new _ _) (by go_simp); simp at p8) | (have p8 := hp8 w5.heap.size (Pt enb) _ (((below_al _ _).block _ (by simp)).trans (heap_alloc_new w5.drew _)) (by go_simp)) | skip); clear ht8 hb8 hp8))
            all_goals
              clear T8 BB8 o8 o9 hl8 o8a o9a o1 o2 o3 o4 ATw Hnb Hrb Hl Agr AX7 AA4 AA5 x1 x2 x1a x2a x1b x2b
              go_wp2_with fail
              go_roundg gk
              case measure => omega
              case rel => exact ⟨rfl, rfl, i + 1, sadd S1 q j nm, by omega, by first | rfl | simp, AFin.out _ (BB9.out.trans A9.out.2.2.2) A9.out.1 A9.out.2.1 A9.out.2.2.1⟩
        · have hC0b : (C == 0) = false := beq_eq_false_iff_ne.2 hC0
          have B5 := aside (both_none AA4.out AA5.out hC0)
          go_wp2_with fail
          go_roundg gk
          case measure => omega
          case rel => exact ⟨rfl, rfl, i + 1, S, by omega, by first | rfl | simp, by
            have h1 := (A3.out.below (below_dr w3)).below B5.out
            exact ⟨h1.gx, h1.rx, h1.lw, h1.li.more (by omega), h1.bel, h1.lnk⟩⟩
end Go.Proofs.YtknjclekfmmfeaaGreatDoor
