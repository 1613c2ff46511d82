/- TreeBack's walk. -/
import Derived.Test.YtbnaegoahdcejaaGreatDoorGI
namespace Go.Proofs.YtbnaegoahdcejaaGreatDoor
open Go.RowKit Go.ChangeMaps

/-- A row of items can be read. -/
theorem inp_row {W : World} {a : Option Addr} {c : Nat} {ms : List Im} (h : W.ownsRow 0 51 3 (.slice a ms.length c) ms.length (ims ms)) (hd : ∀ m ∈ ms, BsAt W m.a m.x ∧ m.x.length ≤ m.c ∧ m.c ≤ 9223372036854775807) : Inp W a ms := by
  refine ⟨fun hn => ?_, hd⟩
  rcases h.2 with ⟨-, h0⟩ | ⟨g, cap, cur, e, -⟩
  · exact absurd (List.eq_nil_of_length_eq_zero h0) hn
  · injection e with e1 e2 e3
    exact ⟨g, 0, e1, fun j v hj => by
      have := h.cells (g := g) (by rw [e1]; rfl) j v hj
      simpa [Addr.add_lit] using this⟩
/-- append whose run is known, under a guard that holds. -/
theorem wpList_append_got {P : Program} (w : World) {ops : Array Oper} {rest : List Oper} {o : Oper} {a : Act} {Q : Exit → Act → World → Prop} (hw : Region.wanted o (yielded ops a.tmps) = true) (s x : Operand) (t : TypeId)
    (ho : o.op = .call { callee := .builtin .append, args := #[s, x], argTypes := #[t, t] }) (v1 v2 : Value) (hs : a.eval s = v1) (hx : a.eval x = v2) (v' : Value) (w' : World) (hr : (Builtin.append_ #[t, t] o.type #[v1, v2]).run P w = .ok v' w')
    (h : wpList P ops Q rest (a.put o.dst v') w') : wpList P ops Q (o :: rest) a w := by
  refine wpList_step fun K hK => ?_
  rw [if_pos hw]
  unfold Oper.wp execOp
  simp only [ho, resolve, invoke, builtin, Sem.run_bind, Sem.run_pure, Result.andThen_ok, List.map_toArray, List.map_cons, List.map_nil, hs, hx, hr]
  exact hK _ _ h
/-- append([]api.Item{}, l...). -/
theorem app_copy (W : World) (a : Option Addr) (ms : List Im) (n c : Nat) (hI : Inp W a ms) (hn : n = ms.length) (hl : n ≤ 1000000) :
    ∃ a' c' w', (Builtin.append_ #[22, 22] 22 #[.slice (some ⟨W.heap.size, 0, none⟩) 0 0, .slice a n c]).run Tryz.prog (W.alloc (.cells #[] 51)) = .ok (.slice a' n c') w' ∧ Inp w' a' ms ∧ Below W.heap.size W w' ∧ n ≤ c' := by
  have hB := below_al W (.cells #[] 51)
  have hr0 : (W.alloc (.cells #[] 51)).ownsRow 0 51 3 (.slice (some ⟨W.heap.size, 0, none⟩) 0 0) 0 [] := ⟨rfl, .inr ⟨W.heap.size, 0, #[], rfl, Nat.zero_le _, heap_alloc_new W _, Nat.le_refl _, by unfold maxLen; omega, rfl, rfl⟩⟩
  by_cases h0 : n = 0
  · subst h0
    have : ms = [] := List.eq_nil_of_length_eq_zero hn.symm
    subst this
    obtain ⟨i, hi, -⟩ := info_parts infoI
    exact ⟨_, 0, _, run_append_zero _ 22 22 51 i Tryz.underlying22 hi _ 0 0 (Nat.le_refl _) a c, ⟨fun h => absurd rfl h, fun m hm => by simp at hm⟩, hB, Nat.le_refl _⟩
  · obtain ⟨g, o, rfl, hc⟩ := hI.cel (fun e => h0 (by rw [hn, e]; rfl))
    obtain ⟨v', w', hrun, ho, hg, hwh⟩ := run_append_where (P := Tryz.prog) (W.alloc (.cells #[] 51)) 22 22 51 _ 3 48 Tryz.underlying22 infoI rfl (by decide) _ 0 [] hr0 ⟨g, o, none⟩ n c (ims ms) (by rw [ims_length, hn]) (fun j u hj => by
        rw [Addr.add_lit]
        exact (hB.cell (World.block_lt_of_cell? W _ (hc j u hj))).trans (hc j u hj)) (ims_one ms) (by unfold maxLen; omega) (by omega) (by omega)
    rw [Nat.zero_add, List.nil_append] at ho
    obtain ⟨a', c', rfl, hnc⟩ := own_slice ho
    have hb' : Below W.heap.size W w' := hB.trans ((Upd.of_grown hg (F := fun k => W.heap.size ≤ k) (fun k hk => by simp only [Value.ownBlock, Option.some.injEq] at hk; omega)).below (by simp) (fun k hk => hk))
    refine ⟨a', c', w', hrun, inp_row (by rw [← hn]; exact ho) (fun m hm => ⟨(hI.dat m hm).1.below hb', (hI.dat m hm).2⟩), hb', hnc⟩
set_option maxRecDepth 20000 in
set_option maxHeartbeats 8000000 in
theorem treeBack_walk (a : Option Addr) (ms : List Im) (n c : Nat) (w : World) (hn : n = ms.length) (hnc : n ≤ c) (hnl : n ≤ 140737488351232) (hI : Inp w a ms) (hF : Fits ms) (hM : Mxl w) : Calls Tryz.prog 7 #[.slice a n c] w fun e w' => e = .returned (.bool true) ∧ Below w.heap.size w w' := by
  have AI := aside hI
  have AM := aside hM
  have AN := aside hn
  have AG := aside (great_any a ms n c w hn hnl hI hF)
  clear hI hM hn hF
  go_enter Tryz.func7, Tryz.ntmps7
  go_wp2_with fail
  refine AG.out.mono ?_
  rintro e w1 ⟨hb1, q, rfl, hq⟩
  have AB1 := aside hb1
  clear AG hb1
  cases q with
  | true =>
    clear hq
    go_wp2_with fail
    refine (wakes19_any _ (AM.out.below AB1.out AM.out.lt)).mono ?_
    rintro e w2 ⟨rfl, hb2⟩
    have AB2 := aside hb2
    clear hb2
    go_wp2_with fail
    go_ret
    exact ⟨rfl, below_tr AB1.out AB2.out⟩
  | false =>
    obtain ⟨hq1, hq2⟩ := hq rfl
    have hn200 : n ≤ 200 := by rw [AN.out]; exact hq1
    have hMw := AM.out.below AB1.out AM.out.lt
    have AK := aside (tmake_any a ms n c w1 AN.out (by omega) (AI.out.below AB1.out) hMw)
    have AM1 := aside hMw
    clear hq hq1 hMw
    go_wp2_with fail
    refine AK.out.mono ?_
    rintro e w2 hP
    obtain ⟨cc, ci, T, hmk, hb2, h3⟩ := MakeP.told hP
    have AB2 := aside (below_tr AB1.out hb2)
    have AM2 := aside (AM1.out.below hb2 AM1.out.lt)
    clear AK hP hb2
    rcases h3 with ⟨hc0, rfl⟩ | ⟨-, S, r, hT, hTo, rfl⟩
    · have hcb : (cc == 0) = false := beq_eq_false_iff_ne.2 hc0
      clear hmk
      go_wp2_with fail
      refine (wakes19_any _ AM2.out).mono ?_
      rintro e w3 ⟨rfl, hb3⟩
      have AB3 := aside hb3
      clear hb3
      go_wp2_with fail
      go_ret
      exact ⟨rfl, below_tr AB2.out AB3.out⟩
    · clear hmk
      obtain ⟨t1, t2, t3, t4⟩ := hTo.items hT
      have hCo := hTo.sorted hT
      have At1 := aside t1
      have At2 := aside t2
      have At3 := aside t3
      have ACo := aside hCo
      have AT := aside hT
      have ATo := aside hTo
      have AIt := aside (items_any hT r hTo.rin hTo.rk)
      obtain ⟨nb, hnb⟩ : ∃ nb, nb = r.nb := ⟨_, rfl⟩
      have Anb := aside hnb
      rw [← hnb] at AIt ⊢
      clear hT hTo t1 t2 t3 t4 hCo hnb
      go_wp2_with fail
      refine AIt.out.mono ?_
      rintro e w3 ⟨hb3, hP⟩
      rcases hP with ⟨hx, -⟩ | ⟨-, a3, c3, ms3, rfl, hL, hit⟩
      · exact absurd At1.out hx
      have AB3 := aside (below_tr AB2.out hb3)
      have AT3 := aside (AT.out.below hb3)
      have AM3 := aside (AM2.out.below hb3 AM2.out.lt)
      have AL := aside hL
      have Ait : Aside (ms3.map Im.it = srt ikey (ms.map Im.it)) := hit.trans At2.out
      have hl3 : ms3.length = n := by
        have := congrArg List.length Ait.out
        rw [(srt_perm ikey _).length_eq, List.length_map, List.length_map, ← AN.out] at this
        exact this
      rw [hl3]
      have Al3 := aside hl3
      have AI3 := aside (AI.out.below AB3.out)
      clear hb3 hL hit hl3 AIt AT AM2 AM1
      obtain ⟨a4, c4, w4, hap, hI4, hb4, hc4⟩ := app_copy w3 a ms n c AI3.out AN.out (by omega)
      have AOr := aside (ordered_any ms.length a4 ms n c4 w4 (Nat.le_refl _) AN.out hc4 (by omega) hI4)
      have AB4 := aside hb4
      have Aap := aside hap
      clear hI4 hb4 hc4 hap
      go_wp2_with (at_builtin; refine wpList_append_got _ rfl _ _ 22 rfl _ _ rfl rfl _ _ Aap.out ?_)
      refine AOr.out.mono ?_
      rintro e w5 ⟨hb5, a5, c5, ms5, rfl, hc5, hI5, hp5, hr5⟩
      have AB5 := aside (below_tr AB4.out hb5)
      rw [← AN.out]
      have hms5 : ms5.map Im.it = srt ikey (ms.map Im.it) := srt_uniq ikey (hp5.map _) (List.pairwise_map.2 hr5) At3.out
      have hL5 := AL.out.below AB5.out
      have ASI := aside (sameItems_eq a3 a5 ms3 ms5 n c3 c5 w5 Al3.out.symm (by omega) hL5.inp hI5 (by rw [Ait.out, hms5]))
      have AL5 := aside hL5
      clear hb5 hI5 hp5 hr5 hc5 hms5 hL5 Aap AOr
      go_wp2_with fail
      refine ASI.out.mono ?_
      rintro e w6 ⟨rfl, hb6⟩
      have AB6 := aside (below_tr AB5.out hb6)
      have AL6 := aside (AL5.out.below hb6)
      clear hb6 ASI AL5
      go_wp2_with fail
      go_loopg [8, 9, 10, 11] n (fun g s8 _ _ _ wx => ∃ i : Nat, i + g = n ∧ s8 = .int .i64 (i : Int) ∧ Below w6.heap.size w6 wx)
      case atStart => exact ⟨0, by omega, rfl, Below.refl _ _⟩
      case round =>
        obtain ⟨i, hig, rfl, hbl⟩ := hrel
        have ABl := aside hbl
        have hLr := AL6.out.below hbl
        clear hbl
        cases gk with
        | zero =>
          obtain rfl : i = n := by omega
          have hi : ¬ ((i : Nat) : Int) < (i : Int) := by omega
          have ABr : Aside (Below w.heap.size w wr) := below_tr (below_tr AB3.out AB6.out) ABl.out
          have hMr := AM3.out.below (below_tr AB6.out ABl.out) AM3.out.lt
          have AK := aside (tmake_any a3 ms3 i c3 wr Al3.out.symm (by omega) hLr.inp hMr)
          have ATr : Aside (Tr w1.heap.size wr S) := AT3.out.below (below_tr AB6.out ABl.out)
          have AMr := aside hMr
          clear hLr hMr
          go_wp2_with fail
          refine AK.out.mono ?_
          rintro e w7 hP
          obtain ⟨c7, i7, T7, hmk, hb7, h3⟩ := MakeP.told hP
          obtain ⟨T8, hT8⟩ := mkT_all (srt ikey (ms.map Im.it)) [] 0 (by simpa using ACo.out)
          rw [Ait.out] at hmk h3
          have hc7 : c7 = 0 := by
            have := hmk.symm.trans hT8
            simp only [Prod.mk.injEq] at this
            exact this.1
          rcases h3 with ⟨h3, -⟩ | ⟨-, S7, r7, hT7, hTo7, rfl⟩
          · exact absurd hc7 h3
          obtain ⟨u1, u2, -, -⟩ := hTo7.items hT7
          rw [srt_idem (srt_pw ikey At3.out)] at u2
          have hTr7 := ATr.out.below hb7
          have AB7 := aside (below_tr ABr.out hb7)
          have AM7 := aside (AMr.out.below hb7 AMr.out.lt)
          have hs1 : sameB S r S7 r7 = true := by unfold sameB; rw [At1.out, u1, At2.out, u2]; simp
          have hs2 : sameB S7 r7 S r = true := by unfold sameB; rw [At1.out, u1, At2.out, u2]; simp
          have AS1 := aside (tsame_any hTr7 hT7 r r7 ATo.out.rin ATo.out.rk hTo7.rin hTo7.rk)
          have AS2 := aside (fun V (hV : Below w7.heap.size w7 V) => tsame_any (hT7.below hV) (hTr7.below hV) r7 r hTo7.rin hTo7.rk ATo.out.rin ATo.out.rk)
          obtain ⟨nb7, hnb7⟩ : ∃ nb7, nb7 = r7.nb := ⟨_, rfl⟩
          rw [hs1, ← Anb.out, ← hnb7] at AS1
          rw [hs2, ← Anb.out, ← hnb7] at AS2
          rw [← hnb7]
          clear AK hP hmk hb7 hT8 hc7 hT7 hTo7 u1 u2 hTr7 hs1 hs2 hnb7
          go_wp2_with fail
          refine AS1.out.mono ?_
          rintro e w8 ⟨rfl, hb8⟩
          have AB8 := aside hb8
          clear hb8 AS1
          go_wp2_with fail
          refine (AS2.out w8 AB8.out).mono ?_
          rintro e w9 ⟨rfl, hb9⟩
          have AB9 := aside (below_tr AB8.out hb9)
          clear hb9 AS2
          go_wp2_with fail
          refine (wakes19_any _ (AM7.out.below AB9.out AM7.out.lt)).mono ?_
          rintro e w10 ⟨rfl, hb10⟩
          have AB10 := aside hb10
          clear hb10
          go_wp2_with fail
          go_ret
          exact ⟨rfl, below_tr (below_tr AB7.out AB9.out) AB10.out⟩
        | succ gk0 =>
          have hi : (i : Int) < (n : Int) := by omega
          have hi0 : (0 : Int) ≤ (i : Int) := by omega
          obtain ⟨x, hxi⟩ : ∃ x, ms3[i]? = some x := ⟨_, List.getElem?_eq_getElem (by rw [Al3.out]; omega)⟩
          obtain ⟨g, o, rfl, e0, e1, -⟩ := hLr.inp.at hxi
          have hxM : (srt ikey (ms.map Im.it))[i]? = some x.it := by rw [← Ait.out, List.getElem?_map, hxi]; rfl
          have hxs : x.p.data.toList.length ≤ 4096 := by
            have := (ACo.out.fin x.it (List.mem_of_getElem? hxM)).1
            have h2 := Lib.size_eq x.p
            unfold Im.it at this
            simp only at this
            omega
          have APa := aside (fun V => parent_any x.p.data.toList V (by omega))
          rw [ba_of] at APa
          have hwi : IntKind.i64.wrap ((i : Int) + 1) = ((i + 1 : Nat) : Int) := by rw [wrap_small _ (by omega) (by omega)]; simp
          have AxM := aside hxM
          obtain ⟨P, hP⟩ : ∃ P, P = ba (par x.p.data.toList) := ⟨_, rfl⟩
          rw [← hP] at APa
          have AP := aside hP
          have AE0 := aside (fun V (hV : Below wr.heap.size wr V) => (hV.cell (World.block_lt_of_cell? wr _ e0)).trans e0)
          have ALr := aside hLr
          have E0 := fun dd os => ext_cell e0 dd os
          obtain ⟨X, hX⟩ : ∃ X, X = x.p := ⟨_, rfl⟩
          rw [← hX] at E0 AE0 APa
          have AX := aside hX
          clear hxM hxs hP e0 e1 hLr hxi hX
          have Agk := aside hig
          by_cases hz : 0 < i
          · obtain ⟨im, him⟩ : ∃ im, im + 1 = i := ⟨i - 1, by omega⟩
            have hz0 : (0 : Int) < (i : Int) := by omega
            have hz1 : 0 < i := hz
            have hz2 : decide (0 < i) = true := decide_eq_true hz1
            obtain ⟨y, hyi⟩ : ∃ y, ms3[im]? = some y := ⟨_, List.getElem?_eq_getElem (by rw [Al3.out]; omega)⟩
            have hyr := ALr.out.inp.at hyi
            obtain ⟨g', o', ego, f0, -, -⟩ := hyr
            injection ego with ego
            injection ego with eg1 eg2
            subst eg1; subst eg2
            have hlt : (Op.bytesLess y.p.toList X.toList) = true := by
              rw [bytesLess_eq, Lib.toList_data, Lib.toList_data, AX.out]
              have hpw := srt_pw ikey At3.out
              rw [← Ait.out] at hpw
              have h1 := List.pairwise_iff_getElem.1 hpw im i (by rw [List.length_map, Al3.out]; omega) (by rw [List.length_map, Al3.out]; omega) (by omega)
              have h2 := AxM.out
              rw [← Ait.out, List.getElem?_eq_getElem (by rw [List.length_map, Al3.out]; omega)] at h2
              injection h2 with h2
              rw [h2, List.getElem_map] at h1
              rw [List.getElem?_eq_getElem (by rw [Al3.out]; omega)] at hyi
              injection hyi with hyi
              rw [hyi] at h1
              exact decide_eq_true h1
            have F0 := fun dd os => ext_cell f0 dd os
            have hwm : IntKind.i64.wrap ((i : Int) - 1) = (im : Int) := by rw [wrap_small _ (by omega) (by omega)]; omega
            have him1 : (im : Int) < (n : Int) := by omega
            have him0 : (0 : Int) ≤ (im : Int) := by omega
            obtain ⟨Y, hY⟩ : ∃ Y, Y = y.p := ⟨_, rfl⟩
            rw [← hY] at F0 hlt
            clear hY f0 hyi him
            go_wp2_with fail
            refine region_ext (by kernel_rfl) (by kernel_rfl) ?_
            repeat (any_goals (first | go_big_quiet_step (fail) | quiet_step (fail)))
            refine wpQuiet_nil ?_
            intro w7 hw7
            have ABw7 := aside (below_tr ABl.out hw7)
            have c0 := AE0.out w7 hw7
            have AL7 := aside (ALr.out.below hw7)
            clear hw7 E0
            go_wp2_with fail
            refine (APa.out w7).mono ?_
            rintro e w8 ⟨rfl, rfl⟩
            by_cases hpar : par x.p.data.toList = []
            · have hPe : P = ⟨#[]⟩ := by rw [AP.out, hpar]; rfl
              have APe := aside hPe
              clear hPe hpar
              rw [APe.out]
              go_wp2_with fail
              go_loopg [10, 11] 0 (fun g s10 s11 wx => g = 0 ∧ s10 = .bool true ∧ s11 = .int .i64 0 ∧ wx = w8)
              case atStart => exact ⟨rfl, rfl, rfl, rfl⟩
              case round =>
                obtain ⟨-, rfl, rfl, rfl⟩ := hrel
                go_wp2_with fail
                go_roundg gk0
                case measure => omega
                case rel => exact ⟨i + 1, by omega, by first | rfl | simp, ABw7.out⟩
            · obtain ⟨j, z, hji, hzj, hzP, hzk⟩ : ∃ j z, j < i ∧ ms3[j]? = some z ∧ P = z.p ∧ z.k = 1 := by
                rcases ACo.out.dir i x.it AxM.out with h0 | ⟨j, d, h1, h2, h3, h4⟩
                · exact absurd (show par x.p.data.toList = [] by unfold par; rw [show (spl x.p.data.toList).dropLast = [] from h0]; rfl) hpar
                · rw [← Ait.out, List.getElem?_map, Option.map_eq_some_iff] at h2
                  obtain ⟨z, hz, rfl⟩ := h2
                  refine ⟨j, z, h1, hz, ?_, h4⟩
                  rw [AP.out]
                  unfold par
                  rw [show (spl x.p.data.toList).dropLast = spl z.p.data.toList from h3.symm, pth_spl, ba_of]
              have hPn : P.data.toList ≠ [] := by rw [AP.out, ba_list]; exact hpar
              have hP1 : (P.toList == ([] : List UInt8)) = false := by rw [Lib.toList_data]; exact beq_eq_false_iff_ne.2 hPn
              have hP2 : P.toList.isEmpty = false := by rw [Lib.toList_data]; cases e : P.data.toList with | nil => exact absurd e hPn | cons _ _ => rfl
              have Azj := aside hzj
              have AzP := aside hzP
              have Azk := aside hzk
              have AP1 := aside hP1
              clear hpar hzP hzk hzj hPn
              go_wp2_with fail
              go_loopg [10, 11] (j + 1) (fun g s10 s11 wx => wx = w8 ∧ ((∃ k : Nat, g = 0 ∧ s10 = .bool true ∧ s11 = .int .i64 (k : Int)) ∨ (∃ k : Nat, k + g = j + 1 ∧ 0 < g ∧ s10 = .bool false ∧ s11 = .int .i64 (k : Int))))
              case atStart => exact ⟨rfl, .inr ⟨0, by omega, by omega, rfl, rfl⟩⟩
              case round =>
                obtain ⟨rfl, hrel⟩ := hrel
                rcases hrel with ⟨k, hg0, rfl, rfl⟩ | ⟨k, hkg, hg0, rfl, rfl⟩
                · by_cases hki : k < i
                  · have hki2 : (k : Int) < (i : Int) := by omega
                    go_wp2_with fail
                    go_roundg gk0
                    case measure => omega
                    case rel => exact ⟨i + 1, by omega, by first | rfl | simp, ABw7.out⟩
                  · have hki2 : ¬ (k : Int) < (i : Int) := by omega
                    go_wp2_with fail
                    go_roundg gk0
                    case measure => omega
                    case rel => exact ⟨i + 1, by omega, by first | rfl | simp, ABw7.out⟩
                · have hki2 : (k : Int) < (i : Int) := by omega
                  have hkn : (k : Int) < (n : Int) := by omega
                  have hk0 : (0 : Int) ≤ (k : Int) := by omega
                  obtain ⟨y, hyk⟩ : ∃ y, ms3[k]? = some y := ⟨_, List.getElem?_eq_getElem (by rw [Al3.out]; omega)⟩
                  obtain ⟨g', o', ego, f0, f1, -⟩ := AL7.out.inp.at hyk
                  injection ego with ego
                  injection ego with eg1 eg2
                  subst eg1; subst eg2
                  have hwk : IntKind.i64.wrap ((k : Int) + 1) = ((k + 1 : Nat) : Int) := by rw [wrap_small _ (by omega) (by omega)]; simp
                  by_cases hkj : k = j
                  · have hyz : y = z := by rw [hkj, Azj.out] at hyk; injection hyk with hyk; exact hyk.symm
                    have hcm : (y.p.toList == P.toList) = true := by rw [AzP.out, hyz]; exact beq_self_eq_true _
                    have hyk1 : y.k = 1 := by rw [hyz]; exact Azk.out
                    rw [hyk1] at f1
                    obtain ⟨Y, hY⟩ : ∃ Y, Y = y.p := ⟨_, rfl⟩
                    rw [← hY] at f0 hcm
                    clear hyz hyk1 hY hyk hkj
                    go_wp2_with fail
                    go_roundg 0
                    case measure => omega
                    case rel => exact ⟨rfl, .inl ⟨k + 1, rfl, by first | rfl | simp, by first | rfl | simp⟩⟩
                  · have hne : ¬ y.p = P := fun e => by
                      rw [AzP.out] at e
                      have hnd := nodup_of (f := ikey) (l := ms3.map Im.it) (by rw [Ait.out]; exact (((srt_perm ikey _).map ikey).nodup_iff).2 At3.out)
                      have hno : ((ms3.map Im.it).map ikey).Nodup := by rw [Ait.out]; exact (((srt_perm ikey _).map ikey).nodup_iff).2 At3.out
                      have e1 : ((ms3.map Im.it).map ikey)[k]? = some (ikey y.it) := by rw [List.getElem?_map, List.getElem?_map, hyk]; rfl
                      have e2 : ((ms3.map Im.it).map ikey)[j]? = some (ikey z.it) := by rw [List.getElem?_map, List.getElem?_map, Azj.out]; rfl
                      have e3 : ikey y.it = ikey z.it := by unfold ikey Im.it; simp only; rw [e]
                      rw [← e3] at e2
                      have l1 := (List.getElem?_eq_some_iff.1 e1).1
                      exact hkj ((List.getElem?_inj l1 hno).1 (e1.trans e2.symm))
                    have hcm : (y.p.toList == P.toList) = false := by rw [beq_list]; exact decide_eq_false hne
                    obtain ⟨Y, hY⟩ : ∃ Y, Y = y.p := ⟨_, rfl⟩
                    rw [← hY] at f0 hcm
                    clear hne hY hyk
                    go_wp2_with fail
                    go_roundg (gk - 1)
                    case measure => omega
                    case rel => exact ⟨rfl, .inr ⟨k + 1, by omega, by omega, rfl, by first | rfl | simp⟩⟩
          · have hz0 : ¬ (0 : Int) < (i : Int) := by omega
            have hz2 : decide (0 < i) = false := decide_eq_false hz
            go_wp2_with fail
            refine region_ext (by kernel_rfl) (by kernel_rfl) ?_
            repeat (any_goals (first | go_big_quiet_step (fail) | quiet_step (fail)))
            refine wpQuiet_nil ?_
            intro w7 hw7
            have ABw7 := aside (below_tr ABl.out hw7)
            have c0 := AE0.out w7 hw7
            have AL7 := aside (ALr.out.below hw7)
            clear hw7 E0
            go_wp2_with fail
            refine (APa.out w7).mono ?_
            rintro e w8 ⟨rfl, rfl⟩
            by_cases hpar : par x.p.data.toList = []
            · have hPe : P = ⟨#[]⟩ := by rw [AP.out, hpar]; rfl
              have APe := aside hPe
              clear hPe hpar
              rw [APe.out]
              go_wp2_with fail
              go_loopg [10, 11] 0 (fun g s10 s11 wx => g = 0 ∧ s10 = .bool true ∧ s11 = .int .i64 0 ∧ wx = w8)
              case atStart => exact ⟨rfl, rfl, rfl, rfl⟩
              case round =>
                obtain ⟨-, rfl, rfl, rfl⟩ := hrel
                go_wp2_with fail
                go_roundg gk0
                case measure => omega
                case rel => exact ⟨i + 1, by omega, by first | rfl | simp, ABw7.out⟩
            · obtain ⟨j, z, hji, hzj, hzP, hzk⟩ : ∃ j z, j < i ∧ ms3[j]? = some z ∧ P = z.p ∧ z.k = 1 := by
                rcases ACo.out.dir i x.it AxM.out with h0 | ⟨j, d, h1, h2, h3, h4⟩
                · exact absurd (show par x.p.data.toList = [] by unfold par; rw [show (spl x.p.data.toList).dropLast = [] from h0]; rfl) hpar
                · rw [← Ait.out, List.getElem?_map, Option.map_eq_some_iff] at h2
                  obtain ⟨z, hz, rfl⟩ := h2
                  refine ⟨j, z, h1, hz, ?_, h4⟩
                  rw [AP.out]
                  unfold par
                  rw [show (spl x.p.data.toList).dropLast = spl z.p.data.toList from h3.symm, pth_spl, ba_of]
              omega
end Go.Proofs.YtbnaegoahdcejaaGreatDoor
