/- The document's own table goes on: the walk. -/
import Derived.Test.YtfpegmmciphjiaaRefOn
namespace Go.Proofs.Ytfpegmmciphjiaa
open Go.RowKit

set_option maxHeartbeats 4000000 in
theorem rOn_told (t : Tb) (w : World) (h : Tab 43 w t) :
    Calls Try.prog 36 #[.pointer (some ⟨t.p, 0, none⟩)] w fun e w' => ∃ a n c, e = .returned (.slice a n c) ∧ ToldP 43 w w' t (onF t.H [] [] t.W) (.slice a n c) := by
  have HT := aside h
  obtain ⟨nW, hnW⟩ : ∃ nW, nW = t.W.length := ⟨_, rfl⟩
  have HNW := aside hnW
  have hfew := h.few
  rw [← hnW] at hfew
  have hw256 : nW ≤ 256 := by omega
  clear h hnW hfew
  go_enter Try.func36, Try.ntmps36
  go_wp2
  go_loopg [3, 4, 5] nW (fun G s3 s4 s5 wr => ∃ (a : Option Addr) (n c : Nat) (b : Option Addr) (m d k : Nat) (tt : Tb) (A U : List Lk), k + G = nW ∧ s3 = .slice a n c ∧ s4 = .slice b m d ∧ s5 = .int .i64 (k : Int) ∧ Aside (ROn w wr t tt (.slice a n c) (.slice b m d) k A U))
  case atStart =>
    exact ⟨none, 0, 0, none, 0, 0, 0, t, [], [], by omega, rfl, rfl, rfl, aside ⟨NxQ.refl HT.out.q, rfl, own_none _, own_none _, by simp [Value.ownBlock], by simp [Value.ownBlock], by simp, by simp, by have := HT.out.few; simp; omega, by simp⟩⟩
  case round =>
    obtain ⟨a, n, c, b, m, d, k, tt, A, U, hkG, rfl, rfl, rfl, hS⟩ := hrel
    have htab := hS.out.nx.tab
    have hpp := hS.out.nx.pp
    obtain ⟨wa, wc, hwv, hwn, hwc, wls⟩ := htab.ow.tel
    have hW := hS.out.ww
    have c1 := htab.c1
    rw [hwv, hpp, hW, ← HNW.out] at c1
    by_cases hk : k < nW
    · have t1 : (k : Int) < (nW : Int) := by omega
      obtain ⟨x, hx⟩ : ∃ x, t.W[k]? = some x := ⟨_, List.getElem?_eq_getElem (by have := HNW.out; omega)⟩
      have hmx : may x = true := HT.out.mw x (List.mem_of_getElem? hx)
      rw [hW] at wls
      obtain ⟨g, o, rfl, hrd⟩ := wls (fun h0 => by rw [h0] at hx; simp at hx)
      obtain ⟨q0, q1, q2, q3⟩ := hrd.lock hx
      obtain ⟨ha, hc, hhv, -, -, hls⟩ := htab.oh.tel
      have c0 := htab.c0
      rw [hhv, hpp] at c0
      have hHl : tt.H.length ≤ 256 := by have := hS.out.hl; omega
      have hAl : A.length ≤ 256 := by have := hS.out.ul; omega
      obtain ⟨bA, bc, hbv, -, -, bls⟩ := hS.out.oA.tel
      simp only [Value.slice.injEq] at hbv
      obtain ⟨rfl, hbm, rfl⟩ := hbv
      have MH := aside (fun (Y : World) (hY : Below wr.heap.size wr Y) => rMeets_any x tt.H ha hc hmx htab.mh (by omega) Y (hls.below hY))
      have MA := aside (fun (Y : World) (hY : Below wr.heap.size wr Y) => rMeets_any x A b d hmx hS.out.am (by omega) Y (bls.below hY))
      rw [show x.val = .agg #[.int .i64 x.who, .int .i64 x.org, .int .i64 x.len, .bool x.sh] from rfl] at MH MA
      rw [← hbm] at MA
      have e1 := fun d os => ext_cell c1 d os
      have e0 := fun d os => ext_cell c0 d os
      have a0 := fun d os => ext_cell q0 d os
      have a1 := fun d os => ext_cell q1 d os
      have a2 := fun d os => ext_cell q2 d os
      have a3 := fun d os => ext_cell q3 d os
      have HX := aside hx
      have HMX := aside hmx
      have HHV := aside hhv
      have HPP := aside hpp
      have HHL := aside hHl
      have HAL := aside hAl
      have CC := aside (And.intro c0 (And.intro c1 (And.intro q0 (And.intro q1 (And.intro q2 q3)))))
      clear hx hmx hhv hwv hrd hls wls bls htab hW hwn hwc hpp hHl hAl c0 c1 q0 q1 q2 q3 hbm
      obtain ⟨m1, hm1⟩ : ∃ m1, m1 = hit x tt.H := ⟨_, rfl⟩
      obtain ⟨m2, hm2⟩ : ∃ m2, m2 = hit x A := ⟨_, rfl⟩
      rw [← hm1] at MH
      rw [← hm2] at MA
      have H1 := aside hm1
      have H2 := aside hm2
      clear hm1 hm2
      have stayT : Aside (∀ (q : Bool), (m1 || m2) = q → (hit x tt.H || hit x A) = q) := fun q hq => by rw [← H1.out, ← H2.out]; exact hq
      have c1 := CC.out.2.1
      cases m1
      · cases m2
        · go_wp2_with fail
          refine region_ext (by kernel_rfl) (by kernel_rfl) ?_
          repeat (any_goals (first | go_big_quiet_step ((first | (with_reducible exact calls_ext (MH.out _ (below_ext _ _ _))) | (with_reducible exact calls_ext (MA.out _ (below_ext _ _ _))))) | quiet_step ((first | (with_reducible exact calls_ext (MH.out _ (below_ext _ _ _))) | (with_reducible exact calls_ext (MA.out _ (below_ext _ _ _)))))))
          refine wpQuiet_nil ?_
          intro wq hwq
          obtain ⟨d0, d1, d2, d3, d4, d5⟩ := CC.out
          have f0 := (hwq.cell (World.block_lt_of_cell? _ _ d0)).trans d0
          have f1 := (hwq.cell (World.block_lt_of_cell? _ _ d1)).trans d1
          have f2 := (hwq.cell (World.block_lt_of_cell? _ _ d2)).trans d2
          have f3 := (hwq.cell (World.block_lt_of_cell? _ _ d3)).trans d3
          have f4 := (hwq.cell (World.block_lt_of_cell? _ _ d4)).trans d4
          have f5 := (hwq.cell (World.block_lt_of_cell? _ _ d5)).trans d5
          have S2 := aside (hS.out.below hwq)
          clear hwq e0 e1 a0 a1 a2 a3 c1 d0 d1 d2 d3 d4 d5 MH MA
          have LS := aside (ls_lit wq.drew x)
          have OW : Aside (Own (wq.drew.alloc (.cells #[.int .i64 x.who, .int .i64 x.org, .int .i64 x.len, .bool x.sh] 29)) tt.hv tt.H) := S2.out.nx.tab.oh.below (below_tr (below_dr _) (below_al _ _))
          have FW : Aside (tt.H.length + [x].length ≤ 33554432) := by have := HHL.out; show tt.H.length + 1 ≤ _; omega
          have BV2 : Aside (Below wq.heap.size wq (wq.drew.alloc (.cells #[.int .i64 x.who, .int .i64 x.org, .int .i64 x.len, .bool x.sh] 29))) := below_tr (below_dr _) (below_al _ _)
          have fz : wq.frozen? ⟨t.p, 0, none⟩ = false := by have := S2.out.nx.tab.f0 0; rw [HPP.out] at this; exact this
          have NH : Aside (¬ tt.hv.ownBlock = some t.p) := by have := S2.out.nx.tab.nh; rw [HPP.out] at this; exact this
          have GK : Aside (∀ w', Upd (fun j => tt.hv.ownBlock = some j) (wq.drew.alloc (.cells #[.int .i64 x.who, .int .i64 x.org, .int .i64 x.len, .bool x.sh] 29)) w' → w'.cell? ⟨t.p, 0, none⟩ = some (.slice ha tt.H.length hc) ∧ w'.frozen? ⟨t.p, 0, none⟩ = false) := fun w' hu => by
            have hB : Below wq.heap.size wq (wq.drew.alloc (.cells #[.int .i64 x.who, .int .i64 x.org, .int .i64 x.len, .bool x.sh] 29)) := BV2.out
            have hlt := World.block_lt_of_cell? wq _ f0
            refine ⟨hu.cell ((hB.cell hlt).trans f0) NH.out, ?_⟩
            exact (World.frozen?_of_block (hu.block t.p (Nat.lt_of_lt_of_le hlt hB.size) NH.out)).trans ((hB.frozen hlt).trans fz)
          have z1 : (wq.alloc (.cells #[.int .i64 x.who, .int .i64 x.org, .int .i64 x.len, .bool x.sh] 29)).cell? ⟨t.p, 0, none⟩ = some (.slice ha tt.H.length hc) := ((below_al wq _).cell (World.block_lt_of_cell? wq _ f0)).trans f0
          rw [HHV.out] at OW GK
          clear fz
          go_wp2_with fail
          go_region_law (refine step_app rfl _ _ rfl (.slice ha tt.H.length hc) tt.H [x] (some ⟨wq.heap.size, 0, none⟩) 1 1 rfl rfl rfl OW.out LS.out FW.out (tt.H.length + 1) rfl ?_; intro a3 c3 w3 ho hu hv; obtain ⟨g0, g5⟩ := GK.out w3 hu; have HO3 := aside ho; have HU3 := aside hu; have HV3 := aside hv; clear ho hu hv)
          all_goals (
            obtain ⟨W3, hW3⟩ : ∃ W3, W3 = w3.setCell ⟨t.p, 0, none⟩ (.slice a3 (tt.H.length + 1) c3) := ⟨_, rfl⟩
            have N3 : NxQ 43 wq W3 tt ⟨tt.p, .slice a3 (tt.H.length + 1) c3, tt.wv, tt.H ++ [x], tt.W⟩ := by
              have := pushedQ_held S2.out.nx.tab BV2.out HO3.out (by rw [HHV.out]; exact HU3.out) (by rw [HHV.out]; exact HV3.out) HMX.out
              rw [hW3, ← HPP.out]; exact this
            have HN3 := aside N3
            have h1 := N3.tab.c1
            simp only at h1
            have hwv3 := S2.out.nx.tab.c1
            rw [HPP.out, f1] at hwv3
            simp only [Option.some.injEq] at hwv3
            rw [← hwv3, HPP.out] at h1
            have hgW : ∀ j, (Value.slice (some ⟨g, o, none⟩) nW wc).ownBlock = some j → ¬ (j = t.p ∨ tt.hv.ownBlock = some j) := fun j hj hf => by
              rw [hwv3] at hj
              rcases hf with e | e
              · exact S2.out.nx.tab.nw (by rw [HPP.out, ← e]; exact hj)
              · exact S2.out.nx.tab.dis j e hj
            have hkeep : ∀ off v, wq.cell? ⟨g, off, none⟩ = some v → W3.cell? ⟨g, off, none⟩ = some v := fun off v hv => by
              have hb : W3.heap[g]? = wq.heap[g]? := by
                rw [hW3]
                have e1 := (Upd.setCell (F := fun k => k = t.p) (p := ⟨t.p, 0, none⟩) rfl (.slice a3 (tt.H.length + 1) c3) : Upd (fun k => k = t.p) w3 _).block g (Nat.lt_of_lt_of_le (World.block_lt_of_cell? _ _ hv) (Nat.le_trans BV2.out.size HU3.out.size)) (fun e => hgW g rfl (.inl e))
                have e2 := HU3.out.block g (Nat.lt_of_lt_of_le (World.block_lt_of_cell? _ _ hv) BV2.out.size) (fun e => hgW g rfl (.inr (by rw [HHV.out]; exact e)))
                have e3 := BV2.out.block g (World.block_lt_of_cell? _ _ hv)
                exact e1.trans (e2.trans e3)
              rw [World.cell?_of_block (a := ⟨g, off, none⟩) hb]; exact hv
            have r0 := hkeep _ _ f2
            have r1 := hkeep _ _ f3
            have r2 := hkeep _ _ f4
            have r3 := hkeep _ _ f5
            have LS3 := aside (ls_lit W3 x)
            have TO : Aside (Own (W3.alloc (.cells #[.int .i64 x.who, .int .i64 x.org, .int .i64 x.len, .bool x.sh] 29)) (.slice a n c) U) := (N3.upd.own S2.out.oU (fun j hj => (S2.out.nU j hj).2)).below (below_al _ _)
            have UL : Aside (U.length + [x].length ≤ 33554432) := by have := hS.out.ul; show U.length + 1 ≤ _; omega
            rw [← hW3]
            clear hW3 N3 g0 g5 f0 f1 f2 f3 f4 f5 hkeep hgW hwv3
            go_wp2_with (at_builtin; refine wpList_app rfl _ _ rfl (.slice a n c) U [x] (some ⟨W3.heap.size, 0, none⟩) 1 1 rfl rfl rfl TO.out LS3.out UL.out (U.length + 1) rfl ?_; intro a4 c4 w4 ho hu hv; have HO4 := aside ho; have HU4 := aside hu; have HV4 := aside hv; clear ho hu hv)
            go_roundg (nW - (k + 1))
            case measure => omega
            case rel => exact ⟨a4, U.length + 1, c4, b, m, d, k + 1, _, A, U ++ [x], by omega, rfl, rfl, by go_num, aside (S2.out.go HN3.out rfl rfl (below_al _ _) HO4.out HU4.out HV4.out HX.out (stayT.out false rfl))⟩)
        · go_wp2_with fail
          refine region_ext (by kernel_rfl) (by kernel_rfl) ?_
          repeat (any_goals (first | go_big_quiet_step ((first | (with_reducible exact calls_ext (MH.out _ (below_ext _ _ _))) | (with_reducible exact calls_ext (MA.out _ (below_ext _ _ _))))) | quiet_step ((first | (with_reducible exact calls_ext (MH.out _ (below_ext _ _ _))) | (with_reducible exact calls_ext (MA.out _ (below_ext _ _ _)))))))
          refine wpQuiet_nil ?_
          intro wq hwq
          obtain ⟨d0, d1, d2, d3, d4, d5⟩ := CC.out
          have f0 := (hwq.cell (World.block_lt_of_cell? _ _ d0)).trans d0
          have f1 := (hwq.cell (World.block_lt_of_cell? _ _ d1)).trans d1
          have f2 := (hwq.cell (World.block_lt_of_cell? _ _ d2)).trans d2
          have f3 := (hwq.cell (World.block_lt_of_cell? _ _ d3)).trans d3
          have f4 := (hwq.cell (World.block_lt_of_cell? _ _ d4)).trans d4
          have f5 := (hwq.cell (World.block_lt_of_cell? _ _ d5)).trans d5
          have S2 := aside (hS.out.below hwq)
          clear hwq e0 e1 a0 a1 a2 a3 c1 d0 d1 d2 d3 d4 d5 MH MA
          have LS := aside (ls_lit wq x)
          have OW : Aside (Own (wq.alloc (.cells #[.int .i64 x.who, .int .i64 x.org, .int .i64 x.len, .bool x.sh] 29)) (.slice b m d) A) := S2.out.oA.below (below_al _ _)
          have FW : Aside (A.length + [x].length ≤ 33554432) := by have := HAL.out; show A.length + 1 ≤ _; omega
          go_wp2_with (at_builtin; refine wpList_app rfl _ _ rfl (.slice b m d) A [x] (some ⟨wq.heap.size, 0, none⟩) 1 1 rfl rfl rfl OW.out LS.out FW.out (A.length + 1) rfl ?_; intro a4 c4 w4 ho hu hv; have HO4 := aside ho; have HU4 := aside hu; have HV4 := aside hv; clear ho hu hv)
          go_roundg (nW - (k + 1))
          case measure => omega
          case rel => exact ⟨a, n, c, a4, A.length + 1, c4, k + 1, tt, A ++ [x], U, by omega, rfl, rfl, by go_num, aside (S2.out.stay (below_al _ _) HO4.out HU4.out HV4.out HX.out HMX.out (stayT.out true rfl))⟩
      · go_wp2_with fail
        refine region_ext (by kernel_rfl) (by kernel_rfl) ?_
        repeat (any_goals (first | go_big_quiet_step ((first | (with_reducible exact calls_ext (MH.out _ (below_ext _ _ _))) | (with_reducible exact calls_ext (MA.out _ (below_ext _ _ _))))) | quiet_step ((first | (with_reducible exact calls_ext (MH.out _ (below_ext _ _ _))) | (with_reducible exact calls_ext (MA.out _ (below_ext _ _ _)))))))
        refine wpQuiet_nil ?_
        intro wq hwq
        obtain ⟨d0, d1, d2, d3, d4, d5⟩ := CC.out
        have f0 := (hwq.cell (World.block_lt_of_cell? _ _ d0)).trans d0
        have f1 := (hwq.cell (World.block_lt_of_cell? _ _ d1)).trans d1
        have f2 := (hwq.cell (World.block_lt_of_cell? _ _ d2)).trans d2
        have f3 := (hwq.cell (World.block_lt_of_cell? _ _ d3)).trans d3
        have f4 := (hwq.cell (World.block_lt_of_cell? _ _ d4)).trans d4
        have f5 := (hwq.cell (World.block_lt_of_cell? _ _ d5)).trans d5
        have S2 := aside (hS.out.below hwq)
        clear hwq e0 e1 a0 a1 a2 a3 c1 d0 d1 d2 d3 d4 d5 MH MA
        have LS := aside (ls_lit wq x)
        have OW : Aside (Own (wq.alloc (.cells #[.int .i64 x.who, .int .i64 x.org, .int .i64 x.len, .bool x.sh] 29)) (.slice b m d) A) := S2.out.oA.below (below_al _ _)
        have FW : Aside (A.length + [x].length ≤ 33554432) := by have := HAL.out; show A.length + 1 ≤ _; omega
        go_wp2_with (at_builtin; refine wpList_app rfl _ _ rfl (.slice b m d) A [x] (some ⟨wq.heap.size, 0, none⟩) 1 1 rfl rfl rfl OW.out LS.out FW.out (A.length + 1) rfl ?_; intro a4 c4 w4 ho hu hv; have HO4 := aside ho; have HU4 := aside hu; have HV4 := aside hv; clear ho hu hv)
        go_roundg (nW - (k + 1))
        case measure => omega
        case rel => exact ⟨a, n, c, a4, A.length + 1, c4, k + 1, tt, A ++ [x], U, by omega, rfl, rfl, by go_num, aside (S2.out.stay (below_al _ _) HO4.out HU4.out HV4.out HX.out HMX.out (stayT.out true rfl))⟩
    · obtain rfl : k = nW := by omega
      have t1 : ¬ ((k : Int) < (k : Int)) := by omega
      have f1 := htab.f0 1
      rw [hpp] at f1
      have hN := nx_setW hS.out.nx hS.out.oA (fun j hj => ⟨(hS.out.nA j hj).1, (hS.out.nA j hj).2.1⟩) hS.out.am (by have := hS.out.hl; omega)
      rw [hpp] at hN
      have HN := aside hN
      have HPP := aside hpp
      clear hwv hwn hwc wls hW htab hN hpp
      go_wp2_with fail
      go_ret
      have he := hS.out.eq
      rw [List.drop_of_length_le (by have := HNW.out; omega), show onF tt.H A U [] = (tt.H, A, U) from rfl] at he
      refine ⟨a, n, c, rfl, _, HN.out, by rw [← he], by rw [← he], ?_, fun j hj => ⟨(hS.out.nU j hj).1, fun hf => ?_⟩⟩
      · rw [← he]
        exact (Upd.setCell (F := fun k => k = t.p) (p := ⟨t.p, 1, none⟩) rfl _ : Upd (fun k => k = t.p) wr _).own hS.out.oU (fun j hj e => (hS.out.nU j hj).2 (.inl (by rw [e, HPP.out])))
      · rcases hf with hf | hf | hf
        · exact (hS.out.nU j hj).2 (.inl (by rw [HPP.out]; exact hf))
        · exact (hS.out.nU j hj).2 (.inr (.inl hf))
        · exact (hS.out.nA j hf).2.2 hj
end Go.Proofs.Ytfpegmmciphjiaa
