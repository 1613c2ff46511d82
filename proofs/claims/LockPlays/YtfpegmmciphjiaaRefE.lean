/- The document's Circle. -/
import Derived.Test.YtfpegmmciphjiaaEdS
import Derived.Test.YtfpegmmciphjiaaLCircle
import Derived.Deep.RegionLaw
namespace Go.Proofs.Ytfpegmmciphjiaa
open Go.RowKit Relation

set_option maxHeartbeats 4000000 in
set_option maxRecDepth 20000 in
theorem rCircle_any (ha wa : Option Addr) (H W : List Lk) (hc wc : Nat) (w : World) (hH : LsAt w ha H) (hW : LsAt w wa W) (hmh : ∀ x ∈ H, may x = true) (hmw : ∀ x ∈ W, may x = true) (hfew : H.length + W.length ≤ 257) :
    Calls Try.prog 31 #[.slice ha H.length hc, .slice wa W.length wc] w fun e w' => ∃ b, e = .returned (.bool b) ∧ (b = true ↔ Circ H W) ∧ Below w.heap.size w w' := by
  have HH := aside hH
  have HW := aside hW
  have HMH := aside hmh
  have HMW := aside hmw
  obtain ⟨nH, hnH⟩ : ∃ nH, nH = H.length := ⟨_, rfl⟩
  obtain ⟨nW, hnW⟩ : ∃ nW, nW = W.length := ⟨_, rfl⟩
  have HNH := aside hnH
  have HNW := aside hnW
  rw [← hnH, ← hnW] at hfew ⊢
  have hmk := make62
  have hmk2 := make256
  obtain ⟨eb, heb⟩ : ∃ eb, eb = w.heap.size := ⟨_, rfl⟩
  obtain ⟨V, hV⟩ : ∃ V, V = w.alloc (.cells (Array.replicate 256 (.slice none 0 0)) 60) := ⟨_, rfl⟩
  have M0 : Aside (EdV w.heap.size V eb (fun _ => .slice none 0 0) (fun _ => [])) := by rw [hV, heb]; exact edV_new w
  have BV : Aside (Below w.heap.size w V) := by rw [hV]; exact below_al _ _
  have HV := aside hV
  have HEB := aside heb
  clear hH hW hmh hmw hnH hnW hV
  go_enter Try.func31, Try.ntmps31
  go_wp2_with fail
  rw [← HV.out, ← heb]
  clear heb hmk
  go_loopg [6] nW (fun G s6 wr => ∃ (i : Nat) (vs : Nat → Value) (Gr : Nat → List Int), i + G = nW ∧ s6 = .int .i64 (i : Int) ∧ Aside (EdV w.heap.size wr eb vs Gr) ∧ Aside (EdG (P1 H W i) (i * 257) Gr) ∧ Aside (Below w.heap.size w wr))
  case atStart => exact ⟨0, _, _, by omega, rfl, M0, aside ⟨fun a b ha => by simp [P1_zero], fun a ha => by simp⟩, BV⟩
  case round =>
    obtain ⟨i, vs, Gr, hiG, rfl, hE, hG, hB⟩ := hrel
    by_cases hi : i < nW
    · have t1 : (i : Int) < (nW : Int) := by omega
      obtain ⟨y, hy⟩ : ∃ y, W[i]? = some y := ⟨_, List.getElem?_eq_getElem (by have := HNW.out; omega)⟩
      have hym := HMW.out y (List.mem_of_getElem? hy)
      have hyw := may_iff.1 hym
      obtain ⟨yw, hyw2⟩ : ∃ yw : Nat, y.who = (yw : Int) := ⟨y.who.toNat, by omega⟩
      have hyw6 : yw < 256 := by omega
      have HY := aside hy
      have HYM := aside hym
      have HYW := aside hyw2
      clear hy hym hyw hyw2
      go_wp2_with fail
      rename World => wr0
      go_loopg [7] nH (fun G s7 wx => ∃ (k : Nat) (vs : Nat → Value) (Gr : Nat → List Int), k + G = nH ∧ s7 = .int .i64 (k : Int) ∧ Aside (EdV w.heap.size wx eb vs Gr) ∧ Aside (EdG (PE H W i y (H.take k)) (i * 257 + k) Gr) ∧ Aside (Below w.heap.size w wx))
      case atStart => exact ⟨0, vs, Gr, by omega, rfl, hE, aside (hG.out.mono (fun a b => by rw [List.take_zero, PE_nil]) (by omega)), hB⟩
      case round =>
        obtain ⟨k, vs2, Gr2, hkG, rfl, hE2, hG2, hB2⟩ := hrel
        by_cases hk : k < nH
        · have t2 : (k : Int) < (nH : Int) := by omega
          obtain ⟨z, hz⟩ : ∃ z, H[k]? = some z := ⟨_, List.getElem?_eq_getElem (by have := HNH.out; omega)⟩
          have hzm := HMH.out z (List.mem_of_getElem? hz)
          have hzw := may_iff.1 hzm
          have MM := aside (rMeet_any y z HYM.out hzm)
          have HTK := aside (show H.take (k + 1) = H.take k ++ [z] by rw [List.take_add_one, hz]; rfl)
          obtain ⟨g, o, rfl, hg, q0, q1, q2, q3⟩ := HW.out.lockL hB2.out HY.out
          obtain ⟨g2, o2, rfl, hg2, z0, z1, z2, z3⟩ := HH.out.lockL hB2.out hz
          rw [show y.val = .agg #[.int .i64 y.who, .int .i64 y.org, .int .i64 y.len, .bool y.sh] from rfl, show z.val = .agg #[.int .i64 z.who, .int .i64 z.org, .int .i64 z.len, .bool z.sh] from rfl] at MM
          have Q0 := aside q0
          have Z0 := aside z0
          have qq0 := fun d os => ext_cell q0 d os
          have qq1 := fun d os => ext_cell q1 d os
          have qq2 := fun d os => ext_cell q2 d os
          have qq3 := fun d os => ext_cell q3 d os
          have zz0 := fun d os => ext_cell z0 d os
          have zz1 := fun d os => ext_cell z1 d os
          have zz2 := fun d os => ext_cell z2 d os
          have zz3 := fun d os => ext_cell z3 d os
          clear hz hzm q0 q1 q2 q3 z0 z1 z2 z3
          obtain ⟨m, hm⟩ : ∃ m, m = meet y z := ⟨_, rfl⟩
          rw [← hm] at MM
          have HMM := aside hm
          clear hm
          go_wp2_with fail
          refine region_ext (by kernel_rfl) (by kernel_rfl) ?_
          repeat (any_goals (first | go_big_quiet_step ((with_reducible exact calls_ext (MM.out _))) | quiet_step ((with_reducible exact calls_ext (MM.out _)))))
          refine wpQuiet_nil ?_
          intro wq hwq
          have HQ := aside (below_tr hB2.out hwq)
          have EQ := hE2.out.below hwq
          have q0 := (hwq.cell (World.block_lt_of_cell? _ _ Q0.out)).trans Q0.out
          have z0 := (hwq.cell (World.block_lt_of_cell? _ _ Z0.out)).trans Z0.out
          clear hwq qq0 qq1 qq2 qq3 zz0 zz1 zz2 zz3 MM Q0 Z0
          cases m
          · clear q0 z0
            have HEQ := aside EQ
            clear EQ
            go_wp2_with fail
            go_roundg (nH - (k + 1))
            case measure => omega
            case rel => exact ⟨k + 1, vs2, Gr2, by omega, by go_num, HEQ, aside (hG2.out.mono (fun a b => by rw [HTK.out, PE_push, ← HMM.out]; simp) (by omega)), HQ⟩
          · have ce := EQ.cell hyw6
            have fe := EQ.fz yw
            obtain ⟨ea, ec, hve, hec⟩ := own_slice (EQ.own yw hyw6)
            obtain ⟨nG, hnG⟩ : ∃ nG, nG = (Gr2 yw).length := ⟨_, rfl⟩
            rw [← hnG] at hve
            rw [hve] at ce
            rw [HYW.out] at q0
            have HEQ := aside EQ
            have HVE := aside hve
            obtain ⟨OW', GK'⟩ := ed_prep EQ hyw6 hve z.who
            have OW := aside OW'
            have GK := aside GK'
            have FW : Aside ((Gr2 yw).length + [z.who].length ≤ 4294967296) := by
              have := hG2.out.len yw hyw6
              show _ + 1 ≤ _
              omega
            have FS : Aside ((Gr2 yw).length + [z.who].length = nG + 1) := by rw [hnG]; rfl
            have LS := aside (lit_one wq z.who)
            have heb : w.heap.size ≤ eb := EQ.elb
            have ne1 : ¬ g = eb := by omega
            have ne2 : ¬ g2 = eb := by omega
            have ne3 : ¬ eb = g := by omega
            have ne4 : ¬ eb = g2 := by omega
            have HGL := aside hg
            have HG2 := aside hg2
            have ce2 : (wq.alloc (.cells #[.int .i64 z.who] 3)).cell? ⟨eb, yw, none⟩ = some (.slice ea nG ec) := ((below_al wq _).cell (World.block_lt_of_cell? _ _ ce)).trans ce
            have q02 : (wq.alloc (.cells #[.int .i64 z.who] 3)).cell? ⟨g, o + i * 4, none⟩ = some (.int .i64 (yw : Int)) := ((below_al wq _).cell (World.block_lt_of_cell? _ _ q0)).trans q0
            clear EQ hve hec hnG OW' GK' heb hg hg2
            have tyw : (yw : Int) < 256 := by omega
            have Q0 := aside q0
            have Z0 := aside z0
            go_wp2_with fail
            go_region_law ((refine step_appI (w := (wq.alloc (.cells #[.int .i64 z.who] 3)).drew) rfl _ _ rfl (.slice ea nG ec) (Gr2 yw) [z.who] (some ⟨wq.heap.size, 0, none⟩) 1 1 rfl rfl rfl OW.out LS.out FW.out (nG + 1) FS.out ?_; intro a3 c3 w3 ho hu hv; obtain ⟨k0, k1, k2'⟩ := GK.out w3 hu; have k2 := k2' _ _ _ HGL.out Q0.out; have k3 := k2' _ _ _ HG2.out Z0.out; have HO3 := aside ho; have HU3 := aside hu; have HV3 := aside hv; clear ho hu hv k2'))
            all_goals (
              obtain ⟨ES, BS⟩ := ed_step HEQ.out hyw6 HVE.out HQ.out HO3.out HU3.out HV3.out
              have HES := aside ES
              have HBS := aside BS
              clear ES BS
              go_wp2_with fail
              go_roundg (nH - (k + 1))
              case measure => omega
              case rel => exact ⟨k + 1, _, _, by omega, by go_num, HES, aside ((hG2.out.push (fun a b => by rw [HTK.out, PE_push, ← HMM.out, HYW.out]; simp)).mono (fun a b => Iff.rfl) (by omega)), HBS⟩)
        · obtain rfl : k = nH := by omega
          have t2 : ¬ ((k : Int) < (k : Int)) := by omega
          go_wp2_with fail
          rename World => wr1
          go_loopg [8] i (fun G s8 wx => ∃ (j : Nat) (vs : Nat → Value) (Gr : Nat → List Int), j + G = i ∧ s8 = .int .i64 (j : Int) ∧ Aside (EdV w.heap.size wx eb vs Gr) ∧ Aside (EdG (PE H W i y (H ++ W.take j)) (i * 257 + k + j) Gr) ∧ Aside (Below w.heap.size w wx))
          case atStart => exact ⟨0, vs2, Gr2, by omega, rfl, hE2, aside (hG2.out.mono (fun a b => by rw [List.take_zero, List.append_nil, HNH.out, List.take_length]) (by omega)), hB2⟩
          case round =>
            obtain ⟨j, vs3, Gr3, hjG, rfl, hE3, hG3, hB3⟩ := hrel
            by_cases hj : j < i
            · have t3 : (j : Int) < (i : Int) := by omega
              have t5 : (j : Int) < (nW : Int) := by omega
              have t6 : j < nW := by omega
              obtain ⟨z, hz⟩ : ∃ z, W[j]? = some z := ⟨_, List.getElem?_eq_getElem (by have := HNW.out; omega)⟩
              have hzm := HMW.out z (List.mem_of_getElem? hz)
              have hzw := may_iff.1 hzm
              have MM := aside (rMeet_any y z HYM.out hzm)
              have HTK := aside (show H ++ W.take (j + 1) = (H ++ W.take j) ++ [z] by rw [List.take_add_one, hz, List.append_assoc]; rfl)
              obtain ⟨g, o, rfl, hg, q0, q1, q2, q3⟩ := HW.out.lockL hB3.out HY.out
              obtain ⟨g2, o2, he2, hg2, z0, z1, z2, z3⟩ := HW.out.lockL hB3.out hz
              simp only [Option.some.injEq, Addr.mk.injEq, and_true] at he2
              obtain ⟨rfl, rfl⟩ := he2
              clear hg2
              rw [show y.val = .agg #[.int .i64 y.who, .int .i64 y.org, .int .i64 y.len, .bool y.sh] from rfl, show z.val = .agg #[.int .i64 z.who, .int .i64 z.org, .int .i64 z.len, .bool z.sh] from rfl] at MM
              have Q0 := aside q0
              have Z0 := aside z0
              have qq0 := fun d os => ext_cell q0 d os
              have qq1 := fun d os => ext_cell q1 d os
              have qq2 := fun d os => ext_cell q2 d os
              have qq3 := fun d os => ext_cell q3 d os
              have zz0 := fun d os => ext_cell z0 d os
              have zz1 := fun d os => ext_cell z1 d os
              have zz2 := fun d os => ext_cell z2 d os
              have zz3 := fun d os => ext_cell z3 d os
              clear hz hzm q0 q1 q2 q3 z0 z1 z2 z3
              obtain ⟨m, hm⟩ : ∃ m, m = meet y z := ⟨_, rfl⟩
              rw [← hm] at MM
              have HMM := aside hm
              clear hm
              go_wp2_with fail
              refine region_ext (by kernel_rfl) (by kernel_rfl) ?_
              repeat (any_goals (first | go_big_quiet_step ((with_reducible exact calls_ext (MM.out _))) | quiet_step ((with_reducible exact calls_ext (MM.out _)))))
              refine wpQuiet_nil ?_
              intro wq hwq
              have HQ := aside (below_tr hB3.out hwq)
              have EQ := hE3.out.below hwq
              have q0 := (hwq.cell (World.block_lt_of_cell? _ _ Q0.out)).trans Q0.out
              have z0 := (hwq.cell (World.block_lt_of_cell? _ _ Z0.out)).trans Z0.out
              clear hwq qq0 qq1 qq2 qq3 zz0 zz1 zz2 zz3 MM Q0 Z0
              cases m
              · clear q0 z0
                have HEQ := aside EQ
                clear EQ
                go_wp2_with fail
                go_roundg (i - (j + 1))
                case measure => omega
                case rel => exact ⟨j + 1, vs3, Gr3, by omega, by go_num, HEQ, aside (hG3.out.mono (fun a b => by rw [HTK.out, PE_push, ← HMM.out]; simp) (by omega)), HQ⟩
              · have ce := EQ.cell hyw6
                have fe := EQ.fz yw
                obtain ⟨ea, ec, hve, hec⟩ := own_slice (EQ.own yw hyw6)
                obtain ⟨nG, hnG⟩ : ∃ nG, nG = (Gr3 yw).length := ⟨_, rfl⟩
                rw [← hnG] at hve
                rw [hve] at ce
                rw [HYW.out] at q0
                have HEQ := aside EQ
                have HVE := aside hve
                obtain ⟨OW', GK'⟩ := ed_prep EQ hyw6 hve z.who
                have OW := aside OW'
                have GK := aside GK'
                have FW : Aside ((Gr3 yw).length + [z.who].length ≤ 4294967296) := by
                  have := hG3.out.len yw hyw6
                  show _ + 1 ≤ _
                  omega
                have FS : Aside ((Gr3 yw).length + [z.who].length = nG + 1) := by rw [hnG]; rfl
                have LS := aside (lit_one wq z.who)
                have heb : w.heap.size ≤ eb := EQ.elb
                have ne1 : ¬ g = eb := by omega
                have ne3 : ¬ eb = g := by omega
                have HGL := aside hg
                have ce2 : (wq.alloc (.cells #[.int .i64 z.who] 3)).cell? ⟨eb, yw, none⟩ = some (.slice ea nG ec) := ((below_al wq _).cell (World.block_lt_of_cell? _ _ ce)).trans ce
                have q02 : (wq.alloc (.cells #[.int .i64 z.who] 3)).cell? ⟨g, o + i * 4, none⟩ = some (.int .i64 (yw : Int)) := ((below_al wq _).cell (World.block_lt_of_cell? _ _ q0)).trans q0
                clear EQ hve hec hnG OW' GK' heb hg
                have tyw : (yw : Int) < 256 := by omega
                have Q0 := aside q0
                have Z0 := aside z0
                go_wp2_with fail
                go_region_law ((refine step_appI (w := (wq.alloc (.cells #[.int .i64 z.who] 3)).drew) rfl _ _ rfl (.slice ea nG ec) (Gr3 yw) [z.who] (some ⟨wq.heap.size, 0, none⟩) 1 1 rfl rfl rfl OW.out LS.out FW.out (nG + 1) FS.out ?_; intro a3 c3 w3 ho hu hv; obtain ⟨k0, k1, k2'⟩ := GK.out w3 hu; have k2 := k2' _ _ _ HGL.out Q0.out; have k3 := k2' _ _ _ HGL.out Z0.out; have HO3 := aside ho; have HU3 := aside hu; have HV3 := aside hv; clear ho hu hv k2'))
                all_goals (
                  obtain ⟨ES, BS⟩ := ed_step HEQ.out hyw6 HVE.out HQ.out HO3.out HU3.out HV3.out
                  have HES := aside ES
                  have HBS := aside BS
                  clear ES BS
                  go_wp2_with fail
                  go_roundg (i - (j + 1))
                  case measure => omega
                  case rel => exact ⟨j + 1, _, _, by omega, by go_num, HES, aside ((hG3.out.push (fun a b => by rw [HTK.out, PE_push, ← HMM.out, HYW.out]; simp)).mono (fun a b => Iff.rfl) (by omega)), HBS⟩)
            · obtain rfl : j = i := by omega
              have t3 : ¬ ((j : Int) < (j : Int)) := by omega
              go_wp2_with fail
              go_roundg (nW - (j + 1))
              case measure => omega
              case rel => exact ⟨j + 1, vs3, Gr3, by omega, by go_num, hE3, aside (hG3.out.mono (fun a b => PE_succ HY.out) (by omega)), hB3⟩
    · obtain rfl : i = nW := by omega
      have t1 : ¬ ((i : Int) < (i : Int)) := by omega
      have hGE : Aside (EdG (E H W) 66049 Gr) := hG.out.mono (fun a b => by rw [HNW.out]; exact P1_all) (by omega)
      clear hG
      go_wp2_with fail
      rename World => wr0
      go_loopg [9] 256 (fun G s9 wx => ∃ who : Nat, who + G = 256 ∧ s9 = .int .i64 (who : Int) ∧ Aside (EdV w.heap.size wx eb vs Gr) ∧ Aside (∀ a : Nat, a < who → ¬ TransGen (E H W) (a : Int) (a : Int)) ∧ Aside (Below w.heap.size w wx))
      case atStart => exact ⟨0, by omega, rfl, hE, aside (fun a h => by omega), hB⟩
      case round =>
        obtain ⟨who, hwG, rfl, hE4, hN4, hB4⟩ := hrel
        by_cases hwh : who < 256
        · have t2 : (who : Int) < 256 := by omega
          obtain ⟨lb, hlb⟩ : ∃ lb, lb = wr.heap.size := ⟨_, rfl⟩
          obtain ⟨V2, hV2⟩ : ∃ V2, V2 = (wr.alloc (.cells (Array.replicate 256 (.bool false)) 4)).alloc (.cells #[] 3) := ⟨_, rfl⟩
          have BV2 : Aside (Below wr.heap.size wr V2) := by rw [hV2]; exact below_tr (below_al _ _) (below_al _ _)
          have MK2 : Aside (MkK V2 lb []) := by rw [hV2, hlb]; exact (mkK_new wr).upd (Upd.of_below (F := fun _ => False) (below_al _ _)) (fun h => h)
          have E2 := hE4.out.below BV2.out
          obtain ⟨ea, ec, hve, hec⟩ := own_slice (E2.own who hwh)
          have ce := E2.cell hwh
          rw [hve] at ce
          have hlow : ∀ i b, i < 256 → (vs i).ownBlock = some b → b < lb := fun i b hi hb => by rw [hlb]; exact (hE4.out.own i hi).lt hb
          have hebl : eb < lb := by rw [hlb]; exact hE4.out.lt
          have HE2 := aside E2
          have HVE := aside hve
          have HLW := aside hlow
          have HLB := aside hlb
          have hWR : Aside (w.heap.size ≤ lb) := by rw [hlb]; exact hB4.out.size
          have OW : Aside (OwnI V2 (.slice (some ⟨lb + 1, 0, none⟩) 0 0) []) := by
            refine ⟨rfl, .inr ⟨lb + 1, 0, #[], rfl, Nat.zero_le _, ?_, Nat.le_refl _, by decide, by decide, rfl⟩⟩
            rw [hV2, hlb]
            have := heap_alloc_new (wr.alloc (.cells (Array.replicate 256 (.bool false)) 4)) (.cells #[] 3)
            rw [World.size_alloc] at this
            exact this
          obtain ⟨nw, hnw⟩ : ∃ nw, nw = (Gr who).length := ⟨_, rfl⟩
          rw [← hnw] at ce hve
          have HR := aside (show OwnI V2 (.slice ea nw ec) (Gr who) from by have := E2.own who hwh; rw [hve] at this; exact this).rd
          have FW : Aside (([] : List Int).length + (Gr who).length ≤ 4294967296) := by have := hGE.out.len who hwh; show 0 + _ ≤ _; omega
          have FL : Aside ((Gr who).length = nw) := hnw.symm
          have FS : Aside (([] : List Int).length + (Gr who).length = nw) := aside (by rw [hnw]; simp)
          rw [hlb] at OW
          rw [hV2] at ce OW HR
          have HV2 := aside hV2
          clear hV2 E2 hve hec hlow hnw
          go_wp2_with (at_builtin; refine wpList_appI rfl _ _ rfl (.slice (some ⟨wr.heap.size + 1, 0, none⟩) 0 0) [] (Gr who) ea nw ec rfl rfl FL.out OW.out HR.out FW.out nw FS.out ?_; intro a3 c3 w3 ho hu hv; rw [List.nil_append] at ho; have HO3 := aside ho; have HU3 := aside hu; have HV3 := aside hv; clear ho hu hv)
          rw [← hlb]
          have HU4 : Aside (Upd (fun k => k = lb + 1) V2 w3) := by
            rw [HV2.out]
            exact HU3.out.mono (fun j _ hj => by simp only [Value.ownBlock, Option.some.injEq] at hj; omega)
          have HNB : Aside (∀ b, (Value.slice a3 nw c3).ownBlock = some b → lb < b) := fun b hb => by
            rcases HV3.out with e | ⟨e, -⟩
            · rw [e] at hb; simp only [Value.ownBlock, Option.some.injEq] at hb; omega
            · rw [e] at hb; simp only [Option.some.injEq, World.size_alloc] at hb; omega
          have HE5 : Aside (EdV w.heap.size w3 eb vs Gr) := HE2.out.upd HU4.out (fun e => by omega) (fun j b hj hb e => by have := HLW.out j b hj hb; omega)
          have HM5 : Aside (MkK w3 lb []) := MK2.out.upd HU4.out (fun e => by omega)
          have HB5 : Aside (Below w.heap.size w w3) := (below_tr hB4.out BV2.out).trans (HU4.out.below (below_tr hB4.out BV2.out).size (fun k hk => by have := hB4.out.size; omega))
          have BF5 := aside (bf_first hGE.out.iff hwh)
          clear HU3 HV3 HU4 HE2 MK2 OW HR FW FS HV2 BV2 ce hlb HVE
          go_loopg [11, 12] (256 * 66050 + nw) (fun G s11 s12 wx => ∃ (K q : List Int) (k n : Nat) (a : Option Addr) (c : Nat), s11 = .slice a n c ∧ s12 = .int .i64 (k : Int) ∧ k ≤ n ∧ G = (256 - K.length) * 66050 + (n - k) ∧ K.length ≤ 256 ∧ n ≤ (K.length + 1) * 66049 ∧ Aside (n = q.length) ∧ Aside (OwnI wx (.slice a n c) q) ∧ Aside (∀ b, (Value.slice a n c).ownBlock = some b → lb < b) ∧ Aside (BF (E H W) Gr who K q k) ∧ Aside (MkK wx lb K) ∧ Aside (EdV w.heap.size wx eb vs Gr) ∧ Aside (Below w.heap.size w wx))
          case atStart => exact ⟨[], Gr who, 0, nw, a3, c3, rfl, rfl, by omega, by simp, by simp, by have := hGE.out.len who hwh; have := FL.out; simp; omega, FL.out.symm, HO3, HNB, BF5, HM5, HE5, HB5⟩
          case round =>
            clear HO3 HNB BF5 HM5 HE5 HB5 FL hE4 hB4
            obtain ⟨K, q, k, n, a, c, rfl, rfl, hkn, hGm, hK, hnK, hnq, hO, hNb, hBF, hMk, hEd, hBl⟩ := hrel
            have HRG : Aside (∀ x ∈ q, 0 ≤ x ∧ x < 256) := fun x hx => by
              have := hBF.out.rch x hx
              obtain ⟨d, hd⟩ := tg_last this
              exact E_rangeR HMH.out HMW.out hd
            by_cases hk : k < n
            · have t3 : (k : Int) < (n : Int) := by omega
              obtain ⟨x, hx⟩ : ∃ x, q[k]? = some x := ⟨_, List.getElem?_eq_getElem (by have := hnq.out; omega)⟩
              have hxr := HRG.out x (List.mem_of_getElem? hx)
              obtain ⟨xn, hxn⟩ : ∃ xn : Nat, x = (xn : Int) := ⟨x.toNat, by omega⟩
              subst hxn
              have hx256 : xn < 256 := by omega
              have t4 : (xn : Int) < 256 := by omega
              obtain ⟨g, rfl, cx⟩ := hO.out.at hx
              have HX := aside hx
              clear hx hxr
              by_cases hxw : (xn : Int) = (who : Int)
              · have HTG : Aside (Circ H W) := by
                  have h := hBF.out.rch _ (List.mem_of_getElem? HX.out)
                  rw [hxw] at h
                  exact ⟨_, h⟩
                go_wp2_with fail
                go_ret
                exact ⟨true, rfl, by simp [HTG.out], hBl.out⟩
              · have cm := hMk.out.cell hx256
                have HXW := aside hxw
                cases hKc : K.contains (xn : Int) with
                | true =>
                  rw [hKc] at cm
                  have BFm := aside (bf_met hBF.out HX.out hxw (by simpa using hKc))
                  clear hKc
                  go_wp2_with fail
                  go_roundg ((256 - K.length) * 66050 + (n - (k + 1)))
                  case measure => omega
                  case rel => exact ⟨K, q, k + 1, n, _, c, rfl, by go_num, by omega, by omega, hK, hnK, hnq, hO, hNb, BFm, hMk, hEd, hBl⟩
                | false =>
                  rw [hKc] at cm
                  have fm := hMk.out.fz xn
                  have BFn := bf_new hGE.out.iff hBF.out HX.out hxw (by simpa using hKc) (by omega) t4
                  rw [show ((xn : Int)).toNat = xn from Int.toNat_natCast xn] at BFn
                  have hK2 : K.length + 1 ≤ 256 := by
                    have := BFn.cnt
                    simp only [List.length_append, List.length_singleton] at this
                    omega
                  have HBFn := aside BFn
                  obtain ⟨W5, hW5⟩ : ∃ W5, W5 = wr.setCell ⟨lb, xn, none⟩ (.bool true) := ⟨_, rfl⟩
                  have U5 : Upd (fun k => k = lb) wr W5 := by rw [hW5]; exact Upd.setCell (F := fun k => k = lb) (p := ⟨lb, xn, none⟩) rfl _
                  have MK5 : Aside (MkK W5 lb (K ++ [(xn : Int)])) := by rw [hW5]; exact hMk.out.set hx256
                  have ED5 := hEd.out.upd U5 (fun e => by omega) (fun j b hj hb e => by have := HLW.out j b hj hb; omega)
                  have O5 : Aside (OwnI W5 (.slice (some ⟨g, 0, none⟩) n c) q) := U5.row hO.out (fun b hb e => by have := hNb.out b hb; omega)
                  have cx5 := (O5.out.at HX.out)
                  obtain ⟨g', hg', cx5⟩ := cx5
                  simp only [Option.some.injEq, Addr.mk.injEq, and_true] at hg'
                  subst hg'
                  obtain ⟨ea, ec, hve, hec⟩ := own_slice (ED5.own xn hx256)
                  obtain ⟨nx, hnx⟩ : ∃ nx, nx = (Gr xn).length := ⟨_, rfl⟩
                  rw [← hnx] at hve
                  have ce5 := ED5.cell hx256
                  rw [hve] at ce5
                  have OX : OwnI W5 (.slice ea nx ec) (Gr xn) := by have := ED5.own xn hx256; rw [hve] at this; exact this
                  have RX := aside OX.rd
                  have BL5 : Aside (Below w.heap.size w W5) := hBl.out.trans (U5.below hBl.out.size (fun k hk => by have := HLB.out; have := hBl.out.size; have := hWR.out; omega))
                  have hnx2 : nx ≤ 66049 := by rw [hnx]; exact hGE.out.len xn hx256
                  have FW : Aside (q.length + (Gr xn).length ≤ 4294967296) := by have h1 := hnq.out; rw [← h1, ← hnx]; show n + nx ≤ _; omega
                  have FL : Aside ((Gr xn).length = nx) := hnx.symm
                  have FS : Aside (q.length + (Gr xn).length = n + nx) := by have h1 := hnq.out; rw [← h1, ← hnx]; rfl
                  have HED5 := aside ED5
                  rw [hW5] at cx5 ce5 O5 RX
                  have HW5 := aside hW5
                  clear hKc BFn U5 ED5 hve hec hnx OX hW5
                  go_wp2_with (at_builtin; refine wpList_appI rfl _ _ rfl (.slice (some ⟨g, 0, none⟩) n c) q (Gr xn) ea nx ec rfl rfl FL.out O5.out RX.out FW.out (n + nx) FS.out ?_; intro a6 c6 w6 ho hu hv; have HO6 := aside ho; have HU6 := aside hu; have HV6 := aside hv; clear ho hu hv)
                  have HU7 : Aside (Upd (fun k => (Value.slice (some ⟨g, 0, none⟩) n c).ownBlock = some k) W5 w6) := by rw [HW5.out]; exact HU6.out
                  have hsz : W5.heap.size = wr.heap.size := by rw [HW5.out]; simp [World.setCell]
                  have HN7 : Aside (∀ b, (Value.slice a6 (n + nx) c6).ownBlock = some b → lb < b) := fun b hb => by
                    rcases HV6.out with e | ⟨e, -⟩
                    · rw [e] at hb; exact hNb.out b hb
                    · rw [e] at hb
                      have h1 := hMk.out.lt
                      rw [← HW5.out] at hb
                      simp only [Option.some.injEq] at hb
                      omega
                  have HE7 : Aside (EdV w.heap.size w6 eb vs Gr) := HED5.out.upd HU7.out (fun e => by have := hNb.out _ e; omega) (fun j b hj hb e => by have := HLW.out j b hj hb; have := hNb.out _ e; omega)
                  have HM7 : Aside (MkK w6 lb (K ++ [(xn : Int)])) := MK5.out.upd HU7.out (fun e => by have := hNb.out _ e; omega)
                  have HB7 : Aside (Below w.heap.size w w6) := BL5.out.trans (HU7.out.below BL5.out.size (fun k hk => by have := hNb.out _ hk; have := hWR.out; omega))
                  go_roundg ((256 - (K.length + 1)) * 66050 + (n + nx - (k + 1)))
                  case measure => omega
                  case rel => exact ⟨K ++ [(xn : Int)], q ++ Gr xn, k + 1, n + nx, a6, c6, rfl, by go_num, by omega, by simp, by simpa using hK2, by simp; omega, aside (by rw [List.length_append]; exact FS.out.symm), HO6, HN7, HBFn, HM7, HE7, HB7⟩
            · obtain rfl : k = n := by omega
              have t3 : ¬ ((k : Int) < (k : Int)) := by omega
              have HNT : Aside (¬ TransGen (E H W) (who : Int) (who : Int)) := bf_done hGE.out.iff hwh (by have := hBF.out; rw [hnq.out] at this; exact this) HRG.out
              go_wp2_with fail
              go_roundg (256 - (who + 1))
              case measure => omega
              case rel => exact ⟨who + 1, by omega, by go_num, hEd, aside (fun a ha => by
                by_cases e : a = who
                · rw [e]; exact HNT.out
                · exact hN4.out a (by omega)), hBl⟩
        · obtain rfl : who = 256 := by omega
          have HNC := aside (no_circ HMW.out hN4.out)
          go_wp2_with fail
          go_ret
          exact ⟨false, rfl, by simp [HNC.out], hB4.out⟩
end Go.Proofs.Ytfpegmmciphjiaa
