/- The statements' own search for a circle: where there is none, it finds none. -/
import Derived.Test.YtfpegmmciphjiaaMarks
import Derived.Deep.DeepCutAuto
namespace Go.Proofs.Ytfpegmmciphjiaa
open Go.RowKit

theorem LsAt.lock {w w' : World} {a : Option Addr} {L : List Lk} (h : LsAt w a L) (hb : Below w.heap.size w w') {i : Nat} {l : Lk} (hi : L[i]? = some l) : ∃ g o, a = some ⟨g, o, none⟩ ∧ w'.cell? ⟨g, o + i * 4, none⟩ = some (.int .i64 l.who) ∧ w'.cell? ⟨g, o + i * 4 + 1, none⟩ = some (.int .i64 l.org) ∧ w'.cell? ⟨g, o + i * 4 + 2, none⟩ = some (.int .i64 l.len) ∧ w'.cell? ⟨g, o + i * 4 + 3, none⟩ = some (.bool l.sh) := by
  obtain ⟨g, o, rfl, hr⟩ := h (fun h0 => by rw [h0] at hi; simp at hi)
  obtain ⟨h0, h1, h2, h3⟩ := (hr.below hb).lock hi
  exact ⟨g, o, rfl, h0, h1, h2, h3⟩

set_option maxHeartbeats 4000000 in
set_option maxRecDepth 20000 in
theorem lcircle_any (ha wa : Option Addr) (H W : List Lk) (hc wc : Nat) (w : World) (hH : LsAt w ha H) (hW : LsAt w wa W) (hG : Good H W) :
    Calls Try.prog 25 #[.slice ha H.length hc, .slice wa W.length wc, .int .i64 6] w fun e w' => e = .returned (.bool false) ∧ Below w.heap.size w w' := by
  have HH := aside hH
  have HW := aside hW
  have HG := aside hG
  have hfew := hG.inv.few
  obtain ⟨nH, hnH⟩ : ∃ nH, nH = H.length := ⟨_, rfl⟩
  obtain ⟨nW, hnW⟩ : ∃ nW, nW = W.length := ⟨_, rfl⟩
  have HNH := aside hnH
  have HNW := aside hnW
  rw [← hnH, ← hnW] at hfew ⊢
  have hmk := make36
  have hb0 : ∀ w, (Instr.build 29 #[]).run Try.prog w = .ok (.agg #[.int .i64 0, .int .i64 0, .int .i64 0, .bool false]) w := fun w => run_build w 29 _ _ (by kernel_rfl)
  obtain ⟨lb, hlb⟩ : ∃ lb, lb = w.heap.size := ⟨_, rfl⟩
  obtain ⟨V, hV⟩ : ∃ V, V = w.alloc (.cells (Array.replicate 36 (.bool false)) 4) := ⟨_, rfl⟩
  have M0 : Aside (MkN V lb (fun _ => false)) := by rw [hV, hlb]; exact mkN_new w
  have BV : Aside (Below w.heap.size w V) := by rw [hV]; exact below_al _ _
  have HV := aside hV
  have HLB := aside hlb
  clear hH hW hG hnH hnW hV
  go_enter Try.func25, Try.ntmps25
  go_wp2_with fail
  rw [← HV.out, ← hlb]
  clear hlb hmk
  go_loopg [8] nW (fun G s8 wr => ∃ (i : Nat) (f : Nat → Bool), i + G = nW ∧ s8 = .int .i64 (i : Int) ∧ Aside (MkN wr lb f) ∧ Aside (Snd H W f) ∧ Aside (Below w.heap.size w wr))
  case atStart => exact ⟨0, fun _ => false, by omega, rfl, M0, aside (fun a b _ _ h => by simp at h), BV⟩
  case round =>
    obtain ⟨i, f, hiG, rfl, hM, hSd, hB⟩ := hrel
    by_cases hi : i < nW
    · have t1 : (i : Int) < (nW : Int) := by omega
      obtain ⟨y, hy⟩ : ∃ y, W[i]? = some y := ⟨_, List.getElem?_eq_getElem (by have := HNW.out; omega)⟩
      have hymay := HG.out.inv.mw y (List.mem_of_getElem? hy)
      have hyw := HG.out.wh y (.inr (List.mem_of_getElem? hy))
      obtain ⟨yw, hyw2⟩ : ∃ yw : Nat, y.who = (yw : Int) := ⟨y.who.toNat, by omega⟩
      have hyw6 : yw < 6 := by omega
      have HY := aside hy
      have HYM := aside hymay
      have HYW := aside hyw2
      clear hy hymay hyw hyw2
      go_wp2_with fail
      rename World => wr0
      go_loopg [9] (nH + i) (fun G s9 wx => ∃ (k : Nat) (f : Nat → Bool), k + G = nH + i ∧ s9 = .int .i64 (k : Int) ∧ Aside (MkN wx lb f) ∧ Aside (Snd H W f) ∧ Aside (Below w.heap.size w wx))
      case atStart => exact ⟨0, f, by omega, rfl, hM, hSd, hB⟩
      case round =>
        obtain ⟨k, f2, hkG, rfl, hM2, hSd2, hB2⟩ := hrel
        by_cases hk : k < nH + i
        · have t2 : (k : Int) < (nH : Int) + (i : Int) := by omega
          go_upto_if 37 with fail
          go_cut [10] from 38 to 48 (fun s10 wc => ∃ z : Lk, s10 = .pointer (some ⟨wr.heap.size, 0, none⟩) ∧ Aside (z ∈ H ∨ z ∈ W.take i) ∧ wc = wr.alloc (.cells #[.int .i64 z.who, .int .i64 z.org, .int .i64 z.len, .bool z.sh] 29))
          case first =>
            by_cases hkh : k < nH
            · have t3 : (k : Int) < (nH : Int) := by omega
              obtain ⟨z, hz⟩ : ∃ z, H[k]? = some z := ⟨_, List.getElem?_eq_getElem (by have := HNH.out; omega)⟩
              obtain ⟨g, o, rfl, q0, q1, q2, q3⟩ := HH.out.lock (below_tr hB2.out (below_al wr (.cells #[.int .i64 0, .int .i64 0, .int .i64 0, .bool false] 29))) hz
              have HZ : Aside (z ∈ H ∨ z ∈ W.take i) := .inl (List.mem_of_getElem? hz)
              clear hz
              go_wp2_with fail
              go_meet
              exact ⟨z, rfl, HZ, rfl⟩
            · obtain ⟨j, hj⟩ : ∃ j : Nat, j = k - nH := ⟨_, rfl⟩
              have t3 : (k : Int) - (nH : Int) = (j : Int) := by omega
              have t4 : (j : Int) < (nW : Int) := by omega
              have t5 : j < nW := by omega
              obtain ⟨z, hz⟩ : ∃ z, W[j]? = some z := ⟨_, List.getElem?_eq_getElem (by have := HNW.out; omega)⟩
              obtain ⟨g, o, rfl, q0, q1, q2, q3⟩ := HW.out.lock (below_tr hB2.out (below_al wr (.cells #[.int .i64 0, .int .i64 0, .int .i64 0, .bool false] 29))) hz
              have HZ : Aside (z ∈ H ∨ z ∈ W.take i) := .inr (List.mem_of_getElem? (i := j) (by rw [List.getElem?_take_of_lt (by omega)]; exact hz))
              clear hz hj
              go_wp2_with fail
              go_meet
              exact ⟨z, rfl, HZ, rfl⟩
          case rest =>
            obtain ⟨z, rfl, hz, hwc⟩ := hcut
            have hzw := HG.out.wh z (hz.out.elim .inl (fun h => .inr (List.mem_of_mem_take h)))
            have hzm : may z = true := hz.out.elim (HG.out.inv.mh z) (fun h => HG.out.inv.mw z (List.mem_of_mem_take h))
            obtain ⟨zw, hzw2⟩ : ∃ zw : Nat, z.who = (zw : Int) := ⟨z.who.toNat, by omega⟩
            have hzw6 : zw < 6 := by omega
            have BX : Bx wc wr.heap.size z.who z.org z.len z.sh := by rw [hwc]; exact bx_new wr _ _ _ _
            have Bc : Aside (Below wr.heap.size wr wc) := by rw [hwc]; exact below_al _ _
            have MM := aside (lmeet_any y z HYM.out hzm)
            obtain ⟨g, o, rfl, q0, q1, q2, q3⟩ := HW.out.lock (below_tr hB2.out Bc.out) HY.out
            rw [show y.val = .agg #[.int .i64 y.who, .int .i64 y.org, .int .i64 y.len, .bool y.sh] from rfl, show z.val = .agg #[.int .i64 z.who, .int .i64 z.org, .int .i64 z.len, .bool z.sh] from rfl, HYW.out, hzw2] at MM
            rw [HYW.out] at q0
            rw [hzw2] at BX
            have HZW := aside hzw2
            have HBX := aside BX
            have qq0 := fun d os => ext_cell q0 d os
            have qq1 := fun d os => ext_cell q1 d os
            have qq2 := fun d os => ext_cell q2 d os
            have qq3 := fun d os => ext_cell q3 d os
            have bb0 := fun d os => ext_cell BX.c0 d os
            have bb1 := fun d os => ext_cell BX.c1 d os
            have bb2 := fun d os => ext_cell BX.c2 d os
            have bb3 := fun d os => ext_cell BX.c3 d os
            have Q0 := aside q0
            clear hwc hzw hzm hzw2 BX q0 q1 q2 q3
            obtain ⟨m, hm⟩ : ∃ m, m = meet y z := ⟨_, rfl⟩
            rw [← hm] at MM
            have HMM := aside hm
            clear hm
            go_wp2_with fail
            refine region_ext (by kernel_rfl) (by kernel_rfl) ?_
            repeat (any_goals (first | go_big_quiet_step ((with_reducible exact calls_ext (MM.out _))) | quiet_step ((with_reducible exact calls_ext (MM.out _)))))
            refine wpQuiet_nil ?_
            intro wq hwq
            have HQ := aside (below_tr Bc.out hwq)
            have c0 := (hwq.cell (World.block_lt_of_cell? _ _ Q0.out)).trans Q0.out
            have d0 := (HBX.out.below hwq).c0
            clear hwq qq0 qq1 qq2 qq3 bb0 bb1 bb2 bb3 MM
            cases m
            · clear c0 d0
              go_wp2_with fail
              go_roundg (nH + i - (k + 1))
              case measure => omega
              case rel => exact ⟨k + 1, f2, by omega, by go_num, aside (hM2.out.below HQ.out), hSd2, aside (below_tr hB2.out HQ.out)⟩
            · obtain ⟨y6, hy6⟩ : ∃ y6 : Nat, y6 = yw * 6 := ⟨_, rfl⟩
              obtain ⟨ix, hix⟩ : ∃ ix : Nat, ix = y6 + zw := ⟨_, rfl⟩
              have e1 : (yw : Int) * 6 = (y6 : Int) := by omega
              have e2 : (y6 : Int) + (zw : Int) = (ix : Int) := by omega
              have e3 : ix < 36 := by omega
              have e3i : (ix : Int) < 36 := by omega
              have e4 : IntKind.i64.wrap (y6 : Int) = (y6 : Int) := by rw [IntKind.wrap_i64]; omega
              have e5 : IntKind.i64.wrap (ix : Int) = (ix : Int) := by rw [IntKind.wrap_i64]; omega
              have M3 := hM2.out.below HQ.out
              have f0 : wq.frozen? ⟨lb, ix, none⟩ = false := M3.fz ix
              have f1 := M3.cell e3
              have M4 := aside (M3.set e3)
              have hlb2 : w.heap.size ≤ lb := by rw [HLB.out]; exact Nat.le_refl _
              have TG : Aside (Relation.TransGen (E H W) (yw : Int) (zw : Int)) := .single (by
                obtain ⟨hsp, hsl⟩ := split_at HY.out
                exact ⟨_, y, _, z, hsp, hz.out, HMM.out.symm, HYW.out, HZW.out⟩)
              have S4 : Aside (Snd H W (fun j => if j = ix then true else f2 j)) := by
                have := hSd2.out.set hyw6 hzw6 TG.out
                rw [hix, hy6]; exact this
              have B4 : Aside (Below w.heap.size w (wq.setCell ⟨lb, ix, none⟩ (.bool true))) := (below_tr hB2.out HQ.out).trans ((Upd.setCell (F := fun k => k = lb) (p := ⟨lb, ix, none⟩) rfl _ : Upd (fun k => k = lb) wq _).below (below_tr hB2.out HQ.out).size (fun k hk => by rw [hk]; exact hlb2))
              clear hix hy6 M3
              go_wp2_with fail
              go_region
              all_goals (
                go_wp2_with fail
                go_roundg (nH + i - (k + 1))
                case measure => omega
                case rel => exact ⟨k + 1, _, by omega, by go_num, aside (M4.out.below (below_dr _)), S4, aside (B4.out.trans ((below_dr _).mono B4.out.size))⟩)
        · obtain rfl : k = nH + i := by omega
          have t2 : ¬ (((nH + i : Nat) : Int) < (nH : Int) + (i : Int)) := by omega
          have t3 : ¬ ((nH : Int) + (i : Int) < (nH : Int) + (i : Int)) := by omega
          go_wp2_with fail
          go_roundg (nW - (i + 1))
          case measure => omega
          case rel => exact ⟨i + 1, f2, by omega, by go_num, hM2, hSd2, hB2⟩
    · obtain rfl : i = nW := by omega
      have t1 : ¬ ((i : Int) < (i : Int)) := by omega
      have hlb2 : w.heap.size ≤ lb := by rw [HLB.out]; exact Nat.le_refl _
      go_wp2_with fail
      rename World => wr0
      go_loopg [11] 6 (fun G s11 wx => ∃ (k : Nat) (f : Nat → Bool), k + G = 6 ∧ s11 = .int .i64 (k : Int) ∧ Aside (MkN wx lb f) ∧ Aside (Snd H W f) ∧ Aside (Below w.heap.size w wx))
      case atStart => exact ⟨0, f, by omega, rfl, hM, hSd, hB⟩
      case round =>
        obtain ⟨k, f2, hkG, rfl, hM2, hSd2, hB2⟩ := hrel
        by_cases hk : k < 6
        · have t2 : (k : Int) < 6 := by omega
          go_wp2_with fail
          rename World => wr1
          go_loopg [12] 6 (fun G s12 wx => ∃ (a : Nat) (f : Nat → Bool), a + G = 6 ∧ s12 = .int .i64 (a : Int) ∧ Aside (MkN wx lb f) ∧ Aside (Snd H W f) ∧ Aside (Below w.heap.size w wx))
          case atStart => exact ⟨0, f2, by omega, rfl, hM2, hSd2, hB2⟩
          case round =>
            obtain ⟨a, f3, haG, rfl, hM3, hSd3, hB3⟩ := hrel
            by_cases ha6 : a < 6
            · have t3 : (a : Int) < 6 := by omega
              go_wp2_with fail
              rename World => wr2
              go_loopg [13] 6 (fun G s13 wx => ∃ (b : Nat) (f : Nat → Bool), b + G = 6 ∧ s13 = .int .i64 (b : Int) ∧ Aside (MkN wx lb f) ∧ Aside (Snd H W f) ∧ Aside (Below w.heap.size w wx))
              case atStart => exact ⟨0, f3, by omega, rfl, hM3, hSd3, hB3⟩
              case round =>
                obtain ⟨b, f4, hbG, rfl, hM4, hSd4, hB4⟩ := hrel
                by_cases hb6 : b < 6
                · have t4 : (b : Int) < 6 := by omega
                  obtain ⟨i1, hi1⟩ : ∃ i1 : Nat, i1 = a * 6 + k := ⟨_, rfl⟩
                  obtain ⟨i2, hi2⟩ : ∃ i2 : Nat, i2 = k * 6 + b := ⟨_, rfl⟩
                  obtain ⟨i3, hi3⟩ : ∃ i3 : Nat, i3 = a * 6 + b := ⟨_, rfl⟩
                  have j1 : (a : Int) * 6 + (k : Int) = (i1 : Int) := by omega
                  have j2 : (k : Int) * 6 + (b : Int) = (i2 : Int) := by omega
                  have j3 : (a : Int) * 6 + (b : Int) = (i3 : Int) := by omega
                  have l1 : i1 < 36 := by omega
                  have l2 : i2 < 36 := by omega
                  have l3 : i3 < 36 := by omega
                  have l1i : (i1 : Int) < 36 := by omega
                  have l2i : (i2 : Int) < 36 := by omega
                  have l3i : (i3 : Int) < 36 := by omega
                  have c1 := hM4.out.cell l1
                  have c2 := hM4.out.cell l2
                  have c3 := hM4.out.cell l3
                  have fz := hM4.out.fz i3
                  have HI1 := aside hi1
                  have HI2 := aside hi2
                  have HI3 := aside hi3
                  clear hi1 hi2 hi3
                  obtain ⟨v1, hv1⟩ : ∃ v1, f4 i1 = v1 := ⟨_, rfl⟩
                  obtain ⟨v2, hv2⟩ : ∃ v2, f4 i2 = v2 := ⟨_, rfl⟩
                  rw [hv1] at c1
                  rw [hv2] at c2
                  have HV1 := aside hv1
                  have HV2 := aside hv2
                  clear hv1 hv2
                  cases v1
                  · go_wp2_with fail
                    go_roundg (6 - (b + 1))
                    case measure => omega
                    case rel => exact ⟨b + 1, f4, by omega, by go_num, hM4, hSd4, hB4⟩
                  · cases v2
                    · go_wp2_with fail
                      go_roundg (6 - (b + 1))
                      case measure => omega
                      case rel => exact ⟨b + 1, f4, by omega, by go_num, hM4, hSd4, hB4⟩
                    · go_wp2_with fail
                      go_roundg (6 - (b + 1))
                      case measure => omega
                      case rel =>
                        refine ⟨b + 1, fun j => if j = i3 then true else f4 j, by omega, by go_num, aside (hM4.out.set l3), aside ?_, aside ?_⟩
                        · have e1 := hSd4.out a k ha6 hk (by rw [← HI1.out]; exact HV1.out)
                          have e2 := hSd4.out k b hk hb6 (by rw [← HI2.out]; exact HV2.out)
                          have := hSd4.out.set ha6 hb6 (e1.trans e2)
                          rw [← HI3.out] at this
                          exact this
                        · exact hB4.out.trans ((Upd.setCell (F := fun k => k = lb) (p := ⟨lb, i3, none⟩) rfl _ : Upd (fun k => k = lb) wr _).below hB4.out.size (fun k hk => by rw [hk]; exact hlb2))
                · obtain rfl : b = 6 := by omega
                  have t4 : ¬ ((6 : Int) < 6) := by omega
                  go_wp2_with fail
                  go_roundg (6 - (a + 1))
                  case measure => omega
                  case rel => exact ⟨a + 1, f4, by omega, by go_num, hM4, hSd4, hB4⟩
            · obtain rfl : a = 6 := by omega
              have t3 : ¬ ((6 : Int) < 6) := by omega
              go_wp2_with fail
              go_roundg (6 - (k + 1))
              case measure => omega
              case rel => exact ⟨k + 1, f3, by omega, by go_num, hM3, hSd3, hB3⟩
        · obtain rfl : k = 6 := by omega
          have t2 : ¬ ((6 : Int) < 6) := by omega
          go_wp2_with fail
          rename World => wr1
          go_loopg [14] 6 (fun G s14 wx => ∃ (a : Nat), a + G = 6 ∧ s14 = .int .i64 (a : Int) ∧ wx = wr1)
          case atStart => exact ⟨0, by omega, rfl, rfl⟩
          case round =>
            obtain ⟨a, haG, rfl, rfl⟩ := hrel
            by_cases ha6 : a < 6
            · have t3 : (a : Int) < 6 := by omega
              obtain ⟨i1, hi1⟩ : ∃ i1 : Nat, i1 = a * 6 + a := ⟨_, rfl⟩
              have j1 : (a : Int) * 6 + (a : Int) = (i1 : Int) := by omega
              have l1 : i1 < 36 := by omega
              have l1i : (i1 : Int) < 36 := by omega
              have c1 := hM2.out.cell l1
              have hf : f2 i1 = false := by
                cases hq : f2 i1 with
                | false => rfl
                | true => exact absurd ⟨_, hSd2.out a a ha6 ha6 (by rw [← hi1]; exact hq)⟩ HG.out.inv.nc
              rw [hf] at c1
              clear hi1 hf
              go_wp2_with fail
              go_roundg (6 - (a + 1))
              case measure => omega
              case rel => exact ⟨a + 1, by omega, by go_num, rfl⟩
            · obtain rfl : a = 6 := by omega
              have t3 : ¬ ((6 : Int) < 6) := by omega
              go_wp2_with fail
              go_ret
              exact ⟨rfl, hB2.out⟩
end Go.Proofs.Ytfpegmmciphjiaa
