/- Same; and the statements' own is: it reads, writes over and grows what it is told. -/
import Derived.Test.YtfpegmmciphjiaaRefB
import Derived.Test.YtfpegmmciphjiaaRefLv
namespace Go.Proofs.Ytfpegmmciphjiaa
open Go.RowKit

set_option maxHeartbeats 1000000 in
theorem same_any (a b : Option Addr) (L : List Lk) (n c d : Nat) (w : World) (ha : LsAt w a L) (hb : LsAt w b L) (hn : L.length = n) (hl : n ≤ 1048576) :
    Calls Try.prog 37 #[.slice a n c, .slice b n d] w fun e w' => e = .returned (.bool true) ∧ Below w.heap.size w w' := by
  have HA := aside ha
  have HB := aside hb
  have HN := aside hn
  clear ha hb hn
  go_enter Try.func37, Try.ntmps37
  go_wp2
  go_loopg [5] n (fun G s5 wr => ∃ k : Nat, k + G = n ∧ s5 = .int .i64 (k : Int) ∧ Aside (Below w.heap.size w wr))
  case atStart => exact ⟨0, by omega, rfl, aside (Below.refl _ _)⟩
  case round =>
    obtain ⟨k, hkG, rfl, hBw⟩ := hrel
    by_cases hk : k < n
    · have t1 : (k : Int) < (n : Int) := by omega
      obtain ⟨y, hy⟩ : ∃ y, L[k]? = some y := ⟨_, List.getElem?_eq_getElem (by have := HN.out; omega)⟩
      obtain ⟨g, o, rfl, hrd⟩ := HA.out (fun h => by rw [h] at hy; simp at hy)
      obtain ⟨g2, o2, rfl, hrd2⟩ := HB.out (fun h => by rw [h] at hy; simp at hy)
      obtain ⟨q0, q1, q2, q3⟩ := (hrd.below hBw.out).lock hy
      obtain ⟨r0, r1, r2, r3⟩ := (hrd2.below hBw.out).lock hy
      have nq : ∀ V, (binOp .neq 29 (.agg #[.int .i64 y.who, .int .i64 y.org, .int .i64 y.len, .bool y.sh]) (.agg #[.int .i64 y.who, .int .i64 y.org, .int .i64 y.len, .bool y.sh])).run Try.prog V = .ok (.bool false) V := fun V => by rw [neq_lk, same_self]; rfl
      have k0 := fun d os => ext_cell q0 d os
      have k1 := fun d os => ext_cell q1 d os
      have k2 := fun d os => ext_cell q2 d os
      have k3 := fun d os => ext_cell q3 d os
      have l0 := fun d os => ext_cell r0 d os
      have l1 := fun d os => ext_cell r1 d os
      have l2 := fun d os => ext_cell r2 d os
      have l3 := fun d os => ext_cell r3 d os
      clear hy hrd hrd2 q0 q1 q2 q3 r0 r1 r2 r3
      go_wp2_with fail
      refine region_ext (by kernel_rfl) (by kernel_rfl) ?_
      repeat (any_goals (first | go_big_quiet_step ((fail)) | quiet_step ((fail))))
      refine wpQuiet_nil ?_
      intro wq hwq
      have HQ := aside (below_tr hBw.out hwq)
      clear hwq k0 k1 k2 k3 l0 l1 l2 l3 nq
      go_wp2_with fail
      go_roundg (n - (k + 1))
      case measure => omega
      case rel => exact ⟨k + 1, by omega, by go_num, HQ⟩
    · obtain rfl : k = n := by omega
      have t1 : ¬ ((k : Int) < (k : Int)) := by omega
      go_wp2_with fail
      go_ret
      exact ⟨rfl, hBw.out⟩

theorem lks_set : ∀ (L : List Lk) (i : Nat) (x : Lk), i < L.length → ((((lks L).set (i * 4) (.int .i64 x.who)).set (i * 4 + 1) (.int .i64 x.org)).set (i * 4 + 2) (.int .i64 x.len)).set (i * 4 + 3) (.bool x.sh) = lks (L.set i x)
  | [], i, x, h => by simp at h
  | d :: L, 0, x, h => by simp [lks_cons, lkc]
  | d :: L, i + 1, x, h => by
    have ih := lks_set L i x (by simpa using h)
    rw [List.set_cons_succ, lks_cons, lks_cons, ← ih, show (i + 1) * 4 = i * 4 + 1 + 1 + 1 + 1 by omega]
    simp [lkc]
theorem own_store {w : World} {g n c : Nat} {L : List Lk} (h : Own w (.slice (some ⟨g, 0, none⟩) n c) L) (hl : L.length = n) {i : Nat} (hi : i < n) (x : Lk) :
    Own ((((w.setCell ⟨g, i * 4, none⟩ (.int .i64 x.who)).setCell ⟨g, i * 4 + 1, none⟩ (.int .i64 x.org)).setCell ⟨g, i * 4 + 2, none⟩ (.int .i64 x.len)).setCell ⟨g, i * 4 + 3, none⟩ (.bool x.sh)) (.slice (some ⟨g, 0, none⟩) n c) (L.set i x) := by
  unfold Own at h ⊢
  rw [hl] at h
  rw [List.length_set, hl]
  have h1 := (World.ownsRow.stored (World.ownsRow.stored (World.ownsRow.stored (World.ownsRow.stored h (i * 4) (.int .i64 x.who)).1 (i * 4 + 1) (.int .i64 x.org)).1 (i * 4 + 2) (.int .i64 x.len)).1 (i * 4 + 3) (.bool x.sh)).1
  rw [← lks_set L i x (by omega)]
  exact h1

set_option maxHeartbeats 2000000 in
theorem is_any (v : Value) (b : Option Addr) (L : List Lk) (n d : Nat) (w : World) (hv : Own w v L) (hb : LsAt w b L) (hn : L.length = n) (hl : n ≤ 1000) :
    Calls Try.prog 17 #[v, .slice b n d] w fun e w' => e = .returned (.bool true) ∧ Upd (fun k => v.ownBlock = some k) w w' := by
  obtain ⟨a, c, rfl, hnc, hcm, hls⟩ := hv.tel
  rw [hn] at hv hnc ⊢
  have hb9 : ∀ w, (Instr.build 29 #[(0, .int .i64 (-9))]).run Try.prog w = .ok (.agg #[.int .i64 (-9), .int .i64 0, .int .i64 0, .bool false]) w := fun w => run_build w 29 _ _ (by kernel_rfl)
  have hb8 : ∀ w, (Instr.build 29 #[(0, .int .i64 (-8))]).run Try.prog w = .ok (.agg #[.int .i64 (-8), .int .i64 0, .int .i64 0, .bool false]) w := fun w => run_build w 29 _ _ (by kernel_rfl)
  have C1 := aside (same_any a b L n c d w hls hb hn (by omega))
  have HV := aside hv
  have HN := aside hn
  clear hv hb hn hls hnc hcm
  go_enter Try.func17, Try.ntmps17
  go_wp2_with ((go_at_call 37; with_reducible refine C1.out.mono ?_; rintro e w1 ⟨rfl, hb1⟩; have HB1 := aside hb1; have O1 := aside (HV.out.below hb1); clear hb1))
  go_loopg [6] n (fun G s6 wr => ∃ (k : Nat) (M : List Lk), k + G = n ∧ s6 = .int .i64 (k : Int) ∧ Aside (Own wr (.slice a n c) M) ∧ Aside (M.length = n) ∧ Aside (Upd (fun k => (Value.slice a n c).ownBlock = some k) w wr))
  case atStart => exact ⟨0, L, by omega, rfl, O1, HN, aside (Upd.of_below HB1.out)⟩
  case round =>
    obtain ⟨k, M, hkG, rfl, hO, hML, hU⟩ := hrel
    by_cases hk : k < n
    · have t1 : (k : Int) < (n : Int) := by omega
      obtain ⟨y, hy⟩ : ∃ y, M[k]? = some y := ⟨_, List.getElem?_eq_getElem (by have := hML.out; omega)⟩
      obtain ⟨g, rfl, q0, q1, q2, q3⟩ := hO.out.lock hy
      have z0 := hO.out
      unfold Own at z0
      rw [hML.out] at z0
      have f0 : wr.frozen? ⟨g, k * 4, none⟩ = false := z0.frozenAt _
      have f1 : wr.frozen? ⟨g, k * 4 + 1, none⟩ = false := z0.frozenAt _
      have f2 : wr.frozen? ⟨g, k * 4 + 2, none⟩ = false := z0.frozenAt _
      have f3 : wr.frozen? ⟨g, k * 4 + 3, none⟩ = false := z0.frozenAt _
      have O2 := aside (own_store hO.out hML.out hk ⟨-9, 0, 0, false⟩)
      clear z0 hy
      go_wp2_with fail
      go_roundg (n - (k + 1))
      case measure => omega
      case rel =>
        refine ⟨k + 1, _, by omega, by go_num, O2, aside (by rw [List.length_set]; exact hML.out), aside ?_⟩
        have hs : ∀ (V : World) (o : Nat) (u : Value), Upd (fun k => (Value.slice (some ⟨g, 0, none⟩) n c).ownBlock = some k) V (V.setCell ⟨g, o, none⟩ u) := fun V o u => Upd.setCell (F := fun k => (Value.slice (some ⟨g, 0, none⟩) n c).ownBlock = some k) (p := ⟨g, o, none⟩) rfl u
        exact (((hU.out.trans (hs _ _ _) (fun _ _ h => h)).trans (hs _ _ _) (fun _ _ h => h)).trans (hs _ _ _) (fun _ _ h => h)).trans (hs _ _ _) (fun _ _ h => h)
    · obtain rfl : k = n := by omega
      have t1 : ¬ ((k : Int) < (k : Int)) := by omega
      obtain ⟨ob, hob⟩ : ∃ ob, ob = (Value.slice a k c).ownBlock := ⟨_, rfl⟩
      have HOB := aside hob
      rw [← hob] at hU
      clear hob
      go_wp2_with fail
      rename World => wr0
      go_loopg [0, 7] 9 (fun G s0 s7 wx => ∃ (j m : Nat) (a' : Option Addr) (c' : Nat) (M' : List Lk), j + G = 9 ∧ s0 = .slice a' m c' ∧ s7 = .int .i64 (j : Int) ∧ Aside (m = k + j) ∧ Aside (Own wx (.slice a' m c') M') ∧ Aside (M'.length = m) ∧ Aside (Upd (fun k => ob = some k) w wx) ∧ Aside (∀ q, (Value.slice a' m c').ownBlock = some q → ob = some q ∨ w.heap.size ≤ q))
      case atStart => exact ⟨0, k, a, c, M, by omega, rfl, rfl, aside rfl, hO, hML, hU, aside (fun q hq => .inl (by rw [HOB.out]; exact hq))⟩
      case round =>
        obtain ⟨j, m, a', c', M', hjG, rfl, rfl, hm, hO2, hM2, hU2, hq2⟩ := hrel
        by_cases hj : j < 9
        · have t2 : (j : Int) < 9 := by omega
          have LS := aside (ls_lit wr ⟨-8, 0, 0, false⟩)
          have OW : Aside (Own (wr.alloc (.cells #[.int .i64 (-8), .int .i64 0, .int .i64 0, .bool false] 29)) (.slice a' m c') M') := hO2.out.below (below_al _ _)
          have FW : Aside (M'.length + [(⟨-8, 0, 0, false⟩ : Lk)].length ≤ 33554432) := aside (by have := hm.out; rw [hM2.out]; simp; omega)
          have FM : Aside (M'.length + [(⟨-8, 0, 0, false⟩ : Lk)].length = m + 1) := aside (by rw [hM2.out]; simp)
          go_wp2_with (at_builtin; refine wpList_app rfl _ _ rfl (.slice a' m c') M' [⟨-8, 0, 0, false⟩] (some ⟨wr.heap.size, 0, none⟩) 1 1 rfl rfl rfl OW.out LS.out FW.out (m + 1) FM.out ?_; intro a4 c4 w4 ho hu hv; have HO4 := aside ho; have HU4 := aside hu; have HV4 := aside hv; clear ho hu hv)
          go_roundg (9 - (j + 1))
          case measure => omega
          case rel =>
            refine ⟨j + 1, m + 1, a4, c4, M' ++ [⟨-8, 0, 0, false⟩], by omega, rfl, by go_num, aside (by have := hm.out; omega), HO4, aside (by simp [hM2.out]), aside ?_, aside (fun q hq => ?_)⟩
            · exact (hU2.out.trans (Upd.of_below (F := fun _ => False) (below_al _ _)) (fun _ _ h => h.elim)).trans HU4.out (fun q hq hf => (hq2.out q hf).elim id (fun h => absurd hq (by omega)))
            · rcases HV4.out with e | ⟨e, -⟩
              · rw [e] at hq; exact hq2.out q hq
              · rw [e] at hq
                simp only [Option.some.injEq, World.size_alloc] at hq
                have := hU2.out.size
                right; omega
        · obtain rfl : j = 9 := by omega
          have t2 : ¬ ((9 : Int) < 9) := by omega
          have hm9 : (m : Int) = (k : Int) + 9 := by have := hm.out; omega
          go_wp2_with fail
          go_ret
          rw [← HOB.out]
          exact ⟨rfl, hU2.out⟩
end Go.Proofs.Ytfpegmmciphjiaa
