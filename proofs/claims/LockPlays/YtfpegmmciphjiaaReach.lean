/- The closure of circle: reach. -/
import Derived.Test.YtfpegmmciphjiaaQue
namespace Go.Proofs.Ytfpegmmciphjiaa
open Go.RowKit

/-- The two variables that the closure reaches: the map's and the row's cells, and what they hold. -/
structure RV (w : World) (mb rb m g o c : Nat) (K q : List Int) : Prop where
  cm : w.heap[mb]? = some (.cells #[.map (some m)] 59 (0, 0))
  cr : w.heap[rb]? = some (.cells #[.slice (some ⟨g, o, none⟩) q.length c] 60 (0, 0))
  mp : MapIs w m K
  qa : QAt w g o c q
  d1 : mb ≠ rb
  d2 : m ≠ mb
  d3 : m ≠ rb
  d4 : g ≠ mb
  d5 : g ≠ rb
  d6 : g ≠ m
/-- .. the blocks that it may change. -/
def RF (rb m g : Nat) (k : Nat) : Prop := k = rb ∨ k = m ∨ k = g
theorem RV.upd {F : Nat → Prop} {w w' : World} {mb rb m g o c : Nat} {K q : List Int} (h : RV w mb rb m g o c K q) (hu : Upd F w w') (h1 : ¬ F mb) (h2 : ¬ F rb) (h3 : ¬ F m) (h4 : ¬ F g) : RV w' mb rb m g o c K q :=
  ⟨(hu.block mb (Array.getElem?_eq_some_iff.1 h.cm).1 h1).trans h.cm, (hu.block rb (Array.getElem?_eq_some_iff.1 h.cr).1 h2).trans h.cr, h.mp.upd hu h3, h.qa.upd hu h4, h.d1, h.d2, h.d3, h.d4, h.d5, h.d6⟩
theorem RV.below {w w' : World} {mb rb m g o c : Nat} {K q : List Int} (h : RV w mb rb m g o c K q) (hb : Below w.heap.size w w') : RV w' mb rb m g o c K q := h.upd (Upd.of_below (F := fun _ => False) hb) id id id id
theorem RV.c0 {w : World} {mb rb m g o c : Nat} {K q : List Int} (h : RV w mb rb m g o c K q) : w.cell? ⟨mb, 0, none⟩ = some (.map (some m)) ∧ w.cell? ⟨rb, 0, none⟩ = some (.slice (some ⟨g, o, none⟩) q.length c) ∧ w.frozen? ⟨rb, 0, none⟩ = false :=
  ⟨by rw [cell_of_row w mb 0 _ _ _ h.cm]; rfl, by rw [cell_of_row w rb 0 _ _ _ h.cr]; rfl, frozen_of_row w rb 0 _ _ h.cr⟩
theorem RV.lt {w : World} {mb rb m g o c : Nat} {K q : List Int} (h : RV w mb rb m g o c K q) : mb < w.heap.size ∧ rb < w.heap.size ∧ m < w.heap.size ∧ g < w.heap.size :=
  ⟨(Array.getElem?_eq_some_iff.1 h.cm).1, (Array.getElem?_eq_some_iff.1 h.cr).1, h.mp.lt, h.qa.lt⟩

/-- Behind the map's store and the row's push and store. -/
theorem RV.push {w w1 V w2 : World} {mb rb m g o c : Nat} {K q : List Int} {a : Int} (h : RV w mb rb m g o c K q) (hm : MapIs w1 m (K ++ [a])) (hu1 : Upd (fun k => k = m) w w1) (hV : Below w1.heap.size w1 V) {g' o' c' n : Nat} (hq : QAt w2 g' o' c' (q ++ [a])) (hu2 : Upd (fun k => k = g) V w2) (hg : g' = g ∨ g' = V.heap.size) (hn : n = q.length + 1) :
    RV (w2.setCell ⟨rb, 0, none⟩ (.slice (some ⟨g', o', none⟩) n c')) mb rb m g' o' c' (K ++ [a]) (q ++ [a]) ∧ Upd (RF rb m g) w (w2.setCell ⟨rb, 0, none⟩ (.slice (some ⟨g', o', none⟩) n c')) ∧ (g' = g ∨ w.heap.size ≤ g') := by
  obtain ⟨l1, l2, l3, l4⟩ := h.lt
  have hset : Upd (fun k => k = rb) w2 (w2.setCell ⟨rb, 0, none⟩ (.slice (some ⟨g', o', none⟩) n c')) := Upd.setCell (F := fun k => k = rb) (p := ⟨rb, 0, none⟩) rfl _
  have hs1 := hu1.size
  have hs2 := hV.size
  have hs3 := hu2.size
  have hgn : g' = g ∨ w.heap.size ≤ g' := by
    rcases hg with h1 | h1
    · exact .inl h1
    · right; omega
  have hne : ∀ k, k < w.heap.size → k ≠ g → k ≠ g' := fun k hk hkg e => by
    rcases hgn with h1 | h1
    · exact hkg (e.trans h1)
    · omega
  have bmb : w2.heap[mb]? = w.heap[mb]? := (hu2.block mb (by omega) (Ne.symm h.d4)).trans ((hV.block mb (by omega)).trans (hu1.block mb l1 (Ne.symm h.d2)))
  have brb : w2.heap[rb]? = w.heap[rb]? := (hu2.block rb (by omega) (Ne.symm h.d5)).trans ((hV.block rb (by omega)).trans (hu1.block rb l2 (Ne.symm h.d3)))
  have hne1 : mb ≠ g' := hne mb l1 (Ne.symm h.d4)
  have hne2 : rb ≠ g' := hne rb l2 (Ne.symm h.d5)
  have hne3 : m ≠ g' := hne m l3 (Ne.symm h.d6)
  refine ⟨⟨(hset.block mb (by omega) h.d1).trans (bmb.trans h.cm), ?_, ((hm.below hV).upd hu2 (Ne.symm h.d6)).upd hset h.d3, hq.upd hset (Ne.symm hne2), h.d1, h.d2, h.d3, Ne.symm hne1, Ne.symm hne2, Ne.symm hne3⟩, ?_, hgn⟩
  · have := brb.trans h.cr
    simp [World.setCell, Array.getElem?_modify, this, hn]
  · exact (((hu1.mono (G := RF rb m g) (fun j _ hj => .inr (.inl hj))).trans (Upd.of_below (F := fun _ => False) hV) (fun j _ hj => hj.elim)).trans hu2 (fun j _ hj => .inr (.inr hj))).trans hset (fun j _ hj => .inl hj)

theorem reachF_skip {x y : Lk} {A : List Lk} {K q : List Int} (h : (meet x y && !(K.contains y.who)) = false) : reachF x (y :: A) K q = reachF x A K q := by
  conv => lhs; unfold reachF
  rw [if_neg (by rw [h]; simp)]
theorem reachF_take {x y : Lk} {A : List Lk} {K q : List Int} (h : (meet x y && !(K.contains y.who)) = true) : reachF x (y :: A) K q = reachF x A (K ++ [y.who]) (q ++ [y.who]) := by
  conv => lhs; unfold reachF
  rw [if_pos h]

set_option maxHeartbeats 4000000 in
theorem reach_any (x : Lk) (A : List Lk) (a : Option Addr) (ca mb rb m g o c : Nat) (K q : List Int) (w : World) (hx : may x = true) (hA : ∀ y ∈ A, may y = true) (hn : A.length ≤ 1024) (hq : q.length ≤ 524288) (hR : LsAt w a A) (hd : ∀ ad, a = some ad → ¬ RF rb m g ad.block) (h : RV w mb rb m g o c K q) :
    Calls Try.prog 43 #[x.val, .slice a A.length ca, .pointer (some ⟨mb, 0, none⟩), .pointer (some ⟨rb, 0, none⟩)] w fun e w' => e = .returned (.tuple #[]) ∧ ∃ g' o' c', RV w' mb rb m g' o' c' (reachF x A K q).1 (reachF x A K q).2 ∧ Upd (RF rb m g) w w' ∧ (g' = g ∨ w.heap.size ≤ g') := by
  have ML := aside (fun y hy => meet_any x y hx (hA y hy))
  have HA := aside hA
  have HR := aside hR
  have HD := aside hd
  have HV := aside h
  rw [show x.val = .agg #[.int .i64 x.who, .int .i64 x.org, .int .i64 x.len, .bool x.sh] from rfl] at ML ⊢
  obtain ⟨nA, hnA⟩ : ∃ nA, nA = A.length := ⟨_, rfl⟩
  have HNA := aside hnA
  rw [← hnA] at hn ⊢
  obtain ⟨W, hW⟩ : ∃ W, W = w.alloc (.cells #[.int .i64 x.who, .int .i64 x.org, .int .i64 x.len, .bool x.sh] 29) := ⟨_, rfl⟩
  have HW := aside hW
  have BW : Aside (Below w.heap.size w W) := by rw [hW]; exact below_al w _
  have BX : Aside (Bx W w.heap.size x.who x.org x.len x.sh) := by rw [hW]; exact bx_new w _ _ _ _
  obtain ⟨l1, l2, l3, l4⟩ := h.lt
  have HL := aside (And.intro l1 (And.intro l2 (And.intro l3 l4)))
  clear hW hA hR hd h hx hnA l1 l2 l3 l4
  go_enter Try.func43, Try.ntmps43
  go_wp2
  rw [← HW.out]
  go_loopg [10] nA (fun G s10 wr => ∃ (k gg oo cc : Nat) (K' q' : List Int), k + G = nA ∧ s10 = .int .i64 (k : Int) ∧ Aside (RV wr mb rb m gg oo cc K' q') ∧ Aside (reachF x (A.drop k) K' q' = reachF x A K q) ∧ Aside (Upd (RF rb m g) W wr) ∧ Aside (gg = g ∨ w.heap.size < gg) ∧ Aside (q'.length ≤ q.length + k))
  case atStart => exact ⟨0, g, o, c, K, q, by omega, rfl, aside (HV.out.below BW.out), aside (by simp), aside (Upd.refl _ _), aside (.inl rfl), aside (Nat.le_refl _)⟩
  case round =>
    obtain ⟨k, gg, oo, cc, K', q', hkG, rfl, hV, hE, hU, hg, hql⟩ := hrel
    by_cases hk : k < nA
    · have t1 : (k : Int) < (nA : Int) := by omega
      obtain ⟨y, hy⟩ : ∃ y, A[k]? = some y := ⟨_, List.getElem?_eq_getElem (by have := HNA.out; omega)⟩
      have hyA : y ∈ A := List.mem_of_getElem? hy
      obtain ⟨ga, oa, rfl, hrd⟩ := HR.out (fun h0 => by have := HNA.out; rw [h0] at this; simp at this; omega)
      have hdr : A.drop k = y :: A.drop (k + 1) := by
        obtain ⟨hlt, rfl⟩ := List.getElem?_eq_some_iff.1 hy
        rw [List.getElem_cons_drop]
      obtain ⟨q0, q1, q2, q3⟩ := (hU.out.rd (hrd.below BW.out) (HD.out _ rfl)).lock hy
      obtain ⟨hy1, hy2, -⟩ := may_iff.1 (HA.out y hyA)
      have M := aside (ML.out y hyA)
      rw [show y.val = .agg #[.int .i64 y.who, .int .i64 y.org, .int .i64 y.len, .bool y.sh] from rfl] at M
      have hbF : ¬ RF rb m g w.heap.size := fun hf => by
        have := HL.out
        rcases hf with h1 | h1 | h1 <;> omega
      obtain ⟨V, hVV⟩ : ∃ V, V = wr.alloc (.cells #[.int .i64 y.who, .int .i64 y.org, .int .i64 y.len, .bool y.sh] 29) := ⟨_, rfl⟩
      have BV : Aside (Below wr.heap.size wr V) := by rw [hVV]; exact below_al _ _
      have BXr := (BX.out.upd hU.out hbF).below BV.out
      have BY : Aside (Bx V wr.heap.size y.who y.org y.len y.sh) := by rw [hVV]; exact bx_new wr _ _ _ _
      rw [hVV] at BXr
      have r0 := BXr.c0
      have r1 := BXr.c1
      have r2 := BXr.c2
      have r3 := BXr.c3
      have HVV := aside hVV
      have HDR := aside hdr
      clear hy hyA hrd hdr BXr hVV
      by_cases hm : meet x y = true
      · by_cases hc : K'.contains y.who = true
        · have HS := aside (reachF_skip (x := x) (y := y) (A := A.drop (k + 1)) (K := K') (q := q') (by rw [hm, hc]; rfl))
          rw [hm] at M
          have HC := aside hc
          clear hm hc
          go_wp2_with ((go_at_call 44; with_reducible refine (M.out _).mono ?_; rintro e w2 ⟨rfl, hb2⟩; rw [← HVV.out] at hb2; have HB2 := aside hb2; have y0 := (BY.out.below hb2).c0; have V2 := hV.out.below (below_tr BV.out hb2); have m0 := V2.c0.1; have lk := look_met V2.mp y.who hy1 hy2; rw [if_pos HC.out] at lk; clear hb2 V2))
          go_roundg (nA - (k + 1))
          case measure => omega
          case rel => exact ⟨k + 1, gg, oo, cc, K', q', by omega, by go_num, aside (hV.out.below (below_tr BV.out HB2.out)), aside (by rw [← HS.out, ← HDR.out]; exact hE.out), aside (hU.out.trans (Upd.of_below (F := fun _ => False) (below_tr BV.out HB2.out)) (fun _ _ h => h.elim)), hg, aside (by have := hql.out; omega)⟩
        · have hc0 : K'.contains y.who = false := by simpa using hc
          have HS := aside (reachF_take (x := x) (y := y) (A := A.drop (k + 1)) (K := K') (q := q') (by rw [hm, hc0]; rfl))
          rw [hm] at M
          have HC := aside hc
          have HC0 := aside hc0
          clear hm hc hc0
          obtain ⟨nq, hnq⟩ : ∃ nq, nq = q'.length := ⟨_, rfl⟩
          have HNQ := aside hnq
          have hnq2 : nq ≤ 1048576 := by have := hql.out; omega
          clear hnq
          go_wp2_with (first
            | (go_at_call 44; with_reducible refine (M.out _).mono ?_; rintro e w2 ⟨rfl, hb2⟩; rw [← HVV.out] at hb2; have HB2 := aside hb2; have y0 := (BY.out.below hb2).c0; have V2 := hV.out.below (below_tr BV.out hb2); have m0 := V2.c0.1; have lk := look_met V2.mp y.who hy1 hy2; rw [if_neg HC.out] at lk
               obtain ⟨w3, st, hm3, hu3⟩ := store_met V2.mp y.who hy1 hy2 HC0.out
               have B3 : Bx w3 wr.heap.size y.who y.org y.len y.sh := (BY.out.below hb2).upd hu3 (fun e => by have := hV.out.lt; omega)
               have y3 := B3.c0
               have z0 : w3.cell? ⟨rb, 0, none⟩ = some (.slice (some ⟨gg, oo, none⟩) nq cc) := by rw [HNQ.out]; exact hu3.cell V2.c0.2.1 (Ne.symm V2.d3)
               have HM3 := aside hm3; have HU3 := aside hu3; have HV2 := aside V2
               have Q3 : Aside (QAt (w3.alloc (.cells #[.int .i64 y.who] 3)) gg oo cc q') := aside ((V2.qa.upd hu3 V2.d6).below (below_al _ _))
               have C3 : Aside ((w3.alloc (.cells #[.int .i64 y.who] 3)).cell? ⟨w3.heap.size, 0, none⟩ = some (.int .i64 y.who)) := aside (by go_simp)
               have z1 := z0
               clear hb2 V2 hm3 hu3 B3)
            | (at_builtin; refine wpList_qpush rfl _ _ rfl gg oo cc nq q' y.who w3.heap.size 1 rfl rfl Q3.out HNQ.out.symm C3.out hnq2 ?_; intro g4 o4 c4 w4 hq4 hu4 hg4
               obtain ⟨f1, f2, f3⟩ := HV2.out.push HM3.out HU3.out (below_al w3 (.cells #[.int .i64 y.who] 3)) hq4 hu4 hg4 (n := nq + 1) (by rw [HNQ.out])
               have l2 := HV2.out.lt
               have k0 : w4.cell? ⟨rb, 0, none⟩ = some (.slice (some ⟨gg, oo, none⟩) nq cc) := hu4.cell (((below_al w3 _).cell (World.block_lt_of_cell? w3 _ z1)).trans z1) (Ne.symm HV2.out.d5)
               have kf : w4.frozen? ⟨rb, 0, none⟩ = false := by
                 have e1 := hu4.block rb (by rw [World.size_alloc]; have := HU3.out.size; omega) (Ne.symm HV2.out.d5)
                 have e2 := (below_al w3 (.cells #[.int .i64 y.who] 3)).block rb (by have := HU3.out.size; omega)
                 have e3 := HU3.out.block rb l2.2.1 (Ne.symm HV2.out.d3)
                 rw [World.frozen?_of_block (a := ⟨rb, 0, none⟩) (e1.trans (e2.trans e3))]; exact HV2.out.c0.2.2
               have F1 := aside f1; have F2 := aside f2; have F3 := aside f3
               clear hq4 hu4 hg4 f1 f2 f3 l2))
          go_roundg (nA - (k + 1))
          case measure => omega
          case rel =>
            have hb2 := below_tr BV.out HB2.out
            refine ⟨k + 1, g4, o4, c4, K' ++ [y.who], q' ++ [y.who], by omega, by go_num, F1, aside (by rw [← HS.out, ← HDR.out]; exact hE.out), aside ?_, aside ?_, aside (by have := hql.out; simp; omega)⟩
            · refine (hU.out.trans (Upd.of_below (F := fun _ => False) hb2) (fun _ _ h => h.elim)).trans F2.out (fun j hj hf => ?_)
              rcases hf with h1 | h1 | h1
              · exact .inl h1
              · exact .inr (.inl h1)
              · rcases hg.out with h2 | h2
                · exact .inr (.inr (h1.trans h2))
                · rw [HW.out, World.size_alloc] at hj; omega
            · rcases F3.out with h1 | h1
              · rw [h1]; exact hg.out
              · right
                have e1 := hb2.size
                have e2 := hU.out.size
                rw [HW.out, World.size_alloc] at e2
                omega
      · have hm0 : meet x y = false := by simpa using hm
        have HS := aside (reachF_skip (x := x) (y := y) (A := A.drop (k + 1)) (K := K') (q := q') (by rw [hm0]; rfl))
        rw [hm0] at M
        clear hm hm0
        go_wp2_with ((go_at_call 44; with_reducible refine (M.out _).mono ?_; rintro e w2 ⟨rfl, hb2⟩; rw [← HVV.out] at hb2; have HB2 := aside hb2; clear hb2))
        go_roundg (nA - (k + 1))
        case measure => omega
        case rel => exact ⟨k + 1, gg, oo, cc, K', q', by omega, by go_num, aside (hV.out.below (below_tr BV.out HB2.out)), aside (by rw [← HS.out, ← HDR.out]; exact hE.out), aside (hU.out.trans (Upd.of_below (F := fun _ => False) (below_tr BV.out HB2.out)) (fun _ _ h => h.elim)), hg, aside (by have := hql.out; omega)⟩
    · obtain rfl : k = nA := by omega
      have t1 : ¬ ((k : Int) < (k : Int)) := by omega
      go_wp2_with fail
      refine bodyPost_end (results_none rfl _ _ _) rfl ?_
      have he := hE.out
      rw [HNA.out, List.drop_length] at he
      refine ⟨rfl, gg, ⟨oo, cc, ?_⟩, (Upd.of_below (F := RF rb m g) BW.out).trans hU.out (fun _ _ h => h), ?_⟩
      · rw [← he]; exact hV.out
      · rcases hg.out with h1 | h1
        · exact .inl h1
        · right; omega
end Go.Proofs.Ytfpegmmciphjiaa
