/- circle: is there one with l as the last that waits? -/
import Derived.Test.YtfpegmmciphjiaaReach
import Derived.Test.YtfpegmmciphjiaaOn
import Derived.Deep.DeepCutAuto
namespace Go.Proofs.Ytfpegmmciphjiaa
open Go.RowKit

theorem elem60 : Try.prog.underlying 60 = some (.slice (Try.prog.elem 60)) := by kernel_rfl
theorem size60 (w : World) : (sizeOf (Try.prog.elem 60)).run Try.prog w = .ok 1 w := by kernel_rfl
/-- row[1:] -/
theorem qtail (g o c n : Nat) (hn : 1 ≤ n) (hc : n ≤ c) : ∃ o', (∀ W, (Instr.slice 60 (.slice (some ⟨g, o, none⟩) n c) (some (.int .i64 1)) none none).run Try.prog W = .ok (.slice (some ⟨g, o', none⟩) (n - 1) (c - 1)) W) ∧ ∀ w x q, q.length + 1 = n → QAt w g o c (x :: q) → QAt w g o' (c - 1) q := by
  refine ⟨if c = 1 then o else o + 1, fun W => ?_, fun w x q hl h => ?_⟩
  · have := run_slice_l W 60 (some ⟨g, o, none⟩) n c elem60 .i64 1 (by omega) (by omega)
    rw [this, size60]
    simp only [Result.andThen, sliced, Int.toNat_one]
    congr 2
    split
    · rfl
    · simp [Addr.add]
  · obtain ⟨cur, h1, h2, h3, h4, h5⟩ := h
    simp only [List.length_cons] at h2
    refine ⟨cur, h1, by omega, by omega, ?_, fun j y hj => ?_⟩
    · split <;> omega
    · have hlt := (List.getElem?_eq_some_iff.1 hj).1
      rw [if_neg (by omega), show o + 1 + j = o + (j + 1) by omega]
      exact h5 (j + 1) y (by simpa using hj)

/-- What circle reaches, between two steps of its search: nothing that was there before has changed. -/
structure CV (Wc wr : World) (mb rb m g o c : Nat) (K q : List Int) : Prop where
  rv : RV wr mb rb m g o c K q
  bl : Below Wc.heap.size Wc wr
  n1 : Wc.heap.size ≤ mb
  n2 : Wc.heap.size ≤ rb
  n3 : Wc.heap.size ≤ m
  n4 : Wc.heap.size ≤ g
theorem CV.below {Wc wr wq : World} {mb rb m g o c : Nat} {K q : List Int} (h : CV Wc wr mb rb m g o c K q) (hb : Below wr.heap.size wr wq) : CV Wc wq mb rb m g o c K q := ⟨h.rv.below hb, h.bl.trans (hb.mono h.bl.size), h.n1, h.n2, h.n3, h.n4⟩
theorem CV.reach {Wc wr w' : World} {mb rb m g o c g' o' c' : Nat} {K q K' q' : List Int} (h : CV Wc wr mb rb m g o c K q) (hv : RV w' mb rb m g' o' c' K' q') (hu : Upd (RF rb m g) wr w') (hg : g' = g ∨ wr.heap.size ≤ g') : CV Wc w' mb rb m g' o' c' K' q' := by
  refine ⟨hv, h.bl.trans (hu.below h.bl.size (fun k hk => ?_)), h.n1, h.n2, h.n3, ?_⟩
  · rcases hk with h1 | h1 | h1
    · rw [h1]; exact h.n2
    · rw [h1]; exact h.n3
    · rw [h1]; exact h.n4
  · rcases hg with h1 | h1
    · rw [h1]; exact h.n4
    · have := h.bl.size; omega
theorem CV.old {Wc wr : World} {mb rb m g o c : Nat} {K q : List Int} (h : CV Wc wr mb rb m g o c K q) {k : Nat} (hk : k < Wc.heap.size) : ¬ RF rb m g k := by
  have h2 := h.n2; have h3 := h.n3; have h4 := h.n4
  rintro (h1 | h1 | h1) <;> omega
theorem CV.fresh {Wc wr : World} {mb rb m g o c : Nat} {K q : List Int} (h : CV Wc wr mb rb m g o c K q) : ¬ RF rb m g wr.heap.size := by
  obtain ⟨-, h2, h3, h4⟩ := h.rv.lt
  rintro (h1 | h1 | h1) <;> omega

theorem CV.tail {Wc wr : World} {mb rb m g o c o' n : Nat} {K q : List Int} {x : Int} (h : CV Wc wr mb rb m g o c K (x :: q)) (hq : QAt wr g o' (c - 1) q) (hn : n = q.length) : CV Wc (wr.setCell ⟨rb, 0, none⟩ (.slice (some ⟨g, o', none⟩) n (c - 1))) mb rb m g o' (c - 1) K q := by
  have hset : Upd (fun k => k = rb) wr (wr.setCell ⟨rb, 0, none⟩ (.slice (some ⟨g, o', none⟩) n (c - 1))) := Upd.setCell (F := fun k => k = rb) (p := ⟨rb, 0, none⟩) rfl _
  have hr := h.rv
  refine ⟨⟨(hset.block mb hr.lt.1 hr.d1).trans hr.cm, ?_, hr.mp.upd hset hr.d3, hq.upd hset hr.d5, hr.d1, hr.d2, hr.d3, hr.d4, hr.d5, hr.d6⟩, h.bl.trans (hset.below h.bl.size (fun k hk => by rw [hk]; exact h.n2)), h.n1, h.n2, h.n3, h.n4⟩
  have := hr.cr
  simp [World.setCell, Array.getElem?_modify, this, hn]
theorem cv_new (wc : World) (x : Int) : CV wc ((((wc.alloc (.map #[] 0)).alloc (.cells #[.map (some wc.heap.size)] 59)).alloc (.cells #[.int .i64 x] 3)).alloc (.cells #[.slice (some ⟨wc.heap.size + 1 + 1, 0, none⟩) 1 1] 60)) (wc.heap.size + 1) (wc.heap.size + 1 + 1 + 1) wc.heap.size (wc.heap.size + 1 + 1) 0 1 [] [x] := by
  have s1 : (wc.alloc (.map #[] 0)).heap.size = wc.heap.size + 1 := by simp
  have s2 : ((wc.alloc (.map #[] 0)).alloc (.cells #[.map (some wc.heap.size)] 59)).heap.size = wc.heap.size + 1 + 1 := by simp
  have s3 : (((wc.alloc (.map #[] 0)).alloc (.cells #[.map (some wc.heap.size)] 59)).alloc (.cells #[.int .i64 x] 3)).heap.size = wc.heap.size + 1 + 1 + 1 := by simp
  have h0 := map_new wc
  have h1 := heap_alloc_new (wc.alloc (.map #[] 0)) (.cells #[.map (some wc.heap.size)] 59)
  have h2 := heap_alloc_new ((wc.alloc (.map #[] 0)).alloc (.cells #[.map (some wc.heap.size)] 59)) (.cells #[.int .i64 x] 3)
  have h3 := heap_alloc_new (((wc.alloc (.map #[] 0)).alloc (.cells #[.map (some wc.heap.size)] 59)).alloc (.cells #[.int .i64 x] 3)) (.cells #[.slice (some ⟨wc.heap.size + 1 + 1, 0, none⟩) 1 1] 60)
  rw [s1] at h1
  rw [s2] at h2
  rw [s3] at h3
  generalize hA : wc.alloc (.map #[] 0) = A at *
  generalize hB : A.alloc (.cells #[.map (some wc.heap.size)] 59) = B at *
  generalize hC : B.alloc (.cells #[.int .i64 x] 3) = C at *
  generalize hD : C.alloc (.cells #[.slice (some ⟨wc.heap.size + 1 + 1, 0, none⟩) 1 1] 60) = D at *
  have bA : Below wc.heap.size wc A := by rw [← hA]; exact below_al _ _
  have bB : Below A.heap.size A B := by rw [← hB]; exact below_al _ _
  have bC : Below B.heap.size B C := by rw [← hC]; exact below_al _ _
  have bD : Below C.heap.size C D := by rw [← hD]; exact below_al _ _
  refine ⟨⟨(bD.block _ (by omega)).trans ((bC.block _ (by omega)).trans h1), h3, ((h0.below bB).below bC).below bD, ⟨#[.int .i64 x], (bD.block _ (by omega)).trans h2, by simp, by unfold maxLen; omega, by simp, fun j y hj => ?_⟩, by omega, by omega, by omega, by omega, by omega, by omega⟩, below_tr bA (below_tr bB (below_tr bC bD)), by omega, by omega, by omega, by omega⟩
  match j, hj with
  | 0, hj => simp at hj; subst hj; simp
  | j + 1, hj => simp at hj

theorem app_b {V V1 w3 : World} {v : Value} (hB : Below V.heap.size V V1) (hu : Upd (fun k => v.ownBlock = some k) V1 w3) (hn : ∀ k, v.ownBlock = some k → V.heap.size ≤ k) : Below V.heap.size V w3 := hB.trans (hu.below hB.size hn)
theorem clone_sl (v : Value) (L : List Lk) (n : Nat) (w : World) (h : Own w v L) (hl : L.length = n) (hn : n ≤ 1048576) :
    Calls Try.prog 40 #[v] w fun e w' => ∃ a c, e = .returned (.slice a n c) ∧ Own w' (.slice a n c) L ∧ Below w.heap.size w w' ∧ ∀ k, (Value.slice a n c).ownBlock = some k → w.heap.size ≤ k := by
  subst hl
  refine (clone_any v L w h hn).mono ?_
  rintro e w' ⟨v', rfl, ho, hb, hv⟩
  obtain ⟨a, c, rfl, -, -⟩ := own_slice ho
  exact ⟨a, c, rfl, ho, hb, hv⟩

set_option maxHeartbeats 4000000 in
theorem circle_any (t : Tb) (l : Lk) (hl : may l = true) (w : World) (h : Tab 55 w t) :
    Calls Try.prog 30 #[.pointer (some ⟨t.p, 0, none⟩), l.val] w fun e w' => ∃ b, e = .returned (.bool b) ∧ (b = true ↔ dead t.H t.W l) ∧ Below w.heap.size w w' := by
  obtain ⟨ha, hc, hhv, -, -, hls⟩ := h.oh.tel
  obtain ⟨wa, wc, hwv, -, -, -⟩ := h.ow.tel
  have c0 := h.c0
  have c1 := h.c1
  rw [hhv] at c0
  rw [hwv] at c1
  have hfew := h.few
  rw [show l.val = .agg #[.int .i64 l.who, .int .i64 l.org, .int .i64 l.len, .bool l.sh] from rfl]
  obtain ⟨V, hV⟩ : ∃ V, V = w.alloc (.cells #[.int .i64 l.who, .int .i64 l.org, .int .i64 l.len, .bool l.sh] 29) := ⟨_, rfl⟩
  have BV : Aside (Below w.heap.size w V) := by rw [hV]; exact below_al w _
  have BX : Aside (Bx V w.heap.size l.who l.org l.len l.sh) := by rw [hV]; exact bx_new w _ _ _ _
  have HV := aside hV
  have HT := aside h
  have HF := aside hfew
  have HL := aside hl
  have HHV := aside hhv
  obtain ⟨nW, hnW⟩ : ∃ nW, nW = t.W.length := ⟨_, rfl⟩
  have HNW := aside hnW
  obtain ⟨nH, hnH⟩ : ∃ nH, nH = t.H.length := ⟨_, rfl⟩
  have HNH := aside hnH
  rw [← hnW] at hwv c1 hfew
  rw [← hnH] at hhv c0 hfew
  have HWV := aside hwv
  have HLS := aside hls
  have hpl := h.lt
  have CL := aside (fun (Y : World) (hY : Below w.heap.size w Y) => clone_sl t.wv t.W nW Y (h.ow.below hY) hnW.symm (by omega))
  rw [hwv] at CL
  have HP := aside (fun (Y : World) (hY : Below V.heap.size V Y) => And.intro (((below_tr BV.out hY).cell (p := ⟨t.p, 1, none⟩) hpl).trans c1) (BX.out.below hY))
  clear hV h hfew hl hhv hwv hnW hnH hls
  go_enter Try.func30, Try.ntmps30
  go_wp2_with fail
  rw [← HV.out]
  go_step3
  go_wp2_with fail
  go_cut [5] from 12 to 19 (fun s5 wc => ∃ a5 c5, s5 = .slice a5 (nW + 1) c5 ∧ Aside (Own wc (.slice a5 (nW + 1) c5) (t.W ++ [l])) ∧ Aside (Below V.heap.size V wc))
  case first =>
    have p1 := (HP.out V (Below.refl _ _)).1
    have b0 := BX.out.c0
    have b1 := BX.out.c1
    have b2 := BX.out.c2
    have b3 := BX.out.c3
    have hB1 := aside (below_tr (below_al V (.cells #[.int .i64 l.who, .int .i64 l.org, .int .i64 l.len, .bool l.sh] 29)) (below_dr _))
    have FW : Aside (t.W.length + [l].length ≤ 33554432) := by have := HF.out; show t.W.length + 1 ≤ _; omega
    have FS : Aside (t.W.length + [l].length = nW + 1) := by rw [HNW.out]; rfl
    go_region_held3 (fun w' => w'.cell? ⟨t.p, 1, none⟩ = some (.slice wa nW wc) ∧ w'.cell? ⟨w.heap.size, 0, none⟩ = some (.int .i64 l.who) ∧ w'.cell? ⟨w.heap.size, 1, none⟩ = some (.int .i64 l.org) ∧ w'.cell? ⟨w.heap.size, 2, none⟩ = some (.int .i64 l.len) ∧ w'.cell? ⟨w.heap.size, 3, none⟩ = some (.bool l.sh)) (go_keep) (first
      | (go_at_call 40; with_reducible refine (CL.out V.drew (below_tr BV.out (below_dr _))).mono ?_; rintro e w2 ⟨a2, c2, rfl, ho2, hb2, hn2⟩; have HB2 := aside (below_tr (below_dr V) hb2); obtain ⟨k1, kx⟩ := HP.out w2 HB2.out; have k2 := kx.c0; have k3 := kx.c1; have k4 := kx.c2; have k5 := kx.c3; have O2 : Aside (Own (w2.alloc (.cells #[.int .i64 l.who, .int .i64 l.org, .int .i64 l.len, .bool l.sh] 29)) (.slice a2 nW c2) t.W) := aside (ho2.below (below_al _ _)); have L2 := aside (ls_lit w2 l); have N2 := aside hn2; clear ho2 hb2 hn2 kx)
      | (go_at_call 40; with_reducible refine (CL.out (V.alloc (.cells #[.int .i64 l.who, .int .i64 l.org, .int .i64 l.len, .bool l.sh] 29)).drew (below_tr BV.out hB1.out)).mono ?_; rintro e w2 ⟨a2, c2, rfl, ho2, hb2, hn2⟩; have HB2 := aside (below_tr hB1.out hb2); obtain ⟨k1, kx⟩ := HP.out w2 HB2.out; have k2 := kx.c0; have k3 := kx.c1; have k4 := kx.c2; have k5 := kx.c3; have O2 : Aside (Own w2 (.slice a2 nW c2) t.W) := aside ho2; have L2 : Aside (LsAt w2 (some ⟨V.heap.size, 0, none⟩) [l]) := aside (((ls_lit V l).below (below_dr _)).below hb2); have N2 := aside hn2; clear ho2 hb2 hn2 kx)
      | (with_reducible refine step_app (w := w2.alloc (.cells #[.int .i64 l.who, .int .i64 l.org, .int .i64 l.len, .bool l.sh] 29)) rfl _ _ rfl (.slice a2 nW c2) t.W [l] (some ⟨w2.heap.size, 0, none⟩) 1 1 rfl rfl rfl O2.out L2.out FW.out (nW + 1) FS.out ?_; intro a3 c3 w3 ho hu hv; have HO3 := aside ho; have HB3 := aside (app_b (below_tr HB2.out (below_al w2 _)) hu (fun k hk => (by have h1 := N2.out k hk; have h2 : V.drew.heap.size = V.heap.size := rfl; omega))); obtain ⟨k1, kx⟩ := HP.out w3 HB3.out; have k2 := kx.c0; have k3 := kx.c1; have k4 := kx.c2; have k5 := kx.c3; clear ho hu hv kx)
      | (refine step_app (w := w2) rfl _ _ rfl (.slice a2 nW c2) t.W [l] (some ⟨V.heap.size, 0, none⟩) 1 1 rfl rfl rfl O2.out L2.out FW.out (nW + 1) FS.out ?_; intro a3 c3 w3 ho hu hv; have HO3 := aside ho; have HB3 := aside (app_b HB2.out hu (fun k hk => by have h1 := N2.out k hk; have h2 : (V.alloc (.cells #[.int .i64 l.who, .int .i64 l.org, .int .i64 l.len, .bool l.sh] 29)).drew.heap.size = V.heap.size + 1 := World.size_alloc _ _; omega)); obtain ⟨k1, kx⟩ := HP.out w3 HB3.out; have k2 := kx.c0; have k3 := kx.c1; have k4 := kx.c2; have k5 := kx.c3; clear ho hu hv kx))
    all_goals (go_wp2_with fail; go_meet; exact ⟨a3, c3, rfl, HO3, HB3⟩)
  case rest =>
    obtain ⟨a5, c5, rfl, hO5, hB5⟩ := hcut
    obtain ⟨W2, hW2⟩ : ∃ W2, W2 = (wc.alloc (.map #[] 0)).alloc (.cells #[.map (some wc.heap.size)] 59) := ⟨_, rfl⟩
    have BW2 : Aside (Below wc.heap.size wc W2) := by rw [hW2]; exact below_tr (below_al _ _) (below_al _ _)
    have hmk := fun w => run_makeMap (P := Try.prog) 59 w
    have r0 := ((HP.out wc hB5.out).2.below BW2.out).c0
    rw [hW2] at r0
    go_wp2_with fail
    have CV0 := aside (cv_new wc l.who)
    generalize hW4 : (((wc.alloc (.map #[] 0)).alloc (.cells #[.map (some wc.heap.size)] 59)).alloc (.cells #[.int .i64 l.who] 3)).alloc (.cells #[.slice (some ⟨wc.heap.size + 1 + 1, 0, none⟩) 1 1] 60) = W4 at CV0 ⊢
    generalize wc.heap.size + 1 + 1 + 1 = rb at CV0 ⊢
    generalize wc.heap.size + 1 + 1 = g0 at CV0 ⊢
    generalize wc.heap.size + 1 = mb at CV0 ⊢
    generalize hm0 : wc.heap.size = m0 at CV0 ⊢
    have HM0 := aside hm0
    clear hm0 hW4 r0 hW2 hmk BW2
    obtain ⟨WW, hWW⟩ : ∃ WW, WW = t.W ++ [l] := ⟨_, rfl⟩
    have HWW := aside hWW
    rw [← hWW] at hO5
    have MW : Aside (∀ y ∈ WW, may y = true) := by
      rw [hWW]; intro y hy
      rcases List.mem_append.1 hy with hy | hy
      · exact HT.out.mw y hy
      · simp at hy; subst hy; exact HL.out
    have NWW : Aside (WW.length = nW + 1) := by rw [hWW, HNW.out]; simp [Aside]
    clear hWW
    have hwBig : Below w.heap.size w wc := below_tr BV.out hB5.out
    have OLD : Aside (∀ Y, Below wc.heap.size wc Y → Y.cell? ⟨t.p, 0, none⟩ = some (.slice ha nH hc) ∧ LsAt Y ha t.H ∧ Bx Y w.heap.size l.who l.org l.len l.sh ∧ LsAt Y a5 WW) := fun Y hY =>
      ⟨((below_tr hwBig hY).cell hpl).trans c0, HLS.out.below (below_tr hwBig hY), (HP.out Y (below_tr hB5.out hY)).2, by
        obtain ⟨a', c', he, -, -, hls⟩ := hO5.out.tel
        simp only [Value.slice.injEq] at he
        obtain ⟨rfl, -, rfl⟩ := he
        exact hls.below hY⟩
    have DH : Aside (∀ ad, ha = some ad → ad.block < wc.heap.size) := fun ad he => by
      have := HT.out.oh.lt (k := ad.block) (by rw [HHV.out, he]; rfl)
      have := hwBig.size
      omega
    have DW : Aside (∀ ad, a5 = some ad → ad.block < wc.heap.size) := fun ad he => hO5.out.lt (k := ad.block) (by rw [he]; rfl)
    obtain ⟨hl1, hl2, -⟩ := may_iff.1 HL.out
    have hnW : nW ≤ 256 := by have := HF.out; have := HNW.out; omega
    have hc5 : nW + 1 ≤ c5 := by
      obtain ⟨a', c', he, h2, -, -⟩ := hO5.out.tel
      simp only [Value.slice.injEq] at he
      obtain ⟨-, he1, rfl⟩ := he
      omega
    clear hwBig c1 c0 CL
    go_step3
    go_wp2_with fail
    go_loopg [9] (2 * (t.H ++ WW).length + 1) (fun G _s9 wr => ∃ (gg oo cc : Nat) (K q : List Int), G ≤ 600 ∧ Aside (CV wc wr mb rb m0 gg oo cc K q) ∧ Aside (BI t.H WW l.who G K q))
    case atStart => exact ⟨g0, 0, 1, [], [l.who], by have h1 := HF.out; have h2 := NWW.out; have h3 := HNW.out; rw [List.length_append]; omega, CV0, aside (bi_first _ _ _)⟩
    case round =>
      obtain ⟨gg, oo, cc, K, q, hgk, hC, hI⟩ := hrel
      have V0 := hC.out.rv.c0
      have v0 := V0.1
      have v1 := V0.2.1
      have v2 := V0.2.2
      clear V0
      cases q with
      | nil =>
        have lk := look_met hC.out.rv.mp l.who hl1 hl2
        rw [if_neg (by simpa using hI.out.yet)] at lk
        have x0 := (OLD.out wr hC.out.bl).2.2.1.c0
        have t1 : ¬ ((0 : Int) < 0) := by omega
        simp only [List.length_nil] at v1
        go_wp2_with fail
        go_ret
        refine ⟨false, rfl, ?_, below_tr (below_tr BV.out hB5.out) (hC.out.bl)⟩
        have := bi_done hI.out
        rw [HWW.out] at this
        exact ⟨fun h => by simp at h, fun h => absurd h this⟩
      | cons who q =>
        obtain ⟨nq, hnq⟩ : ∃ nq, nq = q.length := ⟨_, rfl⟩
        simp only [List.length_cons, ← hnq] at v1
        obtain ⟨M, hM⟩ : ∃ M, gk = M + 1 := ⟨gk - 1, by have := hI.out.few; simp at this; omega⟩
        have hnqb : nq ≤ 600 := by
          have := hI.out.few
          simp only [List.length_cons, ← hnq] at this
          omega
        have hcq : nq + 1 ≤ cc := by
          obtain ⟨cur, -, h2, -⟩ := hC.out.rv.qa
          simp only [List.length_cons, ← hnq] at h2
          exact h2
        obtain ⟨o2, hsl, hq2⟩ := qtail gg oo cc (nq + 1) (by omega) hcq
        have hq0 := hC.out.rv.qa.cell (j := 0) (x := who) rfl
        rw [Nat.add_zero] at hq0
        simp only [Nat.add_sub_cancel] at hsl
        have C1 := aside (hC.out.tail (hq2 wr who q (by omega) hC.out.rv.qa) hnq)
        subst hM
        have J0 := aside (bj_first hI.out)
        have HNQ := aside hnq
        have t1 : (0 : Int) < ((nq : Int) + 1) := by omega
        clear hnq hq2
        go_wp2_with fail
        generalize wr.setCell ⟨rb, 0, none⟩ (.slice (some ⟨gg, o2, none⟩) nq (cc - 1)) = X1 at C1 ⊢
        clear v0 v1 v2 hq0 hsl
        rename World => wr0
        go_loopg [35] (nW + 1) (fun G2 s35 wx => ∃ (i g2 o3 c2 : Nat) (K2 q2 : List Int), i + G2 = nW + 1 ∧ s35 = .int .i64 (i : Int) ∧ Aside (CV wc wx mb rb m0 g2 o3 c2 K2 q2) ∧ Aside (BJ t.H WW l.who M who i K2 q2) ∧ Aside (l.who ∉ K2))
        case atStart => exact ⟨0, gg, o2, cc - 1, K, q, by omega, rfl, C1, J0, aside hI.out.yet⟩
        case round =>
          obtain ⟨i, g2, o3, c2, K2, q2, hiG, rfl, hC2, hJ, hY⟩ := hrel
          by_cases hi : i < nW + 1
          · have t2 : (i : Int) < (nW : Int) + 1 := by omega
            obtain ⟨y, hy⟩ : ∃ y, WW[i]? = some y := ⟨_, List.getElem?_eq_getElem (by have := NWW.out; omega)⟩
            obtain ⟨o0, olh, obx, olw⟩ := OLD.out wr hC2.out.bl
            obtain ⟨ga, oa, rfl, hrd⟩ := olw (fun h0 => by rw [h0] at hy; simp at hy)
            obtain ⟨q0, q1, q2', q3⟩ := hrd.lock hy
            have hmy : may y = true := MW.out y (List.mem_of_getElem? hy)
            by_cases hwho : y.who = who
            · have hwe : (y.who == who) = true := by simpa using hwho
              have hnq2 : q2.length ≤ 600 := by have := hJ.out.few; omega
              obtain ⟨X, hX⟩ : ∃ X, X = wr.alloc (.cells #[.int .i64 y.who, .int .i64 y.org, .int .i64 y.len, .bool y.sh] 29) := ⟨_, rfl⟩
              have BX2 : Aside (Below wr.heap.size wr X) := by rw [hX]; exact below_al _ _
              have CX := aside (hC2.out.below BX2.out)
              have BY : Aside (Bx X wr.heap.size y.who y.org y.len y.sh) := by rw [hX]; exact bx_new wr _ _ _ _
              obtain ⟨K3, q3', hr1⟩ : ∃ K3 q3', reachF y t.H K2 q2 = (K3, q3') := ⟨_, _, rfl⟩
              have P1 := reachF_p (t.H ++ WW) y t.H K2 q2 (fun z hz => List.mem_append_left _ hz)
              rw [hr1] at P1
              have hn3 : q3'.length ≤ 600 := by have h1 := P1.few; have h2 := hJ.out.few; simp only at h1; omega
              obtain ⟨K4, q4, hr2⟩ : ∃ K4 q4, reachF y (WW.take i) K3 q3' = (K4, q4) := ⟨_, _, rfl⟩
              have P2 := reachF_p (t.H ++ WW) y (WW.take i) K3 q3' (fun z hz => List.mem_append_right _ (List.mem_of_mem_take hz))
              rw [hr2] at P2
              have J4 := aside (bj_reach hJ.out hy hwho P1 P2)
              have hkl : (WW.take i).length = i := by rw [List.length_take]; have := NWW.out; omega
              have R1 : Aside (∀ Y, Below X.heap.size X Y → Calls Try.prog 43 #[y.val, .slice ha nH hc, .pointer (some ⟨mb, 0, none⟩), .pointer (some ⟨rb, 0, none⟩)] Y fun e w' => e = .returned (.tuple #[]) ∧ ∃ g' o' c', CV wc w' mb rb m0 g' o' c' K3 q3' ∧ Bx w' wr.heap.size y.who y.org y.len y.sh ∧ w'.cell? ⟨t.p, 0, none⟩ = some (.slice ha nH hc) ∧ ¬ RF rb m0 g' wr.heap.size) := fun Y hY => by
                have hCY := CX.out.below hY
                have := reach_any y t.H ha hc mb rb m0 g2 o3 c2 K2 q2 Y hmy HT.out.mh (by have := HF.out; omega) (by omega) (OLD.out Y hCY.bl).2.1 (fun ad he => hCY.old (DH.out ad he)) hCY.rv
                rw [hr1, ← HNH.out] at this
                refine this.mono ?_
                rintro e w' ⟨rfl, g', o', c', h1, h2, h3⟩
                have hCV := hCY.reach h1 h2 h3
                refine ⟨rfl, g', o', c', hCV, (BY.out.below hY).upd h2 hC2.out.fresh, (OLD.out w' hCV.bl).1, ?_⟩
                have hlt := World.block_lt_of_cell? _ _ BY.out.c0
                have hYs := hY.size
                obtain ⟨-, l2, l3, -⟩ := hC2.out.rv.lt
                obtain ⟨-, -, -, l4⟩ := hC2.out.rv.lt
                simp only at hlt
                rintro (h6 | h6 | h6)
                · omega
                · omega
                · rcases h3 with h7 | h7 <;> omega
              have R2 : Aside (∀ (Z : World) g' o' c', CV wc Z mb rb m0 g' o' c' K3 q3' → ¬ RF rb m0 g' wr.heap.size → Bx Z wr.heap.size y.who y.org y.len y.sh → Calls Try.prog 43 #[y.val, .slice (some ⟨ga, oa, none⟩) i c5, .pointer (some ⟨mb, 0, none⟩), .pointer (some ⟨rb, 0, none⟩)] Z.drew fun e w' => e = .returned (.tuple #[]) ∧ ∃ g' o' c', CV wc w' mb rb m0 g' o' c' K4 q4 ∧ Bx w' wr.heap.size y.who y.org y.len y.sh) := fun Z g' o' c' hCZ hnf hBZ => by
                have hCY := hCZ.below (below_dr Z)
                have := reach_any y (WW.take i) (some ⟨ga, oa, none⟩) c5 mb rb m0 g' o' c' K3 q3' Z.drew hmy (fun z hz => MW.out z (List.mem_of_mem_take hz)) (by omega) (by omega) (ls_take i (OLD.out Z.drew hCY.bl).2.2.2) (fun ad he => hCY.old (DW.out ad he)) hCY.rv
                rw [hr2, hkl] at this
                refine this.mono ?_
                rintro e w' ⟨rfl, g', o', c', h1, h2, h3⟩
                exact ⟨rfl, g', o', c', hCY.reach h1 h2 h3, (hBZ.below (below_dr Z)).upd h2 hnf⟩
              rw [show y.val = .agg #[.int .i64 y.who, .int .i64 y.org, .int .i64 y.len, .bool y.sh] from rfl] at R1 R2
              have p0 := (OLD.out X CX.out.bl).1
              have b0 := BY.out.c0
              have b1 := BY.out.c1
              have b2 := BY.out.c2
              have b3 := BY.out.c3
              have hs1 := slice_h (some ⟨ga, oa, none⟩) (nW + 1) c5 i (by omega) hc5
              have HXX := aside hX
              clear hy hrd olh obx olw o0 hmy P1 P2 hr1 hr2 hX hkl
              subst hwho
              go_wp2_with fail
              rw [← HXX.out]
              go_region_held3 (fun w' => w'.cell? ⟨t.p, 0, none⟩ = some (.slice ha nH hc) ∧ w'.cell? ⟨wr.heap.size, 0, none⟩ = some (.int .i64 y.who) ∧ w'.cell? ⟨wr.heap.size, 1, none⟩ = some (.int .i64 y.org) ∧ w'.cell? ⟨wr.heap.size, 2, none⟩ = some (.int .i64 y.len) ∧ w'.cell? ⟨wr.heap.size, 3, none⟩ = some (.bool y.sh)) (go_keep) ((go_at_call 43; with_reducible refine (R1.out _ (below_dr _)).mono ?_; rintro e w2 ⟨rfl, g5, o5, c5', hC5, hB6, k1, hnf⟩; have k2 := hB6.c0; have k3 := hB6.c1; have k4 := hB6.c2; have k5 := hB6.c3; have R3 := aside (R2.out w2 g5 o5 c5' hC5 hnf hB6); clear hC5 hB6 hnf))
              go_wp2_with fail
              go_region_held3 (fun w' => w'.cell? ⟨wr.heap.size, 0, none⟩ = some (.int .i64 y.who) ∧ w'.cell? ⟨wr.heap.size, 1, none⟩ = some (.int .i64 y.org) ∧ w'.cell? ⟨wr.heap.size, 2, none⟩ = some (.int .i64 y.len) ∧ w'.cell? ⟨wr.heap.size, 3, none⟩ = some (.bool y.sh)) (go_keep) ((go_at_call 43; with_reducible refine R3.out.mono ?_; rintro e w3 ⟨rfl, g6, o6, c6, hC6, hB7⟩; have k6 := hB7.c0; have k7 := hB7.c1; have k8 := hB7.c2; have k9 := hB7.c3; have HC6 := aside hC6; clear hC6 hB7))
              have V0 := HC6.out.rv.c0
              have v0 := V0.1
              have lk := look_met HC6.out.rv.mp l.who hl1 hl2
              have x0 := (OLD.out w3 HC6.out.bl).2.2.1.c0
              clear V0 k1 k2 k3 k4 k5 k6 k7 k8 k9 R1 R2 R3 p0 b0 b1 b2 b3 q0 q1 q2' q3
              by_cases hcon : K4.contains l.who = true
              · rw [if_pos hcon] at lk
                have HD : Aside (dead t.H t.W l) := by
                  have := J4.out.sound l.who (by simpa using hcon)
                  rw [HWW.out] at this
                  exact this
                clear hcon
                go_wp2_with fail
                rw [Exit.noGoto_ret]
                go_ret
                exact ⟨true, rfl, ⟨fun _ => HD.out, fun _ => rfl⟩, below_tr (below_tr BV.out hB5.out) HC6.out.bl⟩
              · rw [if_neg hcon] at lk
                have HN : Aside (l.who ∉ K4) := by simpa [Aside] using hcon
                clear hcon
                go_wp2_with fail
                go_roundg (nW + 1 - (i + 1))
                case measure => omega
                case rel => exact ⟨i + 1, g6, o6, c6, K4, q4, by omega, by go_num, HC6, J4, HN⟩
            · have hwne : (y.who == who) = false := by simpa using hwho
              have J2 := aside (bj_skip hJ.out hy hwho)
              have t3 : ¬ (y.who = who) := hwho
              clear hy hrd olh obx olw o0 hmy
              go_wp2_with fail
              go_roundg (nW + 1 - (i + 1))
              case measure => omega
              case rel => exact ⟨i + 1, g2, o3, c2, K2, q2, by omega, by go_num, aside (hC2.out.below (below_al _ _)), J2, hY⟩
          · obtain rfl : i = nW + 1 := by omega
            have t2 : ¬ (((nW + 1 : Nat) : Int) < (nW : Int) + 1) := by omega
            have I2 : Aside (BI t.H WW l.who M K2 q2) := aside (bi_next (by rw [NWW.out]; exact hJ.out) hY.out)
            go_wp2_with fail
            go_roundg M
            case measure => omega
            case rel => exact ⟨g2, o3, c2, K2, q2, by omega, hC2, I2⟩
end Go.Proofs.Ytfpegmmciphjiaa
