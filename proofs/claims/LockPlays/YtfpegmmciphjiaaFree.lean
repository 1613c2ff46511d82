/- Free. -/
import Derived.Test.YtfpegmmciphjiaaLeave
namespace Go.Proofs.Ytfpegmmciphjiaa
open Go.RowKit

theorem leave_nil (who : Int) (w : World) : Calls Try.prog 18 #[.pointer none, .int .i64 who] w fun e w' => e = .returned (.slice none 0 0) ∧ w' = w := by
  go_enter Try.func18, Try.ntmps18
  go_wp2
  go_ret
  exact ⟨rfl, rfl⟩

/-- None of the first k is l. -/
def noneOf (l : Lk) (L : List Lk) : Prop := ∀ x ∈ L, same x l = false
theorem noneOf_succ {l x : Lk} {L : List Lk} {k : Nat} (h : noneOf l (L.take k)) (hx : L[k]? = some x) (hn : same x l = false) : noneOf l (L.take (k + 1)) := fun y hy => by
  rw [List.take_add_one, hx] at hy
  rcases List.mem_append.1 hy with hy | hy
  · exact h y hy
  · simp at hy; subst hy; exact hn
theorem eraseP_first : ∀ (L : List Lk) (k : Nat) (l x : Lk), noneOf l (L.take k) → L[k]? = some x → same x l = true → L.eraseP (same · l) = L.eraseIdx k ∧ L.any (same · l) = true
  | [], k, l, x, _, hx, _ => by simp at hx
  | y :: L, 0, l, x, _, hx, hs => by
    simp only [List.getElem?_cons_zero, Option.some.injEq] at hx
    subst hx
    simp [hs]
  | y :: L, k + 1, l, x, hn, hx, hs => by
    have hy : same y l = false := hn y (by simp)
    obtain ⟨h1, h2⟩ := eraseP_first L k l x (fun z hz => hn z (by simp [hz])) (by simpa using hx) hs
    simp [hy, h1, h2]
theorem any_none {l : Lk} {L : List Lk} (h : noneOf l L) : L.any (same · l) = false := by
  rw [List.any_eq_false]; intro x hx; simp [h x hx]

set_option maxHeartbeats 4000000 in
theorem free_any (t : Tb) (l : Lk) (hl : InR l) (w : World) (h : Tab 55 w t) :
    Calls Try.prog 15 #[.pointer (some ⟨t.p, 0, none⟩), l.val] w fun e w' => ∃ a n c, e = .returned (.tuple #[.slice a n c, .int .i64 (freeE t.H l : Nat)]) ∧ ToldP 55 w w' t (freeT t.H t.W l) (.slice a n c) := by
  obtain ⟨ha, hc, hhv, -, -, hls⟩ := h.oh.tel
  have c0 := h.c0
  rw [hhv] at c0
  have hfew := h.few
  have M := aside (mayBe_any l hl)
  have EQ := eql_lk
  obtain ⟨W, hW⟩ : ∃ W, W = w.alloc (.cells #[.int .i64 l.who, .int .i64 l.org, .int .i64 l.len, .bool l.sh] 29) := ⟨_, rfl⟩
  have BW : Aside (Below w.heap.size w W) := by rw [hW]; exact below_al w _
  have BX : Aside (Bx W w.heap.size l.who l.org l.len l.sh) := by rw [hW]; exact bx_new w _ _ _ _
  rw [show l.val = .agg #[.int .i64 l.who, .int .i64 l.org, .int .i64 l.len, .bool l.sh] from rfl] at M ⊢
  have HW := aside hW
  have HT := aside h
  have HLS := aside hls
  have HHV := aside hhv
  obtain ⟨nH, hnH⟩ : ∃ nH, nH = t.H.length := ⟨_, rfl⟩
  have HNH := aside hnH
  rw [← hnH] at c0 hfew
  have hpl := h.lt
  have hn256 : nH ≤ 256 := by omega
  have x0 := BX.out.c0
  have x1 := BX.out.c1
  have x2 := BX.out.c2
  have x3 := BX.out.c3
  rw [hW] at x0 x1 x2 x3
  clear h hls hhv hW hfew hl hnH
  by_cases hm : may l = true
  · rw [hm] at M
    have HM := aside hm
    clear hm
    go_enter Try.func15, Try.ntmps15
    go_wp2_with ((go_at_call 32; refine (M.out _).mono ?_; rintro e w2 ⟨rfl, hb2⟩; have HB2 : Aside (Below w.heap.size w w2) := aside (below_tr (below_al w _) hb2); have HB3 := aside hb2; have y0 := (HB2.out.cell hpl).trans c0; clear hb2))
    rw [← HW.out] at HB3
    have BX2 := aside (BX.out.below HB3.out)
    go_loopg [18] nH (fun G s18 wr => ∃ k : Nat, k + G = nH ∧ s18 = .int .i64 (k : Int) ∧ Aside (noneOf l (t.H.take k)) ∧ Aside (Below w2.heap.size w2 wr))
    case atStart => exact ⟨0, by omega, rfl, aside (fun x hx => by simp at hx), aside (Below.refl _ _)⟩
    case round =>
      obtain ⟨k, hkG, rfl, hN, hB⟩ := hrel
      by_cases hk : k < nH
      · have t1 : (k : Int) < (nH : Int) := by omega
        obtain ⟨y, hy⟩ : ∃ y, t.H[k]? = some y := ⟨_, List.getElem?_eq_getElem (by have := HNH.out; omega)⟩
        obtain ⟨g, o, rfl, hrd⟩ := HLS.out (fun h0 => by have := HNH.out; rw [h0] at this; simp at this; omega)
        have HBr := aside (below_tr HB2.out hB.out)
        obtain ⟨q0, q1, q2, q3⟩ := (hrd.below HBr.out).lock hy
        have BX3 := (BX2.out.below hB.out).below (below_al wr (.cells #[.int .i64 y.who, .int .i64 y.org, .int .i64 y.len, .bool y.sh] 29))
        have r0 := BX3.c0
        have r1 := BX3.c1
        have r2 := BX3.c2
        have r3 := BX3.c3
        have HY := aside hy
        have e1 := fun V => eql_lk y l V
        clear hy hrd BX3 EQ
        by_cases hs : same y l = true
        · rw [hs] at e1
          have HE := aside (eraseP_first t.H k l y hN.out HY.out hs)
          clear hs
          obtain ⟨V1, hV1⟩ : ∃ V1, V1 = wr.alloc (.cells #[.int .i64 y.who, .int .i64 y.org, .int .i64 y.len, .bool y.sh] 29) := ⟨_, rfl⟩
          have HBV : Aside (Below w.heap.size w V1) := by rw [hV1]; exact below_tr HBr.out (below_al _ _)
          have T1 := HT.out.below HBV.out
          have C1 : Aside (Calls Try.prog 33 #[t.hv, .int .i64 (k : Int)] V1 fun e w1 => ∃ a1 n1 c1 W, e = .returned (.slice a1 n1 c1) ∧ Turn 0 V1 w1 W t ⟨t.p, .slice a1 n1 c1, t.wv, freeH t.H l, t.W⟩ a1 n1 c1 t.hv t.wv) :=
            (without_any t.hv t.H k V1 T1.oh (by have := HNH.out; omega) (by have := HNH.out; omega)).mono fun _ _ ⟨a1, c1, he, ho, hu, hb⟩ => ⟨a1, _, c1, _, he, turn_held T1 (by unfold freeH; rw [HE.out.1]; exact ho) hu hb (by unfold freeH; exact List.eraseP_sublist)⟩
          have s0 : V1.cell? ⟨t.p, 0, none⟩ = some (.slice (some ⟨g, o, none⟩) nH hc) := (HBV.out.cell hpl).trans c0
          rw [HHV.out, ← HNH.out, hV1] at C1
          rw [hV1] at s0 HBV
          clear T1 hV1
          go_wp2_with (first
            | (go_at_call 33; with_reducible refine C1.out.mono ?_; rintro e w1 ⟨a1, n1, c1, W1, rfl, ht⟩; have y0 := ht.y0; have yf := ht.f; have HE1 := aside ht.eq; have HN1 := aside ht.nx; have C2 := aside (goOn_told _ W1 ht.nx.tab); simp only at C2; rw [HE1.out] at C2; clear ht)
            | (go_at_call 34; with_reducible refine C2.out.mono ?_; rintro e w3 ⟨a3, n3, c3, rfl, ht⟩; have HT3 := aside ht; clear ht))
          go_ret2
          refine ⟨a3, n3, c3, ?_, ?_⟩
          · have hE : freeE t.H l = 0 := by unfold freeE; rw [if_neg (by rw [HM.out]; simp), if_pos HE.out.2]
            rw [hE]; rfl
          · have h3 := HT3.out
            rw [← HE1.out] at h3
            have hE : freeE t.H l = 0 := by unfold freeE; rw [if_neg (by rw [HM.out]; simp), if_pos HE.out.2]
            unfold freeT
            rw [if_pos hE]
            exact h3.after ((Nx.of_below HT.out HBV.out).trans HN1.out)
        · have hs0 : same y l = false := by simpa using hs
          rw [hs0] at e1
          have HN2 := aside (noneOf_succ hN.out HY.out hs0)
          clear hs hs0
          go_wp2_with fail
          go_roundg (nH - (k + 1))
          case measure => omega
          case rel => exact ⟨k + 1, by omega, by go_num, HN2, aside (below_tr hB.out (below_al _ _))⟩
      · obtain rfl : k = nH := by omega
        have t1 : ¬ ((k : Int) < (k : Int)) := by omega
        go_wp2_with fail
        go_ret2
        have hnn := hN.out
        rw [HNH.out, List.take_length] at hnn
        have hE : freeE t.H l = 192 := by unfold freeE; rw [if_neg (by rw [HM.out]; simp), if_neg (by rw [any_none hnn]; simp)]
        refine ⟨none, 0, 0, by rw [hE]; rfl, t, Nx.of_below HT.out (below_tr HB2.out hB.out), ?_, ?_, ?_, by simp [Value.ownBlock]⟩
        all_goals (unfold freeT; rw [hE, if_neg (by decide)])
        exact own_none _
  · have hm0 : may l = false := by simpa using hm
    rw [hm0] at M
    have hE : freeE t.H l = 2 := by unfold freeE; rw [if_pos hm0]
    have HE := aside hE
    rw [hE]
    clear hm hm0 hE
    go_enter Try.func15, Try.ntmps15
    go_wp2_with ((go_at_call 32; refine (M.out _).mono ?_; rintro e w2 ⟨rfl, hb2⟩; have HB2 : Aside (Below w.heap.size w w2) := aside (below_tr (below_al w _) hb2); clear hb2))
    go_ret2
    refine ⟨none, 0, 0, rfl, t, Nx.of_below HT.out HB2.out, ?_, ?_, ?_, by simp [Value.ownBlock]⟩
    all_goals (unfold freeT; rw [HE.out, if_neg (by decide)])
    exact own_none _
theorem free_nil (l : Lk) (w : World) : Calls Try.prog 15 #[.pointer none, l.val] w fun e w' => e = .returned (.tuple #[.slice none 0 0, .int .i64 1]) ∧ Below w.heap.size w w' := by
  rw [show l.val = .agg #[.int .i64 l.who, .int .i64 l.org, .int .i64 l.len, .bool l.sh] from rfl]
  go_enter Try.func15, Try.ntmps15
  go_wp2
  go_ret2
  exact ⟨rfl, below_al w _⟩
end Go.Proofs.Ytfpegmmciphjiaa
