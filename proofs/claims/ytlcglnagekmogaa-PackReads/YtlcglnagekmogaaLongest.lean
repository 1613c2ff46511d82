/- pack.longest: the longest match that could stand at a place. -/
import Derived.Test.YtlcglnagekmogaaAlike
import Derived.Test.YtlcglnagekmogaaUnp
namespace Go.Proofs.Ytlcglnagekmogaa
open Go.RowKit
attribute [local simp] lcells_nil readB_length bcells_length
set_option maxRecDepth 20000

theorem pre_congr {f g : Nat → Bool} : ∀ {m : Nat}, (∀ i, i < m → f i = g i) → pre f m = pre g m
  | 0, _ => rfl
  | m + 1, h => by
    have ih := pre_congr (m := m) (fun i hi => h i (by omega))
    unfold pre
    rw [ih, h m (by omega)]
theorem getD_sub {l : List UInt8} {j i k : Nat} (h : i + k < j) : ((l.take j).drop i).getD k 0 = l.getD (i + k) 0 := by
  rw [List.getD_eq_getElem?_getD, List.getElem?_drop, List.getElem?_take, if_pos h, ← List.getD_eq_getElem?_getD]
/-- What stands d ahead, and what stands there. -/
theorem eqs_same {l : List UInt8} {p d m k : Nat} (hd : d ≤ p) (hk : k < m) : eqs ((l.take (p - d + m)).drop (p - d)) ((l.take (p + m)).drop p) k = same l p d k := by
  unfold eqs same
  rw [getD_sub (by omega), getD_sub (by omega), show p - d + k = p + k - d by omega]
  exact Bool.beq_comm

theorem pre_ge {f : Nat → Bool} {m k : Nat} (h : ∀ i, i < k → f i = true) (hk : k ≤ m) : k ≤ pre f m := by
  rcases Nat.lt_or_ge (pre f m) k with h1 | h1
  · have := pre_end f m (by omega)
    rw [h _ h1] at this
    cases this
  · exact h1
theorem pre_lt {f : Nat → Bool} {m k : Nat} (h : f k = false) : pre f m ≤ k := by
  rcases Nat.lt_or_ge k (pre f m) with h1 | h1
  · have := pre_all f m k h1
    rw [h] at this
    cases this
  · exact h1

theorem heap_alloc_first (w : World) (a b : Array Value) (s t : TypeId) : ((w.alloc (.cells a s)).alloc (.cells b t)).heap[w.heap.size]? = some (.cells a s (0, 0)) :=
  ((below_al (w.alloc (.cells a s)) _).block _ (by simp)).trans (heap_alloc_new w _)

def mcells (x y : Nat) : Obj := .cells #[.int .i64 (x : Int), .int .i64 (y : Int)] 103 (0, 0)
theorem mcell0 {w : World} {b x y : Nat} (h : w.heap[b]? = some (mcells x y)) : w.cell? ⟨b, 0, none⟩ = some (.int .i64 (x : Int)) := by rw [cell_of_row w b 0 _ _ _ h]; rfl
theorem mcell1 {w : World} {b x y : Nat} (h : w.heap[b]? = some (mcells x y)) : w.cell? ⟨b, 1, none⟩ = some (.int .i64 (y : Int)) := by rw [cell_of_row w b 1 _ _ _ h]; rfl

set_option maxHeartbeats 4000000 in
theorem longest_any (a : Option Addr) (l : List UInt8) (c p : Nat) (w : World) (h : BsAt w a l) (hlc : l.length ≤ c) (_hc : c ≤ 9223372036854775807) (hl : l.length ≤ 65536) (hp : p < l.length) :
    Calls Try.prog 45 #[.slice a l.length c, .int .i64 (p : Int)] w fun e w' => e = .returned (.agg #[.int .i64 ((mtc l p).1 : Nat), .int .i64 ((mtc l p).2 : Nat)]) ∧ Below w.heap.size w w' := by
  obtain ⟨m, hm⟩ : ∃ m, m = min 130 (l.length - p) := ⟨_, rfl⟩
  obtain ⟨mn, hmn⟩ : ∃ mn, mn = min p 255 := ⟨_, rfl⟩
  obtain ⟨q, hq⟩ : ∃ q, q = p + m := ⟨_, rfl⟩
  have hmin1 : min ((p : Int) + 130) (l.length : Int) = (q : Int) := by omega
  have hmin2 : min (p : Int) 255 = (mn : Int) := by omega
  obtain ⟨aR, s1, hbR⟩ := slice_lh a l c p q (by omega) (by omega) hlc
  have hRl : ((l.take q).drop p).length = m := by rw [List.length_drop, List.length_take]; omega
  rw [hRl] at s1
  have HBS := aside h
  have HBR := aside (hbR w h)
  have HM := aside hm
  have HMN := aside hmn
  have HQ := aside hq
  have HM1 := aside hmin1
  have HM2 := aside hmin2
  have HRL := aside hRl
  have hm1 : 1 ≤ m := by omega
  have hm2 : m ≤ 130 := by omega
  clear h hbR hm hmn hq hmin1 hmin2 hRl
  go_enter Try.func45, Try.ntmps45
  go_wp2
  go_step3
  go_wp2_with ((with_reducible refine wpList_min2 _ rfl _ _ _ rfl ((p : Int) + 130) (l.length : Int) (q : Int) ?_ ?_ HM1.out ?_); rfl; rfl)
  have HI0 : Aside (((w.alloc (.cells #[.int .i64 0, .int .i64 0] 103)).alloc (.cells #[.int .i64 2, .int .i64 0] 103)).heap[w.heap.size]? = some (mcells 0 0)) := heap_alloc_first w _ _ _ _
  have HI1 : Aside (((w.alloc (.cells #[.int .i64 0, .int .i64 0] 103)).alloc (.cells #[.int .i64 2, .int .i64 0] 103)).heap[w.heap.size + 1]? = some (mcells 2 0)) := heap_alloc2_new w _ _
  have HIB := aside (below_tr (below_al w (.cells #[.int .i64 0, .int .i64 0] 103)) (below_al _ (.cells #[.int .i64 2, .int .i64 0] 103)))
  go_step3
  go_wp2
  go_loopg [7] mn (fun G s7 wr => ∃ D : Nat, D + G = mn ∧ s7 = .int .i64 ((D : Int) + 1) ∧ Aside (wr.heap[w.heap.size]? = some (mcells 0 0)) ∧ Aside (wr.heap[w.heap.size + 1]? = some (mcells (srch l p m D).1 (srch l p m D).2)) ∧ Aside (Below w.heap.size w wr))
  case atStart => exact ⟨0, by omega, rfl, HI0, HI1, HIB⟩
  case round =>
    obtain ⟨D, hDg, rfl, hR0, hR1, hB⟩ := hrel
    obtain ⟨L, hL⟩ : ∃ L, L = (srch l p m D).1 := ⟨_, rfl⟩
    obtain ⟨Bk, hBk⟩ : ∃ Bk, Bk = (srch l p m D).2 := ⟨_, rfl⟩
    have hR1' := hR1.out
    rw [← hL, ← hBk] at hR1'
    have c0 := mcell0 hR1'
    have c1 := mcell1 hR1'
    have r0 := mcell0 hR0.out
    have r1 := mcell1 hR0.out
    have hbd := srch_ge l p m D
    rw [← hL, ← hBk] at hbd
    have hmn2 : mn ≤ 255 := by have := HMN.out; omega
    have HS0 : Aside (wr.heap[w.heap.size]? = some (.cells #[.int .i64 0, .int .i64 0] 103 (0, 0))) := hR0.out
    by_cases hgo : D < mn ∧ L < m
    · obtain ⟨hD, hLm⟩ := hgo
      have t1 : (D : Int) + 1 ≤ (mn : Int) := by omega
      have t2 : (L : Int) < (m : Int) := by omega
      have hmp : mn ≤ p := by have := HMN.out; omega
      have hqn : p + m ≤ l.length := by have := HM.out; omega
      obtain ⟨f, hf⟩ : ∃ f, f = p - (D + 1) := ⟨_, rfl⟩
      obtain ⟨en, hen⟩ : ∃ en, en = f + m := ⟨_, rfl⟩
      have hf1 : (p : Int) - ((D : Int) + 1) = (f : Int) := by omega
      have he1 : (f : Int) + (m : Int) = (en : Int) := by omega
      obtain ⟨aA, s2, hbA⟩ := slice_lhm a l c f en (by omega) (by omega) hlc
      have hAl : ((l.take en).drop f).length = m := by rw [List.length_drop, List.length_take]; omega
      have HSM : Aside (∀ k, k < m → eqs ((l.take en).drop f) ((l.take q).drop p) k = same l p (D + 1) k) := fun k hk => by
        have := eqs_same (l := l) (p := p) (d := D + 1) (m := m) (k := k) (by omega) hk
        rw [hen, hf, HQ.out]
        exact this
      have HBA := aside (hbA w HBS.out)
      have HAL := aside hAl
      rw [hAl] at s2
      have hfb : f + 65536 ≤ 131072 ∧ en ≤ 65536 := by omega
      generalize (l.take en).drop f = lA at *
      generalize (l.take q).drop p = lR at *
      have hL1 : (L : Int) + 1 = ((L + 1 : Nat) : Int) := by omega
      have HL := aside hL
      have HBk := aside hBk
      clear hL hBk hL1 hf hen hbA hAl hR1'
      have HSR : Aside (wr.heap[w.heap.size + 1]? = some (.cells #[.int .i64 (L : Int), .int .i64 (Bk : Int)] 103 (0, 0))) := by
        have := hR1.out
        rw [← HL.out, ← HBk.out] at this
        exact this
      go_wp2_with ((with_reducible refine wpList_min2 _ rfl _ _ _ rfl (p : Int) 255 (mn : Int) ?_ ?_ HM2.out ?_); rfl; rfl)
      obtain ⟨G, hG⟩ : ∃ G, gk = G + 1 := ⟨gk - 1, by omega⟩
      have hwl := hB.out.size
      have hlt1 : w.heap.size + 1 < wr.heap.size := (Array.getElem?_eq_some_iff.1 HSR.out).1
      clear c0 c1 r0 r1 hR1
      rename World => V
      go_loopg [49] (L + 1) (fun G2 s49 wx => ∃ k : Nat, k + G2 = L + 1 ∧ s49 = .int .i64 (k : Int) ∧ Aside (∀ i, i < k → same l p (D + 1) i = true) ∧ Aside (Below V.heap.size V wx))
      case atStart => exact ⟨0, by omega, rfl, aside (fun i hi => by omega), aside (Below.refl _ _)⟩
      case round =>
        obtain ⟨k, hkg, rfl, hE, hBx⟩ := hrel
        have HBW := aside (below_tr hB.out hBx.out)
        have HS0x : Aside (wr.heap[w.heap.size]? = some (mcells 0 0)) := (hBx.out.block _ (by omega)).trans HS0.out
        have HSRx : Aside (wr.heap[w.heap.size + 1]? = some (.cells #[.int .i64 (L : Int), .int .i64 (Bk : Int)] 103 (0, 0))) := (hBx.out.block _ hlt1).trans HSR.out
        by_cases hk : k < L + 1
        · have t3 : (k : Int) < (L : Int) + 1 := by omega
          have tk : (k : Int) < (m : Int) := by omega
          obtain ⟨g1, o1, rfl, hc1⟩ := bs_plain (HBA.out.below HBW.out) (fun h0 => by have := HAL.out; rw [h0] at this; simp at this; omega)
          obtain ⟨g2, o2, rfl, hc2⟩ := bs_plain (HBR.out.below HBW.out) (fun h0 => by have := HRL.out; rw [h0] at this; simp at this; omega)
          obtain ⟨x, hx⟩ : ∃ x, lA[k]? = some x := ⟨_, List.getElem?_eq_getElem (by have := HAL.out; omega)⟩
          obtain ⟨y, hy⟩ : ∃ y, lR[k]? = some y := ⟨_, List.getElem?_eq_getElem (by have := HRL.out; omega)⟩
          have q1 : ∀ d os, (ext wr d os).cell? ⟨g1, o1 + k, none⟩ = some (.int .u8 (x.toNat : Nat)) := fun d os => ext_cell (hc1 k x hx) d os
          have q2 : ∀ d os, (ext wr d os).cell? ⟨g2, o2 + k, none⟩ = some (.int .u8 (y.toNat : Nat)) := fun d os => ext_cell (hc2 k y hy) d os
          have hev : same l p (D + 1) k = (x == y) := by rw [← HSM.out k (by omega)]; unfold eqs; rw [getD_of hx, getD_of hy]
          clear hc1 hc2 hx hy
          by_cases hxy : x = y
          · subst hxy
            have HE : Aside (∀ i, i < k + 1 → same l p (D + 1) i = true) := fun i hi => by
              by_cases h : i < k
              · exact hE.out i h
              · obtain rfl : i = k := by omega
                rw [hev]; simp
            clear hev
            go_wp2_with fail
            refine region_ext (by kernel_rfl) (by kernel_rfl) ?_
            repeat (any_goals (first | go_big_quiet_step ((fail)) | quiet_step ((fail))))
            refine wpQuiet_nil ?_
            intro wq hq
            have HB := aside (below_tr hBx.out hq)
            clear hq
            go_wp2_with fail
            go_roundg (L - k)
            case measure => omega
            case rel => exact ⟨k + 1, by omega, by go_num, HE, HB⟩
          · have hne : ¬ ((x.toNat : Nat) = y.toNat) := byte_ne hxy
            have hne2 : ((x.toNat : Int) == (y.toNat : Int)) = false := by simp; omega
            have hprek : pre (same l p (D + 1)) m ≤ k := pre_lt (by rw [hev]; simpa using hxy)
            have HP : Aside (srch l p m (D + 1) = srch l p m D) := srch_miss (by rw [← HL.out]; omega)
            clear hev hprek
            go_wp2_with fail
            refine region_ext (by kernel_rfl) (by kernel_rfl) ?_
            repeat (any_goals (first | go_big_quiet_step ((fail)) | quiet_step ((fail))))
            refine wpQuiet_nil ?_
            intro wq hq
            have HS0q : Aside (wq.heap[w.heap.size]? = some (mcells 0 0)) := (hq.block _ (by have := hBx.out.size; omega)).trans HS0x.out
            have HSRq : Aside (wq.heap[w.heap.size + 1]? = some (mcells (srch l p m (D + 1)).1 (srch l p m (D + 1)).2)) := by
              rw [HP.out, ← HL.out, ← HBk.out]
              exact (hq.block _ (by have := hBx.out.size; omega)).trans HSRx.out
            have HB := aside (below_tr HBW.out hq)
            clear hq
            go_wp2_with fail
            go_roundg G
            case measure => omega
            case rel => exact ⟨D + 1, by omega, by go_num, HS0q, HSRq, HB⟩
        · have t3 : ¬ ((k : Int) < (L : Int) + 1) := by omega
          have HAK := aside (alike_any aA aR lA lR m (c - p) wr (HBA.out.below HBW.out) (HBR.out.below HBW.out) (by rw [HAL.out, HRL.out]) (by rw [HAL.out]; omega))
          rw [HAL.out, HRL.out] at HAK
          have hpre : pre (eqs lA lR) m = pre (same l p (D + 1)) m := pre_congr fun i hi => HSM.out i hi
          rw [hpre] at HAK
          have hge := pre_ge (f := same l p (D + 1)) (m := m) (k := L + 1) (fun i hi => hE.out i (by omega)) (by omega)
          have HP : Aside (srch l p m (D + 1) = (pre (same l p (D + 1)) m, D + 1)) := srch_hit (by rw [← HL.out]; omega)
          generalize pre (same l p (D + 1)) m = pr at *
          clear hpre hge
          go_wp2_with fail
          refine HAK.out.mono ?_
          rintro e w2 ⟨rfl, hb2⟩
          have HSR2 : Aside (w2.heap[w.heap.size + 1]? = some (.cells #[.int .i64 (L : Int), .int .i64 (Bk : Int)] 103 (0, 0))) := (hb2.block _ (by have := hBx.out.size; omega)).trans HSRx.out
          have HS02 : Aside ((w2.setRow (w.heap.size + 1) #[.int .i64 (pr : Int), .int .i64 ((D : Int) + 1)]).heap[w.heap.size]? = some (mcells 0 0)) := (setRow_other _ _ _ _ (by omega)).trans ((hb2.block _ (by have := hBx.out.size; omega)).trans HS0x.out)
          have HSR3 : Aside ((w2.setRow (w.heap.size + 1) #[.int .i64 (pr : Int), .int .i64 ((D : Int) + 1)]).heap[w.heap.size + 1]? = some (mcells (srch l p m (D + 1)).1 (srch l p m (D + 1)).2)) := by
            rw [HP.out]
            exact setRow_heap w2 _ _ _ _ _ HSR2.out
          have HB2 : Aside (Below w.heap.size w (w2.setRow (w.heap.size + 1) #[.int .i64 (pr : Int), .int .i64 ((D : Int) + 1)])) := (below_tr HBW.out hb2).trans ((upd_setRow (F := fun j => j = w.heap.size + 1) w2 _ _ rfl).below (below_tr HBW.out hb2).size (fun q hq => by omega))
          clear hb2
          go_wp2_with ((with_reducible refine wpList_store_row rfl 103 _ _ rfl (w.heap.size + 1) #[.int .i64 (pr : Int), .int .i64 ((D : Int) + 1)] ?_ ?_ 103 _ HSR2.out ?_ ?_ ?_ ?_); kernel_rfl; kernel_rfl; kernel_rfl; kernel_rfl; kernel_rfl)
          go_roundg G
          case measure => omega
          case rel => exact ⟨D + 1, by omega, by go_num, HS02, HSR3, HB2⟩
    · have HS : Aside (srch l p (min 130 (l.length - p)) (min 255 p) = srch l p m D) := by
        have e := HM.out
        have e2 := HMN.out
        rw [← e, show min 255 p = mn by omega]
        by_cases hD : D = mn
        · rw [hD]; exact aside rfl
        · exact srch_most (by omega) (by rw [← hL]; omega)
      have HBE : ∀ x y : Nat, Aside (Below w.heap.size w (wr.setRow w.heap.size #[.int .i64 (x : Int), .int .i64 (y : Int)])) := fun x y => upd_new hB.out (upd_setRow wr w.heap.size _ rfl)
      by_cases hz : Bk = 0
      · have HZ : Aside (mtc l p = (0, 0)) := srch_mtc (by rw [HS.out, ← hBk]; exact hz)
        subst hz
        have HBE0 := HBE 0 0
        clear HBE
        by_cases hD : D < mn
        · have t1 : (D : Int) + 1 ≤ (mn : Int) := by omega
          have t2 : ¬ ((L : Int) < (m : Int)) := by omega
          clear hL hBk hbd hgo hR1'
          go_wp2_with (first
            | ((with_reducible refine wpList_min2 _ rfl _ _ _ rfl (p : Int) 255 (mn : Int) ?_ ?_ HM2.out ?_); rfl; rfl)
            | ((with_reducible refine wpList_store_row rfl 103 _ _ rfl w.heap.size #[.int .i64 0, .int .i64 0] ?_ ?_ 103 _ HS0.out ?_ ?_ ?_ ?_); kernel_rfl; kernel_rfl; kernel_rfl; kernel_rfl; kernel_rfl))
          refine bodyPost_ret (results_cell_row rfl _ _ w.heap.size 103 _ (0, 0) _ rfl (setRow_heap wr _ _ _ _ _ HS0.out) Try.underlying103 rfl (by kernel_rfl)) rfl ?_
          rw [HZ.out]
          exact ⟨rfl, HBE0.out⟩
        · have t1 : ¬ ((D : Int) + 1 ≤ (mn : Int)) := by omega
          clear hL hBk hbd hgo hR1'
          go_wp2_with (first
            | ((with_reducible refine wpList_min2 _ rfl _ _ _ rfl (p : Int) 255 (mn : Int) ?_ ?_ HM2.out ?_); rfl; rfl)
            | ((with_reducible refine wpList_store_row rfl 103 _ _ rfl w.heap.size #[.int .i64 0, .int .i64 0] ?_ ?_ 103 _ HS0.out ?_ ?_ ?_ ?_); kernel_rfl; kernel_rfl; kernel_rfl; kernel_rfl; kernel_rfl))
          refine bodyPost_ret (results_cell_row rfl _ _ w.heap.size 103 _ (0, 0) _ rfl (setRow_heap wr _ _ _ _ _ HS0.out) Try.underlying103 rfl (by kernel_rfl)) rfl ?_
          rw [HZ.out]
          exact ⟨rfl, HBE0.out⟩
      · have HZ : Aside (mtc l p = (L, Bk)) := by
          have := srch_mtc' (b := l) (p := p) (by rw [HS.out, ← hBk]; exact hz)
          rw [this, HS.out, hL, hBk]
          exact aside rfl
        have t0 : ¬ ((Bk : Int) = 0) := by omega
        have t0' : ((Bk : Int) == 0) = false := by simp; omega
        have HBE0 := HBE L Bk
        clear HBE
        by_cases hD : D < mn
        · have t1 : (D : Int) + 1 ≤ (mn : Int) := by omega
          have t2 : ¬ ((L : Int) < (m : Int)) := by omega
          clear hL hBk hbd hgo hR1'
          go_wp2_with (first
            | ((with_reducible refine wpList_min2 _ rfl _ _ _ rfl (p : Int) 255 (mn : Int) ?_ ?_ HM2.out ?_); rfl; rfl)
            | ((with_reducible refine wpList_store_row rfl 103 _ _ rfl w.heap.size #[.int .i64 (L : Int), .int .i64 (Bk : Int)] ?_ ?_ 103 _ HS0.out ?_ ?_ ?_ ?_); kernel_rfl; kernel_rfl; kernel_rfl; kernel_rfl; kernel_rfl))
          refine bodyPost_ret (results_cell_row rfl _ _ w.heap.size 103 _ (0, 0) _ rfl (setRow_heap wr _ _ _ _ _ HS0.out) Try.underlying103 rfl (by kernel_rfl)) rfl ?_
          rw [HZ.out]
          exact ⟨rfl, HBE0.out⟩
        · have t1 : ¬ ((D : Int) + 1 ≤ (mn : Int)) := by omega
          clear hL hBk hbd hgo hR1'
          go_wp2_with (first
            | ((with_reducible refine wpList_min2 _ rfl _ _ _ rfl (p : Int) 255 (mn : Int) ?_ ?_ HM2.out ?_); rfl; rfl)
            | ((with_reducible refine wpList_store_row rfl 103 _ _ rfl w.heap.size #[.int .i64 (L : Int), .int .i64 (Bk : Int)] ?_ ?_ 103 _ HS0.out ?_ ?_ ?_ ?_); kernel_rfl; kernel_rfl; kernel_rfl; kernel_rfl; kernel_rfl))
          refine bodyPost_ret (results_cell_row rfl _ _ w.heap.size 103 _ (0, 0) _ rfl (setRow_heap wr _ _ _ _ _ HS0.out) Try.underlying103 rfl (by kernel_rfl)) rfl ?_
          rw [HZ.out]
          exact ⟨rfl, HBE0.out⟩
end Go.Proofs.Ytlcglnagekmogaa
