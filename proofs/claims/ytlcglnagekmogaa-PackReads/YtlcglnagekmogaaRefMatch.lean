/- The document's own search for the longest match. -/
import Derived.Test.YtlcglnagekmogaaApp
namespace Go.Proofs.Ytlcglnagekmogaa
open Go.RowKit
attribute [local simp] lcells_nil readB_length bcells_length
set_option maxRecDepth 20000

theorem best_le (b : List UInt8) (p most D : Nat) : (best b p most D).1 ≤ most ∧ (best b p most D).2 ≤ D := by
  rcases best_ok b p most D with h | ⟨h1, h2, h3, h4, h5⟩
  · rw [best_zero _ _ _ _ h]; exact ⟨Nat.zero_le _, Nat.zero_le _⟩
  · exact ⟨h2, h4⟩
theorem best_hit {b : List UInt8} {p most D : Nat} (h : 3 ≤ pre (same b p (D + 1)) most ∧ (best b p most D).1 < pre (same b p (D + 1)) most) : best b p most (D + 1) = (pre (same b p (D + 1)) most, D + 1) := by
  conv => lhs; unfold best
  rw [if_pos h]
theorem best_miss {b : List UInt8} {p most D : Nat} (h : ¬ (3 ≤ pre (same b p (D + 1)) most ∧ (best b p most D).1 < pre (same b p (D + 1)) most)) : best b p most (D + 1) = best b p most D := by
  conv => lhs; unfold best
  rw [if_neg h]
theorem best_most {b : List UInt8} {p most : Nat} : ∀ {D E : Nat}, D ≤ E → (best b p most D).1 = most → best b p most E = best b p most D := by
  intro D E hE
  induction E with
  | zero => intro _; obtain rfl : D = 0 := by omega
            rfl
  | succ E ih =>
    intro h
    by_cases hD : D = E + 1
    · rw [hD]
    · have e := ih (by omega) h
      rw [best_miss (by rw [e]; have := pre_le (same b p (E + 1)) most; omega), e]

set_option maxHeartbeats 4000000 in
theorem refMatch_any (a : Option Addr) (l : List UInt8) (c p : Nat) (w : World) (h : BsAt w a l) (hl : l.length ≤ 65536) (hp : p < l.length) :
    Calls Try.prog 27 #[.slice a l.length c, .int .i64 (p : Int)] w fun e w' => e = .returned (.tuple #[.int .i64 ((mtc l p).1 : Nat), .int .i64 ((mtc l p).2 : Nat)]) ∧ Below w.heap.size w w' := by
  obtain ⟨g, o, rfl, hcell⟩ := bs_plain h (fun h0 => by rw [h0] at hp; simp at hp)
  obtain ⟨m, hm⟩ : ∃ m, m = min 130 (l.length - p) := ⟨_, rfl⟩
  obtain ⟨mn, hmn⟩ : ∃ mn, mn = min 255 p := ⟨_, rfl⟩
  have hm1 : min (130 : Int) ((l.length : Int) - (p : Int)) = (m : Int) := by omega
  have hm2 : min (255 : Int) (p : Int) = (mn : Int) := by omega
  have HMT : Aside (mtc l p = best l p m mn) := by rw [hm, hmn]; exact aside rfl
  have hb1 : 1 ≤ m := by omega
  have hb2 : m ≤ 130 := by omega
  have hb3 : p + m ≤ l.length := by omega
  have hb4 : mn ≤ 255 := by omega
  have hb5 : mn ≤ p := by omega
  have HC := aside hcell
  have HM1 := aside hm1
  have HM2 := aside hm2
  clear h hcell hm hmn hm1 hm2
  go_enter Try.func27, Try.ntmps27
  go_wp2_with ((with_reducible refine wpList_min2 _ rfl _ _ _ rfl (130 : Int) ((l.length : Int) - (p : Int)) (m : Int) ?_ ?_ HM1.out ?_); rfl; rfl)
  go_loopg [4, 5, 7] mn (fun G s4 s5 s7 wr => ∃ D nb bk : Nat, D + G = mn ∧ s4 = .int .i64 (nb : Int) ∧ s5 = .int .i64 (bk : Int) ∧ s7 = .int .i64 ((D : Int) + 1) ∧ nb ≤ m ∧ bk ≤ D ∧ Aside (nb = (best l p m D).1) ∧ Aside (bk = (best l p m D).2) ∧ Aside (Below w.heap.size w wr))
  case atStart => exact ⟨0, 0, 0, by omega, rfl, rfl, rfl, by omega, by omega, aside rfl, aside rfl, aside (Below.refl _ _)⟩
  case round =>
    obtain ⟨D, nb, bk, hDg, rfl, rfl, rfl, hnb, hbk, hN, hK, hB⟩ := hrel
    by_cases hgo : D < mn
    · have t1 : (D : Int) + 1 ≤ (mn : Int) := by omega
      obtain ⟨G, hG⟩ : ∃ G, gk = G + 1 := ⟨gk - 1, by omega⟩
      go_wp2_with ((with_reducible refine wpList_min2 _ rfl _ _ _ rfl (255 : Int) (p : Int) (mn : Int) ?_ ?_ HM2.out ?_); rfl; rfl)
      rename World => V
      go_loopg [8] m (fun G2 s8 wx => ∃ k : Nat, k + G2 = m ∧ s8 = .int .i64 (k : Int) ∧ Aside (∀ i, i < k → same l p (D + 1) i = true) ∧ Aside (Below w.heap.size w wx))
      case atStart => exact ⟨0, by omega, rfl, aside (fun i hi => by omega), hB⟩
      case round =>
        obtain ⟨k, hkg, rfl, hE, hBx⟩ := hrel
        by_cases hk : k < m
        · have t2 : (k : Int) < (m : Int) := by omega
          obtain ⟨i1, hi1⟩ : ∃ i1, i1 = p + k := ⟨_, rfl⟩
          obtain ⟨i2, hi2⟩ : ∃ i2, i2 = p + k - (D + 1) := ⟨_, rfl⟩
          have hI1 : (p : Int) + (k : Int) = (i1 : Int) := by omega
          have hI2 : (i1 : Int) - ((D : Int) + 1) = (i2 : Int) := by omega
          obtain ⟨x, hx⟩ : ∃ x, l[i1]? = some x := ⟨_, List.getElem?_eq_getElem (by omega)⟩
          obtain ⟨y, hy⟩ : ∃ y, l[i2]? = some y := ⟨_, List.getElem?_eq_getElem (by omega)⟩
          have q1 : ∀ d os, (ext wr d os).cell? ⟨g, o + i1, none⟩ = some (.int .u8 (x.toNat : Nat)) := fun d os => ext_cell ((hBx.out.cell (World.block_lt_of_cell? w _ (HC.out i1 x hx))).trans (HC.out i1 x hx)) d os
          have q2 : ∀ d os, (ext wr d os).cell? ⟨g, o + i2, none⟩ = some (.int .u8 (y.toNat : Nat)) := fun d os => ext_cell ((hBx.out.cell (World.block_lt_of_cell? w _ (HC.out i2 y hy))).trans (HC.out i2 y hy)) d os
          have hev : same l p (D + 1) k = (x == y) := by unfold same; rw [← hi2, ← hi1, getD_of hx, getD_of hy]
          have u1 : (i1 : Int) < (l.length : Int) := by omega
          have u2 : (i2 : Int) < (l.length : Int) := by omega
          have u3 : i1 < l.length := by omega
          have u4 : i2 < l.length := by omega
          clear hx hy hi1 hi2
          by_cases hxy : x = y
          · subst hxy
            have HE : Aside (∀ i, i < k + 1 → same l p (D + 1) i = true) := fun i hi => by
              by_cases h : i < k
              · exact hE.out i h
              · obtain rfl : i = k := by omega
                rw [hev]; simp
            clear hev
            go_wp2_with fail
            refine region_ext (by kernel_rfl) (by kernel_rfl) ?_
            repeat (any_goals (first | go_big_quiet_step ((fail)) | quiet_step ((fail))))
            refine wpQuiet_nil ?_
            intro wq hq
            have HB := aside (below_tr hBx.out hq)
            clear hq
            go_wp2_with fail
            go_roundg (m - (k + 1))
            case measure => omega
            case rel => exact ⟨k + 1, by omega, by go_num, HE, HB⟩
          · have hne : ¬ ((x.toNat : Nat) = y.toNat) := byte_ne hxy
            have hne2 : ((x.toNat : Int) == (y.toNat : Int)) = false := by simp; omega
            have HP : Aside (pre (same l p (D + 1)) m = k) := pre_unique (by omega) hE.out (fun _ => by rw [hev]; simpa using hxy)
            clear hev
            go_wp2_with fail
            refine region_ext (by kernel_rfl) (by kernel_rfl) ?_
            repeat (any_goals (first | go_big_quiet_step ((fail)) | quiet_step ((fail))))
            refine wpQuiet_nil ?_
            intro wq hq
            have HB := aside (below_tr hBx.out hq)
            clear hq
            by_cases hh : 3 ≤ k ∧ nb < k
            · have HNW : Aside (best l p m (D + 1) = (k, D + 1)) := by
                have := best_hit (b := l) (p := p) (most := m) (D := D) (by rw [HP.out, ← hN.out]; exact hh)
                rw [HP.out] at this
                exact this
              have v1 : (3 : Int) ≤ (k : Int) := by omega
              have v2 : (nb : Int) < (k : Int) := by omega
              by_cases hkm : k = m
              · exact absurd hkm (by omega)
              · have v3 : ¬ ((k : Int) = (m : Int)) := by omega
                have v3' : ((k : Int) == (m : Int)) = false := by simp; omega
                go_wp2_with fail
                go_roundg G
                case measure => omega
                case rel => exact ⟨D + 1, k, D + 1, by omega, rfl, by go_num, by go_num, by omega, by omega, aside (by rw [HNW.out]), aside (by rw [HNW.out]), HB⟩
            · have HNW : Aside (best l p m (D + 1) = best l p m D) := best_miss (by rw [HP.out, ← hN.out]; exact hh)
              by_cases hkm : nb = m
              · have HEND : Aside (mtc l p = (nb, bk)) := by rw [HMT.out, best_most (by omega : D ≤ mn) (by rw [← hN.out]; exact hkm), hN.out, hK.out]; exact aside rfl
                subst hkm
                by_cases h3 : 3 ≤ k
                · have v1 : (3 : Int) ≤ (k : Int) := by omega
                  have v2 : ¬ ((nb : Int) < (k : Int)) := by omega
                  go_wp2_with fail
                  go_ret2
                  rw [HEND.out]
                  exact ⟨rfl, HB.out⟩
                · have v1 : ¬ ((3 : Int) ≤ (k : Int)) := by omega
                  go_wp2_with fail
                  go_ret2
                  rw [HEND.out]
                  exact ⟨rfl, HB.out⟩
              · have v3 : ¬ ((nb : Int) = (m : Int)) := by omega
                have v3' : ((nb : Int) == (m : Int)) = false := by simp; omega
                by_cases h3 : 3 ≤ k
                · have v1 : (3 : Int) ≤ (k : Int) := by omega
                  have v2 : ¬ ((nb : Int) < (k : Int)) := by omega
                  go_wp2_with fail
                  go_roundg G
                  case measure => omega
                  case rel => exact ⟨D + 1, nb, bk, by omega, rfl, rfl, by go_num, by omega, by omega, aside (by rw [HNW.out]; exact hN.out), aside (by rw [HNW.out]; exact hK.out), HB⟩
                · have v1 : ¬ ((3 : Int) ≤ (k : Int)) := by omega
                  go_wp2_with fail
                  go_roundg G
                  case measure => omega
                  case rel => exact ⟨D + 1, nb, bk, by omega, rfl, rfl, by go_num, by omega, by omega, aside (by rw [HNW.out]; exact hN.out), aside (by rw [HNW.out]; exact hK.out), HB⟩
        · have t2 : ¬ ((k : Int) < (m : Int)) := by omega
          have HP : Aside (pre (same l p (D + 1)) m = k) := by
            have hkm : k = m := by omega
            rw [hkm]
            exact pre_unique (Nat.le_refl _) (fun i hi => hE.out i (by omega)) (fun h => absurd h (Nat.lt_irrefl _))
          go_wp2_with fail
          refine region_ext (by kernel_rfl) (by kernel_rfl) ?_
          repeat (any_goals (first | go_big_quiet_step ((fail)) | quiet_step ((fail))))
          refine wpQuiet_nil ?_
          intro wq hq
          have HB := aside (below_tr hBx.out hq)
          clear hq
          by_cases hh : 3 ≤ k ∧ nb < k
          · have HNW : Aside (best l p m (D + 1) = (k, D + 1)) := by
              have := best_hit (b := l) (p := p) (most := m) (D := D) (by rw [HP.out, ← hN.out]; exact hh)
              rw [HP.out] at this
              exact this
            have v1 : (3 : Int) ≤ (k : Int) := by omega
            have v2 : (nb : Int) < (k : Int) := by omega
            by_cases hkm : k = m
            · have HEND : Aside (mtc l p = (k, D + 1)) := by rw [HMT.out, best_most (by omega : D + 1 ≤ mn) (by rw [HNW.out]; exact hkm)]; exact HNW
              subst hkm
              go_wp2_with fail
              go_ret2
              rw [HEND.out]
              exact ⟨rfl, HB.out⟩
            · have v3 : ¬ ((k : Int) = (m : Int)) := by omega
              have v3' : ((k : Int) == (m : Int)) = false := by simp; omega
              go_wp2_with fail
              go_roundg G
              case measure => omega
              case rel => exact ⟨D + 1, k, D + 1, by omega, rfl, by go_num, by go_num, by omega, by omega, aside (by rw [HNW.out]), aside (by rw [HNW.out]), HB⟩
          · have HNW : Aside (best l p m (D + 1) = best l p m D) := best_miss (by rw [HP.out, ← hN.out]; exact hh)
            by_cases hkm : nb = m
            · have HEND : Aside (mtc l p = (nb, bk)) := by rw [HMT.out, best_most (by omega : D ≤ mn) (by rw [← hN.out]; exact hkm), hN.out, hK.out]; exact aside rfl
              subst hkm
              by_cases h3 : 3 ≤ k
              · have v1 : (3 : Int) ≤ (k : Int) := by omega
                have v2 : ¬ ((nb : Int) < (k : Int)) := by omega
                go_wp2_with fail
                go_ret2
                rw [HEND.out]
                exact ⟨rfl, HB.out⟩
              · have v1 : ¬ ((3 : Int) ≤ (k : Int)) := by omega
                go_wp2_with fail
                go_ret2
                rw [HEND.out]
                exact ⟨rfl, HB.out⟩
            · have v3 : ¬ ((nb : Int) = (m : Int)) := by omega
              have v3' : ((nb : Int) == (m : Int)) = false := by simp; omega
              by_cases h3 : 3 ≤ k
              · have v1 : (3 : Int) ≤ (k : Int) := by omega
                have v2 : ¬ ((nb : Int) < (k : Int)) := by omega
                go_wp2_with fail
                go_roundg G
                case measure => omega
                case rel => exact ⟨D + 1, nb, bk, by omega, rfl, rfl, by go_num, by omega, by omega, aside (by rw [HNW.out]; exact hN.out), aside (by rw [HNW.out]; exact hK.out), HB⟩
              · have v1 : ¬ ((3 : Int) ≤ (k : Int)) := by omega
                go_wp2_with fail
                go_roundg G
                case measure => omega
                case rel => exact ⟨D + 1, nb, bk, by omega, rfl, rfl, by go_num, by omega, by omega, aside (by rw [HNW.out]; exact hN.out), aside (by rw [HNW.out]; exact hK.out), HB⟩
    · have t1 : ¬ ((D : Int) + 1 ≤ (mn : Int)) := by omega
      obtain rfl : D = mn := by omega
      go_wp2_with ((with_reducible refine wpList_min2 _ rfl _ _ _ rfl (255 : Int) (p : Int) (D : Int) ?_ ?_ HM2.out ?_); rfl; rfl)
      go_ret2
      rw [HMT.out, ← hN.out, ← hK.out]
      exact ⟨rfl, hB.out⟩
end Go.Proofs.Ytlcglnagekmogaa
