/- pack.alike: how many bytes two stretches begin with that are the same. -/
import Derived.Test.YtlcglnagekmogaaRepeat
import Derived.Deep.LoopGhost
import Derived.ScopeJumps
namespace Go.Proofs.Ytlcglnagekmogaa
open Go.RowKit
attribute [local simp] lcells_nil readB_length bcells_length
set_option maxRecDepth 20000

def eqs (l1 l2 : List UInt8) (i : Nat) : Bool := l1.getD i 0 == l2.getD i 0
theorem getD_of {l : List UInt8} {i : Nat} {x : UInt8} (h : l[i]? = some x) : l.getD i 0 = x := by rw [List.getD_eq_getElem?_getD, h]; rfl
theorem byte_ne {x y : UInt8} (h : x ≠ y) : ¬ ((x.toNat : Nat) = y.toNat) := fun e => h (UInt8.toNat_inj.1 e)

/-- b[i:j:j] -/
theorem slice_lhm (a : Option Addr) (l : List UInt8) (c i j : Nat) (hij : i ≤ j) (hj : j ≤ l.length) (hc : l.length ≤ c) :
    ∃ a', (∀ W, (Instr.slice 22 (.slice a l.length c) (some (.int .i64 (i : Int))) (some (.int .i64 (j : Int))) (some (.int .i64 (j : Int)))).run Try.prog W = .ok (.slice a' ((l.take j).drop i).length ((l.take j).drop i).length) W) ∧ ∀ w, BsAt w a l → BsAt w a' ((l.take j).drop i) := by
  refine ⟨if j = i then a else a.map (·.add (i * 1)), fun W => ?_, fun w h => sliced_bs h hij hj (Nat.le_refl _)⟩
  rw [run_slice_lhm W 22 a l.length c elem22 .i64 .i64 .i64 _ _ _ (by omega) (by omega) (by omega) (by omega), size22]
  simp only [Result.andThen, sliced, Int.toNat_natCast, List.length_drop, List.length_take, Nat.min_eq_left hj]

set_option maxHeartbeats 2000000 in
theorem alike_any (a1 a2 : Option Addr) (l1 l2 : List UInt8) (c1 c2 : Nat) (w : World) (h1 : BsAt w a1 l1) (h2 : BsAt w a2 l2) (hl : l2.length = l1.length) (hb : l1.length ≤ 9223372036854775807) :
    Calls Try.prog 59 #[.slice a1 l1.length c1, .slice a2 l2.length c2] w fun e w' => e = .returned (.int .i64 (pre (eqs l1 l2) l1.length : Nat)) ∧ Below w.heap.size w w' := by
  have H1 := aside h1
  have H2 := aside h2
  clear h1 h2
  rw [hl]
  have HL := aside hl
  clear hl
  go_enter Try.func59, Try.ntmps59
  go_wp2_with fail
  go_loopw [8] (fun s8 wr => ∃ k : Nat, k ≤ l1.length ∧ s8 = .int .i64 (k : Int) ∧ Aside (∀ i, i < k → eqs l1 l2 i = true) ∧ Aside (Below w.heap.size w wr)) (fun s8 _ => l1.length - (intOf s8).toNat)
  case atStart => exact ⟨0, Nat.zero_le _, rfl, aside (fun i hi => by omega), aside (Below.refl _ _)⟩
  case round =>
    obtain ⟨k, hk, rfl, hE, hB⟩ := hrel
    by_cases hlt : k < l1.length
    · have t1 : (k : Int) < (l1.length : Int) := by omega
      obtain ⟨g1, o1, rfl, hc1⟩ := bs_plain (H1.out.below hB.out) (fun h0 => by rw [h0] at hlt; simp at hlt)
      obtain ⟨g2, o2, rfl, hc2⟩ := bs_plain (H2.out.below hB.out) (fun h0 => by have := HL.out; rw [h0] at this; simp at this; omega)
      obtain ⟨x, hx⟩ : ∃ x, l1[k]? = some x := ⟨_, List.getElem?_eq_getElem hlt⟩
      obtain ⟨y, hy⟩ : ∃ y, l2[k]? = some y := ⟨_, List.getElem?_eq_getElem (by have := HL.out; omega)⟩
      have q1 : ∀ d os, (ext wr d os).cell? ⟨g1, o1 + k, none⟩ = some (.int .u8 (x.toNat : Nat)) := fun d os => ext_cell (hc1 k x hx) d os
      have q2 : ∀ d os, (ext wr d os).cell? ⟨g2, o2 + k, none⟩ = some (.int .u8 (y.toNat : Nat)) := fun d os => ext_cell (hc2 k y hy) d os
      have hev : eqs l1 l2 k = (x == y) := by unfold eqs; rw [getD_of hx, getD_of hy]
      clear hc1 hc2
      by_cases hxy : x = y
      · subst hxy
        have HE : Aside (∀ i, i < k + 1 → eqs l1 l2 i = true) := fun i hi => by
          by_cases h : i < k
          · exact hE.out i h
          · obtain rfl : i = k := by omega
            rw [hev]; simp
        clear hev hx hy
        go_wp2_with fail
        refine region_ext (by kernel_rfl) (by kernel_rfl) ?_
        repeat (any_goals (first | go_big_quiet_step ((fail)) | quiet_step ((fail))))
        refine wpQuiet_nil ?_
        intro wq hq
        have HB := aside (below_tr hB.out hq)
        clear hq
        go_wp2_with fail
        go_roundw
        case rel => exact ⟨k + 1, by omega, by go_num, HE, HB⟩
        case measure => simp [intOf]; omega
      · have hne : ¬ ((x.toNat : Nat) = y.toNat) := byte_ne hxy
        have hne2 : ((x.toNat : Int) == (y.toNat : Int)) = false := by simp; omega
        have HP : Aside (pre (eqs l1 l2) l1.length = k) := pre_unique hk hE.out (fun _ => by rw [hev]; simpa using hxy)
        clear hev hx hy
        go_wp2_with fail
        refine region_ext (by kernel_rfl) (by kernel_rfl) ?_
        repeat (any_goals (first | go_big_quiet_step ((fail)) | quiet_step ((fail))))
        refine wpQuiet_nil ?_
        intro wq hq
        have HB := aside (below_tr hB.out hq)
        clear hq
        go_wp2_with fail
        go_ret
        rw [HP.out]
        exact ⟨rfl, HB.out⟩
    · have t1 : ¬ ((k : Int) < (l1.length : Int)) := by omega
      obtain rfl : k = l1.length := by omega
      go_wp2_with fail
      go_ret
      rw [pre_unique (Nat.le_refl _) hE.out (fun h => absurd h (Nat.lt_irrefl _))]
      exact ⟨rfl, hB.out⟩
end Go.Proofs.Ytlcglnagekmogaa
