/- Get over any arguments. -/
import Derived.Test.YtlcglnagekmogaaPut
import Derived.Test.YtlcglnagekmogaaGetZero
namespace Go.Proofs.Ytlcglnagekmogaa
open Go.RowKit
attribute [local simp] lcells_nil readB_length bcells_length

/-- Bytes that can be read at an address, where there are any. -/
def BsAt (w : World) (a : Option Addr) (l : List UInt8) : Prop := l ≠ [] → ∃ ad, a = some ad ∧ ∀ j v, (bcells l)[j]? = some v → w.cell? (ad.add j) = some v
theorem BsAt.below {w w' : World} {a : Option Addr} {l : List UInt8} (h : BsAt w a l) (hb : Below w.heap.size w w') : BsAt w' a l := fun hl => by
  obtain ⟨ad, rfl, hc⟩ := h hl
  exact ⟨ad, rfl, fun j v hj => (hb.cell (World.block_lt_of_cell? w _ (hc j v hj))).trans (hc j v hj)⟩

/-- What Get tells. -/
def getL (L : List Piece) (sz : Nat) (x n : Int) : List UInt8 := if x < 0 ∨ n < 0 ∨ (sz : Int) ≤ x then [] else readB L x.toNat (min n.toNat (min 65536 (sz - x.toNat)))

set_option maxHeartbeats 1000000 in
theorem getOut_any (b : Nat) (sz : Nat) (x n : Int) (w : World) (hs : w.cell? ⟨b, 0, none⟩ = some (.int .i64 sz)) (h : x < 0 ∨ n < 0 ∨ (sz : Int) ≤ x) :
    Calls Try.prog 122 #[.pointer (some ⟨b, 0, none⟩), .int .i64 x, .int .i64 n] w fun e w' => e = .returned (.slice none 0 0) ∧ w' = w := by
  by_cases h1 : x < 0
  · have d1 : decide (x < 0) = true := by simpa using h1
    go_enter Try.func122, Try.ntmps122
    go_wp2
    go_ret
    exact ⟨rfl, rfl⟩
  · have d1 : decide (x < 0) = false := by simpa using h1
    by_cases h2 : n < 0
    · have d2 : decide (n < 0) = true := by simpa using h2
      go_enter Try.func122, Try.ntmps122
      go_wp2
      go_ret
      exact ⟨rfl, rfl⟩
    · have d2 : decide (n < 0) = false := by simpa using h2
      have h3 : (sz : Int) ≤ x := by omega
      go_enter Try.func122, Try.ntmps122
      go_wp2
      go_ret
      exact ⟨rfl, rfl⟩

/-- A row of bytes that is the call's own. -/
def NewB (w : World) (B : Nat) (a : Option Addr) (l : List UInt8) : Prop := l = [] ∨ (a = some ⟨B, 0, none⟩ ∧ w.heap[B]? = some (.cells (bcells l).toArray 5 (0, 0)))

theorem get_all (b sz : Nat) (lv : Value) (L : List Piece) (x n : Int) (w : World) (hR : Rep w b sz lv L) (hn : n ≤ 4611686018427387904) :
    Calls Try.prog 122 #[.pointer (some ⟨b, 0, none⟩), .int .i64 x, .int .i64 n] w fun e w' => ∃ a c, e = .returned (.slice a (getL L sz x n).length c) ∧ (getL L sz x n).length ≤ c ∧ NewB w' w.heap.size a (getL L sz x n) ∧ Below w.heap.size w w' := by
  obtain ⟨c0, c1, c2⟩ := hR.cells
  by_cases h : x < 0 ∨ n < 0 ∨ (sz : Int) ≤ x
  · refine (getOut_any b sz x n w c0 h).mono ?_
    rintro e w' ⟨rfl, rfl⟩
    have e1 : getL L sz x n = [] := by unfold getL; rw [if_pos h]
    rw [e1]
    exact ⟨none, 0, rfl, Nat.le_refl _, .inl rfl, Below.refl _ _⟩
  · obtain ⟨y, rfl⟩ : ∃ y : Nat, x = y := ⟨x.toNat, by omega⟩
    obtain ⟨m, rfl⟩ : ∃ m : Nat, n = m := ⟨n.toNat, by omega⟩
    have e1 : getL L sz y m = readB L y (min m (min 65536 (sz - y))) := by unfold getL; rw [if_neg h]; simp
    rw [e1, readB_length]
    rcases Nat.eq_zero_or_pos m with rfl | hm
    · refine (get_zero b lv sz L y w hR.inv (by omega) c0 c2 hR.str.row hR.str.data).mono ?_
      rintro e w' ⟨rfl, hh, hb⟩
      exact ⟨some ⟨w.heap.size, 0, none⟩, 0, by simp, by simp, .inl (by simp [readB]), hb⟩
    · refine (get_any b lv sz L y m w hR.inv (by omega) (by omega) hm c0 c2 hR.str.row hR.str.data).mono ?_
      rintro e w' ⟨q, rfl, rfl, hh, hb⟩
      exact ⟨_, _, rfl, Nat.le_refl _, .inr ⟨rfl, hh⟩, hb⟩
end Go.Proofs.Ytlcglnagekmogaa
