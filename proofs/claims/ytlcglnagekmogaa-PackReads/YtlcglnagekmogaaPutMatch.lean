/- pack.putMatch, pack.head, pack.room. -/
import Derived.Test.YtlcglnagekmogaaPutRun
namespace Go.Proofs.Ytlcglnagekmogaa
open Go.RowKit
attribute [local simp] lcells_nil readB_length bcells_length
set_option maxRecDepth 20000

/-- A match's two bytes; none, if there is none. -/
def mbs (k d : Nat) : List UInt8 := if k = 0 then [] else [UInt8.ofNat (k + 125), UInt8.ofNat d]

set_option maxHeartbeats 2000000 in
theorem putMatch_any (ao : Option Addr) (m mc g o k d : Nat) (cur : List UInt8) (w : World) (hrow : RowB w g cur) (hk : k = 0 ∨ 3 ≤ k ∧ k ≤ 130) (hd : d ≤ 255) (hao : k ≠ 0 → ao = some ⟨g, o, none⟩ ∧ m ≤ mc ∧ o + m ≤ cur.length ∧ 2 ≤ m) :
    Calls Try.prog 47 #[.slice ao m mc, .agg #[.int .i64 (k : Int), .int .i64 (d : Int)]] w fun e w' => e = .returned (.int .i64 ((mbs k d).length : Nat)) ∧ RowB w' g (splice cur o (mbs k d)) ∧ Upd (fun j => j = g) w w' := by
  have hB := below_al w (.cells #[.int .i64 (k : Int), .int .i64 (d : Int)] 103)
  by_cases hn : k = 0
  · subst hn
    have HR := aside (hrow.below hB)
    have HB := aside hB
    clear hB
    go_enter Try.func47, Try.ntmps47
    go_wp2_with fail
    go_ret
    unfold mbs
    rw [if_pos rfl, splice_zero]
    exact ⟨rfl, HR.out, Upd.of_below HB.out⟩
  · obtain ⟨rfl, hmc, hom, hrm⟩ := hao hn
    obtain ⟨x, hx⟩ : ∃ x, x = UInt8.ofNat (k + 125) := ⟨_, rfl⟩
    obtain ⟨y, hy⟩ : ∃ y, y = UInt8.ofNat d := ⟨_, rfl⟩
    have hxn : (x.toNat : Nat) = k + 125 := by rw [hx, UInt8.toNat_ofNat']; omega
    have hyn : (y.toNat : Nat) = d := by rw [hy, UInt8.toNat_ofNat']; omega
    have hkx : (k : Int) - 3 + 128 = ((x.toNat : Nat) : Int) := by omega
    have hx2 := byte_lt x
    have hB2 := below_tr hB (below_al (w.alloc (.cells #[.int .i64 (k : Int), .int .i64 (d : Int)] 103)) (.cells #[.int .u8 (x.toNat : Nat), .int .u8 (d : Int)] 5))
    have hR2 := hrow.below hB2
    have hnw : RowB ((w.alloc (.cells #[.int .i64 (k : Int), .int .i64 (d : Int)] 103)).alloc (.cells #[.int .u8 (x.toNat : Nat), .int .u8 (d : Int)] 5)) (w.heap.size + 1) [x, y] := by
      have e : (bcells [x, y]).toArray = #[.int .u8 (x.toNat : Nat), .int .u8 (d : Int)] := by rw [← hyn]; rfl
      unfold RowB
      rw [e]
      exact heap_alloc2_new w _ _
    have hcp : ∀ ty c1 c2, (Builtin.copy_ #[22, 22] ty #[.slice (some ⟨g, o, none⟩) m c1, .slice (some ⟨w.heap.size + 1, 0, none⟩) 2 c2]).run Try.prog ((w.alloc (.cells #[.int .i64 (k : Int), .int .i64 (d : Int)] 103)).alloc (.cells #[.int .u8 (x.toNat : Nat), .int .u8 (d : Int)] 5)) = .ok (goInt 2) (((w.alloc (.cells #[.int .i64 (k : Int), .int .i64 (d : Int)] 103)).alloc (.cells #[.int .u8 (x.toNat : Nat), .int .u8 (d : Int)] 5)).setRow g (bcells (splice cur o [x, y])).toArray) := fun ty c1 c2 => by
      have := copy_row (dLen := m) (dCap := c1) (sLen := 2) (sCap := c2) ty hR2 (hnw.bs 0) (off := o) (by simp; omega) (by simp; omega)
      rw [this]
      rfl
    have HR3 := aside (hR2.set (l := splice cur o [x, y]))
    have HU3 : Aside (Upd (fun j => j = g) w (((w.alloc (.cells #[.int .i64 (k : Int), .int .i64 (d : Int)] 103)).alloc (.cells #[.int .u8 (x.toNat : Nat), .int .u8 (d : Int)] 5)).setRow g (bcells (splice cur o [x, y])).toArray)) := (Upd.of_below hB2).trans (upd_setRow (F := fun j => j = g) _ g _ rfl) (fun _ _ h => h)
    have HMB : Aside (mbs k d = [x, y]) := by unfold mbs; rw [if_neg hn, hx, hy]; exact aside rfl
    have t1 : ¬ ((k : Int) = 0) := by omega
    have t1' : ((k : Int) == 0) = false := by simp; omega
    have hk2 : k ≤ 130 := by omega
    have hk3 : 3 ≤ k := by omega
    clear hx hy hxn hyn hnw hR2 hB2 hB hrow hk hao
    go_enter Try.func47, Try.ntmps47
    go_wp2_with fail
    go_ret
    rw [HMB.out]
    exact ⟨rfl, HR3.out, HU3.out⟩

set_option maxHeartbeats 2000000 in
theorem room_any (n : Nat) (w : World) (hn : n ≤ 65536) : Calls Try.prog 24 #[.int .i64 (n : Int)] w fun e w' => e = .returned (.int .i64 ((4 + n + (n + 127) / 128 : Nat) : Int)) ∧ w' = w := by
  go_enter Try.func24, Try.ntmps24
  go_wp2_with fail
  go_ret
  refine ⟨congrArg (fun z => Ending.returned (Value.int .i64 z)) ?_, rfl⟩
  omega

/-- The four bytes of a number. -/
def four (n : Nat) : List UInt8 := [UInt8.ofNat (n / 16777216), UInt8.ofNat (n / 65536), UInt8.ofNat (n / 256), UInt8.ofNat n]
set_option maxHeartbeats 2000000 in
theorem head_any (n : Nat) (w : World) (hn : n ≤ 65536) : Calls Try.prog 25 #[.int .i64 (n : Int)] w fun e w' => e = .returned (.slice (some ⟨w.heap.size, 0, none⟩) 4 4) ∧ RowB w' w.heap.size (four n) ∧ Below w.heap.size w w' := by
  go_enter Try.func25, Try.ntmps25
  go_wp2_with fail
  go_ret
  refine ⟨rfl, ?_, below_al w _⟩
  have e : ∀ k : Nat, ((UInt8.ofNat k).toNat : Int) = (k : Int) % 256 := fun k => by rw [UInt8.toNat_ofNat']; omega
  have e4 : (bcells (four n)).toArray = #[.int .u8 ((n : Int) / 16777216), .int .u8 ((n : Int) / 65536), .int .u8 ((n : Int) / 256 % 256), .int .u8 ((n : Int) % 256)] := by
    simp only [bcells, four, List.map_cons, List.map_nil, e]
    rw [show ((n / 16777216 : Nat) : Int) % 256 = (n : Int) / 16777216 by omega, show ((n / 65536 : Nat) : Int) % 256 = (n : Int) / 65536 by omega, show ((n / 256 : Nat) : Int) % 256 = (n : Int) / 256 % 256 by omega]
  unfold RowB
  rw [e4]
  exact heap_alloc_new w _
end Go.Proofs.Ytlcglnagekmogaa
