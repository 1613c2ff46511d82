/- pack.said: four bytes as one number. -/
import Derived.Test.YtlcglnagekmogaaSl
import Derived.Test.YtlcglnagekmogaaMathC
namespace Go.Proofs.Ytlcglnagekmogaa
open Go.RowKit
attribute [local simp] lcells_nil readB_length bcells_length
set_option maxRecDepth 20000
theorem bits_or_u32 (a b : Nat) (ha : a < 4294967296) (hb : b < 4294967296) : bits .or .u32 (a : Int) (b : Int) = ((a ||| b : Nat) : Int) := by
  have hx : a ||| b < 2 ^ 32 := Nat.or_lt_two_pow (by omega) (by omega)
  have h1 : (BitVec.ofInt 32 (a : Int)).toNat = a := by
    rw [BitVec.ofInt_natCast, BitVec.toNat_ofNat]; exact Nat.mod_eq_of_lt (by omega)
  have h2 : (BitVec.ofInt 32 (b : Int)).toNat = b := by
    rw [BitVec.ofInt_natCast, BitVec.toNat_ofNat]; exact Nat.mod_eq_of_lt (by omega)
  show IntKind.u32.wrap ((BitVec.ofInt 32 (a : Int) ||| BitVec.ofInt 32 (b : Int)).toNat : Int) = _
  have hw : ∀ n : Int, IntKind.u32.wrap n = n % 4294967296 := fun n => by simp [IntKind.wrap, IntKind.bits, IntKind.signed]
  rw [BitVec.toNat_or, h1, h2, hw]
  omega
theorem bits_four {a b c d : Nat} (ha : a < 256) (hb : b < 256) (hc : c < 256) (hd : d < 256) : bits .or .u32 (bits .or .u32 (bits .or .u32 ((a : Int) * 16777216) ((b : Int) * 65536)) ((c : Int) * 256)) (d : Int) = ((a * 16777216 + b * 65536 + c * 256 + d : Nat) : Int) := by
  have hl : ∀ x y : Nat, x < 4294967296 → y < 4294967296 → x ||| y < 4294967296 := fun x y hx hy => Nat.or_lt_two_pow (n := 32) hx hy
  rw [show (a : Int) * 16777216 = ((a * 16777216 : Nat) : Int) by omega, show (b : Int) * 65536 = ((b * 65536 : Nat) : Int) by omega, show (c : Int) * 256 = ((c * 256 : Nat) : Int) by omega,
    bits_or_u32 _ _ (by omega) (by omega), bits_or_u32 _ _ (hl _ _ (by omega) (by omega)) (by omega), bits_or_u32 _ _ (hl _ _ (hl _ _ (by omega) (by omega)) (by omega)) (by omega)]
  have := or4 ha hb hc hd
  simp only [Nat.shiftLeft_eq] at this
  rw [← this]
theorem byte_lt (x : UInt8) : x.toNat < 256 := x.toNat_lt

set_option maxHeartbeats 1000000 in
theorem said_any (a : Option Addr) (l : List UInt8) (c : Nat) (w : World) (h : BsAt w a l) (h4 : 4 ≤ l.length) :
    Calls Try.prog 29 #[.slice a l.length c] w fun e w' => e = .returned (.int .u32 (hd l : Nat)) ∧ Below w.heap.size w w' := by
  obtain ⟨g, o, rfl, hc⟩ := bs_plain h (fun h0 => by rw [h0] at h4; simp at h4)
  obtain ⟨x0, e0⟩ : ∃ x, l[0]? = some x := ⟨_, List.getElem?_eq_getElem (by omega)⟩
  obtain ⟨x1, e1⟩ : ∃ x, l[1]? = some x := ⟨_, List.getElem?_eq_getElem (by omega)⟩
  obtain ⟨x2, e2⟩ : ∃ x, l[2]? = some x := ⟨_, List.getElem?_eq_getElem (by omega)⟩
  obtain ⟨x3, e3⟩ : ∃ x, l[3]? = some x := ⟨_, List.getElem?_eq_getElem (by omega)⟩
  have q0 : ∀ d os, (ext w d os).cell? ⟨g, o, none⟩ = some (.int .u8 (x0.toNat : Nat)) := fun d os => ext_cell (hc 0 _ e0) d os
  have q1 : ∀ d os, (ext w d os).cell? ⟨g, o + 1, none⟩ = some (.int .u8 (x1.toNat : Nat)) := fun d os => ext_cell (hc 1 _ e1) d os
  have q2 : ∀ d os, (ext w d os).cell? ⟨g, o + 2, none⟩ = some (.int .u8 (x2.toNat : Nat)) := fun d os => ext_cell (hc 2 _ e2) d os
  have q3 : ∀ d os, (ext w d os).cell? ⟨g, o + 3, none⟩ = some (.int .u8 (x3.toNat : Nat)) := fun d os => ext_cell (hc 3 _ e3) d os
  have hh : hd l = x0.toNat * 16777216 + x1.toNat * 65536 + x2.toNat * 256 + x3.toNat := by
    unfold hd; simp only [List.getD_eq_getElem?_getD, e0, e1, e2, e3, Option.getD_some]
  have HH := aside hh
  have b0 := byte_lt x0
  have b1 := byte_lt x1
  have b2 := byte_lt x2
  have b3 := byte_lt x3
  have t0 : (0 : Int) < (l.length : Int) := by omega
  have t1 : (1 : Int) < (l.length : Int) := by omega
  have t2 : (2 : Int) < (l.length : Int) := by omega
  have t3 : (3 : Int) < (l.length : Int) := by omega
  clear hh hc h e0 e1 e2 e3
  go_enter Try.func29, Try.ntmps29
  go_wp2
  refine region_ext (by kernel_rfl) (by kernel_rfl) ?_
  repeat (any_goals (first | go_big_quiet_step ((fail)) | quiet_step ((fail))))
  refine wpQuiet_nil ?_
  intro wq hq
  go_wp2
  go_ret
  rw [HH.out]
  exact ⟨congrArg (fun z => Ending.returned (Value.int .u32 z)) (bits_four b0 b1 b2 b3), hq⟩
end Go.Proofs.Ytlcglnagekmogaa
