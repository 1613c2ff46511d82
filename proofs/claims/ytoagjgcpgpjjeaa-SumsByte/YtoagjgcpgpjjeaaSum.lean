/- sums.Sum and sums.entry. -/
import Derived.Test.YtoagjgcpgpjjeaaNext
import Derived.Test.YtoagjgcpgpjjeaaFnv
namespace Go.Proofs.Ytoagjgcpgpjjeaa
open Go.RowKit
attribute [local simp] lcells_nil readB_length bcells_length
set_option maxHeartbeats 1000000 in
theorem sum_any (a : Option Addr) (l : List UInt8) (c : Nat) (w : World) (h : l ≠ [] → ∃ ad, a = some ad ∧ ∀ j v, (bcells l)[j]? = some v → w.cell? (ad.add j) = some v) (hl : l.length ≤ 4611686018427387904) :
    Calls Try.prog 13 #[.slice a l.length c] w fun e w' => e = .returned (.int .u64 (fnv0 l : Nat)) ∧ w' = w := by
  have H := aside h
  clear h
  go_enter Try.func13, Try.ntmps13
  go_wp2_with fail
  go_loop [3, 8] (fun s3 s8 => ∃ (k S : Nat), k ≤ l.length ∧ S < 18446744073709551616 ∧ s3 = .int .u64 S ∧ s8 = .int .i64 k ∧ Aside (S = fnv0 (l.take k))) (fun _ s8 => l.length - (intOf s8).toNat)
  case atStart => exact ⟨0, _, Nat.zero_le _, by decide, rfl, rfl, aside (by rw [List.take_zero]; rfl)⟩
  case round =>
    obtain ⟨k, S, hk, hS, rfl, rfl, hF⟩ := hrel
    by_cases h1 : k < l.length
    · have hkm : l[k]? = some l[k] := List.getElem?_eq_getElem h1
      obtain ⟨ad, rfl, hc⟩ := H.out (by intro h; simp [h] at h1)
      have r0 := hc k (.int .u8 (l[k].toNat : Nat)) (by simp [bcells, hkm])
      have HX := aside (fnv0_take_succ hkm)
      have hx := byte_lt l[k]
      generalize l[k] = x at *
      have t1 : (k : Int) < (l.length : Int) := by omega
      have HR := aside (stp_run S x hS)
      have hst := stp_lt S x
      clear hc hkm
      go_wp2_with fail
      refine ⟨⟨k + 1, stp S x, by omega, hst, by rw [HR.out], by go_num, aside (by rw [HX.out, ← hF.out])⟩, ?_⟩
      simp [intOf]; omega
    · have t1 : ¬ ((k : Int) < (l.length : Int)) := by omega
      obtain rfl : k = l.length := by omega
      go_wp2_with fail
      go_ret
      have e := hF.out
      rw [List.take_length] at e
      rw [e]
      exact ⟨rfl, rfl⟩
end Go.Proofs.Ytoagjgcpgpjjeaa
