/- sums.entry: the bytes of a sum. -/
import Derived.Test.YtoagjgcpgpjjeaaNext
import Derived.Test.YtoagjgcpgpjjeaaFnv
namespace Go.Proofs.Ytoagjgcpgpjjeaa
open Go.RowKit
attribute [local simp] lcells_nil readB_length bcells_length
theorem make8 (w : World) : (Instr.makeSlice 22 (.int .i64 8) (.int .i64 8)).run Try.prog w = .ok (.slice (some ⟨w.heap.size, 0, none⟩) 8 8) (w.alloc (.cells (bcells (List.replicate 8 0)).toArray 5)) := make_bytes w 8 (by decide)
/-- A sum's bytes. -/
def le8 (s : Nat) : List UInt8 := (List.range 8).map fun i => UInt8.ofNat (s / 2 ^ (8 * i))
theorem le8_length (s : Nat) : (le8 s).length = 8 := by simp [le8]
/-- The first k of them, noughts behind. -/
def le8k (s k : Nat) : List UInt8 := (le8 s).take k ++ List.replicate (8 - k) 0
theorem le8k_end (s : Nat) : le8k s 8 = le8 s := by unfold le8k; rw [List.take_of_length_le (by rw [le8_length]; decide)]; simp
theorem le8k_set (s k : Nat) (hk : k < 8) : (le8k s k).set k (UInt8.ofNat (s / 2 ^ (8 * k))) = le8k s (k + 1) := by
  rcases (by omega : k = 0 ∨ k = 1 ∨ k = 2 ∨ k = 3 ∨ k = 4 ∨ k = 5 ∨ k = 6 ∨ k = 7) with rfl | rfl | rfl | rfl | rfl | rfl | rfl | rfl <;> rfl
theorem le8_byte (s k : Nat) : (s : Int) / 2 ^ (8 * k) % 256 = ((UInt8.ofNat (s / 2 ^ (8 * k))).toNat : Nat) := by
  rw [UInt8.toNat_ofNat', Int.natCast_emod, Int.natCast_ediv, Int.natCast_pow]
  rfl
theorem le8k_row (s k : Nat) (hk : k < 8) : (bcells (le8k s k)).toArray.setIfInBounds k (.int .u8 ((s : Int) / 2 ^ (8 * k) % 256)) = (bcells (le8k s (k + 1))).toArray := by
  rw [le8_byte, ← le8k_set s k hk, List.setIfInBounds_toArray]
  unfold bcells
  rw [List.map_set]
set_option maxHeartbeats 1000000 in
theorem entry_any (s : Nat) (w : World) :
    Calls Try.prog 31 #[.int .u64 s] w fun e w' => e = .returned (.slice (some ⟨w.heap.size, 0, none⟩) 8 8) ∧ w'.heap[w.heap.size]? = some (.cells (bcells (le8 s)).toArray 5 (0, 0)) ∧ Below w.heap.size w w' := by
  have hmk := make8
  go_enter Try.func31, Try.ntmps31
  go_wp2_with fail
  go_loopw [8] (fun s8 wr => ∃ k : Nat, k ≤ 8 ∧ s8 = .int .i64 k ∧ Aside (wr.heap[w.heap.size]? = some (.cells (bcells (le8k s k)).toArray 5 (0, 0))) ∧ Aside (Below w.heap.size w wr)) (fun s8 _ => 8 - (intOf s8).toNat)
  case atStart => exact ⟨0, Nat.zero_le _, rfl, aside (heap_alloc_new w _), aside (below_al w _)⟩
  case round =>
    obtain ⟨k, hk, rfl, hrow, hB⟩ := hrel
    by_cases h1 : k < 8
    · have t1 : (k : Int) < 8 := by omega
      have hc : ∃ v, wr.cell? ⟨w.heap.size, k, none⟩ = some v := ⟨_, by rw [cell_of_row wr w.heap.size k _ _ _ hrow.out]; exact Array.getElem?_eq_getElem (by simp [le8k, le8]; omega)⟩
      obtain ⟨v0, z0⟩ := hc
      have z1 : wr.frozen? ⟨w.heap.size, k, none⟩ = false := frozen_of_row wr w.heap.size k _ _ hrow.out
      go_wp2_with fail
      refine ⟨⟨k + 1, by omega, by go_num, aside ?_, aside ?_⟩, by simp [intOf]; omega⟩
      · rw [setCell_eq_setRow wr w.heap.size k _ _ _ _ hrow.out, setRow_heap wr w.heap.size _ _ _ _ hrow.out, le8k_row s k h1]
      · exact hB.out.trans ((Upd.setCell (F := fun j => j = w.heap.size) (p := ⟨w.heap.size, k, none⟩) (w := wr) rfl _).below hB.out.size (fun q hq => by omega))
    · have t1 : ¬ ((k : Int) < 8) := by omega
      obtain rfl : k = 8 := by omega
      go_wp2_with fail
      go_ret
      exact ⟨rfl, by rw [← le8k_end]; exact hrow.out, hB.out⟩
end Go.Proofs.Ytoagjgcpgpjjeaa
