/- Lists of moves in memory; great; made. -/
import Derived.Test.YtkekaljcbmkomaaAll
import Derived.Deep.RegionHeld3
namespace Go.Proofs.Ytkekaljcbmkomaa
open Go.RowKit
attribute [local simp] lcells_nil readB_length bcells_length

/-- A move as it lies in memory. -/
structure Mv where
  d : Int
  t : Int
  n : Int
  a : Option Addr
  c : Nat
  bs : List UInt8

/-- The cells of some moves. -/
def RdM (w : World) (blk off : Nat) (ms : List Mv) : Prop := ∀ j m, ms[j]? = some m → w.cell? ⟨blk, off + j * 4, none⟩ = some (.int .i64 m.d) ∧ w.cell? ⟨blk, off + j * 4 + 1, none⟩ = some (.int .i64 m.t) ∧ w.cell? ⟨blk, off + j * 4 + 2, none⟩ = some (.int .i64 m.n) ∧ w.cell? ⟨blk, off + j * 4 + 3, none⟩ = some (.slice m.a m.bs.length m.c)
/-- A list of moves. -/
structure Mvs (w : World) (a : Option Addr) (ms : List Mv) : Prop where
  rd : ms ≠ [] → ∃ blk off, a = some ⟨blk, off, none⟩ ∧ RdM w blk off ms
  bs : ∀ m, m ∈ ms → BsAt w m.a m.bs
  le : ∀ m, m ∈ ms → m.t ≤ 9223372036854775807 ∧ m.bs.length ≤ 4611686018427387904
  cnt : ms.length ≤ 4611686018427387904
theorem RdM.below {w w' : World} {blk off : Nat} {ms : List Mv} (h : RdM w blk off ms) (hb : Below w.heap.size w w') : RdM w' blk off ms := fun j m hj => by
  obtain ⟨h0, h1, h2, h3⟩ := h j m hj
  have hlt := World.block_lt_of_cell? w _ h0
  exact ⟨(hb.cell hlt).trans h0, (hb.cell (p := ⟨blk, off + j * 4 + 1, none⟩) hlt).trans h1, (hb.cell (p := ⟨blk, off + j * 4 + 2, none⟩) hlt).trans h2, (hb.cell (p := ⟨blk, off + j * 4 + 3, none⟩) hlt).trans h3⟩
theorem Mvs.below {w w' : World} {a : Option Addr} {ms : List Mv} (h : Mvs w a ms) (hb : Below w.heap.size w w') : Mvs w' a ms := by
  refine ⟨fun hne => ?_, fun m hm => (h.bs m hm).below hb, h.le, h.cnt⟩
  obtain ⟨blk, off, rfl, hr⟩ := h.rd hne
  exact ⟨blk, off, rfl, hr.below hb⟩

def lens (ms : List Mv) : Nat := (ms.map fun m => m.bs.length).sum
theorem lens_take_succ {ms : List Mv} {k : Nat} {m : Mv} (h : ms[k]? = some m) : lens (ms.take (k + 1)) = lens (ms.take k) + m.bs.length := by
  unfold lens
  rw [List.take_add_one, h]
  simp

/-- What great answers. -/
def GreatEnd (n0 : Nat) (ms : List Mv) (e : Ending) : Prop := ∃ g, e = .returned (.bool g) ∧ (g = false → ms.length ≤ 300 ∧ n0 + lens ms ≤ 131072)
theorem great_yes (n0 : Nat) (ms : List Mv) : GreatEnd n0 ms (.returned (.bool true)) := ⟨true, rfl, fun h => by cases h⟩
theorem great_no {n0 : Nat} {ms : List Mv} (h : ms.length ≤ 300 ∧ n0 + lens ms ≤ 131072) : GreatEnd n0 ms (.returned (.bool false)) := ⟨false, rfl, fun _ => h⟩

set_option maxHeartbeats 1000000 in
theorem great_any (a0 : Option Addr) (n0 c0 : Nat) (am : Option Addr) (cm : Nat) (ms : List Mv) (w : World) (hm : Mvs w am ms) (hn0 : n0 ≤ 4611686018427387904) :
    Calls Try.prog 9 #[.slice a0 n0 c0, .slice am ms.length cm] w fun e w' => GreatEnd n0 ms e ∧ w' = w := by
  have HM := aside hm
  have hcnt := hm.cnt
  clear hm
  go_enter Try.func9, Try.ntmps9
  go_wp2
  go_loop [5, 6] (fun s5 s6 => ∃ k : Nat, k ≤ ms.length ∧ k ≤ 301 ∧ s5 = .int .i64 ((n0 + lens (ms.take k) : Nat) : Int) ∧ s6 = .int .i64 k ∧ n0 + lens (ms.take k) ≤ 4611686018427387904 + 4611686018427387904 ∧ (0 < k → lens (ms.take (k - 1)) + n0 ≤ 131072)) (fun _ s6 => ms.length - (intOf s6).toNat)
  case atStart => exact ⟨0, Nat.zero_le _, by omega, by simp [lens], rfl, by simp [lens]; omega, by omega⟩
  case round =>
    obtain ⟨k, hk, hk3, rfl, rfl, hbd, hprev⟩ := hrel
    by_cases h1 : k < ms.length
    · have hkm : ms[k]? = some ms[k] := List.getElem?_eq_getElem h1
      have hLS := lens_take_succ hkm
      have hb := (HM.out.le ms[k] (List.getElem_mem h1)).2
      obtain ⟨blk, off, rfl, hrd⟩ := HM.out.rd (by intro h; simp [h] at h1)
      obtain ⟨r0, r1, r2, r3⟩ := hrd k _ hkm
      clear hrd
      generalize ms[k] = m at *
      generalize hq : n0 + lens (ms.take k) = q at *
      have t1 : (k : Int) < (ms.length : Int) := by omega
      have t1' : decide ((k : Int) < (ms.length : Int)) = true := by simpa using h1
      by_cases h2 : k ≤ 300
      · have t2 : decide ((k : Int) ≤ 300) = true := by simp; omega
        by_cases h3 : q ≤ 131072
        · have t3 : decide ((q : Int) ≤ 131072) = true := by simp; omega
          have HLS := aside hLS
          have HQ := aside hq
          clear hLS hprev hq hkm
          go_wp2
          go_round
          case rel => exact ⟨k + 1, by omega, by omega, by rw [HLS.out, ← Nat.add_assoc, HQ.out]; go_num, by go_num, by rw [HLS.out]; have := HQ.out; omega, fun _ => by rw [Nat.add_sub_cancel]; have := HQ.out; omega⟩
          case measure => simp [intOf]; omega
        · have t3 : decide ((q : Int) ≤ 131072) = false := by simp; omega
          have t4 : decide ((131072 : Int) < (q : Int)) = true := by simp; omega
          clear hLS hprev hq hkm
          go_wp2
          go_ret
          exact ⟨great_yes _ _, rfl⟩
      · have t2 : decide ((k : Int) ≤ 300) = false := by simp; omega
        have t5 : decide ((300 : Int) < (ms.length : Int)) = true := by simp; omega
        clear hLS hprev hq hkm
        by_cases h3 : 131072 < q
        · have t4 : decide ((131072 : Int) < (q : Int)) = true := by simp; omega
          go_wp2
          go_ret
          exact ⟨great_yes _ _, rfl⟩
        · have t4 : decide ((131072 : Int) < (q : Int)) = false := by simp; omega
          go_wp2
          go_ret
          exact ⟨great_yes _ _, rfl⟩
    · obtain rfl : k = ms.length := by omega
      rw [List.take_length] at *
      generalize hq : n0 + lens ms = q at *
      have t1' : decide ((ms.length : Int) < (ms.length : Int)) = false := by simp
      have HQ := aside hq
      clear hprev hq
      by_cases h3 : 131072 < q
      · have t4 : decide ((131072 : Int) < (q : Int)) = true := by simp; omega
        go_wp2
        go_ret
        exact ⟨great_yes _ _, rfl⟩
      · have t4 : decide ((131072 : Int) < (q : Int)) = false := by simp; omega
        by_cases h5 : 300 < ms.length
        · have t5 : decide ((300 : Int) < (ms.length : Int)) = true := by simp; omega
          go_wp2
          go_ret
          exact ⟨great_yes _ _, rfl⟩
        · have t5 : decide ((300 : Int) < (ms.length : Int)) = false := by simp; omega
          go_wp2
          go_ret
          exact ⟨great_no ⟨by omega, by have := HQ.out; omega⟩, rfl⟩
end Go.Proofs.Ytkekaljcbmkomaa
