/- Brands and boxes: New, Plain, Odd, Seal, Open. -/
import Derived.Test.YtbofeednhihniaaSame
import Derived.Test.YtbofeednhihniaaFit
import Derived.Lib.SlBytesConst
import Derived.Lib.SmallJoins
import Derived.Lib.ConvBytes
namespace Go.Proofs.Ytbofeednhihniaa
open Go.RowKit

theorem new_brand (s : ByteArray) (w : World) : Calls Try.prog 14 #[.string s] w fun e w' => e = .returned (.pointer (some ⟨w.heap.size + 1, 0, none⟩)) ∧ w' = (w.alloc (.cells #[.string s] 58)).alloc (.cells #[.iface 56 (.pointer (some ⟨w.heap.size, 0, none⟩))] 55) := by
  go_enter Try.func14, Try.ntmps14
  go_wp2
  go_ret
  exact ⟨rfl, rfl⟩

theorem plain_brand (s : ByteArray) (w : World) : Calls Try.prog 15 #[.string s] w fun e w' => e = .returned (.pointer (some ⟨w.heap.size, 0, none⟩)) ∧ w' = w.alloc (.cells #[.iface 9 (.string s)] 55) := by
  go_enter Try.func15, Try.ntmps15
  go_wp2
  go_ret
  exact ⟨rfl, rfl⟩

theorem bytes_size (w : World) (s : ByteArray) : (Lib.bytesWorld w 5 s).heap.size = w.heap.size + 1 := by
  simp [Lib.bytesWorld, World.freeze, World.alloc, World.drew, -World.alloc_eq, -World.drew_eq]
theorem below_bytes (w : World) (s : ByteArray) : Below w.heap.size w (Lib.bytesWorld w 5 s) :=
  ⟨rfl, rfl, rfl, by rw [bytes_size]; omega, fun k hk => Lib.bytesWorld_at_old w 5 s k hk⟩

theorem odd_brand (s : ByteArray) (w : World) : Calls Try.prog 16 #[.string s] w fun e w' => ∃ p v, e = .returned (.pointer (some ⟨p, 0, none⟩)) ∧ w'.heap[p]? = some (.cells #[.iface 40 v] 55 (0, 0)) ∧ w.heap.size ≤ p ∧ Below w.heap.size w w' := by
  have hcv := Lib.run_convert_string_bytes (P := Try.prog) w 9 40 5 s Try.underlying9 Try.underlying40 Try.underlying5
  have hB := below_bytes w s
  have hz := bytes_size w s
  generalize Lib.bytesWorld w 5 s = W at hcv hB hz
  have HB := aside hB
  have HZ := aside hz
  clear hB hz
  go_enter Try.func16, Try.ntmps16
  go_wp2
  go_ret
  exact ⟨_, _, rfl, heap_alloc_new W _, HB.out.size, below_tr HB.out (below_al W _)⟩

theorem seal_nilB (h : Value) (w : World) : Calls Try.prog 10 #[.pointer none, h] w fun e w' => e = .returned (.pointer none) ∧ w' = w := by
  go_enter Try.func10, Try.ntmps10
  go_wp2
  go_ret
  exact ⟨rfl, rfl⟩

theorem seal_nilH (p : Nat) (w : World) : Calls Try.prog 10 #[.pointer (some ⟨p, 0, none⟩), .pointer none] w fun e w' => e = .returned (.pointer none) ∧ w' = w := by
  go_enter Try.func10, Try.ntmps10
  go_wp2
  go_ret
  exact ⟨rfl, rfl⟩

theorem seal_any (p h : Nat) (w : World) : Calls Try.prog 10 #[.pointer (some ⟨p, 0, none⟩), .pointer (some ⟨h, 0, none⟩)] w fun e w' => e = .returned (.pointer (some ⟨w.heap.size, 0, none⟩)) ∧ w' = w.alloc (.cells #[.pointer (some ⟨p, 0, none⟩), .pointer (some ⟨h, 0, none⟩)] 53) := by
  go_enter Try.func10, Try.ntmps10
  go_wp2
  go_ret
  exact ⟨rfl, rfl⟩

theorem open_nilB (x : Value) (w : World) : Calls Try.prog 12 #[.pointer none, x] w fun e w' => e = .returned (.tuple #[.pointer none, .int .i64 1]) ∧ w' = w := by
  go_enter Try.func12, Try.ntmps12
  go_wp2
  go_ret2
  exact ⟨rfl, rfl⟩

theorem open_nilX (p : Nat) (w : World) : Calls Try.prog 12 #[.pointer (some ⟨p, 0, none⟩), .pointer none] w fun e w' => e = .returned (.tuple #[.pointer none, .int .i64 1]) ∧ w' = w := by
  go_enter Try.func12, Try.ntmps12
  go_wp2
  go_ret2
  exact ⟨rfl, rfl⟩

/-- What Open tells: the handle, if the brands are the same. -/
def opn (r : Bool) (h : Nat) : Value := if r then .pointer (some ⟨h, 0, none⟩) else .pointer none
def ope (r : Bool) : Int := if r then 0 else 160

theorem open_of (p x q h : Nat) (r : Bool) (w : World) (c0 : w.cell? ⟨x, 0, none⟩ = some (.pointer (some ⟨q, 0, none⟩))) (c1 : w.cell? ⟨x, 1, none⟩ = some (.pointer (some ⟨h, 0, none⟩)))
    (hs : Calls Try.prog 13 #[.pointer (some ⟨p, 0, none⟩), .pointer (some ⟨q, 0, none⟩)] w fun e w' => e = .returned (.bool r) ∧ Below w.heap.size w w') :
    Calls Try.prog 12 #[.pointer (some ⟨p, 0, none⟩), .pointer (some ⟨x, 0, none⟩)] w fun e w' => e = .returned (.tuple #[opn r h, .int .i64 (ope r)]) ∧ Below w.heap.size w w' := by
  have HS := aside hs
  have hl := World.block_lt_of_cell? w _ c1
  clear hs
  go_enter Try.func12, Try.ntmps12
  go_wp2_with fail
  refine HS.out.mono ?_
  rintro e w1 ⟨rfl, hb1⟩
  have d1 := (hb1.cell (p := ⟨x, 1, none⟩) hl).trans c1
  cases r
  · go_wp2
    go_ret2
    exact ⟨rfl, hb1⟩
  · go_wp2
    go_ret2
    exact ⟨rfl, hb1⟩
end Go.Proofs.Ytbofeednhihniaa
