/- Slices of bytes that can be read: where they lie, what they hold. -/
import Derived.Test.YtlcglnagekmogaaGetAll
namespace Go.Proofs.Ytlcglnagekmogaa
open Go.RowKit
attribute [local simp] lcells_nil readB_length bcells_length

theorem addr_plain {w : World} {a : Addr} {v : Value} (h : w.cell? a = some v) : a = ⟨a.block, a.off, none⟩ := by
  obtain ⟨b, o, s⟩ := a
  unfold World.cell? at h
  cases s with
  | none => rfl
  | some x => split at h <;> simp at h

theorem add_zero' (a : Addr) : a.add 0 = a := by
  unfold Addr.add; rw [if_pos rfl]

/-- Bytes, where there are some: their block and place. -/
theorem bs_plain {w : World} {a : Option Addr} {l : List UInt8} (h : BsAt w a l) (hl : l ≠ []) : ∃ g o, a = some ⟨g, o, none⟩ ∧ ∀ j x, l[j]? = some x → w.cell? ⟨g, o + j, none⟩ = some (.int .u8 (x.toNat : Nat)) := by
  obtain ⟨ad, rfl, hc⟩ := h hl
  have h0 : 0 < l.length := List.length_pos_iff.2 hl
  have := hc 0 (.int .u8 (l[0].toNat : Nat)) (by simp [bcells, List.getElem?_eq_getElem h0])
  rw [add_zero'] at this
  rw [addr_plain this] at hc ⊢
  refine ⟨_, _, rfl, fun j x hj => ?_⟩
  have h2 := hc j (.int .u8 (x.toNat : Nat)) (by simp [bcells, hj])
  rwa [Addr.add_lit] at h2
theorem bs_of {w : World} {g o : Nat} {l : List UInt8} (h : ∀ j x, l[j]? = some x → w.cell? ⟨g, o + j, none⟩ = some (.int .u8 (x.toNat : Nat))) : BsAt w (some ⟨g, o, none⟩) l := fun _ => ⟨_, rfl, fun j v hj => by
  simp only [bcells, List.getElem?_map, Option.map_eq_some_iff] at hj
  obtain ⟨x, hx, rfl⟩ := hj
  rw [Addr.add_lit]
  exact h j x hx⟩

theorem elem22 : Try.prog.underlying 22 = some (.slice (Try.prog.elem 22)) := by kernel_rfl
theorem size22 (w : World) : (sizeOf (Try.prog.elem 22)).run Try.prog w = .ok 1 w := by kernel_rfl

theorem sliced_bs {w : World} {a : Option Addr} {l : List UInt8} {c i j : Nat} (h : BsAt w a l) (hij : i ≤ j) (hj : j ≤ l.length) (hc : j ≤ c) : BsAt w (if c = i then a else a.map (·.add (i * 1))) ((l.take j).drop i) := by
  by_cases hd : i = j
  · subst hd
    intro hn
    exact absurd (List.drop_of_length_le (by rw [List.length_take]; omega)) hn
  · have hl : l ≠ [] := fun h0 => by rw [h0] at hj; simp at hj; omega
    obtain ⟨g, o, rfl, hcell⟩ := bs_plain h hl
    rw [if_neg (by omega), Option.map_some, Nat.mul_one, Addr.add_lit]
    refine bs_of fun k x hk => ?_
    rw [List.getElem?_drop, List.getElem?_take] at hk
    split at hk
    · rw [Nat.add_assoc]; exact hcell _ x hk
    · cases hk

/-- b[i:j] -/
theorem slice_lh (a : Option Addr) (l : List UInt8) (c i j : Nat) (hij : i ≤ j) (hj : j ≤ l.length) (hc : l.length ≤ c) :
    ∃ a', (∀ W, (Instr.slice 22 (.slice a l.length c) (some (.int .i64 (i : Int))) (some (.int .i64 (j : Int))) none).run Try.prog W = .ok (.slice a' ((l.take j).drop i).length (c - i)) W) ∧ ∀ w, BsAt w a l → BsAt w a' ((l.take j).drop i) := by
  refine ⟨if c = i then a else a.map (·.add (i * 1)), fun W => ?_, fun w h => sliced_bs h hij hj (by omega)⟩
  rw [run_slice_lh W 22 a l.length c elem22 .i64 .i64 _ _ (by omega) (by omega) (by omega), size22]
  simp only [Result.andThen, sliced, Int.toNat_natCast, List.length_drop, List.length_take, Nat.min_eq_left hj]
/-- b[i:] -/
theorem slice_l (a : Option Addr) (l : List UInt8) (c i : Nat) (hi : i ≤ l.length) (hc : l.length ≤ c) :
    ∃ a', (∀ W, (Instr.slice 22 (.slice a l.length c) (some (.int .i64 (i : Int))) none none).run Try.prog W = .ok (.slice a' (l.drop i).length (c - i)) W) ∧ ∀ w, BsAt w a l → BsAt w a' (l.drop i) := by
  refine ⟨if c = i then a else a.map (·.add (i * 1)), fun W => ?_, fun w h => ?_⟩
  · rw [run_slice_l W 22 a l.length c elem22 .i64 _ (by omega) (by omega), size22]
    simp only [Result.andThen, sliced, Int.toNat_natCast, List.length_drop]
  · have := sliced_bs (c := c) h (i := i) (j := l.length) hi (Nat.le_refl _) hc
    rwa [List.take_length] at this
/-- b[:j] -/
theorem slice_h (a : Option Addr) (l : List UInt8) (c j : Nat) (hj : j ≤ l.length) (hc : l.length ≤ c) :
    ∃ a', (∀ W, (Instr.slice 22 (.slice a l.length c) none (some (.int .i64 (j : Int))) none).run Try.prog W = .ok (.slice a' (l.take j).length c) W) ∧ ∀ w, BsAt w a l → BsAt w a' (l.take j) := by
  refine ⟨if c = 0 then a else a.map (·.add (0 * 1)), fun W => ?_, fun w h => ?_⟩
  · rw [run_slice_h W 22 a l.length c elem22 .i64 _ (by omega) (by omega), size22]
    simp only [Result.andThen, sliced, Int.toNat_natCast, List.length_take, Nat.min_eq_left hj, Nat.sub_zero]
  · have := sliced_bs (c := c) h (i := 0) (j := j) (Nat.zero_le _) hj (by omega)
    rwa [List.drop_zero] at this

/-- Four bytes as one number. -/
theorem or4 {a b c d : Nat} (_ha : a < 256) (hb : b < 256) (hc : c < 256) (hd : d < 256) : (((a <<< 24) ||| (b <<< 16)) ||| (c <<< 8)) ||| d = a * 16777216 + b * 65536 + c * 256 + d := by
  have e1 : (a <<< 24) ||| (b <<< 16) = (a * 256 + b) <<< 16 := by
    rw [show a <<< 24 = (a <<< 8) <<< 16 by rw [← Nat.shiftLeft_add], ← Nat.shiftLeft_or_distrib, ← Nat.shiftLeft_add_eq_or_of_lt (by omega : b < 2 ^ 8), Nat.shiftLeft_eq a 8]
  have e2 : ((a * 256 + b) <<< 16) ||| (c <<< 8) = ((a * 256 + b) * 256 + c) <<< 8 := by
    rw [show (a * 256 + b) <<< 16 = ((a * 256 + b) <<< 8) <<< 8 by rw [← Nat.shiftLeft_add], ← Nat.shiftLeft_or_distrib, ← Nat.shiftLeft_add_eq_or_of_lt (by omega : c < 2 ^ 8), Nat.shiftLeft_eq (a * 256 + b) 8]
  rw [e1, e2, ← Nat.shiftLeft_add_eq_or_of_lt (by omega : d < 2 ^ 8), Nat.shiftLeft_eq]
  omega
end Go.Proofs.Ytlcglnagekmogaa
