/- What is a name: strings.ContainsAny of any bytes, for the two that no name has; isName. -/
import Derived.Test.YtknjclekfmmfeaaDoorLay
import Derived.Test.YtknjclekfmmfeaaDoorNod
import Derived.Lib.OthersKept
import Derived.Laws.Runes
import Derived.Laws.RangeAny
namespace Go.Proofs.YtknjclekfmmfeaaDoor
open Go.RowKit Go.Shelf

abbrev ch : ByteArray := ⟨#[0, 47]⟩

theorem dec_more (s : ByteArray) (pos : Nat) (h : pos < s.size) (ha : 128 ≤ (s[pos]'h).toNat) :
    Utf8.valid ((Utf8.decode s pos).1 : Int) = true ∧ pos + (Utf8.decode s pos).2 ≤ s.size ∧ ∀ k, 1 ≤ k → k < (Utf8.decode s pos).2 → 128 ≤ (s.get! (pos + k)).toNat := by
  have hn : ¬ (s[pos]'h).toNat < 128 := by omega
  have hE : Utf8.valid ((65533 : Nat) : Int) = true := by decide
  have h0 : (s[pos]'h).toNat < 256 := (s[pos]'h).toNat_lt
  simp only [Utf8.decode, get_at s pos h, hn, if_false, Utf8.runeError]
  split
  · next hc =>
    simp only [Bool.and_eq_true, decide_eq_true_eq, beq_iff_eq] at hc
    split
    · refine ⟨?_, by show pos + 2 ≤ s.size; omega, fun k h1 h2 => ?_⟩
      · simp only [Utf8.valid, Bool.or_eq_true, Bool.and_eq_true, decide_eq_true_eq]; omega
      · obtain rfl : k = 1 := by simp only at h2; omega
        omega
    · exact ⟨hE, by show pos + 1 ≤ s.size; omega, fun k h1 h2 => by simp only at h2; omega⟩
  · split
    · next hc =>
      simp only [Bool.and_eq_true, decide_eq_true_eq, beq_iff_eq] at hc
      split
      · next hv =>
        simp only [Bool.and_eq_true] at hv
        refine ⟨hv.2, by show pos + 3 ≤ s.size; omega, fun k h1 h2 => ?_⟩
        have hk : k = 1 ∨ k = 2 := by simp only at h2; omega
        rcases hk with rfl | rfl <;> omega
      · exact ⟨hE, by show pos + 1 ≤ s.size; omega, fun k h1 h2 => by simp only at h2; omega⟩
    · split
      · next hc =>
        simp only [Bool.and_eq_true, decide_eq_true_eq, beq_iff_eq] at hc
        split
        · next hv =>
          simp only [Bool.and_eq_true] at hv
          refine ⟨hv.2, by show pos + 4 ≤ s.size; omega, fun k h1 h2 => ?_⟩
          have hk : k = 1 ∨ k = 2 ∨ k = 3 := by simp only at h2; omega
          rcases hk with rfl | rfl | rfl <;> omega
        · exact ⟨hE, by show pos + 1 ≤ s.size; omega, fun k h1 h2 => by simp only at h2; omega⟩
      · exact ⟨hE, by show pos + 1 ≤ s.size; omega, fun k h1 h2 => by simp only at h2; omega⟩

theorem idxByte_any (s : ByteArray) (c : Int) (w : World) : Calls Tryd.prog 63 #[.string s, .int .u8 c] w fun e w' => e = .returned (.int .i64 (Lib.indexByte s.data.toList c.toNat.toUInt8)) ∧ w' = w :=
  Any.strings_IndexByte (ρ := lays153_ren) { lays153 with } s c w
theorem idxRune_low (r : Int) (w : World) (h0 : 0 ≤ r) (h1 : r < 128) : Calls Tryd.prog 51 #[.string ch, .int .i32 r] w fun e w' => e = .returned (.int .i64 (Lib.indexByte ch.data.toList r.toNat.toUInt8)) ∧ w' = w :=
  Any.strings_IndexRune_ascii (ρ := lays153_ren) { lays153 with } ch r w h0 h1

set_option maxRecDepth 100000 in
set_option maxHeartbeats 4000000 in
theorem idxRune_err (w : World) : Calls Tryd.prog 51 #[.string ch, .int .i32 65533] w fun e w' => e = .returned (.int .i64 (-1)) ∧ Below w.heap.size w w' := by
  go_enter Tryd.func51, Tryd.ntmps51
  go_wp2_with fail
  go_loopg [5, 6] 2 (fun g _ _ wx => ∃ i : Nat, i + g = 2 ∧ wx = w.iter ch i)
  case atStart => exact ⟨0, rfl, rfl⟩
  case round =>
    obtain ⟨i, hig, rfl⟩ := hrel
    cases gk with
    | zero =>
      obtain rfl : i = 2 := by omega
      have hnx := fun ty => run_next_end (P := Tryd.prog) w ch 2 ty (by decide)
      go_wp2
      go_ret
      exact ⟨rfl, below_al w _⟩
    | succ g =>
      have hi : i = 0 ∨ i = 1 := by omega
      rcases hi with rfl | rfl
      · have hnx := fun ty => run_next_ascii (P := Tryd.prog) w ch 0 ty (by decide) (by decide)
        go_wp2
        go_roundg g
        case measure => omega
        case rel => exact ⟨1, by omega, rfl⟩
      · have hnx := fun ty => run_next_ascii (P := Tryd.prog) w ch 1 ty (by decide) (by decide)
        go_wp2
        go_roundg g
        case measure => omega
        case rel => exact ⟨2, by omega, rfl⟩
end Go.Proofs.YtknjclekfmmfeaaDoor
