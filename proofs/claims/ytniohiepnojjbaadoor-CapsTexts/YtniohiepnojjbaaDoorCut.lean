/- strings.Cut at a blank; strings.Clone; the bit of a word. -/
import Derived.Test.YtniohiepnojjbaaDoorText
import Derived.Test.YtniohiepnojjbaaDoorShelf2
import Derived.Lib.IndexLaws
import Derived.Lib.Strings
namespace Go.Proofs.YtniohiepnojjbaaDoor
open Go.RowKit

theorem bytes_of (t : ByteArray) (l : List UInt8) (h : t.toList = l) : t = ⟨l.toArray⟩ := by
  rw [Lib.toList_data] at h
  rw [← h]

/-- The first word of a text. -/
def wordL (l : List UInt8) : List UInt8 := l.takeWhile (· != 32)

theorem index_word (l : List UInt8) : (32 ∈ l → Lib.indexByte l 32 = ((wordL l).length : Int)) ∧ (32 ∉ l → Lib.indexByte l 32 = -1 ∧ wordL l = l) := by
  induction l with
  | nil => exact ⟨fun h => absurd h (by simp), fun _ => ⟨rfl, rfl⟩⟩
  | cons b r ih =>
    by_cases hb : b = 32
    · subst hb
      exact ⟨fun _ => rfl, fun h => absurd (List.mem_cons_self ..) h⟩
    · have hbe : (b == 32) = false := by simpa using hb
      have hw : wordL (b :: r) = b :: wordL r := by simp [wordL, hb]
      rw [hw]
      constructor
      · intro h
        have hr : 32 ∈ r := by
          cases h with
          | head => exact absurd rfl hb
          | tail _ h => exact h
        rw [Lib.indexByte, hbe, ih.1 hr]
        have : (((wordL r).length : Int) == -1) = false := by rw [beq_eq_false_iff_ne]; omega
        simp [this]
      · intro h
        have hr : 32 ∉ r := fun h2 => h (List.mem_cons_of_mem _ h2)
        obtain ⟨h1, h2⟩ := ih.2 hr
        rw [Lib.indexByte, hbe, h1, h2]
        exact ⟨by simp, rfl⟩

theorem word_le (l : List UInt8) (h : 32 ∈ l) : (wordL l).length < l.length := by
  induction l with
  | nil => cases h
  | cons b r ih =>
    by_cases hb : b = 32
    · subst hb; simp [wordL]
    · have hw : wordL (b :: r) = b :: wordL r := by simp [wordL, hb]
      rw [hw]
      have hr : 32 ∈ r := by
        cases h with
        | head => exact absurd rfl hb
        | tail _ h => exact h
      have := ih hr
      simp; omega

set_option maxHeartbeats 2000000 in
set_option maxRecDepth 100000 in
theorem slCut_no (s : ByteArray) (w : World) (h : Lib.indexByte s.data.toList 32 = -1) :
    Calls Tryd.prog 34 #[.string s, .string ⟨#[32]⟩] w fun e w' => e = .returned (.tuple #[.string s, .string ⟨#[]⟩, .bool false]) ∧ Below w.heap.size w w' := by
  have C := aside (Tryd.stringslite_Index_one s 32 w)
  rw [h] at C
  go_enter Tryd.func34, Tryd.ntmps34
  go_wp2_with (go_at_call 44; refine C.out.mono ?_; rintro e w1 ⟨rfl, rfl⟩)
  go_ret3
  exact ⟨rfl, Below.refl _ _⟩

set_option maxHeartbeats 2000000 in
set_option maxRecDepth 100000 in
theorem slCut_yes (s : ByteArray) (i : Nat) (w : World) (h : Lib.indexByte s.data.toList 32 = (i : Int)) (hi : i < s.size) (hs : s.size ≤ maxLen) :
    Calls Tryd.prog 34 #[.string s, .string ⟨#[32]⟩] w fun e w' => e = .returned (.tuple #[.string (s.extract 0 i), .string (s.extract (i + 1) s.size), .bool true]) ∧ Below w.heap.size w w' := by
  have C := aside (Tryd.stringslite_Index_one s 32 w)
  rw [h] at C
  unfold maxLen at hs
  have c1 : (0 : Int) ≤ (i : Int) := by omega
  have c2 : (i : Int) ≤ (s.size : Int) := by omega
  have c3 : (0 : Int) ≤ (i : Int) + 1 := by omega
  have c4 : (i : Int) + 1 ≤ (s.size : Int) := by omega
  go_enter Tryd.func34, Tryd.ntmps34
  go_wp2_with (go_at_call 44; refine C.out.mono ?_; rintro e w1 ⟨rfl, rfl⟩)
  refine region_ext (by kernel_rfl) (by kernel_rfl) ?_
  repeat (any_goals (first | go_big_quiet_step (fail) | quiet_step (fail)))
  refine wpQuiet_nil ?_
  intro wq hq
  go_wp2
  go_ret3
  exact ⟨rfl, hq⟩

set_option maxHeartbeats 2000000 in
theorem cut_no (s : ByteArray) (w : World) (h : Lib.indexByte s.data.toList 32 = -1) :
    Calls Tryd.prog 24 #[.string s, .string ⟨#[32]⟩] w fun e w' => e = .returned (.tuple #[.string s, .string ⟨#[]⟩, .bool false]) ∧ Below w.heap.size w w' := by
  have C := aside (slCut_no s w h)
  go_enter Tryd.func24, Tryd.ntmps24
  go_wp2_with (go_at_call 34; refine C.out.mono ?_; rintro e w1 ⟨rfl, b1⟩)
  go_ret3
  exact ⟨rfl, b1⟩

set_option maxHeartbeats 2000000 in
theorem cut_yes (s : ByteArray) (i : Nat) (w : World) (h : Lib.indexByte s.data.toList 32 = (i : Int)) (hi : i < s.size) (hs : s.size ≤ maxLen) :
    Calls Tryd.prog 24 #[.string s, .string ⟨#[32]⟩] w fun e w' => e = .returned (.tuple #[.string (s.extract 0 i), .string (s.extract (i + 1) s.size), .bool true]) ∧ Below w.heap.size w w' := by
  have C := aside (slCut_yes s i w h hi hs)
  go_enter Tryd.func24, Tryd.ntmps24
  go_wp2_with (go_at_call 34; refine C.out.mono ?_; rintro e w1 ⟨rfl, b1⟩)
  go_ret3
  exact ⟨rfl, b1⟩

set_option maxHeartbeats 2000000 in
theorem clone_any (s : ByteArray) (w : World) (hs : s.size ≤ 281474976710656) : Calls Tryd.prog 26 #[.string s] w fun e w' => e = .returned (.string s) ∧ Below w.heap.size w w' := by
  have C := aside (Tryd.stringslite_Clone s w hs)
  go_enter Tryd.func26, Tryd.ntmps26
  go_wp2_with (go_at_call 35; refine C.out.mono ?_; rintro e w1 ⟨rfl, b1⟩)
  go_ret
  exact ⟨rfl, b1⟩

/-- The bit of a word, 0 if it is none of the four. -/
def bitN (t : ByteArray) : Nat := if t = bWrite then 1 else if t = bCut then 2 else if t = bHoles then 4 else if t = bSync then 8 else 0
/-- None of the first i words. -/
def NotWords (t : ByteArray) (i : Nat) : Prop := (0 < i → t ≠ bWrite) ∧ (1 < i → t ≠ bCut) ∧ (2 < i → t ≠ bHoles) ∧ (3 < i → t ≠ bSync)

set_option maxHeartbeats 4000000 in
set_option maxRecDepth 100000 in
theorem bitOf_any (t : ByteArray) (w : World) (hw : WordsAt w) : Calls Tryd.prog 25 #[.string t] w fun e w' => e = .returned (.int .u8 (bitN t : Int)) ∧ Below w.heap.size w w' := by
  generalize hr : bitN t = r
  have HR := aside hr
  have c0 := hw 0 _ rfl
  have c1 := hw 1 _ rfl
  have c2 := hw 2 _ rfl
  have c3 := hw 3 _ rfl
  have c4 := hw 4 _ rfl
  have c5 := hw 5 _ rfl
  have c6 := hw 6 _ rfl
  have c7 := hw 7 _ rfl
  clear hr hw
  go_enter Tryd.func25, Tryd.ntmps25
  go_wp2
  clear c0 c1 c2 c3 c4 c5 c6 c7
  go_loopg [6] 4 (fun kx s6 wr => ∃ i : Nat, s6 = .int .i64 i ∧ i ≤ 4 ∧ 4 - i ≤ kx ∧ w.heap.size ≤ wr.heap.size ∧ Aside (Below w.heap.size w wr) ∧ Aside (NotWords t i))
  case atStart => exact ⟨0, rfl, by omega, by omega, Nat.le_refl _, Below.refl _ _, (show NotWords t 0 from ⟨fun h => absurd h (by decide), fun h => absurd h (by decide), fun h => absurd h (by decide), fun h => absurd h (by decide)⟩)⟩
  case round =>
    obtain ⟨i, rfl, hi, hk, hsz, hbw, hnw⟩ := hrel
    by_cases hlt : i < 4
    · have hi4 : i = 0 ∨ i = 1 ∨ i = 2 ∨ i = 3 := by omega
      rcases hi4 with rfl | rfl | rfl | rfl
      · have hix := fun W => idx_0 (.int .u8 1) (.string bWrite) (.int .u8 2) (.string bCut) (.int .u8 4) (.string bHoles) (.int .u8 8) (.string bSync) W
        by_cases ht : t = bWrite
        · have hr : r = 1 := by rw [← HR.out, ht]; rfl
          subst hr
          have t1 : ([119, 114, 105, 116, 101] == t.toList) = true := by rw [ht, Lib.toList_data]; decide
          have HT := aside ht
          clear ht
          go_wp2
          go_ret
          exact ⟨rfl, hbw.out.trans ((below_al wr _).mono hsz)⟩
        · have t1 : ([119, 114, 105, 116, 101] == t.toList) = false := by rw [beq_eq_false_iff_ne]; exact fun h => ht (bytes_of t _ h.symm)
          have HT := aside ht
          clear ht
          go_wp2
          go_roundg 3
          case measure => omega
          case rel => exact ⟨1, rfl, by omega, by omega, by simp; omega, hbw.out.trans ((below_al wr _).mono hsz), (show NotWords t 1 from ⟨fun _ => HT.out, fun h => absurd h (by decide), fun h => absurd h (by decide), fun h => absurd h (by decide)⟩)⟩
      · have hix := fun W => idx_1 (.int .u8 1) (.string bWrite) (.int .u8 2) (.string bCut) (.int .u8 4) (.string bHoles) (.int .u8 8) (.string bSync) W
        by_cases ht : t = bCut
        · have hr : r = 2 := by rw [← HR.out, ht]; rfl
          subst hr
          have t1 : ([99, 117, 116] == t.toList) = true := by rw [ht, Lib.toList_data]; decide
          have HT := aside ht
          clear ht
          go_wp2
          go_ret
          exact ⟨rfl, hbw.out.trans ((below_al wr _).mono hsz)⟩
        · have t1 : ([99, 117, 116] == t.toList) = false := by rw [beq_eq_false_iff_ne]; exact fun h => ht (bytes_of t _ h.symm)
          have HT := aside ht
          clear ht
          go_wp2
          go_roundg 2
          case measure => omega
          case rel => exact ⟨2, rfl, by omega, by omega, by simp; omega, hbw.out.trans ((below_al wr _).mono hsz), (show NotWords t 2 from ⟨fun _ => hnw.out.1 (by decide), fun _ => HT.out, fun h => absurd h (by decide), fun h => absurd h (by decide)⟩)⟩
      · have hix := fun W => idx_2 (.int .u8 1) (.string bWrite) (.int .u8 2) (.string bCut) (.int .u8 4) (.string bHoles) (.int .u8 8) (.string bSync) W
        by_cases ht : t = bHoles
        · have hr : r = 4 := by rw [← HR.out, ht]; rfl
          subst hr
          have t1 : ([104, 111, 108, 101, 115] == t.toList) = true := by rw [ht, Lib.toList_data]; decide
          have HT := aside ht
          clear ht
          go_wp2
          go_ret
          exact ⟨rfl, hbw.out.trans ((below_al wr _).mono hsz)⟩
        · have t1 : ([104, 111, 108, 101, 115] == t.toList) = false := by rw [beq_eq_false_iff_ne]; exact fun h => ht (bytes_of t _ h.symm)
          have HT := aside ht
          clear ht
          go_wp2
          go_roundg 1
          case measure => omega
          case rel => exact ⟨3, rfl, by omega, by omega, by simp; omega, hbw.out.trans ((below_al wr _).mono hsz), (show NotWords t 3 from ⟨fun _ => hnw.out.1 (by decide), fun _ => hnw.out.2.1 (by decide), fun _ => HT.out, fun h => absurd h (by decide)⟩)⟩
      · have hix := fun W => idx_3 (.int .u8 1) (.string bWrite) (.int .u8 2) (.string bCut) (.int .u8 4) (.string bHoles) (.int .u8 8) (.string bSync) W
        by_cases ht : t = bSync
        · have hr : r = 8 := by rw [← HR.out, ht]; rfl
          subst hr
          have t1 : ([115, 121, 110, 99] == t.toList) = true := by rw [ht, Lib.toList_data]; decide
          have HT := aside ht
          clear ht
          go_wp2
          go_ret
          exact ⟨rfl, hbw.out.trans ((below_al wr _).mono hsz)⟩
        · have t1 : ([115, 121, 110, 99] == t.toList) = false := by rw [beq_eq_false_iff_ne]; exact fun h => ht (bytes_of t _ h.symm)
          have HT := aside ht
          clear ht
          go_wp2
          go_roundg 0
          case measure => omega
          case rel => exact ⟨4, rfl, by omega, by omega, by simp; omega, hbw.out.trans ((below_al wr _).mono hsz), (show NotWords t 4 from ⟨fun _ => hnw.out.1 (by decide), fun _ => hnw.out.2.1 (by decide), fun _ => hnw.out.2.2.1 (by decide), fun _ => HT.out⟩)⟩
    · obtain rfl : i = 4 := by omega
      have hr : r = 0 := by
        rw [← HR.out, bitN, if_neg (hnw.out.1 (by decide)), if_neg (hnw.out.2.1 (by decide)), if_neg (hnw.out.2.2.1 (by decide)), if_neg (hnw.out.2.2.2 (by decide))]
      subst hr
      go_wp2
      go_ret
      exact ⟨rfl, hbw.out⟩
end Go.Proofs.YtniohiepnojjbaaDoor
