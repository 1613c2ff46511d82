/- Put, Cut, Punch, Get over any arguments. -/
import Derived.Test.YtkekaljcbmkomaaMore
import Derived.Test.YtkekaljcbmkomaaGetZero
import Derived.Test.YtkekaljcbmkomaaContent
namespace Go.Proofs.Ytkekaljcbmkomaa
open Go.RowKit
attribute [local simp] lcells_nil readB_length bcells_length

/-- Bytes that can be read at an address, where there are any. -/
def BsAt (w : World) (a : Option Addr) (l : List UInt8) : Prop := l ≠ [] → ∃ ad, a = some ad ∧ ∀ j v, (bcells l)[j]? = some v → w.cell? (ad.add j) = some v
theorem BsAt.below {w w' : World} {a : Option Addr} {l : List UInt8} (h : BsAt w a l) (hb : Below w.heap.size w w') : BsAt w' a l := fun hl => by
  obtain ⟨ad, rfl, hc⟩ := h hl
  exact ⟨ad, rfl, fun j v hj => (hb.cell (World.block_lt_of_cell? w _ (hc j v hj))).trans (hc j v hj)⟩

theorem put_all (b sz : Nat) (lv : Value) (L : List Piece) (x : Int) (a : Option Addr) (l : List UInt8) (c : Nat) (w : World) (hR : Rep w b sz lv L) (hb : BsAt w a l) (hx : x ≤ 9223372036854775807) (hl : l.length ≤ 4611686018427387904) :
    Calls Try.prog 19 #[.pointer (some ⟨b, 0, none⟩), .int .i64 x, .slice a l.length c] w fun e w' => ∃ r sz' lv' L', e = .returned (.int .i64 r) ∧ PutR sz L x l r sz' L' ∧ Rep w' b sz' lv' L' ∧ Grew b lv L w lv' L' ∧ Upd (Foot b lv L) w w' := by
  by_cases h0 : x < 0
  · refine (putNeg_any b x _ w h0).mono ?_
    rintro e w' ⟨rfl, rfl⟩
    exact ⟨2, sz, lv, L, rfl, .inl ⟨h0, rfl, rfl, rfl⟩, hR, fun k hk => .inl hk, Upd.refl _ _⟩
  · by_cases hn : l = []
    · subst hn
      refine (putNone_any b x a c w (by omega)).mono ?_
      rintro e w' ⟨rfl, rfl⟩
      exact ⟨0, sz, lv, L, rfl, .inr (.inl ⟨by omega, rfl, rfl, rfl, rfl⟩), hR, fun k hk => .inl hk, Upd.refl _ _⟩
    · have hpos : 0 < l.length := List.length_pos_iff.2 hn
      by_cases hf : 1073741824 < x + l.length
      · refine (putFar_any b x a l.length c w (by omega) hx hpos hl hf).mono ?_
        rintro e w' ⟨rfl, rfl⟩
        exact ⟨3, sz, lv, L, rfl, .inr (.inr (.inl ⟨by omega, hn, .inl hf, rfl, rfl, rfl⟩)), hR, fun k hk => .inl hk, Upd.refl _ _⟩
      · obtain ⟨y, rfl⟩ : ∃ y : Nat, x = y := ⟨x.toNat, by omega⟩
        by_cases hh : 4194304 < heldOf L - ovls y (y + l.length) L + l.length
        · refine (putFull_any b sz lv L y l.length c a w hR hpos (by omega) hh).mono ?_
          rintro e w' ⟨rfl, hb'⟩
          exact ⟨3, sz, lv, L, rfl, .inr (.inr (.inl ⟨by omega, hn, .inr hh, rfl, rfl, rfl⟩)), hR.below hb', fun k hk => .inl hk, Upd.of_below hb'⟩
        · obtain ⟨ad, rfl, hc⟩ := hb hn
          refine (put_any b sz lv L y ad l c w hR hpos (by omega) (by omega) hc).mono ?_
          rintro e w' ⟨rfl, lv', L', hR', hL, hG, hu⟩
          exact ⟨0, _, lv', L', rfl, .inr (.inr (.inr ⟨by omega, hn, by omega, by simpa using hh, rfl, rfl, hL⟩)), hR', hG, hu⟩

theorem cut_all (b sz : Nat) (lv : Value) (L : List Piece) (x : Int) (w : World) (hR : Rep w b sz lv L) :
    Calls Try.prog 22 #[.pointer (some ⟨b, 0, none⟩), .int .i64 x] w fun e w' => ∃ r sz' lv' L', e = .returned (.int .i64 r) ∧ CutR sz L x r sz' L' ∧ Rep w' b sz' lv' L' ∧ Grew b lv L w lv' L' ∧ Upd (Foot b lv L) w w' := by
  by_cases h0 : x < 0
  · refine (cutNeg_any b x w h0).mono ?_
    rintro e w' ⟨rfl, rfl⟩
    exact ⟨2, sz, lv, L, rfl, .inl ⟨h0, rfl, rfl, rfl⟩, hR, fun k hk => .inl hk, Upd.refl _ _⟩
  · by_cases h1 : 1073741824 < x
    · refine (cutLong_any b x w h1).mono ?_
      rintro e w' ⟨rfl, rfl⟩
      exact ⟨3, sz, lv, L, rfl, .inr (.inl ⟨h1, rfl, rfl, rfl⟩), hR, fun k hk => .inl hk, Upd.refl _ _⟩
    · obtain ⟨y, rfl⟩ : ∃ y : Nat, x = y := ⟨x.toNat, by omega⟩
      refine (cut_any b sz lv L y w hR (by omega)).mono ?_
      rintro e w' ⟨rfl, lv', L', hR', hE, hG, hu⟩
      exact ⟨0, y, lv', L', rfl, .inr (.inr ⟨by omega, by omega, rfl, rfl, hE⟩), hR', hG, hu⟩

theorem punch_all (b sz : Nat) (lv : Value) (L : List Piece) (x n : Int) (w : World) (hR : Rep w b sz lv L) :
    Calls Try.prog 20 #[.pointer (some ⟨b, 0, none⟩), .int .i64 x, .int .i64 n] w fun e w' => ∃ r sz' lv' L', e = .returned (.int .i64 r) ∧ PunchR sz L x n r sz' L' ∧ Rep w' b sz' lv' L' ∧ Grew b lv L w lv' L' ∧ Upd (Foot b lv L) w w' := by
  by_cases h0 : x < 0 ∨ n < 0
  · refine (punchNeg_any b x n w h0).mono ?_
    rintro e w' ⟨rfl, rfl⟩
    exact ⟨2, sz, lv, L, rfl, .inl ⟨h0, rfl, rfl, rfl⟩, hR, fun k hk => .inl hk, Upd.refl _ _⟩
  · obtain ⟨y, rfl⟩ : ∃ y : Nat, x = y := ⟨x.toNat, by omega⟩
    obtain ⟨m, rfl⟩ : ∃ m : Nat, n = m := ⟨n.toNat, by omega⟩
    refine (punch_any b sz lv L y m w hR).mono ?_
    rintro e w' ⟨rfl, lv', L', hR', hE, hG, hu⟩
    exact ⟨0, sz, lv', L', rfl, .inr ⟨by omega, by omega, rfl, rfl, hE⟩, hR', hG, hu⟩

/-- What Get tells. -/
def getL (L : List Piece) (sz : Nat) (x n : Int) : List UInt8 := if x < 0 ∨ n < 0 ∨ (sz : Int) ≤ x then [] else readB L x.toNat (min n.toNat (min 65536 (sz - x.toNat)))
theorem ct_get {L M : List Piece} (h : ct L = ct M) (sz : Nat) (x n : Int) : getL L sz x n = getL M sz x n := by unfold getL; rw [ct_readB h]

set_option maxHeartbeats 1000000 in
theorem getOut_any (b : Nat) (sz : Nat) (x n : Int) (w : World) (hs : w.cell? ⟨b, 0, none⟩ = some (.int .i64 sz)) (h : x < 0 ∨ n < 0 ∨ (sz : Int) ≤ x) :
    Calls Try.prog 21 #[.pointer (some ⟨b, 0, none⟩), .int .i64 x, .int .i64 n] w fun e w' => e = .returned (.slice none 0 0) ∧ w' = w := by
  by_cases h1 : x < 0
  · have d1 : decide (x < 0) = true := by simpa using h1
    go_enter Try.func21, Try.ntmps21
    go_wp2
    go_ret
    exact ⟨rfl, rfl⟩
  · have d1 : decide (x < 0) = false := by simpa using h1
    by_cases h2 : n < 0
    · have d2 : decide (n < 0) = true := by simpa using h2
      go_enter Try.func21, Try.ntmps21
      go_wp2
      go_ret
      exact ⟨rfl, rfl⟩
    · have d2 : decide (n < 0) = false := by simpa using h2
      have h3 : (sz : Int) ≤ x := by omega
      go_enter Try.func21, Try.ntmps21
      go_wp2
      go_ret
      exact ⟨rfl, rfl⟩

/-- A row of bytes that is the call's own. -/
def NewB (w : World) (B : Nat) (a : Option Addr) (l : List UInt8) : Prop := l = [] ∨ (a = some ⟨B, 0, none⟩ ∧ w.heap[B]? = some (.cells (bcells l).toArray 5 (0, 0)))

theorem get_all (b sz : Nat) (lv : Value) (L : List Piece) (x n : Int) (w : World) (hR : Rep w b sz lv L) (hn : n ≤ 4611686018427387904) :
    Calls Try.prog 21 #[.pointer (some ⟨b, 0, none⟩), .int .i64 x, .int .i64 n] w fun e w' => ∃ a c, e = .returned (.slice a (getL L sz x n).length c) ∧ (getL L sz x n).length ≤ c ∧ NewB w' w.heap.size a (getL L sz x n) ∧ Below w.heap.size w w' := by
  obtain ⟨c0, c1, c2⟩ := hR.cells
  by_cases h : x < 0 ∨ n < 0 ∨ (sz : Int) ≤ x
  · refine (getOut_any b sz x n w c0 h).mono ?_
    rintro e w' ⟨rfl, rfl⟩
    have e1 : getL L sz x n = [] := by unfold getL; rw [if_pos h]
    rw [e1]
    exact ⟨none, 0, rfl, Nat.le_refl _, .inl rfl, Below.refl _ _⟩
  · obtain ⟨y, rfl⟩ : ∃ y : Nat, x = y := ⟨x.toNat, by omega⟩
    obtain ⟨m, rfl⟩ : ∃ m : Nat, n = m := ⟨n.toNat, by omega⟩
    have e1 : getL L sz y m = readB L y (min m (min 65536 (sz - y))) := by unfold getL; rw [if_neg h]; simp
    rw [e1, readB_length]
    rcases Nat.eq_zero_or_pos m with rfl | hm
    · refine (get_zero b lv sz L y w hR.inv (by omega) c0 c2 hR.str.row hR.str.data).mono ?_
      rintro e w' ⟨rfl, hh, hb⟩
      exact ⟨some ⟨w.heap.size, 0, none⟩, 0, by simp, by simp, .inl (by simp [readB]), hb⟩
    · refine (get_any b lv sz L y m w hR.inv (by omega) (by omega) hm c0 c2 hR.str.row hR.str.data).mono ?_
      rintro e w' ⟨q, rfl, rfl, hh, hb⟩
      exact ⟨_, _, rfl, Nat.le_refl _, .inr ⟨rfl, hh⟩, hb⟩
end Go.Proofs.Ytkekaljcbmkomaa
