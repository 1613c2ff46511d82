/- Reads of a file of memory at any place; copies of what they tell; pieces.read. -/
import Derived.Test.YtoagjgcpgpjjeaaAsk
import Derived.Test.YtoagjgcpgpjjeaaGetAll
import Derived.Test.YtoagjgcpgpjjeaaSum
import Derived.Test.YtoagjgcpgpjjeaaEntry
namespace Go.Proofs.Ytoagjgcpgpjjeaa
open Go.RowKit
attribute [local simp] lcells_nil readB_length bcells_length

/-- Bytes that were told: nil if there are none. -/
def Tel (w : World) (a : Option Addr) (l : List UInt8) (c : Nat) : Prop :=
  (l = [] ∧ a = none ∧ c = 0) ∨ (l ≠ [] ∧ l.length ≤ c ∧ ∃ ad, a = some ad ∧ ∀ j v, (bcells l)[j]? = some v → w.cell? (ad.add j) = some v)
theorem Tel.bs {w : World} {a : Option Addr} {l : List UInt8} {c : Nat} (h : Tel w a l c) : BsAt w a l := fun hl => by
  rcases h with ⟨h, -⟩ | ⟨-, -, h⟩
  · exact absurd h hl
  · exact h
theorem Tel.below {w w' : World} {a : Option Addr} {l : List UInt8} {c : Nat} (h : Tel w a l c) (hb : Below w.heap.size w w') : Tel w' a l c := by
  rcases h with h | ⟨h1, h2, ad, rfl, h3⟩
  · exact .inl h
  · exact .inr ⟨h1, h2, ad, rfl, fun j v hj => (hb.cell (World.block_lt_of_cell? w _ (h3 j v hj))).trans (h3 j v hj)⟩

theorem getL_in {L : List Piece} {sz x n : Nat} (h : x < sz) : getL L sz x n = readB L x (min n (min 65536 (sz - x))) := by
  unfold getL
  rw [if_neg (by omega), Int.toNat_natCast, Int.toNat_natCast]
theorem getL_out {L : List Piece} {sz x n : Nat} (h : sz ≤ x) : getL L sz x n = [] := by
  unfold getL
  rw [if_pos (by omega)]
theorem getL_le (L : List Piece) (sz x n : Nat) : (getL L sz x n).length ≤ n := by
  rcases Nat.lt_or_ge x sz with h | h
  · rw [getL_in h, readB_length]; omega
  · rw [getL_out h]; simp

set_option maxRecDepth 20000 in
set_option maxHeartbeats 1000000 in
theorem fOut_any (m b sz : Nat) (x n : Nat) (w : World) (hF : Fil w m b) (hs : w.cell? ⟨b, 0, none⟩ = some (.int .i64 sz)) (hx : sz ≤ x) (hn : n ≤ 65536) :
    Calls Try.prog 117 #[.pointer (some ⟨m, 0, none⟩), .int .i64 x, .int .i64 n] w fun e w' => e = .returned (.tuple #[.slice none 0 0, .int .i64 0]) ∧ w' = w := by
  have h0 := hF.cell
  have HG := aside (getOut_any b sz x n w hs (by omega))
  have h1 : ¬ ((x : Int) < 0) := by omega
  have h2 : ¬ ((n : Int) < 0) := by omega
  have h3 : ¬ ((65536 : Int) < n) := by omega
  have h4 : ¬ (65536 < n) := by omega
  clear hF hs
  go_enter Try.func117, Try.ntmps117
  go_wp2_with fail
  refine HG.out.mono ?_
  rintro e w' ⟨rfl, rfl⟩
  go_wp2
  go_ret2
  exact ⟨rfl, rfl⟩

theorem fRead_all (m b sz : Nat) (lv : Value) (L : List Piece) (x n : Nat) (w : World) (hF : Fil w m b) (hR : Rep w b sz lv L) (hn : n ≤ 65536) (hn0 : 0 < n) :
    Calls Try.prog 117 #[.pointer (some ⟨m, 0, none⟩), .int .i64 x, .int .i64 n] w fun e w' => ∃ a c, e = .returned (.tuple #[.slice a (getL L sz x n).length c, .int .i64 0]) ∧ Tel w' a (getL L sz x n) c ∧ Below w.heap.size w w' := by
  rcases Nat.lt_or_ge x sz with h | h
  · refine (fRead_any m b sz lv L x n w hF hR h hn hn0).mono ?_
    rintro e w' ⟨k, hk, rfl, hh, hb⟩
    rw [getL_in h, ← hk]
    refine ⟨some ⟨w.heap.size, 0, none⟩, k, by rw [readB_length], .inr ⟨?_, by rw [readB_length]; exact Nat.le_refl _, _, rfl, cells_lit hh⟩, hb⟩
    intro e
    have := congrArg List.length e
    rw [readB_length] at this
    simp at this
    omega
  · refine (fOut_any m b sz x n w hF hR.cells.1 h hn).mono ?_
    rintro e w' ⟨rfl, rfl⟩
    rw [getL_out h]
    exact ⟨none, 0, rfl, .inl ⟨rfl, rfl, rfl⟩, Below.refl _ _⟩

set_option maxRecDepth 20000 in
set_option maxHeartbeats 1000000 in
theorem bclone_nil (w : World) : Calls Try.prog 40 #[.slice none 0 0] w fun e w' => e = .returned (.slice none 0 0) ∧ w' = w := by
  have hnil : ∀ w, (binOp .eql 22 (.slice none 0 0) (.slice none 0 0)).run Try.prog w = .ok (.bool true) w := fun w => Lib.run_eql_slice_nil w 22 5 none 0 0 0 0 Try.underlying22
  go_enter Try.func40, Try.ntmps40
  go_wp2_with fail
  go_ret
  exact ⟨rfl, rfl⟩
theorem bclone_all (a : Option Addr) (l : List UInt8) (c : Nat) (w : World) (h : Tel w a l c) (hl : l.length ≤ 4294967296) :
    Calls Try.prog 40 #[.slice a l.length c] w fun e w' => ∃ a' c', e = .returned (.slice a' l.length c') ∧ Tel w' a' l c' ∧ Below w.heap.size w w' := by
  rcases h with ⟨rfl, rfl, rfl⟩ | ⟨h1, h2, ad, rfl, h3⟩
  · refine (bclone_nil w).mono ?_
    rintro e w' ⟨rfl, rfl⟩
    exact ⟨none, 0, rfl, .inl ⟨rfl, rfl, rfl⟩, Below.refl _ _⟩
  · refine (bclone_any ad l c w (List.length_pos_iff.2 h1) hl h3).mono ?_
    rintro e w' ⟨g, cap, rfl, -, ho, hb⟩
    have hc : l.length ≤ cap := by
      rcases ho.2 with ⟨h, -⟩ | ⟨g', c', cur, h, -, -, hn, -⟩
      · cases h
      · injection h with _ _ e3
        subst e3; exact hn
    exact ⟨_, cap, rfl, .inr ⟨h1, hc, _, rfl, fun j v hj => by
      have hjl : j < (bcells l).length := (List.getElem?_eq_some_iff.1 hj).1
      rw [bcells_length] at hjl
      rw [Addr.add_lit, Nat.zero_add, ho.cellAt j (by omega)]; exact hj⟩, hb⟩

set_option maxRecDepth 20000 in
set_option maxHeartbeats 1000000 in
theorem read_any (t fb m b sz n : Nat) (lv : Value) (L : List Piece) (k : Nat) (w : World) (hm : ∀ W, Below w.heap.size w W → (method 312 t (.pointer (some ⟨fb, 0, none⟩)) "ReadAt").run Try.prog W = .ok (117, .pointer (some ⟨m, 0, none⟩)) W)
    (hF : Fil w m b) (hR : Rep w b sz lv L) (hn : n ≤ 65536) (hn0 : 0 < n) (hk : k ≤ 1073741824) :
    Calls Try.prog 30 #[.agg #[.func (.method "ReadAt") #[.iface t (.pointer (some ⟨fb, 0, none⟩))] #[], .int .i64 n], .int .i64 k] w fun e w' => ∃ a c, e = .returned (.tuple #[.slice a (getL L sz (k * n : Nat) n).length c, .int .i64 0]) ∧ Tel w' a (getL L sz (k * n : Nat) n) c ∧ Below w.heap.size w w' := by
  have hkn : k * n ≤ 1073741824 * 65536 := Nat.mul_le_mul hk hn
  obtain ⟨W, hW⟩ : ∃ W, W = w.alloc (.cells #[.func (.method "ReadAt") #[.iface t (.pointer (some ⟨fb, 0, none⟩))] #[], .int .i64 n] 70) := ⟨_, rfl⟩
  have hB : Below w.heap.size w W := by rw [hW]; exact below_al w _
  have o1 : W.cell? ⟨w.heap.size, 1, none⟩ = some (.int .i64 n) := by rw [hW]; go_simp
  have hm0 := hm W hB
  rw [hW] at hm0
  have F1 := fRead_all m b sz lv L (k * n) n W (hF.below hB) (hR.below hB) hn hn0
  have hlt : w.heap.size < W.heap.size := World.block_lt_of_cell? W _ o1
  have hgl := getL_le L sz (k * n) n
  generalize getL L sz ((k * n : Nat) : Int) (n : Int) = g at *
  rw [Int.natCast_mul] at F1
  have HF1 := aside F1
  have HB := aside hB
  clear hm hF hR hB F1
  go_enter Try.func30, Try.ntmps30
  go_wp2_with fail
  rw [← hW]
  clear hW hm0
  refine HF1.out.mono ?_
  rintro e w1 ⟨a, c, rfl, hT, hb1⟩
  have hc1 : w1.cell? ⟨w.heap.size, 1, none⟩ = some (.int .i64 n) := (hb1.cell (p := ⟨w.heap.size, 1, none⟩) hlt).trans o1
  have HT := aside hT
  have HB1 := aside (below_tr HB.out hb1)
  have hmn : min (g.length : Int) (n : Int) = (g.length : Int) := by omega
  have HMN := aside hmn
  clear o1 hb1 HB hmn
  rcases hT with ⟨rfl, rfl, rfl⟩ | ⟨h1, h2, ad, rfl, h3⟩
  · go_wp2_with ((with_reducible refine wpList_min2 _ rfl _ _ _ rfl 0 (n : Int) 0 ?_ ?_ HMN.out ?_); rfl; rfl)
    refine (bclone_nil w1).mono ?_
    rintro e w2 ⟨rfl, rfl⟩
    go_wp2
    go_ret2
    exact ⟨none, 0, rfl, HT.out, HB1.out⟩
  · have i1 : (g.length : Int) ≤ (c : Int) := by omega
    have i3 : (0 : Int) ≤ (g.length : Int) := by omega
    have F2 := aside (bclone_all (some ad) g c w1 HT.out (by omega))
    clear h1 h3
    go_wp2_with ((with_reducible refine wpList_min2 _ rfl _ _ _ rfl (g.length : Int) (n : Int) (g.length : Int) ?_ ?_ HMN.out ?_); rfl; rfl)
    refine F2.out.mono ?_
    rintro e w2 ⟨a', c', rfl, hT2, hb2⟩
    have HT2 := aside hT2
    have HB2 := aside (below_tr HB1.out hb2)
    clear hT2 hb2
    go_wp2
    go_ret2
    exact ⟨a', c', rfl, HT2.out, HB2.out⟩
end Go.Proofs.Ytoagjgcpgpjjeaa
