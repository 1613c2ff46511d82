/- wakes: what the document says of two whos. -/
import Derived.Test.YtfpegmmciphjiaaSt
namespace Go.Proofs.Ytfpegmmciphjiaa
open Go.RowKit

theorem inR_c {l : Lk} (h : (decide (-9223372036854775808 ≤ l.who) && decide (l.who ≤ 9223372036854775807) && decide (-9223372036854775808 ≤ l.org) && decide (l.org ≤ 9223372036854775807) && decide (-9223372036854775808 ≤ l.len) && decide (l.len ≤ 9223372036854775807)) = true) : InR l := by
  simp only [Bool.and_eq_true, decide_eq_true_eq] at h
  exact ⟨h.1.1.1.1.1, h.1.1.1.1.2, h.1.1.1.2, h.1.1.2, h.1.2, h.2⟩
/-- Try of a lock, in numbers. -/
theorem try_c {w0 w : World} {p : Nat} {H W : List Lk} (who org len : Int) (sh : Bool) (n : Int) (H' : List Lk) (h : St w0 w p H W) (hl : InR ⟨who, org, len, sh⟩) (hE : ((tryE H W ⟨who, org, len, sh⟩ : Nat) : Int) = n) (hH : tryH H W ⟨who, org, len, sh⟩ = H') :
    Calls Try.prog 11 #[.pointer (some ⟨p, 0, none⟩), .agg #[.int .i64 who, .int .i64 org, .int .i64 len, .bool sh]] w fun e w' => e = .returned (.int .i64 n) ∧ St w0 w' p H' W := by
  have := try_st ⟨who, org, len, sh⟩ hl h
  rw [hE, hH] at this
  exact this
/-- Wait of a lock, in numbers. -/
theorem wait_c {w0 w : World} {p : Nat} {H W : List Lk} (who org len : Int) (sh : Bool) (ok : Bool) (n : Int) (H' W' : List Lk) (d : Bool) (h : St w0 w p H W) (hl : InR ⟨who, org, len, sh⟩) (hd : d = true ↔ dead H W ⟨who, org, len, sh⟩) (hO : okOf (waitE H W ⟨who, org, len, sh⟩ d) = ok) (hE : ((erOf (waitE H W ⟨who, org, len, sh⟩ d) : Nat) : Int) = n) (hH : waitH H W ⟨who, org, len, sh⟩ d = H') (hW : waitW H W ⟨who, org, len, sh⟩ d = W') :
    Calls Try.prog 13 #[.pointer (some ⟨p, 0, none⟩), .agg #[.int .i64 who, .int .i64 org, .int .i64 len, .bool sh]] w fun e w' => e = .returned (.tuple #[.bool ok, .int .i64 n]) ∧ St w0 w' p H' W' := by
  have := wait_st ⟨who, org, len, sh⟩ hl h d hd
  rw [hE, hH, hW, hO] at this
  exact this
theorem free_c {w0 w : World} {p : Nat} {H W : List Lk} (who org len : Int) (sh : Bool) (m : Nat) (n : Int) (H' W' U : List Lk) (h : St w0 w p H W) (hl : InR ⟨who, org, len, sh⟩) (hE : ((freeE H ⟨who, org, len, sh⟩ : Nat) : Int) = n) (hT : freeT H W ⟨who, org, len, sh⟩ = (H', W', U)) (hm : U.length = m) :
    Calls Try.prog 15 #[.pointer (some ⟨p, 0, none⟩), .agg #[.int .i64 who, .int .i64 org, .int .i64 len, .bool sh]] w fun e w' => ∃ a c, e = .returned (.tuple #[.slice a m c, .int .i64 n]) ∧ St w0 w' p H' W' ∧ Own w' (.slice a m c) U := by
  have := free_st ⟨who, org, len, sh⟩ hl h
  rw [hE, hT] at this
  simp only [hm] at this
  exact this.mono fun _ _ ⟨a, c, h1, h2, h3, _⟩ => ⟨a, c, h1, h2, h3⟩
theorem leave_c {w0 w : World} {p : Nat} {H W : List Lk} (who : Int) (m : Nat) (H' W' U : List Lk) (h : St w0 w p H W) (hT : leaveT H W who = (H', W', U)) (hm : U.length = m) :
    Calls Try.prog 18 #[.pointer (some ⟨p, 0, none⟩), .int .i64 who] w fun e w' => ∃ a c, e = .returned (.slice a m c) ∧ St w0 w' p H' W' ∧ Own w' (.slice a m c) U := by
  have := leave_st who h
  rw [hT] at this
  simp only [hm] at this
  exact this.mono fun _ _ ⟨a, c, h1, h2, h3, _⟩ => ⟨a, c, h1, h2, h3⟩
theorem held_c {w0 w : World} {p m : Nat} {H W : List Lk} (h : St w0 w p H W) (hm : H.length = m) :
    Calls Try.prog 20 #[.pointer (some ⟨p, 0, none⟩)] w fun e w' => ∃ a c, e = .returned (.slice a m c) ∧ St w0 w' p H W ∧ Own w' (.slice a m c) H ∧ Below w.heap.size w w' := by
  subst hm
  exact (held_st h).mono fun _ _ ⟨a, c, h1, h2, h3, _⟩ => ⟨a, c, h1, h.below h3, h2, h3⟩
theorem waits_c {w0 w : World} {p m : Nat} {H W : List Lk} (h : St w0 w p H W) (hm : W.length = m) :
    Calls Try.prog 21 #[.pointer (some ⟨p, 0, none⟩)] w fun e w' => ∃ a c, e = .returned (.slice a m c) ∧ St w0 w' p H W ∧ Own w' (.slice a m c) W ∧ Below w.heap.size w w' := by
  subst hm
  exact (waits_st h).mono fun _ _ ⟨a, c, h1, h2, h3, _⟩ => ⟨a, c, h1, h.below h3, h2, h3⟩
/-- The first lock of a list that was told. -/
theorem own_first {w : World} {a : Option Addr} {n c : Nat} {l : Lk} {L : List Lk} (h : Own w (.slice a n c) (l :: L)) : ∃ g, a = some ⟨g, 0, none⟩ ∧ Bx w g l.who l.org l.len l.sh := by
  obtain ⟨-, g, rfl, hr⟩ := h.form (by simp)
  obtain ⟨h0, h1, h2, h3⟩ := hr.lock (i := 0) (l := l) rfl
  exact ⟨g, rfl, ⟨by simpa using h0, by simpa using h1, by simpa using h2, by simpa using h3⟩⟩

abbrev kA : Lk := ⟨0, 0, 10, false⟩
abbrev kB : Lk := ⟨1, 5, 1, false⟩

set_option maxHeartbeats 2000000 in
theorem wakes_any (w : World) : Calls Try.prog 22 #[] w fun e w' => e = .returned (.bool true) ∧ Below w.heap.size w w' := by
  have b1 : ∀ w, (Instr.build 29 #[(2, .int .i64 10)]).run Try.prog w = .ok (.agg #[.int .i64 0, .int .i64 0, .int .i64 10, .bool false]) w := fun w => run_build w 29 _ _ (by kernel_rfl)
  have b2 : ∀ w, (Instr.build 29 #[(0, .int .i64 1), (1, .int .i64 5), (2, .int .i64 1)]).run Try.prog w = .ok (.agg #[.int .i64 1, .int .i64 5, .int .i64 1, .bool false]) w := fun w => run_build w 29 _ _ (by kernel_rfl)
  have N := aside (new_st w)
  go_enter Try.func22, Try.ntmps22
  go_wp2_with (first
    | (go_at_call 9; with_reducible refine N.out.mono ?_; rintro e w1 ⟨p, rfl, hs, -⟩; have C1 := aside (try_c 0 0 10 false 0 [kA] hs (inR_c rfl) rfl rfl); clear hs)
    | (go_at_call 11; with_reducible refine C1.out.mono ?_; rintro e w2 ⟨rfl, hs⟩; have C2 := aside (try_c 1 5 1 false 150 [kA] hs (inR_c rfl) rfl rfl); clear hs)
    | (go_at_call 11; with_reducible refine C2.out.mono ?_; rintro e w3 ⟨rfl, hs⟩; have C3 := aside (wait_c 1 5 1 false false 0 [kA] [kB] false hs (inR_c rfl) ⟨fun h => by simp at h, fun h => absurd h (no_dead rfl)⟩ rfl rfl rfl rfl); clear hs)
    | (go_at_call 13; with_reducible refine C3.out.mono ?_; rintro e w4 ⟨rfl, hs⟩; have C4 := aside (free_c 0 0 10 false 1 0 [kB] [] [kB] hs (inR_c rfl) rfl rfl rfl); clear hs)
    | (go_at_call 15; with_reducible refine C4.out.mono ?_; rintro e w5 ⟨a5, c5, rfl, hs, ho⟩; obtain ⟨g5, rfl, hx⟩ := own_first ho; have x0 := hx.c0; have C5 := aside (held_c hs rfl); clear hs ho hx)
    | (go_at_call 20; with_reducible refine C5.out.mono ?_; rintro e w6 ⟨a6, c6, rfl, hs, -, -⟩; have C6 := aside (waits_c hs rfl); clear hs)
    | (go_at_call 21; with_reducible refine C6.out.mono ?_; rintro e w7 ⟨a7, c7, rfl, hs, -, -⟩; have HS := aside hs.bl; clear hs))
  go_ret
  exact ⟨rfl, HS.out⟩
end Go.Proofs.Ytfpegmmciphjiaa
