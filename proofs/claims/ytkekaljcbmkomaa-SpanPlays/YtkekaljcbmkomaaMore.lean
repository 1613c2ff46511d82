/- Put where it is refused or empty; Punch, whole; New of none. -/
import Derived.Test.YtkekaljcbmkomaaLayAny
import Derived.Test.YtkekaljcbmkomaaCut
import Derived.Test.YtkekaljcbmkomaaNext
namespace Go.Proofs.Ytkekaljcbmkomaa
open Go.RowKit
attribute [local simp] lcells_nil readB_length bcells_length

theorem putNone_any (b : Nat) (x : Int) (a : Option Addr) (c : Nat) (w : World) (hx : 0 ≤ x) : Calls Try.prog 19 #[.pointer (some ⟨b, 0, none⟩), .int .i64 x, .slice a 0 c] w fun e w' => e = .returned (.int .i64 0) ∧ w' = w := by
  have h0 : ¬ (x < 0) := by omega
  go_enter Try.func19, Try.ntmps19
  go_wp2
  go_ret
  exact ⟨rfl, rfl⟩

theorem putFar_any (b : Nat) (x : Int) (a : Option Addr) (n c : Nat) (w : World) (hx : 0 ≤ x) (hx2 : x ≤ 9223372036854775807) (hn0 : 0 < n) (hn : n ≤ 4611686018427387904) (h : 1073741824 < x + n) : Calls Try.prog 19 #[.pointer (some ⟨b, 0, none⟩), .int .i64 x, .slice a n c] w fun e w' => e = .returned (.int .i64 3) ∧ w' = w := by
  have h0 : ¬ (x < 0) := by omega
  have h1 : ¬ ((n : Int) = 0) := by omega
  have h2 : ¬ (n = 0) := by omega
  have h3 : (1073741824 : Int) - x < (n : Int) := by omega
  go_enter Try.func19, Try.ntmps19
  go_wp2
  go_ret
  exact ⟨rfl, rfl⟩

set_option maxHeartbeats 1000000 in
theorem putFull_any (b sz : Nat) (lv : Value) (L : List Piece) (x n c : Nat) (src : Option Addr) (w : World) (hR : Rep w b sz lv L) (h0 : 0 < n) (hxl : x + n ≤ 1073741824) (hheld : 4194304 < heldOf L - ovls x (x + n) L + n) :
    Calls Try.prog 19 #[.pointer (some ⟨b, 0, none⟩), .int .i64 x, .slice src n c] w fun e w' => e = .returned (.int .i64 3) ∧ Below w.heap.size w w' := by
  obtain ⟨c0, c1, c2⟩ := hR.cells
  have hbl : b < w.heap.size := World.block_lt_of_cell? w _ c0
  have hov := ovls_le x (x + n) L
  have hhe := hR.inv.held
  have W1 := fun (W : World) (hW : Below w.heap.size w W) => written_any b lv sz L x (x + n) W hR.inv (by omega) hxl (hR.below hW).cells.2.2 (hR.below hW).str.row
  have x1 : ∀ d os, (ext w d os).cell? ⟨b, 1, none⟩ = some (.int .i64 (heldOf L)) := fun d os => ext_cell c1 d os
  have HW := aside W1
  have hn0 : ((n : Int) == 0) = false := by simp; omega
  have hnz : ¬ (n = 0) := by omega
  generalize ovls x (x + n) L = ov at *
  generalize heldOf L = he at *
  have hbig : 4194304 < (he : Int) - ov + n := by omega
  clear W1 hR
  go_enter Try.func19, Try.ntmps19
  go_wp2
  refine region_ext (by kernel_rfl) (by kernel_rfl) ?_
  repeat (any_goals (first | go_big_quiet_step ((go_at_call 35; rw [show (x : Int) + (n : Int) = ((x + n : Nat) : Int) by omega]; exact calls_ext (HW.out _ (below_ext _ _ _)))) | quiet_step ((go_at_call 35; rw [show (x : Int) + (n : Int) = ((x + n : Nat) : Int) by omega]; exact calls_ext (HW.out _ (below_ext _ _ _))))))
  refine wpQuiet_nil ?_
  intro wq hq
  have HQ := aside hq
  clear hq
  go_wp2
  go_ret
  exact ⟨rfl, HQ.out⟩

set_option maxHeartbeats 1000000 in
/-- Punch, whole. -/
theorem punchNeg_any (b : Nat) (x n : Int) (w : World) (hx : x < 0 ∨ n < 0) : Calls Try.prog 20 #[.pointer (some ⟨b, 0, none⟩), .int .i64 x, .int .i64 n] w fun e w' => e = .returned (.int .i64 2) ∧ w' = w := by
  by_cases h : x < 0
  · have hd : decide (x < 0) = true := by simpa using h
    go_enter Try.func20, Try.ntmps20
    go_wp2
    go_ret
    exact ⟨rfl, rfl⟩
  · have hd : decide (x < 0) = false := by simpa using h
    have hn : n < 0 := by omega
    go_enter Try.func20, Try.ntmps20
    go_wp2
    go_ret
    exact ⟨rfl, rfl⟩

set_option maxHeartbeats 1000000 in
theorem punch_any (b sz : Nat) (lv : Value) (L : List Piece) (x n : Nat) (w : World) (hR : Rep w b sz lv L) :
    Calls Try.prog 20 #[.pointer (some ⟨b, 0, none⟩), .int .i64 x, .int .i64 n] w fun e w' => e = .returned (.int .i64 0) ∧ ∃ lv' L', Rep w' b sz lv' L' ∧ Erased L L' x (x + min n (sz - x)) ∧ Grew b lv L w lv' L' ∧ Upd (Foot b lv L) w w' := by
  have hsz := hR.inv.size
  obtain ⟨c0, c1, c2⟩ := hR.cells
  have d1 : decide ((x : Int) < 0) = false := by simp
  have d2 : decide ((n : Int) < 0) = false := by simp
  rcases Nat.lt_or_ge x sz with hlt | hge
  · have HE := aside (eraseAll_any b sz lv L x (x + min n (sz - x)) w hR (by omega))
    have hlt' : (x : Int) < (sz : Int) := by omega
    have hmn : min (n : Int) ((sz : Int) - (x : Int)) = ((min n (sz - x) : Nat) : Int) := by omega
    have HMN := aside hmn
    have hxx : (x : Int) + ((min n (sz - x) : Nat) : Int) = ((x + min n (sz - x) : Nat) : Int) := by omega
    have hmle : min n (sz - x) ≤ sz := by omega
    generalize min n (sz - x) = m at *
    have HXX := aside hxx
    clear hmn hxx hR
    go_enter Try.func20, Try.ntmps20
    go_wp2_with ((with_reducible refine wpList_min2 _ rfl _ _ _ rfl (n : Int) ((sz : Int) - (x : Int)) (m : Int) ?_ ?_ HMN.out ?_); rfl; rfl)
    rw [HXX.out]
    refine HE.out.mono ?_
    rintro e w' ⟨rfl, lv', L', hR', hE, hG, hu⟩
    have HH := aside (And.intro hR' (And.intro hE (And.intro hG hu)))
    clear hR' hE hG hu
    go_wp2
    go_ret
    exact ⟨rfl, lv', L', HH.out⟩
  · have hge' : ¬ ((x : Int) < (sz : Int)) := by omega
    have HR := aside hR
    clear hR
    go_enter Try.func20, Try.ntmps20
    go_wp2
    go_ret
    exact ⟨rfl, lv, L, HR.out, erased_none HR.out.inv (by omega), fun k hk => .inl hk, Upd.refl _ _⟩

set_option maxHeartbeats 1000000 in
/-- New of no bytes. -/
theorem newNone_any (a : Option Addr) (c : Nat) (w : World) (hc : c ≤ 4611686018427387904) :
    Calls Try.prog 11 #[.slice a 0 c] w fun e w' => e = .returned (.pointer (some ⟨w.heap.size, 0, none⟩)) ∧ ∃ lv, Rep w' w.heap.size 0 lv [] ∧ Below w.heap.size w w' ∧ ∀ k, Foot w.heap.size lv [] k → w.heap.size ≤ k := by
  have hR := aside (rep_new w)
  have hcc : (0 : Int) ≤ (c : Int) := by omega
  go_enter Try.func11, Try.ntmps11
  go_wp2_with ((with_reducible refine wpList_min2 _ rfl _ _ _ rfl (0 : Int) 4194304 (0 : Int) ?_ ?_ (by decide) ?_); rfl; rfl)
  refine (putNone_any _ _ _ _ _ (by omega)).mono ?_
  rintro e w' ⟨rfl, rfl⟩
  go_wp2
  go_ret
  refine ⟨rfl, .slice none 0 0, hR.out, below_al w _, ?_⟩
  rintro k (rfl | h | ⟨d, hd, -⟩)
  · exact Nat.le_refl _
  · cases h
  · simp at hd
end Go.Proofs.Ytkekaljcbmkomaa
