/- RightsNil: the walk. -/
import Derived.Test.YtleenkdlnmoepaaWorks
namespace Go.Proofs.Ytleenkdlnmoepaa
open Go.RowKit Go.MapLit Go.ChangeMaps

set_option maxRecDepth 20000 in
set_option maxHeartbeats 1000000 in
theorem putNone0 (b : Nat) (a : Option Addr) (c : Nat) (w : World) : Calls Try.prog 34 #[.pointer (some ⟨b, 0, none⟩), .int .i64 0, .slice a 0 c] w fun e w' => e = .returned (.int .i64 0) ∧ w' = w := by
  go_enter Try.func34, Try.ntmps34
  go_wp2
  go_ret
  exact ⟨rfl, rfl⟩

set_option maxRecDepth 20000 in
set_option maxHeartbeats 1000000 in
theorem spanNil (w : World) :
    Calls Try.prog 23 #[.slice none 0 0] w fun e w' => e = .returned (.pointer (some ⟨w.heap.size, 0, none⟩)) ∧ Below w.heap.size w w' := by
  go_enter Try.func23, Try.ntmps23
  go_wp2_with ((with_reducible refine wpList_min2 _ rfl _ _ _ rfl (0 : Int) 4194304 (0 : Int) ?_ ?_ (by decide) ?_); rfl; rfl)
  refine (putNone0 _ _ _ _).mono ?_
  rintro e w' ⟨rfl, rfl⟩
  go_wp2
  go_ret
  exact ⟨rfl, below_al w _⟩

set_option maxRecDepth 20000 in
set_option maxHeartbeats 1000000 in
theorem memNil15 (w : World) : Calls Try.prog 7 #[.slice none 0 0, .int .u8 15] w fun e w' => ∃ hb f, e = .returned (.tuple #[pt hb, .int .i64 0]) ∧ w'.cell? ⟨hb, 5, none⟩ = some f ∧ Below w.heap.size w w' := by
  go_enter Try.func7, Try.ntmps7
  go_wp2_with fail
  refine (spanNil w).mono ?_
  rintro e w1 ⟨rfl, hb1⟩
  have HB := aside hb1
  clear hb1
  go_wp2_with fail
  refine (of_all w.heap.size w1).mono ?_
  rintro e w2 ⟨hb, fb, m, rfl, -, -, -, h4, -, hb2⟩
  have HB2 := aside hb2
  have HC := aside (han_cells h4.han).2.2.2.2.2
  clear hb2 h4
  go_wp2_with fail
  go_ret2
  exact ⟨hb, _, rfl, HC.out, below_tr HB.out HB2.out⟩

set_option maxRecDepth 20000 in
set_option maxHeartbeats 2000000 in
theorem rightsNil_walk (a r : Int) (w : World) : Calls Try.prog 3 #[.int .i64 a, .int .u8 r] w fun e w' => e = .returned (.bool true) ∧ Below w.heap.size w w' := by
  go_enter Try.func3, Try.ntmps3
  go_wp2_with fail
  refine (memNil15 w).mono ?_
  rintro e w1 ⟨hb, f, rfl, hc, hb1⟩
  have HB := aside hb1
  have G := aside (guard_nilBook a (pt hb) (.inr ⟨hb, rfl⟩) w1 (fun h e => by simp only [Value.pointer.injEq, Option.some.injEq, Addr.mk.injEq, and_true] at e; subst e; exact ⟨f, hc⟩))
  clear hb1 hc
  go_wp2_with fail
  refine (give_nil a r w1).mono ?_
  rintro e w2 ⟨rfl, rfl⟩
  go_wp2_with fail
  refine (back_nil a w2).mono ?_
  rintro e w3 ⟨rfl, rfl⟩
  go_wp2_with fail
  refine G.out.mono ?_
  rintro e w4 ⟨rfl, rfl⟩
  go_wp2_with fail
  refine (new_st w4).mono ?_
  rintro e w5 ⟨p, mb, rfl, hS⟩
  have HS := aside hS.bl
  clear hS G
  go_wp2_with fail
  refine (guard_nilFile p 0 w5).mono ?_
  rintro e w6 ⟨rfl, rfl⟩
  go_wp2_with fail
  refine (rights_nil a w6).mono ?_
  rintro e w7 ⟨rfl, rfl⟩
  go_wp2_with fail
  refine (below_nil a w7).mono ?_
  rintro e w8 ⟨rfl, rfl⟩
  go_wp2_with fail
  refine (works_any w8).mono ?_
  rintro e w9 ⟨rfl, hb9⟩
  have HB9 := aside hb9
  clear hb9
  go_wp2_with fail
  go_ret
  exact ⟨rfl, below_tr HB.out (below_tr HS.out HB9.out)⟩
end Go.Proofs.Ytleenkdlnmoepaa
