/- LockNil: the walk. -/
import Derived.Test.YtfpegmmciphjiaaWakes
namespace Go.Proofs.Ytfpegmmciphjiaa
open Go.RowKit

set_option maxHeartbeats 2000000 in
theorem lockNil_walk (l : Lk) (w : World) : Calls Try.prog 4 #[l.val] w fun e w' => e = .returned (.bool true) ∧ Below w.heap.size w w' := by
  have C1 := aside (wait_nil l)
  have C2 := aside (free_nil l)
  have C3 := aside (try_nil l)
  have C4 := aside (leave_nil l.who)
  have C5 := aside held_nil
  have C6 := aside waits_nil
  rw [show l.val = .agg #[.int .i64 l.who, .int .i64 l.org, .int .i64 l.len, .bool l.sh] from rfl] at C1 C2 C3 ⊢
  obtain ⟨W, hW⟩ : ∃ W, W = w.alloc (.cells #[.int .i64 l.who, .int .i64 l.org, .int .i64 l.len, .bool l.sh] 29) := ⟨_, rfl⟩
  have BW : Aside (Below w.heap.size w W) := by rw [hW]; exact below_al w _
  have BX : Aside (Bx W w.heap.size l.who l.org l.len l.sh) := by rw [hW]; exact bx_new w _ _ _ _
  have HW := aside hW
  have x0 := BX.out.c0
  have x1 := BX.out.c1
  have x2 := BX.out.c2
  have x3 := BX.out.c3
  rw [hW] at x0 x1 x2 x3
  clear hW
  go_enter Try.func4, Try.ntmps4
  go_wp2_with (first
    | (go_at_call 13; refine (C1.out _).mono ?_; rintro e w2 ⟨rfl, hb⟩; rw [← HW.out] at hb; have HB2 := aside hb; have B2 := BX.out.below hb; have a0 := B2.c0; have a1 := B2.c1; have a2 := B2.c2; have a3 := B2.c3; clear hb B2)
    | (go_at_call 15; refine (C2.out _).mono ?_; rintro e w3 ⟨rfl, hb⟩; have HB3 := aside (below_tr HB2.out hb); have B2 := BX.out.below HB3.out; have d0 := B2.c0; have d1 := B2.c1; have d2 := B2.c2; have d3 := B2.c3; clear hb B2)
    | (go_at_call 11; refine (C3.out _).mono ?_; rintro e w4 ⟨rfl, hb⟩; have HB4 := aside (below_tr HB3.out hb); have B2 := BX.out.below HB4.out; have e0 := B2.c0; clear hb B2)
    | (go_at_call 18; refine (C4.out _).mono ?_; rintro e w5 ⟨rfl, rfl⟩)
    | (go_at_call 20; refine (C5.out _).mono ?_; rintro e w5 ⟨rfl, rfl⟩)
    | (go_at_call 21; refine (C6.out _).mono ?_; rintro e w5 ⟨rfl, rfl⟩)
    | (go_at_call 22; refine (wakes_any _).mono ?_; rintro e w6 ⟨rfl, hb⟩; have HB6 := aside hb; clear hb))
  go_ret
  exact ⟨rfl, below_tr BW.out (below_tr HB4.out HB6.out)⟩
end Go.Proofs.Ytfpegmmciphjiaa
