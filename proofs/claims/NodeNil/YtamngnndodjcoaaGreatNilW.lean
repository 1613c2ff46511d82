/- NodeNil: no node. -/
import Derived.Test.YtamngnndodjcoaaGreatWak
namespace Go.Proofs.YtamngnndodjcoaaGreat
open Go.RowKit

set_option maxRecDepth 20000 in
theorem rsame_nil (w : World) : Calls Tryz.prog 44 #[.slice none 0 0, .slice none 0 0] w fun e w' => e = .returned (.bool true) ∧ w' = w := by
  go_enter Tryz.func44, Tryz.ntmps44
  go_wp2_with fail
  go_loopg [5] 0 (fun _ s5 wx => s5 = .int .i64 0 ∧ wx = w)
  case atStart => exact ⟨rfl, rfl⟩
  case round =>
    obtain ⟨rfl, rfl⟩ := hrel
    go_wp2_with fail
    go_ret
    exact ⟨rfl, rfl⟩

set_option maxRecDepth 20000 in
set_option maxHeartbeats 4000000 in
theorem pwhat_nil (pb : Nat) (w : World) : Calls Tryz.prog 10 #[Pt pb, .pointer none, .pointer none] w fun e w' => e = .returned (.bool true) ∧ w' = w := by
  have h1 := ta_nf
  have h2 := ta_nl
  have h3 := ta_nm
  have h4 := ta_nh
  have h5 := ta_nw
  go_enter Tryz.func10, Tryz.ntmps10
  go_wp2_with (first
    | (go_at_call 44; refine (rsame_nil _).mono ?_; rintro e w2 ⟨rfl, rfl⟩)
    | go_in)
  go_loopg [26] 0 (fun _ s26 wx => s26 = .int .i64 0 ∧ wx = w2)
  case atStart => exact ⟨rfl, rfl⟩
  case round =>
    obtain ⟨rfl, rfl⟩ := hrel
    go_wp2_with fail
    go_ret
    exact ⟨rfl, rfl⟩

set_option maxRecDepth 20000 in
set_option maxHeartbeats 4000000 in
theorem nodeNil_walk (s : ByteArray) (w : World) : Calls Tryz.prog 5 #[.string s] w fun e w' => e = .returned (.bool true) ∧ Below w.heap.size w w' := by
  go_enter Tryz.func5, Tryz.ntmps5
  go_wp2_with fail
  obtain ⟨W, hW⟩ : ∃ W, W = w.alloc (.cells #[.slice none 0 0, .slice none 0 0] 27) := ⟨_, rfl⟩
  have B0 : Below w.heap.size w W := by rw [hW]; exact below_al w _
  rw [← hW]
  clear hW
  refine (file_nil W).mono ?_
  rintro e W ⟨rfl, rfl⟩
  go_wp2_with fail
  refine (dir_new W).mono ?_
  rintro e w1 ⟨nb, db, mb, rfl, hnb, hdb, hmb, hD1, b1⟩
  have B1 := aside (below_tr B0 b1)
  go_wp2_with fail
  refine (add_niln s nb db _ w1 hD1.nod).mono ?_
  rintro e w1 ⟨rfl, rfl⟩
  clear hD1 b1 B0
  go_wp2_with fail
  refine (dir_new w1).mono ?_
  rintro e w2 ⟨n2, d2, m2, rfl, hn2, hd2, hm2, hD2, b2⟩
  have B2 := aside (below_tr B1.out b2)
  clear hD2 b2 B1
  go_wp2_with fail
  refine (add_nilm _ s w2).mono ?_
  rintro e w2 ⟨rfl, rfl⟩
  go_wp2_with fail
  refine (drop_nil s w2).mono ?_
  rintro e w2 ⟨rfl, rfl⟩
  go_wp2_with fail
  refine (take_nil s w2).mono ?_
  rintro e w2 ⟨rfl, rfl⟩
  go_wp2_with fail
  refine (pwhat_nil _ w2).mono ?_
  rintro e w2 ⟨rfl, rfl⟩
  go_wp2_with fail
  refine (wakes_any w2).mono ?_
  rintro e w3 ⟨rfl, b3⟩
  go_wp2_with fail
  go_ret
  exact ⟨rfl, below_tr B2.out b3⟩
end Go.Proofs.YtamngnndodjcoaaGreat
