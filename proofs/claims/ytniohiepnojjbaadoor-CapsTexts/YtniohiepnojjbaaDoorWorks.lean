/- What each statement asks first. -/
import Derived.Test.YtniohiepnojjbaaDoorText
namespace Go.Proofs.YtniohiepnojjbaaDoor
open Go.RowKit

theorem rd1 (w : World) (b x : Nat) (h : w.cell? ⟨b, 0, none⟩ = some (.int .u8 (x : Int))) : RdB w b 0 [x] := fun j y hj => by
  match j, hj with
  | 0, hj => simp at hj; subst hj; exact h
  | j + 1, hj => simp at hj
theorem rd2 (w : World) (b x y : Nat) (h : w.cell? ⟨b, 0, none⟩ = some (.int .u8 (x : Int))) (h2 : w.cell? ⟨b, 1, none⟩ = some (.int .u8 (y : Int))) : RdB w b 0 [x, y] := fun j z hj => by
  match j, hj with
  | 0, hj => simp at hj; subst hj; exact h
  | 1, hj => simp at hj; subst hj; exact h2
  | j + 2, hj => simp at hj

set_option maxHeartbeats 4000000 in
set_option maxRecDepth 100000 in
theorem works_any (w : World) (hw : WordsAt w) : Calls Tryd.prog 19 #[] w fun e w' => e = .returned (.bool true) ∧ Below w.heap.size w w' := by
  have HW := aside hw
  clear hw
  go_enter Tryd.func19, Tryd.ntmps19
  go_wp2_with fail
  refine (over_any 0 0 0 0 (by decide) (by decide) _ 1 [15] _ (fun _ => ⟨_, _, rfl, rd1 _ _ 15 (by go_simp)⟩) (by simp)).mono ?_
  rintro e w1 ⟨rfl, b1⟩
  rw [show overN 0 [15] = (13, 0) from by decide]
  have B1 := aside (below_tr (below_al w _) b1)
  clear b1
  go_wp2_with fail
  refine (over_any 2 0 0 0 (by decide) (by decide) _ 2 [15, 3] _ (fun _ => ⟨_, _, rfl, rd2 _ _ 15 3 (by go_simp) (by go_simp)⟩) (by simp)).mono ?_
  rintro e w2 ⟨rfl, b2⟩
  rw [show overN 2 [15, 3] = (7, 0) from by decide]
  have B2 := aside (below_tr B1.out (below_tr (below_al w1 _) b2))
  clear b2
  go_wp2_with fail
  refine (over_any 2 0 0 0 (by decide) (by decide) _ 1 [15] _ (fun _ => ⟨_, _, rfl, rd1 _ _ 15 (by go_simp)⟩) (by simp)).mono ?_
  rintro e w3 ⟨rfl, b3⟩
  rw [show overN 2 [15] = (0, 2) from by decide]
  have B3 := aside (below_tr B2.out (below_tr (below_al w2 _) b3))
  clear b3
  go_wp2_with fail
  refine (text_any 9 (by decide) _ (HW.out.below B3.out)).mono ?_
  rintro e w4 ⟨rfl, b4⟩
  rw [show textL 9 = [119, 114, 105, 116, 101, 32, 115, 121, 110, 99] from by decide]
  have B4 := aside (below_tr B3.out b4)
  clear b4
  go_wp2_with fail
  refine (text_any 0 (by decide) _ (HW.out.below B4.out)).mono ?_
  rintro e w5 ⟨rfl, b5⟩
  rw [show textL 0 = [114, 101, 97, 100] from by decide]
  have B5 := aside (below_tr B4.out b5)
  clear b5
  go_wp2_with fail
  refine (less_any 1 9 (by decide) (by decide) _).mono ?_
  rintro e w6 ⟨rfl, rfl⟩
  rw [show lessN 1 9 = true from by decide]
  go_wp2_with fail
  refine (less_any 9 1 (by decide) (by decide) _).mono ?_
  rintro e w7 ⟨rfl, rfl⟩
  rw [show lessN 9 1 = false from by decide]
  go_wp2
  go_ret
  exact ⟨rfl, B5.out⟩
end Go.Proofs.YtniohiepnojjbaaDoor
