/-
  CapsKnown: the chapter's examples; a closed statement: the walk.
-/
import Derived.Test.YtniohiepnojjbabDoorTold
import Derived.Test.YtniohiepnojjbabDoorStack
import Derived.Test.YtniohiepnojjbabDoorWorks
namespace Go.Proofs.YtniohiepnojjbabDoor
open Go.RowKit

theorem rdw2 (w : World) (b : Nat) (k l : Int) (h0 : w.cell? ⟨b, 0, none⟩ = some (.int .i8 k)) (h1 : w.cell? ⟨b, 1, none⟩ = some (.int .i64 0)) (h2 : w.cell? ⟨b, 2, none⟩ = some (.int .i64 0)) (h3 : w.cell? ⟨b, 3, none⟩ = some (.int .u64 0))
    (h4 : w.cell? ⟨b, 4, none⟩ = some (.int .i8 l)) (h5 : w.cell? ⟨b, 5, none⟩ = some (.int .i64 0)) (h6 : w.cell? ⟨b, 6, none⟩ = some (.int .i64 0)) (h7 : w.cell? ⟨b, 7, none⟩ = some (.int .u64 0)) : RdW w b 0 [⟨k, 0, 0, 0⟩, ⟨l, 0, 0, 0⟩] := fun j z hj => by
  match j, hj with
  | 0, hj => simp at hj; subst hj; exact ⟨h0, h1, h2, h3⟩
  | 1, hj => simp at hj; subst hj; exact ⟨h4, h5, h6, h7⟩
  | j + 2, hj => simp at hj

set_option maxHeartbeats 8000000 in
set_option maxRecDepth 100000 in
theorem capsKnown_walk (w : World) (hw : WordsAt w) (hh : HandleAt w) : Calls Tryd.prog 4 #[] w fun e w' => e = .returned (.bool true) ∧ Below w.heap.size w w' := by
  have HW := aside hw
  have HH := aside hh
  clear hw hh
  go_enter Tryd.func4, Tryd.ntmps4
  go_wp2_with fail
  refine (over_any 8 0 0 0 (by decide) (by decide) _ 2 [15, 1] _ (fun _ => ⟨_, _, rfl, rd2 _ _ 15 1 (by go_simp) (by go_simp)⟩) (by simp)).mono ?_
  rintro e w1 ⟨rfl, b1⟩
  rw [show overN 8 [15, 1] = (0, 0) from by decide]
  have B1 := aside (below_tr (below_al w _) b1)
  clear b1
  go_wp2_with fail
  refine (over_any 4 0 0 0 (by decide) (by decide) _ 1 [1] _ (fun _ => ⟨_, _, rfl, rd1 _ _ 1 (by go_simp)⟩) (by simp)).mono ?_
  rintro e w2 ⟨rfl, b2⟩
  rw [show overN 4 [1] = (9, 0) from by decide]
  have B2 := aside (below_tr B1.out (below_tr (below_al w1 _) b2))
  clear b2
  go_wp2_with fail
  refine (over_any 11 0 0 0 (by decide) (by decide) _ 1 [15] _ (fun _ => ⟨_, _, rfl, rd1 _ _ 15 (by go_simp)⟩) (by simp)).mono ?_
  rintro e w3 ⟨rfl, b3⟩
  rw [show overN 11 [15] = (0, 2) from by decide]
  have B3 := aside (below_tr B2.out (below_tr (below_al w2 _) b3))
  clear b3
  go_wp2_with fail
  refine (over_any 3 0 0 0 (by decide) (by decide) _ 1 [16] _ (fun _ => ⟨_, _, rfl, rd1 _ _ 16 (by go_simp)⟩) (by simp)).mono ?_
  rintro e w4 ⟨rfl, b4⟩
  rw [show overN 3 [16] = (0, 2) from by decide]
  have B4 := aside (below_tr B3.out (below_tr (below_al w3 _) b4))
  clear b4
  go_wp2_with fail
  refine (stack_any [⟨7, 0, 0, 0⟩, ⟨1, 0, 0, 0⟩] 15 _ 2 _ (fun _ => ⟨_, _, rfl, rdw2 _ _ 7 1 (by go_simp) (by go_simp) (by go_simp) (by go_simp) (by go_simp) (by go_simp) (by go_simp) (by go_simp)⟩) (by simp)).mono ?_
  rintro e w5 ⟨rfl, b5⟩
  rw [show stackN (List.map (fun x => x.kind) [(⟨7, 0, 0, 0⟩ : Wr), ⟨1, 0, 0, 0⟩]) 15 = (9, 0) from by decide]
  have B5 := aside (below_tr B4.out (below_tr (below_al w4 _) b5))
  clear b5
  go_wp2_with fail
  refine (parse_any ⟨#[115, 121, 110, 99, 32, 119, 114, 105, 116, 101]⟩ w5 (by decide) (HW.out.below B5.out)).mono ?_
  rintro e w6 ⟨⟨v6, rfl, h6⟩, b6⟩
  rw [show parseL (⟨#[115, 121, 110, 99, 32, 119, 114, 105, 116, 101]⟩ : ByteArray).data.toList = (0, some (5, [119, 114, 105, 116, 101])) from by decide] at h6 ⊢
  obtain ⟨g6, rfl, hg6⟩ := h6
  have B6 := aside (below_tr B5.out b6)
  clear b6
  go_wp2_with fail
  refine (told_fault g6 5 _ w6 hg6 (HH.out.below B6.out)).mono ?_
  rintro e w7 ⟨rfl, b7⟩
  have B7 := aside (below_tr B6.out b7)
  clear b7 hg6
  go_wp2_with fail
  refine (parse_any ⟨#[119, 114, 105, 116, 101, 32, 32, 99, 117, 116]⟩ _ (by decide) (HW.out.below (below_tr B7.out (below_al w7 _)))).mono ?_
  rintro e w8 ⟨⟨v8, rfl, h8⟩, b8⟩
  rw [show parseL (⟨#[119, 114, 105, 116, 101, 32, 32, 99, 117, 116]⟩ : ByteArray).data.toList = (0, some (6, [])) from by decide] at h8 ⊢
  obtain ⟨g8, rfl, hg8⟩ := h8
  have q0 : w8.cell? ⟨w7.heap.size, 0, none⟩ = some (.int .i64 2) := (b8.cell (p := ⟨w7.heap.size, 0, none⟩) (by simp)).trans (by go_simp)
  have q1 : w8.cell? ⟨w7.heap.size, 1, none⟩ = some (.int .i64 5) := (b8.cell (p := ⟨w7.heap.size, 1, none⟩) (by simp)).trans (by go_simp)
  have q2 : w8.cell? ⟨w7.heap.size, 2, none⟩ = some (.string ⟨#[119, 114, 105, 116, 101]⟩) := (b8.cell (p := ⟨w7.heap.size, 2, none⟩) (by simp)).trans (by go_simp)
  have B8 := aside (below_tr (below_tr B7.out (below_al w7 _)) b8)
  have hl8 : w7.heap.size < w8.heap.size := by have := b8.size; simp at this; omega
  clear b8
  go_wp2_with fail
  refine (told_fault g8 6 _ w8 hg8 (HH.out.below B8.out)).mono ?_
  rintro e w9 ⟨rfl, b9⟩
  have p0 := (b9.cell (p := ⟨w7.heap.size, 0, none⟩) hl8).trans q0
  have p1 := (b9.cell (p := ⟨w7.heap.size, 1, none⟩) hl8).trans q1
  have p2 := (b9.cell (p := ⟨w7.heap.size, 2, none⟩) hl8).trans q2
  have hl9 : w7.heap.size < w9.heap.size := Nat.lt_of_lt_of_le hl8 b9.size
  have B9 := aside (below_tr B8.out b9)
  clear b9 hg8 q0 q1 q2 hl8
  go_wp2_with fail
  refine (works_any _ (HW.out.below (below_tr B9.out (below_al w9 _)))).mono ?_
  rintro e w10 ⟨rfl, b10⟩
  have B10 := aside (below_tr (below_tr B9.out (below_al w9 _)) b10)
  clear b10
  go_wp2
  go_ret
  exact ⟨rfl, B10.out⟩
end Go.Proofs.YtniohiepnojjbabDoor
