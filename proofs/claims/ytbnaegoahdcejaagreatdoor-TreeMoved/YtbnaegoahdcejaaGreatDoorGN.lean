/- What is told of no node, and of nodes that are no directories; TreeNil's walk. TreeNil's walk. -/
import Derived.Test.YtbnaegoahdcejaaGreatDoorGH
namespace Go.Proofs.YtbnaegoahdcejaaGreatDoor
open Go.RowKit Go.ChangeMaps

/-- v is no directory: c is told of it. -/
structure NoD (W : World) (v : Value) (c : Int) : Prop where
  ne : c ≠ 0
  run : ∀ V, Below W.heap.size W V → Calls Tryz.prog 63 #[v] V fun e V' => e = .returned (.tuple #[.pointer none, .int .i64 c]) ∧ V' = V
theorem NoD.below {W W' : World} {v : Value} {c : Int} (h : NoD W v c) (b : Below W.heap.size W W') : NoD W' v c := ⟨h.ne, fun V hV => h.run V (below_tr b hV)⟩
theorem nod_nil (W : World) : NoD W (.pointer none) 1 := ⟨by decide, fun V _ => directory_nil V⟩
theorem nod_other {W : World} {nb k : Nat} {t : TypeId} (h : Nd W nb t k) (ht : t = 109 ∨ t = 85 ∨ t = 111 ∨ t = 110) : NoD W (Pt nb) 193 := ⟨by decide, fun V hV => directory_other nb k t V (h.below hV) ht⟩
set_option maxRecDepth 20000 in
set_option maxHeartbeats 1000000 in
theorem list_err {W : World} {v : Value} {c : Int} (h : NoD W v c) : Calls Tryz.prog 84 #[v] W fun e V' => e = .returned (.tuple #[.slice none 0 0, .int .i64 c]) ∧ V' = W := by
  have AD := aside (h.run W (Below.refl _ _))
  have hc := h.ne
  have hc1 : (c == 0) = false := beq_eq_false_iff_ne.2 hc
  clear h
  go_enter Tryz.func84, Tryz.ntmps84
  go_wp2_with fail
  refine AD.out.mono ?_
  rintro e w' ⟨rfl, rfl⟩
  go_wp2_with fail
  go_ret2
  exact ⟨rfl, rfl⟩
set_option maxRecDepth 20000 in
set_option maxHeartbeats 1000000 in
theorem below_err {W : World} {v : Value} {c : Int} (h : NoD W v c) (s : ByteArray) (vb bb : Value) : Calls Tryz.prog 83 #[v, .string s, vb, bb] W fun e V' => e = .returned (.int .i64 c) ∧ V' = W := by
  have AL := aside (list_err h)
  clear h
  go_enter Tryz.func83, Tryz.ntmps83
  go_wp2_with fail
  refine AL.out.mono ?_
  rintro e w' ⟨rfl, rfl⟩
  go_wp2_with fail
  go_loopg [6, 10, 11, 12, 13, 14, 15, 23] 0 (fun gk s6 _ _ _ _ _ _ s23 wx => gk = 0 ∧ s6 = .int .i64 0 ∧ s23 = .int .i64 0 ∧ wx = w')
  case atStart => exact ⟨rfl, rfl, rfl, rfl⟩
  case round =>
    obtain ⟨-, rfl, rfl, rfl⟩ := hrel
    go_wp2_with fail
    go_ret
    exact ⟨rfl, rfl⟩
set_option maxRecDepth 20000 in
set_option maxHeartbeats 1000000 in
theorem through_err {W : World} {v : Value} {c : Int} (h : NoD W v c) (g : Nat) (cb : Array Value) : Calls Tryz.prog 51 #[v, visF g cb] W fun e V' => e = .returned (.int .i64 c) ∧ Below W.heap.size W V' := by
  obtain ⟨w1, hw1⟩ : ∃ w1, w1 = (W.alloc (.cells #[visF g cb] 83)).alloc (.cells #[belF W.heap.size (W.heap.size + 1)] 101) := ⟨_, rfl⟩
  have hB : Below W.heap.size W w1 := by rw [hw1]; exact below_tr (below_al W _) (below_al _ _)
  have AR := aside (below_err (h.below hB) (⟨#[]⟩ : ByteArray) (Pt W.heap.size) (Pt (W.heap.size + 1)))
  have AB := aside hB
  have hsf := storeF
  clear h hB
  go_enter Tryz.func51, Tryz.ntmps51
  go_wp2_with fail
  rw [← hw1]
  clear hw1
  refine AR.out.mono ?_
  rintro e' w2 ⟨rfl, rfl⟩
  go_wp2_with fail
  go_ret
  exact ⟨rfl, AB.out⟩
set_option maxRecDepth 20000 in
set_option maxHeartbeats 1000000 in
theorem items_err {W : World} {v : Value} {c : Int} (h : NoD W v c) : Calls Tryz.prog 19 #[v] W fun e V' => e = .returned (.tuple #[.slice none 0 0, .int .i64 c]) ∧ Below W.heap.size W V' := by
  obtain ⟨w1, hw1⟩ : ∃ w1, w1 = (W.alloc (.cells #[.slice none 0 0] 22)).alloc (.cells #[.int .i64 4194304] 3) := ⟨_, rfl⟩
  have hB : Below W.heap.size W w1 := by rw [hw1]; exact below_tr (below_al W _) (below_al _ _)
  have AR := aside (through_err (h.below hB) 52 #[Pt W.heap.size, Pt (W.heap.size + 1)])
  have AB := aside hB
  have hc := h.ne
  have hc1 : (c == 0) = false := beq_eq_false_iff_ne.2 hc
  clear h hB
  go_enter Tryz.func19, Tryz.ntmps19
  go_wp2_with fail
  rw [← hw1]
  clear hw1
  refine AR.out.mono ?_
  rintro e' w2 ⟨rfl, hb⟩
  have AB2 := aside hb
  clear hb
  go_wp2_with fail
  go_ret2
  exact ⟨rfl, below_tr AB.out AB2.out⟩
set_option maxRecDepth 20000 in
set_option maxHeartbeats 1000000 in
theorem count_err {W : World} {v : Value} {c : Int} (h : NoD W v c) : Calls Tryz.prog 20 #[v] W fun e V' => e = .returned (.tuple #[.int .i64 0, .int .i64 0, .int .i64 c]) ∧ Below W.heap.size W V' := by
  have AR := aside (items_err h)
  clear h
  go_enter Tryz.func20, Tryz.ntmps20
  go_wp2_with fail
  refine AR.out.mono ?_
  rintro e' w2 ⟨rfl, hb⟩
  have AB2 := aside hb
  clear hb
  go_wp2_with fail
  go_loopg [3, 7, 15] 0 (fun g s3 _ s15 wx => g = 0 ∧ s3 = .int .i64 0 ∧ s15 = .int .i64 0 ∧ wx = w2)
  case atStart => exact ⟨rfl, rfl, rfl, rfl⟩
  case round =>
    obtain ⟨-, rfl, rfl, rfl⟩ := hrel
    go_wp2_with fail
    go_ret3
    exact ⟨rfl, AB2.out⟩
set_option maxRecDepth 20000 in
set_option maxHeartbeats 1000000 in
theorem same_err {W : World} {v u : Value} {c : Int} (h : NoD W v c) : Calls Tryz.prog 22 #[v, u] W fun e V' => e = .returned (.bool false) ∧ Below W.heap.size W V' := by
  have AR := aside (items_err h)
  have hc := h.ne
  have hc1 : (c == 0) = false := beq_eq_false_iff_ne.2 hc
  clear h
  go_enter Tryz.func22, Tryz.ntmps22
  go_wp2_with fail
  refine AR.out.mono ?_
  rintro e' w2 ⟨rfl, hb⟩
  have AB2 := aside hb
  clear hb
  go_wp2_with fail
  go_ret
  exact ⟨rfl, AB2.out⟩
/-- A node's kind is told. -/
def Kd (W : World) (v : Value) (k : Int) : Prop := Calls Tryz.prog 29 #[v] W fun e V' => e = .returned (.int .i8 k) ∧ V' = W
set_option maxRecDepth 20000 in
set_option maxHeartbeats 1000000 in
theorem move_nil1 {W : World} {v u : Value} {n m : ByteArray} (h : Kd W v (-1)) : Calls Tryz.prog 21 #[v, .string n, u, .string m] W fun e V' => e = .returned (.int .i64 1) ∧ V' = W := by
  have AK := aside h
  clear h
  go_enter Tryz.func21, Tryz.ntmps21
  go_wp2_with fail
  refine AK.out.mono ?_
  rintro e w' ⟨rfl, rfl⟩
  go_wp2_with fail
  go_ret
  exact ⟨rfl, rfl⟩
set_option maxRecDepth 20000 in
set_option maxHeartbeats 1000000 in
theorem move_nil2 {W : World} {v u : Value} {n m : ByteArray} {k : Int} (h : Kd W v k) (hk : 0 ≤ k) (h2 : Kd W u (-1)) : Calls Tryz.prog 21 #[v, .string n, u, .string m] W fun e V' => e = .returned (.int .i64 1) ∧ V' = W := by
  have AK := aside h
  have AK2 := aside h2
  have hk2 : ¬ k < 0 := by omega
  clear h h2
  go_enter Tryz.func21, Tryz.ntmps21
  go_wp2_with fail
  refine AK.out.mono ?_
  rintro e w' ⟨rfl, rfl⟩
  go_wp2_with fail
  refine AK2.out.mono ?_
  rintro e w' ⟨rfl, rfl⟩
  go_wp2_with fail
  go_ret
  exact ⟨rfl, rfl⟩
set_option maxRecDepth 20000 in
set_option maxHeartbeats 1000000 in
theorem move_dir1 {W : World} {v u : Value} {n m : ByteArray} {k l : Int} (h : Kd W v k) (hk : 0 ≤ k) (h2 : Kd W u l) (hl : 0 ≤ l) (hk1 : k ≠ 1) : Calls Tryz.prog 21 #[v, .string n, u, .string m] W fun e V' => e = .returned (.int .i64 193) ∧ V' = W := by
  have AK := aside h
  have AK2 := aside h2
  have hk2 : ¬ k < 0 := by omega
  have hl2 : ¬ l < 0 := by omega
  have hk3 : (k == 1) = false := beq_eq_false_iff_ne.2 hk1
  clear h h2
  go_enter Tryz.func21, Tryz.ntmps21
  go_wp2_with fail
  refine AK.out.mono ?_
  rintro e w' ⟨rfl, rfl⟩
  go_wp2_with fail
  refine AK2.out.mono ?_
  rintro e w' ⟨rfl, rfl⟩
  go_wp2_with fail
  refine AK.out.mono ?_
  rintro e w' ⟨rfl, rfl⟩
  go_wp2_with fail
  go_ret
  exact ⟨rfl, rfl⟩
set_option maxRecDepth 20000 in
set_option maxHeartbeats 1000000 in
theorem move_dir2 {W : World} {v u : Value} {n m : ByteArray} {l : Int} (h : Kd W v 1) (h2 : Kd W u l) (hl : 0 ≤ l) (hk1 : l ≠ 1) : Calls Tryz.prog 21 #[v, .string n, u, .string m] W fun e V' => e = .returned (.int .i64 193) ∧ V' = W := by
  have AK := aside h
  have AK2 := aside h2
  have hl2 : ¬ l < 0 := by omega
  have hk3 : (l == 1) = false := beq_eq_false_iff_ne.2 hk1
  clear h h2
  go_enter Tryz.func21, Tryz.ntmps21
  go_wp2_with fail
  refine AK.out.mono ?_
  rintro e w' ⟨rfl, rfl⟩
  go_wp2_with fail
  refine AK2.out.mono ?_
  rintro e w' ⟨rfl, rfl⟩
  go_wp2_with fail
  refine AK.out.mono ?_
  rintro e w' ⟨rfl, rfl⟩
  go_wp2_with fail
  refine AK2.out.mono ?_
  rintro e w' ⟨rfl, rfl⟩
  go_wp2_with fail
  go_ret
  exact ⟨rfl, rfl⟩
set_option maxRecDepth 20000 in
set_option maxHeartbeats 1000000 in
theorem move_none {W : World} {v u : Value} {n m : ByteArray} {c : Int} (h : Kd W v 1) (h2 : Kd W u 1) (hG : Calls Tryz.prog 28 #[v, .string n] W fun r w' => r = .returned (.tuple #[.pointer none, .int .i64 c]) ∧ w' = W) (hc : c ≠ 0) : Calls Tryz.prog 21 #[v, .string n, u, .string m] W fun e V' => e = .returned (.int .i64 c) ∧ V' = W := by
  have AK := aside h
  have AK2 := aside h2
  have AG := aside hG
  have hc1 : (c == 0) = false := beq_eq_false_iff_ne.2 hc
  clear h h2 hG
  go_enter Tryz.func21, Tryz.ntmps21
  go_wp2_with fail
  refine AK.out.mono ?_
  rintro e w' ⟨rfl, rfl⟩
  go_wp2_with fail
  refine AK2.out.mono ?_
  rintro e w' ⟨rfl, rfl⟩
  go_wp2_with fail
  refine AK.out.mono ?_
  rintro e w' ⟨rfl, rfl⟩
  go_wp2_with fail
  refine AK2.out.mono ?_
  rintro e w' ⟨rfl, rfl⟩
  go_wp2_with fail
  refine AG.out.mono ?_
  rintro e w' ⟨rfl, rfl⟩
  go_wp2_with fail
  go_ret
  exact ⟨rfl, rfl⟩
end Go.Proofs.YtbnaegoahdcejaaGreatDoor

namespace Go.Proofs.YtbnaegoahdcejaaGreatDoor
open Go.RowKit Go.ChangeMaps

set_option maxRecDepth 20000 in
set_option maxHeartbeats 4000000 in
theorem treeNil_walk (s : ByteArray) (w : World) (hM : Mxl w) : Calls Tryz.prog 5 #[.string s] w fun e w' => e = .returned (.bool true) ∧ Below w.heap.size w w' := by
  have AM := aside hM
  clear hM
  go_enter Tryz.func5, Tryz.ntmps5
  go_wp2_with fail
  refine (white_new w).mono ?_
  rintro e w1 ⟨wn, wk, rfl, -, hW, hb1⟩
  have AB1 := aside hb1
  have AW := aside hW
  clear hb1 hW
  go_wp2_with fail
  refine (dir_new w1).mono ?_
  rintro e w2 ⟨nb, db, mb, rfl, -, -, -, hD, hb2⟩
  have AB2 := aside (below_tr AB1.out hb2)
  have AD := aside hD
  have AW2 := aside (AW.out.below hb2)
  have ANil := aside (fun V (_ : Below w2.heap.size w2 V) => nod_nil V)
  have ANW := aside (fun V (hV : Below w2.heap.size w2 V) => nod_other (AW2.out.below hV) (.inr (.inl rfl)))
  have KN := aside (fun V => (kind_nil V : Kd V _ _))
  have KW := aside (fun V (hV : Below w2.heap.size w2 V) => (kind_white wn wk V (AW2.out.below hV) : Kd V _ _))
  have KD := aside (fun V (hV : Below w2.heap.size w2 V) => (kind_dir nb db V (AD.out.below hV).nod : Kd V _ _))
  have GD := aside (fun V (hV : Below w2.heap.size w2 V) => get_no nb db mb _ [] s V (AD.out.below hV) rfl)
  clear hb2 hD AW AB1
  go_wp2_with fail
  refine (items_err (ANil.out w2 (Below.refl _ _))).mono ?_
  rintro e w3 ⟨rfl, hb3⟩
  have AB3 := aside hb3
  clear hb3
  go_wp2_with fail
  refine (items_err (ANW.out w3 AB3.out)).mono ?_
  rintro e w4 ⟨rfl, hb4⟩
  have AB4 := aside (below_tr AB3.out hb4)
  clear hb4 AB3
  go_wp2_with fail
  refine (count_err (ANil.out w4 AB4.out)).mono ?_
  rintro e w5 ⟨rfl, hb5⟩
  have AB5 := aside (below_tr AB4.out hb5)
  clear hb5 AB4
  go_wp2_with fail
  refine (move_nil1 (KN.out _)).mono ?_
  rintro e w6 ⟨rfl, rfl⟩
  go_wp2_with fail
  refine (move_nil2 (KD.out _ AB5.out) (by decide) (KN.out _)).mono ?_
  rintro e w6 ⟨rfl, rfl⟩
  go_wp2_with fail
  refine (move_dir2 (KD.out _ AB5.out) (KW.out _ AB5.out) (by decide) (by decide)).mono ?_
  rintro e w6 ⟨rfl, rfl⟩
  go_wp2_with fail
  refine (move_dir1 (KW.out _ AB5.out) (by decide) (KD.out _ AB5.out) (by decide) (by decide)).mono ?_
  rintro e w6 ⟨rfl, rfl⟩
  go_wp2_with fail
  refine (move_none (KD.out _ AB5.out) (KD.out _ AB5.out) (GD.out _ AB5.out) (by decide)).mono ?_
  rintro e w6 ⟨rfl, rfl⟩
  go_wp2_with fail
  refine (same_err (ANil.out _ AB5.out)).mono ?_
  rintro e w7 ⟨rfl, hb7⟩
  have AB7 := aside (below_tr AB5.out hb7)
  clear hb7
  go_wp2_with fail
  refine (same_err (ANW.out _ AB7.out)).mono ?_
  rintro e w8 ⟨rfl, hb8⟩
  have AB8 := aside (below_tr AB7.out hb8)
  clear hb8
  go_wp2_with fail
  refine (wakes19_any _ (AM.out.below (below_tr AB2.out AB8.out) AM.out.lt)).mono ?_
  rintro e w9 ⟨rfl, hb9⟩
  have AB9 := aside hb9
  clear hb9
  go_wp2_with fail
  go_ret
  exact ⟨rfl, below_tr (below_tr AB2.out AB8.out) AB9.out⟩
end Go.Proofs.YtbnaegoahdcejaaGreatDoor
