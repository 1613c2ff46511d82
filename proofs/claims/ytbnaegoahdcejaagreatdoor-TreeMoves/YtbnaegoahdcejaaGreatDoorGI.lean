/- What is told of no node, and of nodes that are no directories; TreeNil's walk. great, Ordered, Parent: what TreeBack and TreeMoved ask of the document. Ordered: a list in the order of its paths. Parent: a path without its last name. Trees that are parted and joined: what stands below a node is taken out of a tree, and put into one. within: does a node stand at or below another? Take and Add in trees, of what stands at a node and below; Move. Move. The document's Names and Last; at. -/
import Derived.Test.YtbnaegoahdcejaaGreatDoorGH
import Derived.Test.YtbnaegoahdcejaaGreatDoorGG
namespace Go.Proofs.YtbnaegoahdcejaaGreatDoor
open Go.RowKit Go.ChangeMaps

/-- v is no directory: c is told of it. -/
structure NoD (W : World) (v : Value) (c : Int) : Prop where
  ne : c ≠ 0
  run : ∀ V, Below W.heap.size W V → Calls Tryz.prog 63 #[v] V fun e V' => e = .returned (.tuple #[.pointer none, .int .i64 c]) ∧ V' = V
theorem NoD.below {W W' : World} {v : Value} {c : Int} (h : NoD W v c) (b : Below W.heap.size W W') : NoD W' v c := ⟨h.ne, fun V hV => h.run V (below_tr b hV)⟩
theorem nod_nil (W : World) : NoD W (.pointer none) 1 := ⟨by decide, fun V _ => directory_nil V⟩
theorem nod_other {W : World} {nb k : Nat} {t : TypeId} (h : Nd W nb t k) (ht : t = 109 ∨ t = 85 ∨ t = 111 ∨ t = 110) : NoD W (Pt nb) 193 := ⟨by decide, fun V hV => directory_other nb k t V (h.below hV) ht⟩
set_option maxRecDepth 20000 in
set_option maxHeartbeats 1000000 in
theorem list_err {W : World} {v : Value} {c : Int} (h : NoD W v c) : Calls Tryz.prog 84 #[v] W fun e V' => e = .returned (.tuple #[.slice none 0 0, .int .i64 c]) ∧ V' = W := by
  have AD := aside (h.run W (Below.refl _ _))
  have hc := h.ne
  have hc1 : (c == 0) = false := beq_eq_false_iff_ne.2 hc
  clear h
  go_enter Tryz.func84, Tryz.ntmps84
  go_wp2_with fail
  refine AD.out.mono ?_
  rintro e w' ⟨rfl, rfl⟩
  go_wp2_with fail
  go_ret2
  exact ⟨rfl, rfl⟩
set_option maxRecDepth 20000 in
set_option maxHeartbeats 1000000 in
theorem below_err {W : World} {v : Value} {c : Int} (h : NoD W v c) (s : ByteArray) (vb bb : Value) : Calls Tryz.prog 83 #[v, .string s, vb, bb] W fun e V' => e = .returned (.int .i64 c) ∧ V' = W := by
  have AL := aside (list_err h)
  clear h
  go_enter Tryz.func83, Tryz.ntmps83
  go_wp2_with fail
  refine AL.out.mono ?_
  rintro e w' ⟨rfl, rfl⟩
  go_wp2_with fail
  go_loopg [6, 10, 11, 12, 13, 14, 15, 23] 0 (fun gk s6 _ _ _ _ _ _ s23 wx => gk = 0 ∧ s6 = .int .i64 0 ∧ s23 = .int .i64 0 ∧ wx = w')
  case atStart => exact ⟨rfl, rfl, rfl, rfl⟩
  case round =>
    obtain ⟨-, rfl, rfl, rfl⟩ := hrel
    go_wp2_with fail
    go_ret
    exact ⟨rfl, rfl⟩
set_option maxRecDepth 20000 in
set_option maxHeartbeats 1000000 in
theorem through_err {W : World} {v : Value} {c : Int} (h : NoD W v c) (g : Nat) (cb : Array Value) : Calls Tryz.prog 51 #[v, visF g cb] W fun e V' => e = .returned (.int .i64 c) ∧ Below W.heap.size W V' := by
  obtain ⟨w1, hw1⟩ : ∃ w1, w1 = (W.alloc (.cells #[visF g cb] 83)).alloc (.cells #[belF W.heap.size (W.heap.size + 1)] 101) := ⟨_, rfl⟩
  have hB : Below W.heap.size W w1 := by rw [hw1]; exact below_tr (below_al W _) (below_al _ _)
  have AR := aside (below_err (h.below hB) (⟨#[]⟩ : ByteArray) (Pt W.heap.size) (Pt (W.heap.size + 1)))
  have AB := aside hB
  have hsf := storeF
  clear h hB
  go_enter Tryz.func51, Tryz.ntmps51
  go_wp2_with fail
  rw [← hw1]
  clear hw1
  refine AR.out.mono ?_
  rintro e' w2 ⟨rfl, rfl⟩
  go_wp2_with fail
  go_ret
  exact ⟨rfl, AB.out⟩
set_option maxRecDepth 20000 in
set_option maxHeartbeats 1000000 in
theorem items_err {W : World} {v : Value} {c : Int} (h : NoD W v c) : Calls Tryz.prog 19 #[v] W fun e V' => e = .returned (.tuple #[.slice none 0 0, .int .i64 c]) ∧ Below W.heap.size W V' := by
  obtain ⟨w1, hw1⟩ : ∃ w1, w1 = (W.alloc (.cells #[.slice none 0 0] 22)).alloc (.cells #[.int .i64 4194304] 3) := ⟨_, rfl⟩
  have hB : Below W.heap.size W w1 := by rw [hw1]; exact below_tr (below_al W _) (below_al _ _)
  have AR := aside (through_err (h.below hB) 52 #[Pt W.heap.size, Pt (W.heap.size + 1)])
  have AB := aside hB
  have hc := h.ne
  have hc1 : (c == 0) = false := beq_eq_false_iff_ne.2 hc
  clear h hB
  go_enter Tryz.func19, Tryz.ntmps19
  go_wp2_with fail
  rw [← hw1]
  clear hw1
  refine AR.out.mono ?_
  rintro e' w2 ⟨rfl, hb⟩
  have AB2 := aside hb
  clear hb
  go_wp2_with fail
  go_ret2
  exact ⟨rfl, below_tr AB.out AB2.out⟩
set_option maxRecDepth 20000 in
set_option maxHeartbeats 1000000 in
theorem count_err {W : World} {v : Value} {c : Int} (h : NoD W v c) : Calls Tryz.prog 20 #[v] W fun e V' => e = .returned (.tuple #[.int .i64 0, .int .i64 0, .int .i64 c]) ∧ Below W.heap.size W V' := by
  have AR := aside (items_err h)
  clear h
  go_enter Tryz.func20, Tryz.ntmps20
  go_wp2_with fail
  refine AR.out.mono ?_
  rintro e' w2 ⟨rfl, hb⟩
  have AB2 := aside hb
  clear hb
  go_wp2_with fail
  go_loopg [3, 7, 15] 0 (fun g s3 _ s15 wx => g = 0 ∧ s3 = .int .i64 0 ∧ s15 = .int .i64 0 ∧ wx = w2)
  case atStart => exact ⟨rfl, rfl, rfl, rfl⟩
  case round =>
    obtain ⟨-, rfl, rfl, rfl⟩ := hrel
    go_wp2_with fail
    go_ret3
    exact ⟨rfl, AB2.out⟩
set_option maxRecDepth 20000 in
set_option maxHeartbeats 1000000 in
theorem same_err {W : World} {v u : Value} {c : Int} (h : NoD W v c) : Calls Tryz.prog 22 #[v, u] W fun e V' => e = .returned (.bool false) ∧ Below W.heap.size W V' := by
  have AR := aside (items_err h)
  have hc := h.ne
  have hc1 : (c == 0) = false := beq_eq_false_iff_ne.2 hc
  clear h
  go_enter Tryz.func22, Tryz.ntmps22
  go_wp2_with fail
  refine AR.out.mono ?_
  rintro e' w2 ⟨rfl, hb⟩
  have AB2 := aside hb
  clear hb
  go_wp2_with fail
  go_ret
  exact ⟨rfl, AB2.out⟩
/-- A node's kind is told. -/
def Kd (W : World) (v : Value) (k : Int) : Prop := Calls Tryz.prog 29 #[v] W fun e V' => e = .returned (.int .i8 k) ∧ V' = W
set_option maxRecDepth 20000 in
set_option maxHeartbeats 1000000 in
theorem move_nil1 {W : World} {v u : Value} {n m : ByteArray} (h : Kd W v (-1)) : Calls Tryz.prog 21 #[v, .string n, u, .string m] W fun e V' => e = .returned (.int .i64 1) ∧ V' = W := by
  have AK := aside h
  clear h
  go_enter Tryz.func21, Tryz.ntmps21
  go_wp2_with fail
  refine AK.out.mono ?_
  rintro e w' ⟨rfl, rfl⟩
  go_wp2_with fail
  go_ret
  exact ⟨rfl, rfl⟩
set_option maxRecDepth 20000 in
set_option maxHeartbeats 1000000 in
theorem move_nil2 {W : World} {v u : Value} {n m : ByteArray} {k : Int} (h : Kd W v k) (hk : 0 ≤ k) (h2 : Kd W u (-1)) : Calls Tryz.prog 21 #[v, .string n, u, .string m] W fun e V' => e = .returned (.int .i64 1) ∧ V' = W := by
  have AK := aside h
  have AK2 := aside h2
  have hk2 : ¬ k < 0 := by omega
  clear h h2
  go_enter Tryz.func21, Tryz.ntmps21
  go_wp2_with fail
  refine AK.out.mono ?_
  rintro e w' ⟨rfl, rfl⟩
  go_wp2_with fail
  refine AK2.out.mono ?_
  rintro e w' ⟨rfl, rfl⟩
  go_wp2_with fail
  go_ret
  exact ⟨rfl, rfl⟩
set_option maxRecDepth 20000 in
set_option maxHeartbeats 1000000 in
theorem move_dir1 {W : World} {v u : Value} {n m : ByteArray} {k l : Int} (h : Kd W v k) (hk : 0 ≤ k) (h2 : Kd W u l) (hl : 0 ≤ l) (hk1 : k ≠ 1) : Calls Tryz.prog 21 #[v, .string n, u, .string m] W fun e V' => e = .returned (.int .i64 193) ∧ V' = W := by
  have AK := aside h
  have AK2 := aside h2
  have hk2 : ¬ k < 0 := by omega
  have hl2 : ¬ l < 0 := by omega
  have hk3 : (k == 1) = false := beq_eq_false_iff_ne.2 hk1
  clear h h2
  go_enter Tryz.func21, Tryz.ntmps21
  go_wp2_with fail
  refine AK.out.mono ?_
  rintro e w' ⟨rfl, rfl⟩
  go_wp2_with fail
  refine AK2.out.mono ?_
  rintro e w' ⟨rfl, rfl⟩
  go_wp2_with fail
  refine AK.out.mono ?_
  rintro e w' ⟨rfl, rfl⟩
  go_wp2_with fail
  go_ret
  exact ⟨rfl, rfl⟩
set_option maxRecDepth 20000 in
set_option maxHeartbeats 1000000 in
theorem move_dir2 {W : World} {v u : Value} {n m : ByteArray} {l : Int} (h : Kd W v 1) (h2 : Kd W u l) (hl : 0 ≤ l) (hk1 : l ≠ 1) : Calls Tryz.prog 21 #[v, .string n, u, .string m] W fun e V' => e = .returned (.int .i64 193) ∧ V' = W := by
  have AK := aside h
  have AK2 := aside h2
  have hl2 : ¬ l < 0 := by omega
  have hk3 : (l == 1) = false := beq_eq_false_iff_ne.2 hk1
  clear h h2
  go_enter Tryz.func21, Tryz.ntmps21
  go_wp2_with fail
  refine AK.out.mono ?_
  rintro e w' ⟨rfl, rfl⟩
  go_wp2_with fail
  refine AK2.out.mono ?_
  rintro e w' ⟨rfl, rfl⟩
  go_wp2_with fail
  refine AK.out.mono ?_
  rintro e w' ⟨rfl, rfl⟩
  go_wp2_with fail
  refine AK2.out.mono ?_
  rintro e w' ⟨rfl, rfl⟩
  go_wp2_with fail
  go_ret
  exact ⟨rfl, rfl⟩
set_option maxRecDepth 20000 in
set_option maxHeartbeats 1000000 in
theorem move_none {W : World} {v u : Value} {n m : ByteArray} {c : Int} (h : Kd W v 1) (h2 : Kd W u 1) (hG : Calls Tryz.prog 28 #[v, .string n] W fun r w' => r = .returned (.tuple #[.pointer none, .int .i64 c]) ∧ w' = W) (hc : c ≠ 0) : Calls Tryz.prog 21 #[v, .string n, u, .string m] W fun e V' => e = .returned (.int .i64 c) ∧ V' = W := by
  have AK := aside h
  have AK2 := aside h2
  have AG := aside hG
  have hc1 : (c == 0) = false := beq_eq_false_iff_ne.2 hc
  clear h h2 hG
  go_enter Tryz.func21, Tryz.ntmps21
  go_wp2_with fail
  refine AK.out.mono ?_
  rintro e w' ⟨rfl, rfl⟩
  go_wp2_with fail
  refine AK2.out.mono ?_
  rintro e w' ⟨rfl, rfl⟩
  go_wp2_with fail
  refine AK.out.mono ?_
  rintro e w' ⟨rfl, rfl⟩
  go_wp2_with fail
  refine AK2.out.mono ?_
  rintro e w' ⟨rfl, rfl⟩
  go_wp2_with fail
  refine AG.out.mono ?_
  rintro e w' ⟨rfl, rfl⟩
  go_wp2_with fail
  go_ret
  exact ⟨rfl, rfl⟩
end Go.Proofs.YtbnaegoahdcejaaGreatDoor

namespace Go.Proofs.YtbnaegoahdcejaaGreatDoor
open Go.RowKit Go.ChangeMaps

theorem elemI : Tryz.prog.underlying 22 = some (.slice (Tryz.prog.elem 22)) := by kernel_rfl
theorem sizeE (w : World) : (Go.sizeOf (Tryz.prog.elem 22)).run Tryz.prog w = .ok 3 w := by kernel_rfl
theorem ims_drop (ms : List Im) (i : Nat) : ims (ms.drop i) = (ims ms).drop (i * 3) := by
  induction ms generalizing i with
  | nil => simp [ims]
  | cons m ms ih =>
    cases i with
    | zero => simp
    | succ i =>
      have := ih i
      rw [List.drop_succ_cons, this, show (i + 1) * 3 = i * 3 + 1 + 1 + 1 by omega]
      simp [ims, Im.cs]
theorem ims_take (ms : List Im) (i : Nat) : ims (ms.take i) = (ims ms).take (i * 3) := by
  induction ms generalizing i with
  | nil => simp [ims]
  | cons m ms ih =>
    cases i with
    | zero => simp [ims]
    | succ i =>
      have := ih i
      rw [List.take_succ_cons, show (i + 1) * 3 = i * 3 + 1 + 1 + 1 by omega]
      simp only [ims, List.flatMap_cons, Im.cs] at this ⊢
      simp [this]
theorem Inp.drop {W : World} {a : Option Addr} {ms : List Im} {c i : Nat} (h : Inp W a ms) (hc : ms.length ≤ c) : Inp W (if c = i then a else a.map (·.add (i * 3))) (ms.drop i) := by
  refine ⟨fun hn => ?_, fun m hm => h.dat m (List.mem_of_mem_drop hm)⟩
  have hlt : i < ms.length := by
    rcases Nat.lt_or_ge i ms.length with h1 | h1
    · exact h1
    · exact absurd (List.drop_of_length_le h1) hn
  obtain ⟨g, o, rfl, hr⟩ := h.cel (fun h0 => by rw [h0] at hlt; simp at hlt)
  rw [if_neg (by omega), Option.map_some, Addr.add_lit]
  refine ⟨g, o + i * 3, rfl, fun j v hj => ?_⟩
  rw [ims_drop, List.getElem?_drop] at hj
  have := hr _ _ hj
  rwa [← Nat.add_assoc] at this
theorem Inp.take {W : World} {a : Option Addr} {ms : List Im} (i : Nat) (h : Inp W a ms) : Inp W a (ms.take i) := by
  refine ⟨fun hn => ?_, fun m hm => h.dat m (List.mem_of_mem_take hm)⟩
  obtain ⟨g, o, rfl, hr⟩ := h.cel (fun h0 => hn (by rw [h0]; simp))
  refine ⟨g, o, rfl, fun j v hj => ?_⟩
  rw [ims_take, List.getElem?_take] at hj
  split at hj
  · exact hr _ _ hj
  · cases hj
/-- list[i:] -/
theorem slice_l (a : Option Addr) (n c i : Nat) (hi : i ≤ n) (hc : n ≤ c) :
    ∃ a', (∀ W, (Instr.slice 22 (.slice a n c) (some (.int .i64 (i : Int))) none none).run Tryz.prog W = .ok (.slice a' (n - i) (c - i)) W) ∧ ∀ w ms, ms.length = n → Inp w a ms → Inp w a' (ms.drop i) := by
  refine ⟨if c = i then a else a.map (·.add (i * 3)), fun W => ?_, fun w L hl h => h.drop (by omega)⟩
  rw [run_slice_l W 22 a n c elemI .i64 _ (by omega) (by omega), sizeE]
  simp only [Result.andThen, sliced, Int.toNat_natCast]
/-- list[:j] -/
theorem slice_h (a : Option Addr) (n c j : Nat) (hj : j ≤ n) (hc : n ≤ c) :
    ∀ W, (Instr.slice 22 (.slice a n c) none (some (.int .i64 (j : Int))) none).run Tryz.prog W = .ok (.slice a j c) W := by
  intro W
  rw [run_slice_h W 22 a n c elemI .i64 _ (by omega) (by omega), sizeE]
  simp only [Result.andThen, sliced, Int.toNat_natCast, Nat.sub_zero, Nat.zero_mul]
  congr 2
  split
  · rfl
  · cases a with
    | none => rfl
    | some x => simp [Addr.add]
/-- Lists of items that are not too great. -/
def Fits (ms : List Im) : Prop := ∀ m ∈ ms, m.p.size ≤ 140737488351232 ∧ m.x.length ≤ 140737488351232
def bulk (ms : List Im) : Nat := (ms.map fun m => m.p.size + m.x.length).sum
theorem bulk_take {ms : List Im} {i : Nat} {m : Im} (h : ms[i]? = some m) : bulk (ms.take (i + 1)) = bulk (ms.take i) + (m.p.size + m.x.length) := by
  unfold bulk
  rw [List.take_add_one, h]
  simp
/-- What great tells. -/
def GreatP (ms : List Im) (w : World) (e : Ending) (w' : World) : Prop := Below w.heap.size w w' ∧ ∃ q, e = .returned (.bool q) ∧ (q = false → ms.length ≤ 200 ∧ bulk ms ≤ 131072)
set_option maxRecDepth 20000 in
set_option maxHeartbeats 4000000 in
theorem great_any (a : Option Addr) (ms : List Im) (n c : Nat) (w : World) (hn : n = ms.length) (hnl : n ≤ 140737488351232) (hI : Inp w a ms) (hF : Fits ms) : Calls Tryz.prog 9 #[.slice a n c] w fun e w' => GreatP ms w e w' := by
  have AI := aside hI
  have AN := aside hn
  have AF := aside hF
  clear hI hn hF
  go_enter Tryz.func9, Tryz.ntmps9
  go_wp2_with fail
  go_loopg [3, 4] (n + 1) (fun g s3 s4 wx => ∃ i y : Nat, i + g = n + 1 ∧ i ≤ n ∧ i ≤ 201 ∧ s4 = .int .i64 (i : Int) ∧ s3 = .int .i64 (y : Int) ∧ Below w.heap.size w wx ∧ y = bulk (ms.take i) ∧ y ≤ 281474976841728)
  case atStart => exact ⟨0, 0, by omega, by omega, by omega, rfl, rfl, Below.refl _ _, rfl, by omega⟩
  case round =>
    obtain ⟨i, y, hig, hin, hi2, rfl, rfl, hbl, hy, hyl⟩ := hrel
    have ABl := aside hbl
    have Ay := aside hy
    clear hbl hy
    by_cases c1 : i < n
    · have d1 : (i : Int) < (n : Int) := by omega
      by_cases c2 : i ≤ 200
      · have d2 : (i : Int) ≤ 200 := by omega
        by_cases c3 : y ≤ 131072
        · have d3 : (y : Int) ≤ 131072 := by omega
          obtain ⟨x, hxi⟩ : ∃ x, ms[i]? = some x := ⟨_, List.getElem?_eq_getElem (by rw [← AN.out]; exact c1)⟩
          obtain ⟨g, o, rfl, e0, -, e2⟩ := (AI.out.below ABl.out).at hxi
          obtain ⟨f1, f2⟩ := AF.out x (List.mem_of_getElem? hxi)
          have hbt := bulk_take hxi
          rw [← Ay.out] at hbt
          have Abt := aside hbt
          have E0 := fun dd os => ext_cell e0 dd os
          have E2 := fun dd os => ext_cell e2 dd os
          obtain ⟨P, hP⟩ : ∃ P, P = x.p := ⟨_, rfl⟩
          obtain ⟨nx, hnx⟩ : ∃ nx, nx = x.x.length := ⟨_, rfl⟩
          have AP := aside hP
          have Anx := aside hnx
          rw [← hP] at E0 f1
          rw [← hnx] at E2 f2
          obtain ⟨u, hu⟩ : ∃ u, u = y + P.size := ⟨_, rfl⟩
          obtain ⟨v, hv⟩ : ∃ v, v = u + nx := ⟨_, rfl⟩
          have hw1 : IntKind.i64.wrap ((y : Int) + (P.size : Int)) = (u : Int) := by rw [wrap_small _ (by omega) (by omega), hu]; simp
          have hw2 : IntKind.i64.wrap ((u : Int) + (nx : Int)) = (v : Int) := by rw [wrap_small _ (by omega) (by omega), hv]; simp
          have hwi : IntKind.i64.wrap ((i : Int) + 1) = ((i + 1 : Nat) : Int) := by rw [wrap_small _ (by omega) (by omega)]; simp
          have Av : Aside (v = bulk (ms.take (i + 1)) ∧ v ≤ 281474976841728) := ⟨by rw [Abt.out, hv, hu, AP.out, Anx.out]; omega, by omega⟩
          have hi0 : (0 : Int) ≤ (i : Int) := by omega
          clear e0 e2 hxi hbt hP hnx hu hv
          go_wp2_with fail
          refine region_ext (by kernel_rfl) (by kernel_rfl) ?_
          repeat (any_goals (first | go_big_quiet_step (fail) | quiet_step (fail)))
          refine wpQuiet_nil ?_
          intro w5 hw5
          have AB5 := aside hw5
          clear hw5
          go_wp2_with fail
          go_roundg (gk - 1)
          case measure => omega
          case rel => exact ⟨i + 1, v, by omega, by omega, by omega, by first | rfl | simp, rfl, below_tr ABl.out AB5.out, Av.out.1, Av.out.2⟩
        · have d3 : ¬ (y : Int) ≤ 131072 := by omega
          have d4 : (131072 : Int) < (y : Int) := by omega
          go_wp2_with fail
          go_ret
          exact ⟨ABl.out, true, rfl, fun h => by cases h⟩
      · have d2 : ¬ (i : Int) ≤ 200 := by omega
        have d4 : (200 : Int) < (n : Int) := by omega
        by_cases c3 : 131072 < y
        · have d5 : (131072 : Int) < (y : Int) := by omega
          go_wp2_with fail
          go_ret
          exact ⟨ABl.out, true, rfl, fun h => by cases h⟩
        · have d5 : ¬ (131072 : Int) < (y : Int) := by omega
          go_wp2_with fail
          go_ret
          exact ⟨ABl.out, true, rfl, fun h => by cases h⟩
    · obtain rfl : i = n := by omega
      have d1 : ¬ (i : Int) < (i : Int) := by omega
      by_cases c3 : 131072 < y
      · have d5 : (131072 : Int) < (y : Int) := by omega
        go_wp2_with fail
        go_ret
        exact ⟨ABl.out, true, rfl, fun h => by cases h⟩
      · have d5 : ¬ (131072 : Int) < (y : Int) := by omega
        have hy2 : bulk ms ≤ 131072 := by
          have := Ay.out
          rw [AN.out, List.take_length] at this
          omega
        have Ay2 := aside hy2
        by_cases c4 : 200 < i
        · have d6 : (200 : Int) < (i : Int) := by omega
          go_wp2_with fail
          go_ret
          exact ⟨ABl.out, true, rfl, fun h => by cases h⟩
        · have d6 : ¬ (200 : Int) < (i : Int) := by omega
          go_wp2_with fail
          go_ret
          exact ⟨ABl.out, false, rfl, fun _ => ⟨by rw [← AN.out]; omega, Ay2.out⟩⟩
end Go.Proofs.YtbnaegoahdcejaaGreatDoor

namespace Go.Proofs.YtbnaegoahdcejaaGreatDoor
open Go.RowKit Go.ChangeMaps

/-- What Ordered tells. -/
def OrdP (ms : List Im) (w : World) (e : Ending) (w' : World) : Prop :=
  Below w.heap.size w w' ∧ ∃ a' c' ms', e = .returned (.slice a' ms.length c') ∧ ms.length ≤ c' ∧ Inp w' a' ms' ∧ ms'.Perm ms ∧ Ris ms'
/-- Where the joining of two lists stands. -/
structure Mg (W : World) (ms xs ys zs : List Im) (s3 s4 s5 : Value) (wx : World) : Prop where
  ax : ∃ a c, s3 = .slice a xs.length c ∧ xs.length ≤ c ∧ Inp W a xs
  ay : ∃ a c, s4 = .slice a ys.length c ∧ ys.length ≤ c ∧ Inp W a ys
  az : ∃ a c, s5 = .slice a zs.length c ∧ wx.ownsRow 0 51 3 (.slice a zs.length c) zs.length (ims zs) ∧ ∀ b, (Value.slice a zs.length c).ownBlock = some b → W.heap.size ≤ b
  bel : Below W.heap.size W wx
  per : (zs ++ (xs ++ ys)).Perm ms
  rz : Ris zs
  rx : Ris xs
  ry : Ris ys
  le : ∀ z ∈ zs, ∀ x ∈ xs ++ ys, z.p.data.toList ≤ x.p.data.toList
theorem mg_push {ms xs ys zs : List Im} {x : Im} (hp : (zs ++ (x :: xs ++ ys)).Perm ms) (hz : Ris zs) (hx : Ris (x :: xs)) (hle : ∀ z ∈ zs, ∀ y ∈ x :: xs ++ ys, z.p.data.toList ≤ y.p.data.toList) (hxy : ∀ y ∈ ys, x.p.data.toList ≤ y.p.data.toList) :
    ((zs ++ [x]) ++ (xs ++ ys)).Perm ms ∧ Ris (zs ++ [x]) ∧ ∀ z ∈ zs ++ [x], ∀ y ∈ xs ++ ys, z.p.data.toList ≤ y.p.data.toList := by
  refine ⟨by simpa using hp, ?_, fun z hz2 y hy => ?_⟩
  · exact List.pairwise_append.2 ⟨hz, List.pairwise_singleton _ _, fun a ha b hb => by rw [List.mem_singleton.1 hb]; exact hle a ha x (by simp)⟩
  · rcases List.mem_append.1 hz2 with hz2 | hz2
    · exact hle z hz2 y (by simp only [List.cons_append, List.mem_cons]; exact .inr hy)
    · rw [List.mem_singleton.1 hz2]
      rcases List.mem_append.1 hy with hy | hy
      · exact (List.pairwise_cons.1 hx).1 y hy
      · exact hxy y hy
theorem mg_app {W wx w7 : World} {zs : List Im} {x : Im} {v v' : Value} {o : Obj} (hb : Below W.heap.size W wx) (hbz : ∀ b, v.ownBlock = some b → W.heap.size ≤ b) (ho : w7.ownsRow 0 51 3 v' (zs.length + 1) (ims zs ++ x.cs)) (hg : (wx.alloc o).grownBy w7 v.ownBlock)
    (hwh : (v'.ownBlock = v.ownBlock ∧ ∃ g, v.ownBlock = some g) ∨ (v'.ownBlock = some (wx.alloc o).heap.size ∧ Below (wx.alloc o).heap.size (wx.alloc o) w7)) :
    Below W.heap.size W w7 ∧ w7.ownsRow 0 51 3 v' (zs ++ [x]).length (ims (zs ++ [x])) ∧ ∀ b, v'.ownBlock = some b → W.heap.size ≤ b := by
  have hs := hb.size
  refine ⟨?_, ?_, fun b hv => ?_⟩
  · exact (hb.trans ((below_al wx o).mono hs)).trans ((Upd.of_grown hg (F := fun k => v.ownBlock = some k) (fun k hk => hk)).below (by rw [World.size_alloc]; omega) (fun k hk => hbz k hk))
  · have : ims (zs ++ [x]) = ims zs ++ x.cs := by simp [ims, List.flatMap_append]
    rw [this, List.length_append]
    exact ho
  · rcases hwh with ⟨e, -⟩ | ⟨e, -⟩
    · exact hbz b (e ▸ hv)
    · rw [e] at hv
      injection hv with hv
      rw [World.size_alloc] at hv
      omega
theorem leq_dec (a b : ByteArray) : (Op.bytesLess a.toList b.toList || a.toList == b.toList) = decide (a.data.toList ≤ b.data.toList) := by
  rw [bytesLess_eq, beq_list, Lib.toList_data, Lib.toList_data, Bool.eq_iff_iff]
  simp only [Bool.or_eq_true, decide_eq_true_eq]
  constructor
  · rintro (h | h)
    · exact List.le_of_lt h
    · rw [h]; exact List.le_refl _
  · intro h
    by_cases e : a = b
    · exact .inr e
    · exact .inl (b_lt h (fun e2 => e (by rw [← ba_of a, ← ba_of b, e2])))
set_option maxRecDepth 20000 in
set_option maxHeartbeats 8000000 in
theorem ordered_any : ∀ (N : Nat) (a : Option Addr) (ms : List Im) (n c : Nat) (w : World), ms.length ≤ N → n = ms.length → n ≤ c → n ≤ 1000000 → Inp w a ms → Calls Tryz.prog 24 #[.slice a n c] w fun e w' => OrdP ms w e w' := by
  intro N
  induction N with
  | zero =>
    intro a ms n c w hN hn hnc hnl hI
    have hms := List.eq_nil_of_length_eq_zero (Nat.le_zero.1 hN)
    subst hms
    simp only [List.length_nil] at hn
    subst hn
    have AI := aside hI
    clear hI
    go_enter Tryz.func24, Tryz.ntmps24
    go_wp2_with fail
    go_ret
    exact ⟨Below.refl _ _, a, c, [], rfl, hnc, AI.out, List.Perm.refl _, List.Pairwise.nil⟩
  | succ N ih =>
    intro a ms n c w hN hn hnc hnl hI
    have AI := aside hI
    have AN := aside hn
    by_cases h2 : n < 2
    · have h2' : (n : Int) < 2 := by omega
      have hR : Ris ms := by
        unfold Ris
        match ms, hn with
        | [], _ => exact List.Pairwise.nil
        | [x], _ => exact List.pairwise_singleton _ _
        | _ :: _ :: _, hn => simp at hn; omega
      have AR := aside hR
      clear hI hn hR
      go_enter Tryz.func24, Tryz.ntmps24
      go_wp2_with fail
      go_ret
      exact ⟨Below.refl _ _, a, c, ms, by rw [← AN.out]; rfl, by rw [← AN.out]; exact hnc, AI.out, List.Perm.refl _, AR.out⟩
    · have h2' : ¬ (n : Int) < 2 := by omega
      obtain ⟨h, hh⟩ : ∃ h, h = n / 2 := ⟨_, rfl⟩
      have hq : Int.tdiv (n : Int) 2 = (h : Int) := by rw [hh]; rfl
      have hwq : IntKind.i64.wrap (Int.tdiv (n : Int) 2) = (h : Int) := by rw [hq, wrap_small _ (by omega) (by omega)]
      have hhn : h ≤ n := by omega
      have sh := slice_h a n c h hhn hnc
      obtain ⟨a2, sl, hI2⟩ := slice_l a n c h hhn hnc
      have hl1 : (ms.take h).length = h := by rw [List.length_take, ← hn]; exact Nat.min_eq_left hhn
      have hl2 : (ms.drop h).length = n - h := by rw [List.length_drop, ← hn]
      clear hq hwq
      have hh1 : h ≤ N := by omega
      have hh2 : n - h ≤ N := by omega
      have AH1 := aside (ih a (ms.take h) h c w (by rw [hl1]; exact hh1) hl1.symm (by omega) (by omega) (hI.take h))
      have AH2 := aside (fun V (hV : Below w.heap.size w V) => ih a2 (ms.drop h) (n - h) (c - h) V (by rw [hl2]; exact hh2) hl2.symm (by omega) (by omega) ((hI2 w ms AN.out.symm hI).below hV))
      have Ah1 : Aside ((ms.take h).length = h) := hl1
      have Ah2 : Aside ((ms.drop h).length = n - h) := hl2
      have hq : Int.tdiv (n : Int) 2 = (h : Int) := by rw [hh]; rfl
      have hwq : IntKind.i64.wrap (Int.tdiv (n : Int) 2) = (h : Int) := by rw [hq, wrap_small _ (by omega) (by omega)]
      clear hl1 hl2 hh1 hh2
      obtain ⟨m, hm⟩ : ∃ m, m = n - h := ⟨_, rfl⟩
      rw [← hm] at AH2 Ah2 sl
      have Am : Aside (h + m = n) := by show h + m = n; omega
      clear hI hn hI2 ih hh hm
      go_enter Tryz.func24, Tryz.ntmps24
      go_wp2_with fail
      refine AH1.out.mono ?_
      rintro e w1 ⟨hb1, aa, ca, xs0, rfl, hca, hIa, hpa, hra⟩
      rw [Ah1.out] at hca ⊢
      have AB1 := aside hb1
      have AIa := aside hIa
      have Apa := aside hpa
      have Ara := aside hra
      clear hb1 hIa hpa hra AH1
      go_wp2_with fail
      refine (AH2.out w1 AB1.out).mono ?_
      rintro e w2 ⟨hb2, ab, cb, ys0, rfl, hcb, hIb, hpb, hrb⟩
      rw [Ah2.out] at hcb ⊢
      have AB2 := aside (below_tr AB1.out hb2)
      have AIa2 := aside (AIa.out.below hb2)
      have AIb := aside hIb
      have Apb := aside hpb
      have Arb := aside hrb
      have Al1 : Aside (xs0.length = h) := Apa.out.length_eq.trans Ah1.out
      have Al2 : Aside (ys0.length = m) := hpb.length_eq.trans Ah2.out
      clear hb2 hIb hpb hrb AH2 AB1 AIa
      go_wp2_with fail
      go_loopg [3, 4, 5] n (fun g s3 s4 s5 wx => ∃ xs ys zs, Mg w2 ms xs ys zs s3 s4 s5 wx ∧ xs.length + ys.length = g)
      case atStart =>
        refine ⟨xs0, ys0, [], ⟨⟨aa, ca, by rw [Al1.out], by rw [Al1.out]; exact hca, AIa2.out⟩, ⟨ab, cb, by rw [Al2.out], by rw [Al2.out]; exact hcb, AIb.out⟩, ⟨none, 0, rfl, World.ownsRow_nil _ _ _ _, fun b hb => by simp [Value.ownBlock] at hb⟩, Below.refl _ _, ?_, List.Pairwise.nil, Ara.out, Arb.out, fun z hz => by simp at hz⟩, by rw [Al1.out, Al2.out]; exact Am.out⟩
        have := Apa.out.append Apb.out
        rw [List.take_append_drop] at this
        simpa using this
      case round =>
        obtain ⟨xs, ys, zs, hMg, hgk⟩ := hrel
        obtain ⟨aa, ca, rfl, hca2, hIa⟩ := hMg.ax
        obtain ⟨ab, cb, rfl, hcb2, hIb⟩ := hMg.ay
        obtain ⟨ao, co, rfl, hrz, hbz⟩ := hMg.az
        have AMg := aside hMg
        have ARz := aside hrz
        have ABz := aside hbz
        clear hMg hrz hbz
        cases xs with
        | nil =>
          cases ys with
          | nil =>
            clear hIa hIb
            go_wp2_with fail
            go_ret
            have hpr : zs.Perm ms := by simpa using AMg.out.per
            refine ⟨below_tr AB2.out AMg.out.bel, ao, co, zs, by rw [← hpr.length_eq]; rfl, ?_, ⟨fun hn => ?_, fun z hz => ?_⟩, hpr, AMg.out.rz⟩
            · rw [← hpr.length_eq]
              obtain ⟨_, _, e, h3⟩ := own_slice ARz.out
              injection e with _ _ e
              omega
            · rcases ARz.out.2 with ⟨-, h0⟩ | ⟨g, cap, cur, e, -⟩
              · exact absurd (List.eq_nil_of_length_eq_zero h0) hn
              · injection e with e1 e2 e3
                exact ⟨g, 0, e1, fun j v hj => by
                  have := ARz.out.cells (g := g) (by rw [e1]; rfl) j v hj
                  simpa [Addr.add_lit] using this⟩
            · have hd := AI.out.dat z (hpr.mem_iff.1 hz)
              exact ⟨hd.1.below (below_tr AB2.out AMg.out.bel), hd.2⟩
          | cons y ys =>
            obtain ⟨g2, o2, rfl, f0, f1, f2⟩ := (hIb.below AMg.out.bel).at (i := 0) (m := y) rfl
            simp only [Nat.zero_mul, Nat.add_zero] at f0 f1 f2
            have F0 := fun dd os => ext_cell f0 dd os
            have F1 := fun dd os => ext_cell f1 dd os
            have F2 := fun dd os => ext_cell f2 dd os
            have p2 : ((ys.length : Int) + 1 == 0) = false := beq_eq_false_iff_ne.2 (by omega)
            have p2' : (0 : Int) < (ys.length : Int) + 1 := by omega
            obtain ⟨a', sl1, hI'⟩ := slice_l (some ⟨g2, o2, none⟩) (ys.length + 1) cb 1 (by omega) (by simpa using hcb2)
            have sl2 : ∀ W, (Instr.slice 22 (.slice (some ⟨g2, o2, none⟩) (ys.length + 1) cb) (some (.int .i64 1)) none none).run Tryz.prog W = .ok (.slice a' ys.length (cb - 1)) W := sl1
            have AInx : Aside (Inp w2 a' ys) := hI' w2 (y :: ys) rfl hIb
            have hcc : ys.length ≤ cb - 1 := by have := hcb2; simp only [List.length_cons] at this; omega
            clear sl1 hI'
            go_wp2_with fail
            refine region_ext (by kernel_rfl) (by kernel_rfl) ?_
            repeat (any_goals (first | go_big_quiet_step (fail) | quiet_step (fail)))
            refine wpQuiet_nil ?_
            intro w5 hw5
            have kf0 := (hw5.cell (World.block_lt_of_cell? wr _ f0)).trans f0
            have kf1 := (hw5.cell (World.block_lt_of_cell? wr _ f1)).trans f1
            have kf2 := (hw5.cell (World.block_lt_of_cell? wr _ f2)).trans f2
            have ARz5 := aside (row_below ARz.out hw5)
            have AB5 := aside (below_tr AMg.out.bel hw5)
            have H63 : Aside (zs.length + 1 ≤ maxLen) := by show zs.length + 1 ≤ maxLen; unfold maxLen; have := AMg.out.per.length_eq; simp only [List.length_append] at this; have := AN.out; omega
            have hby : (zs.length + 1) * 48 ≤ 140737488355328 := by have := AMg.out.per.length_eq; simp only [List.length_append] at this; have := AN.out; omega
            clear hw5 F0 F1 F2
            go_wp2_with (at_builtin; refine M.wpList_append_where _ rfl _ _ 22 rfl 51 (.agg #[.string ⟨#[]⟩, .int .i8 0, .slice none 0 0]) 3 48 Tryz.underlying22 infoI rfl (by decide) (.slice ao zs.length co) zs.length (ims zs) rfl (row_below ARz5.out (below_al _ _)) _ 1 _ (Im.cs y) rfl rfl (im_cells1 _ y) (im_one _) H63.out hby (by decide) ?_; intro v' w7 ho hg hwh; obtain ⟨a9, c9, rfl, -⟩ := own_slice ho; obtain ⟨m1, m2, m3⟩ := mg_app AB5.out ABz.out ho hg hwh; have A1 := aside m1; have A2 := aside m2; have A3 := aside m3; clear ho hg hwh m1 m2 m3)
            go_roundg (gk - 1)
            case measure => simp only [List.length_cons] at hgk; omega
            case rel =>
              have hpe : (zs ++ (y :: ys ++ ([]))).Perm ms := (List.Perm.append_left zs (List.perm_append_comm)).trans AMg.out.per
              obtain ⟨q1, q2, q3⟩ := mg_push (xs := ys) (ys := []) hpe AMg.out.rz AMg.out.ry (fun z hz u hu => AMg.out.le z hz u (List.perm_append_comm.mem_iff.1 hu)) (fun z hz => by simp at hz)
              refine ⟨[], ys, zs ++ [y], ⟨AMg.out.ax, ⟨a', cb - 1, rfl, hcc, AInx.out⟩, ⟨a9, c9, by rw [List.length_append]; rfl, by simpa using A2.out, by simpa using A3.out⟩, A1.out, (List.Perm.append_left _ (List.perm_append_comm)).trans q1, q2, AMg.out.rx, (List.pairwise_cons.1 AMg.out.ry).2, fun z hz u hu => q3 z hz u (List.perm_append_comm.mem_iff.1 hu)⟩, by simp only [List.length_cons] at hgk ⊢; omega⟩
        | cons x xs =>
          cases ys with
          | nil =>
            obtain ⟨g, o, rfl, e0, e1, e2⟩ := (hIa.below AMg.out.bel).at (i := 0) (m := x) rfl
            simp only [Nat.zero_mul, Nat.add_zero] at e0 e1 e2
            have E0 := fun dd os => ext_cell e0 dd os
            have E1 := fun dd os => ext_cell e1 dd os
            have E2 := fun dd os => ext_cell e2 dd os
            have p1 : ((xs.length : Int) + 1 == 0) = false := beq_eq_false_iff_ne.2 (by omega)
            have p1' : (0 : Int) < (xs.length : Int) + 1 := by omega
            obtain ⟨a', sl1, hI'⟩ := slice_l (some ⟨g, o, none⟩) (xs.length + 1) ca 1 (by omega) (by simpa using hca2)
            have sl2 : ∀ W, (Instr.slice 22 (.slice (some ⟨g, o, none⟩) (xs.length + 1) ca) (some (.int .i64 1)) none none).run Tryz.prog W = .ok (.slice a' xs.length (ca - 1)) W := sl1
            have AInx : Aside (Inp w2 a' xs) := hI' w2 (x :: xs) rfl hIa
            have hcc : xs.length ≤ ca - 1 := by have := hca2; simp only [List.length_cons] at this; omega
            clear sl1 hI'
            go_wp2_with fail
            refine region_ext (by kernel_rfl) (by kernel_rfl) ?_
            repeat (any_goals (first | go_big_quiet_step (fail) | quiet_step (fail)))
            refine wpQuiet_nil ?_
            intro w5 hw5
            have ke0 := (hw5.cell (World.block_lt_of_cell? wr _ e0)).trans e0
            have ke1 := (hw5.cell (World.block_lt_of_cell? wr _ e1)).trans e1
            have ke2 := (hw5.cell (World.block_lt_of_cell? wr _ e2)).trans e2
            have ARz5 := aside (row_below ARz.out hw5)
            have AB5 := aside (below_tr AMg.out.bel hw5)
            have H63 : Aside (zs.length + 1 ≤ maxLen) := by show zs.length + 1 ≤ maxLen; unfold maxLen; have := AMg.out.per.length_eq; simp only [List.length_append] at this; have := AN.out; omega
            have hby : (zs.length + 1) * 48 ≤ 140737488355328 := by have := AMg.out.per.length_eq; simp only [List.length_append] at this; have := AN.out; omega
            clear hw5 E0 E1 E2
            go_wp2_with (at_builtin; refine M.wpList_append_where _ rfl _ _ 22 rfl 51 (.agg #[.string ⟨#[]⟩, .int .i8 0, .slice none 0 0]) 3 48 Tryz.underlying22 infoI rfl (by decide) (.slice ao zs.length co) zs.length (ims zs) rfl (row_below ARz5.out (below_al _ _)) _ 1 _ (Im.cs x) rfl rfl (im_cells1 _ x) (im_one _) H63.out hby (by decide) ?_; intro v' w7 ho hg hwh; obtain ⟨a9, c9, rfl, -⟩ := own_slice ho; obtain ⟨m1, m2, m3⟩ := mg_app AB5.out ABz.out ho hg hwh; have A1 := aside m1; have A2 := aside m2; have A3 := aside m3; clear ho hg hwh m1 m2 m3)
            go_roundg (gk - 1)
            case measure => simp only [List.length_cons] at hgk; omega
            case rel =>
              obtain ⟨q1, q2, q3⟩ := mg_push (xs := xs) (ys := []) AMg.out.per AMg.out.rz AMg.out.rx AMg.out.le (fun z hz => by simp at hz)
              refine ⟨xs, [], zs ++ [x], ⟨⟨a', ca - 1, rfl, hcc, AInx.out⟩, AMg.out.ay, ⟨a9, c9, by rw [List.length_append]; rfl, by simpa using A2.out, by simpa using A3.out⟩, A1.out, q1, q2, (List.pairwise_cons.1 AMg.out.rx).2, AMg.out.ry, q3⟩, by simp only [List.length_cons] at hgk ⊢; omega⟩
          | cons y ys =>
            obtain ⟨g, o, rfl, e0, e1, e2⟩ := (hIa.below AMg.out.bel).at (i := 0) (m := x) rfl
            simp only [Nat.zero_mul, Nat.add_zero] at e0 e1 e2
            have E0 := fun dd os => ext_cell e0 dd os
            have E1 := fun dd os => ext_cell e1 dd os
            have E2 := fun dd os => ext_cell e2 dd os
            have p1 : ((xs.length : Int) + 1 == 0) = false := beq_eq_false_iff_ne.2 (by omega)
            have p1' : (0 : Int) < (xs.length : Int) + 1 := by omega
            obtain ⟨g2, o2, rfl, f0, f1, f2⟩ := (hIb.below AMg.out.bel).at (i := 0) (m := y) rfl
            simp only [Nat.zero_mul, Nat.add_zero] at f0 f1 f2
            have F0 := fun dd os => ext_cell f0 dd os
            have F1 := fun dd os => ext_cell f1 dd os
            have F2 := fun dd os => ext_cell f2 dd os
            have p2 : ((ys.length : Int) + 1 == 0) = false := beq_eq_false_iff_ne.2 (by omega)
            have p2' : (0 : Int) < (ys.length : Int) + 1 := by omega
            have hcmp := leq_dec x.p y.p
            by_cases hxy : x.p.data.toList ≤ y.p.data.toList
            · rw [decide_eq_true hxy] at hcmp
              have hle : Aside (x.p.data.toList ≤ y.p.data.toList) := hxy
              clear hxy
              obtain ⟨a', sl1, hI'⟩ := slice_l (some ⟨g, o, none⟩) (xs.length + 1) ca 1 (by omega) (by simpa using hca2)
              have sl2 : ∀ W, (Instr.slice 22 (.slice (some ⟨g, o, none⟩) (xs.length + 1) ca) (some (.int .i64 1)) none none).run Tryz.prog W = .ok (.slice a' xs.length (ca - 1)) W := sl1
              have AInx : Aside (Inp w2 a' xs) := hI' w2 (x :: xs) rfl hIa
              have hcc : xs.length ≤ ca - 1 := by have := hca2; simp only [List.length_cons] at this; omega
              clear sl1 hI'
              go_wp2_with fail
              refine region_ext (by kernel_rfl) (by kernel_rfl) ?_
              repeat (any_goals (first | go_big_quiet_step (fail) | quiet_step (fail)))
              refine wpQuiet_nil ?_
              intro w5 hw5
              have ke0 := (hw5.cell (World.block_lt_of_cell? wr _ e0)).trans e0
              have ke1 := (hw5.cell (World.block_lt_of_cell? wr _ e1)).trans e1
              have ke2 := (hw5.cell (World.block_lt_of_cell? wr _ e2)).trans e2
              have ARz5 := aside (row_below ARz.out hw5)
              have AB5 := aside (below_tr AMg.out.bel hw5)
              have H63 : Aside (zs.length + 1 ≤ maxLen) := by show zs.length + 1 ≤ maxLen; unfold maxLen; have := AMg.out.per.length_eq; simp only [List.length_append] at this; have := AN.out; omega
              have hby : (zs.length + 1) * 48 ≤ 140737488355328 := by have := AMg.out.per.length_eq; simp only [List.length_append] at this; have := AN.out; omega
              clear hw5 E0 E1 E2 F0 F1 F2
              go_wp2_with (at_builtin; refine M.wpList_append_where _ rfl _ _ 22 rfl 51 (.agg #[.string ⟨#[]⟩, .int .i8 0, .slice none 0 0]) 3 48 Tryz.underlying22 infoI rfl (by decide) (.slice ao zs.length co) zs.length (ims zs) rfl (row_below ARz5.out (below_al _ _)) _ 1 _ (Im.cs x) rfl rfl (im_cells1 _ x) (im_one _) H63.out hby (by decide) ?_; intro v' w7 ho hg hwh; obtain ⟨a9, c9, rfl, -⟩ := own_slice ho; obtain ⟨m1, m2, m3⟩ := mg_app AB5.out ABz.out ho hg hwh; have A1 := aside m1; have A2 := aside m2; have A3 := aside m3; clear ho hg hwh m1 m2 m3)
              go_roundg (gk - 1)
              case measure => simp only [List.length_cons] at hgk; omega
              case rel =>
                obtain ⟨q1, q2, q3⟩ := mg_push (xs := xs) (ys := y :: ys) AMg.out.per AMg.out.rz AMg.out.rx AMg.out.le (fun z hz => by
                  rcases List.mem_cons.1 hz with rfl | hz
                  · exact hle.out
                  · exact List.le_trans hle.out ((List.pairwise_cons.1 AMg.out.ry).1 z hz))
                refine ⟨xs, y :: ys, zs ++ [x], ⟨⟨a', ca - 1, rfl, hcc, AInx.out⟩, AMg.out.ay, ⟨a9, c9, by rw [List.length_append]; rfl, by simpa using A2.out, by simpa using A3.out⟩, A1.out, q1, q2, (List.pairwise_cons.1 AMg.out.rx).2, AMg.out.ry, q3⟩, by simp only [List.length_cons] at hgk ⊢; omega⟩
            · rw [decide_eq_false hxy] at hcmp
              have hle : Aside (y.p.data.toList ≤ x.p.data.toList) := (List.le_total x.p.data.toList y.p.data.toList).resolve_left hxy
              clear hxy
              obtain ⟨a', sl1, hI'⟩ := slice_l (some ⟨g2, o2, none⟩) (ys.length + 1) cb 1 (by omega) (by simpa using hcb2)
              have sl2 : ∀ W, (Instr.slice 22 (.slice (some ⟨g2, o2, none⟩) (ys.length + 1) cb) (some (.int .i64 1)) none none).run Tryz.prog W = .ok (.slice a' ys.length (cb - 1)) W := sl1
              have AInx : Aside (Inp w2 a' ys) := hI' w2 (y :: ys) rfl hIb
              have hcc : ys.length ≤ cb - 1 := by have := hcb2; simp only [List.length_cons] at this; omega
              clear sl1 hI'
              go_wp2_with fail
              refine region_ext (by kernel_rfl) (by kernel_rfl) ?_
              repeat (any_goals (first | go_big_quiet_step (fail) | quiet_step (fail)))
              refine wpQuiet_nil ?_
              intro w5 hw5
              have kf0 := (hw5.cell (World.block_lt_of_cell? wr _ f0)).trans f0
              have kf1 := (hw5.cell (World.block_lt_of_cell? wr _ f1)).trans f1
              have kf2 := (hw5.cell (World.block_lt_of_cell? wr _ f2)).trans f2
              have ARz5 := aside (row_below ARz.out hw5)
              have AB5 := aside (below_tr AMg.out.bel hw5)
              have H63 : Aside (zs.length + 1 ≤ maxLen) := by show zs.length + 1 ≤ maxLen; unfold maxLen; have := AMg.out.per.length_eq; simp only [List.length_append] at this; have := AN.out; omega
              have hby : (zs.length + 1) * 48 ≤ 140737488355328 := by have := AMg.out.per.length_eq; simp only [List.length_append] at this; have := AN.out; omega
              clear hw5 E0 E1 E2 F0 F1 F2
              go_wp2_with (at_builtin; refine M.wpList_append_where _ rfl _ _ 22 rfl 51 (.agg #[.string ⟨#[]⟩, .int .i8 0, .slice none 0 0]) 3 48 Tryz.underlying22 infoI rfl (by decide) (.slice ao zs.length co) zs.length (ims zs) rfl (row_below ARz5.out (below_al _ _)) _ 1 _ (Im.cs y) rfl rfl (im_cells1 _ y) (im_one _) H63.out hby (by decide) ?_; intro v' w7 ho hg hwh; obtain ⟨a9, c9, rfl, -⟩ := own_slice ho; obtain ⟨m1, m2, m3⟩ := mg_app AB5.out ABz.out ho hg hwh; have A1 := aside m1; have A2 := aside m2; have A3 := aside m3; clear ho hg hwh m1 m2 m3)
              go_roundg (gk - 1)
              case measure => simp only [List.length_cons] at hgk; omega
              case rel =>
                have hpe : (zs ++ (y :: ys ++ (x :: xs))).Perm ms := (List.Perm.append_left zs (List.perm_append_comm)).trans AMg.out.per
                obtain ⟨q1, q2, q3⟩ := mg_push (xs := ys) (ys := x :: xs) hpe AMg.out.rz AMg.out.ry (fun z hz u hu => AMg.out.le z hz u (List.perm_append_comm.mem_iff.1 hu)) (fun z hz => by
                  rcases List.mem_cons.1 hz with rfl | hz
                  · exact hle.out
                  · exact List.le_trans hle.out ((List.pairwise_cons.1 AMg.out.rx).1 z hz))
                refine ⟨x :: xs, ys, zs ++ [y], ⟨AMg.out.ax, ⟨a', cb - 1, rfl, hcc, AInx.out⟩, ⟨a9, c9, by rw [List.length_append]; rfl, by simpa using A2.out, by simpa using A3.out⟩, A1.out, (List.Perm.append_left _ (List.perm_append_comm)).trans q1, q2, AMg.out.rx, (List.pairwise_cons.1 AMg.out.ry).2, fun z hz u hu => q3 z hz u (List.perm_append_comm.mem_iff.1 hu)⟩, by simp only [List.length_cons] at hgk ⊢; omega⟩
end Go.Proofs.YtbnaegoahdcejaaGreatDoor

namespace Go.Proofs.YtbnaegoahdcejaaGreatDoor
open Go.RowKit Go.ChangeMaps

theorem wrap_in (x : Int) (h1 : -9223372036854775808 ≤ x) (h2 : x ≤ 9223372036854775807) : IntKind.i64.wrap x = x := by
  simp [IntKind.wrap, IntKind.bits, IntKind.signed]
  omega
theorem ahd_pth {p : List B} (h : p ≠ []) : ahd p = pth p ++ [47] := by
  obtain ⟨q, n, rfl⟩ : ∃ q n, p = q ++ [n] := ⟨p.dropLast, p.getLast h, (List.dropLast_concat_getLast h).symm⟩
  rw [pth_snoc, ahd_snoc]
theorem spl_last (t : B) {u : B} (h : (47 : UInt8) ∉ u) : spl (t ++ 47 :: u) = spl t ++ [u] := by
  have h1 : t ++ 47 :: u = ahd (spl t) ++ u := by rw [ahd_pth (spl_ne t), pth_spl]; simp
  rw [h1, spl_ahd u (spl_nostroke t), spl_plain h]
/-- The path without its last name. -/
def par (s : B) : B := pth (spl s).dropLast
theorem par_cut {s : B} {i : Nat} (hi : s[i]? = some 47) (h : (47 : UInt8) ∉ s.drop (i + 1)) : par s = s.take i := by
  have hs : s = s.take i ++ 47 :: s.drop (i + 1) := by
    have hl := (List.getElem?_eq_some_iff.1 hi).1
    have := (List.take_append_drop i s).symm
    rw [List.drop_eq_getElem_cons hl] at this
    rw [List.getElem?_eq_getElem hl] at hi
    injection hi with hi
    rw [hi] at this
    exact this
  unfold par
  conv => lhs; rw [hs]
  rw [spl_last _ h, List.dropLast_concat, pth_spl]
theorem par_none {s : B} (h : (47 : UInt8) ∉ s) : par s = [] := by unfold par; rw [spl_plain h]; rfl
set_option maxRecDepth 20000 in
set_option maxHeartbeats 2000000 in
theorem parent_any (s : B) (w : World) (hs : s.length ≤ 1000000000) : Calls Tryz.prog 25 #[.string (ba s)] w fun e w' => e = .returned (.string (ba (par s))) ∧ w' = w := by
  obtain ⟨S, hS⟩ : ∃ S, S = ba s := ⟨_, rfl⟩
  have hsz : S.size = s.length := by rw [hS, ba_size]
  have AS := aside hS
  obtain ⟨n, hn⟩ : ∃ n, n = s.length := ⟨_, rfl⟩
  have AN := aside hn
  rw [← hn] at hsz
  rw [← hS]
  have hnl : n ≤ 1000000000 := by rw [hn]; exact hs
  have hsub : IntKind.i64.wrap ((n : Int) - 1) = (n : Int) - 1 := wrap_in _ (by omega) (by omega)
  clear hS hn
  go_enter Tryz.func25, Tryz.ntmps25
  go_wp2_with fail
  go_loopg [3] n (fun g s3 wx => wx = w ∧ s3 = .int .i64 ((g : Int) - 1) ∧ g ≤ n ∧ (47 : UInt8) ∉ s.drop g)
  case atStart => exact ⟨rfl, rfl, Nat.le_refl _, by rw [AN.out]; simp⟩
  case round =>
    obtain ⟨rfl, rfl, hg, hno⟩ := hrel
    have Ano := aside hno
    clear hno
    cases gk with
    | zero =>
      have h0 : ¬ (0 : Int) ≤ ((0 : Nat) : Int) - 1 := by omega
      go_wp2_with fail
      go_ret
      exact ⟨by rw [par_none (by simpa using Ano.out)]; rfl, rfl⟩
    | succ i =>
      have e1 : ((i + 1 : Nat) : Int) - 1 = (i : Int) := by omega
      rw [e1]
      have h0 : (0 : Int) ≤ (i : Int) := by omega
      have hi : i < S.size := by omega
      have hi2 : (i : Int) < (S.size : Int) := by omega
      have hil : i < s.length := by have := AN.out; omega
      have hSi : S[i]'hi = s[i]'hil := by
        have := AS.out
        subst this
        rfl
      have hwi : IntKind.i64.wrap ((i : Int) - 1) = (i : Int) - 1 := wrap_in _ (by omega) (by omega)
      by_cases hb : s[i]'hil = 47
      · have hc : (((S[i]'hi).toNat : Int) == 47) = true := by rw [hSi, hb]; rfl
        have hpar : par s = s.take i := par_cut (by rw [List.getElem?_eq_getElem hil, hb]) (by simpa using Ano.out)
        have hex : S.extract 0 i = ba (s.take i) := by
          rw [← ba_of (S.extract 0 i), Lib.extract_from_zero, AS.out, ba_list]
        have Apar := aside hpar
        have Aex := aside hex
        clear hb hSi hpar hex
        go_wp2_with fail
        go_ret
        exact ⟨by rw [Apar.out, ← Aex.out]; rfl, rfl⟩
      · have hc : (((S[i]'hi).toNat : Int) == 47) = false := by
          rw [hSi]
          refine beq_eq_false_iff_ne.2 fun e => hb ?_
          apply UInt8.toNat_inj.1
          have : (s[i]'hil).toNat = 47 := by omega
          rw [this]; rfl
        have Ahb := aside hb
        clear hb hSi
        go_wp2_with fail
        go_roundg i
        case measure => omega
        case rel =>
          refine ⟨rfl, by first | rfl | simp, by omega, fun hm => ?_⟩
          rw [List.drop_eq_getElem_cons hil] at hm
          rcases List.mem_cons.1 hm with e | hm
          · exact Ahb.out e.symm
          · exact Ano.out hm
end Go.Proofs.YtbnaegoahdcejaaGreatDoor

namespace Go.Proofs.YtbnaegoahdcejaaGreatDoor
open Go.RowKit Go.ChangeMaps

/-- The same entry, told from below q; and put below q. -/
def En.rel (q : List B) (e : En) : En := { e with p := e.p.drop q.length }
def En.ins (q : List B) (e : En) : En := { e with p := q ++ e.p }
def und (q : List B) (S : List En) : List En := S.filter fun e => q.isPrefixOf e.p
def out (q : List B) (S : List En) : List En := S.filter fun e => !(q.isPrefixOf e.p)
def sub (q : List B) (S : List En) : List En := (und q S).map (En.rel q)
theorem mem_und {q : List B} {S : List En} {e : En} : e ∈ und q S ↔ e ∈ S ∧ q <+: e.p := by simp [und]
theorem mem_out {q : List B} {S : List En} {e : En} : e ∈ out q S ↔ e ∈ S ∧ ¬ q <+: e.p := by
  simp only [out, List.mem_filter, Bool.not_eq_true', ← Bool.not_eq_true, List.isPrefixOf_iff_prefix]
theorem mem_sub {q : List B} {S : List En} {e : En} : e ∈ sub q S ↔ ∃ x ∈ S, q <+: x.p ∧ e = x.rel q := by
  unfold sub
  rw [List.mem_map]
  exact ⟨fun ⟨x, h1, h2⟩ => ⟨x, (mem_und.1 h1).1, (mem_und.1 h1).2, h2.symm⟩, fun ⟨x, h1, h2, h3⟩ => ⟨x, mem_und.2 ⟨h1, h2⟩, h3.symm⟩⟩
theorem rel_p {q : List B} {x : En} (h : q <+: x.p) : q ++ (x.rel q).p = x.p := by
  obtain ⟨t, ht⟩ := h
  show q ++ x.p.drop q.length = x.p
  rw [← ht, List.drop_left]
theorem ins_rel {q : List B} {x : En} (h : q <+: x.p) : (x.rel q).ins q = x := by
  have := rel_p h
  cases x
  simp only [En.ins, En.rel] at this ⊢
  rw [this]
theorem rel_ins (q : List B) (x : En) : (x.ins q).rel q = x := by
  cases x
  simp [En.ins, En.rel]
theorem sub_ins (q : List B) (S : List En) : (sub q S).map (En.ins q) = und q S := by
  unfold sub
  rw [List.map_map]
  refine (List.map_congr_left fun x hx => ?_).trans (List.map_id _)
  exact ins_rel (mem_und.1 hx).2
theorem out_und (q : List B) (S : List En) : (out q S ++ und q S).Perm S := by
  unfold out und
  refine List.perm_append_comm.trans ?_
  exact List.filter_append_perm _ S
theorem Tr.perm {lo : Nat} {w : World} {S S' : List En} (h : Tr lo w S) (hp : S.Perm S') : Tr lo w S' := by
  have hm : ∀ e, e ∈ S' ↔ e ∈ S := fun e => hp.symm.mem_iff
  refine ⟨(hp.map En.p).nodup_iff.1 h.one, ?_, ?_, fun e he => h.nam e ((hm e).1 he), fun e he => h.dep e ((hm e).1 he), hp.length_eq ▸ h.few, fun d hd c hc => h.nbs d ((hm d).1 hd) c ((hm c).1 hc), fun d hd c hc => h.dbs d ((hm d).1 hd) c ((hm c).1 hc), ?_, fun e he => h.lef e ((hm e).1 he)⟩
  · obtain ⟨r, h1, h2⟩ := h.root
    exact ⟨r, (hm r).2 h1, h2⟩
  · intro e he hn
    obtain ⟨d, h1, h2⟩ := h.par e ((hm e).1 he) hn
    exact ⟨d, (hm d).2 h1, h2⟩
  · intro d hd hk
    obtain ⟨h1, h2, h3, h4, up, L, h5, h6, h7⟩ := h.dir d ((hm d).1 hd) hk
    refine ⟨h1, h2, h3, h4, up, L, h5, ?_, fun n v => (h7 n v).trans ⟨fun ⟨c, k1, k2⟩ => ⟨c, (hm c).2 k1, k2⟩, fun ⟨c, k1, k2⟩ => ⟨c, (hm c).1 k1, k2⟩⟩⟩
    exact h6.imp id fun ⟨k0, c, k1, k2⟩ => ⟨k0, c, (hm c).2 k1, k2⟩
theorem lk_del {s : ByteArray} : ∀ {L : List KV} {s' : ByteArray}, (L.map (·.1)).Nodup → lk (del L s) s' = if s' = s then none else lk L s'
  | [], s', _ => by simp [del, lk]
  | x :: L, s', h => by
    simp only [List.map_cons, List.nodup_cons] at h
    unfold del
    by_cases hs : s = x.1
    · rw [if_pos hs]
      by_cases h' : s' = s
      · rw [if_pos h', h', hs]
        have : ∀ {L : List KV} {a : ByteArray}, a ∉ L.map (·.1) → lk L a = none := by
          intro L
          induction L with
          | nil => intro a _; rfl
          | cons y L ih =>
            intro a ha
            simp only [List.map_cons, List.mem_cons, not_or] at ha
            unfold lk
            rw [if_neg ha.1]
            exact ih ha.2
        exact this h.1
      · rw [if_neg h']
        conv => rhs; unfold lk
        rw [if_neg (by rw [← hs]; exact h')]
    · rw [if_neg hs]
      unfold lk
      by_cases h1 : s' = x.1
      · rw [if_pos h1, if_pos h1, if_neg (by rw [h1]; exact fun e => hs e.symm)]
      · rw [if_neg h1, if_neg h1]
        exact lk_del h.2
/-- A directory stays where a map that is not its own and a directory that it is not were changed. -/
theorem dr_keep {w w' : World} {nb db mb m b : Nat} {up : Value} {L : List KV} {es : Array MapEntry} {cl : Nat} {cs : Array Value} (h : Dr w nb db mb up L) (hm : w.heap[m]? = some (.map es cl)) (hb : w.heap[b]? = some (.cells cs 95 (0, 0))) (u : Upd (fun k => k = m ∨ k = b) w w') (h1 : mb ≠ m) (h2 : db ≠ b) : Dr w' nb db mb up L := by
  refine h.upd u ?_ ?_ ?_
  · rintro (e | e)
    · have := h.nod
      unfold Nd at this
      rw [e, hm] at this
      cases this
    · have := h.nod
      unfold Nd at this
      rw [e, hb] at this
      injection this with this
      injection this with _ this _
      exact absurd this (by decide)
  · rintro (e | e)
    · have := h.dir
      rw [e, hm] at this
      cases this
    · exact h2 e
  · rintro (e | e)
    · exact h1 e
    · obtain ⟨es3, cl3, m3, -⟩ := h.map
      rw [e, hb] at m3
      cases m3
theorem tob_upd {w w' : World} {m b : Nat} {es es' : Array MapEntry} {cl cl' : Nat} {cs cs' : Array Value} {f' : Nat × Nat} (hm : w.heap[m]? = some (.map es cl)) (hb : w.heap[b]? = some (.cells cs 95 (0, 0))) (hm' : w'.heap[m]? = some (.map es' cl')) (hb' : w'.heap[b]? = some (.cells cs' 95 f')) (u : Upd (fun k => k = m ∨ k = b) w w') : Ch 0 Tob w w' :=
  Ch.of_upd u (fun k _ _ e1 => by
    rcases e1 with rfl | rfl
    · exact ⟨_, _, hm, hm', .inl ⟨_, _, rfl⟩, .inl ⟨_, _, rfl⟩⟩
    · exact ⟨_, _, hb, hb', .inr ⟨_, _, _, by simp, rfl⟩, .inr ⟨_, _, _, by simp, rfl⟩⟩)
theorem pre_snoc {q x : List B} {n : B} (h : q <+: x ++ [n]) : q = x ++ [n] ∨ q <+: x := by
  rcases List.prefix_concat_iff.1 h with h | h
  · exact .inl h
  · exact .inr h
/-- The tree without what stands at c and below. -/
theorem Tr.cut {lo : Nat} {w w' : World} {S : List En} (h : Tr lo w S) {d c : En} {n : B} {up : Value} {L : List KV} {b : Nat} {cs cs' : Array Value} {f' : Nat × Nat} (hd : d ∈ S) (hk : d.k = 1) (hp : c.p = d.p ++ [n]) (hD : Dr w d.nb d.db d.mb up L) (hK : Kids S d.p L) (hU : UpOf S d up) (hD' : Dr w' d.nb d.db d.mb up (del L (ba n)))
    (hb : w.heap[b]? = some (.cells cs 95 (0, 0))) (hb' : w'.heap[b]? = some (.cells cs' 95 f')) (u : Upd (fun k => k = d.mb ∨ k = b) w w') (hbx : ∀ x ∈ S, x.k = 1 → x ≠ d → x ≠ c → x.db ≠ b) : Tr lo w' (out c.p S) := by
  have hcp : c.p ≠ [] := by rw [hp]; simp
  obtain ⟨es, cl, m1, hE⟩ := hD.map
  obtain ⟨es', cl', m2, -⟩ := hD'.map
  have ch := tob_upd m1 hb m2 hb' u
  have hpar : ∀ e ∈ S, ¬ c.p <+: e.p → ∀ x : En, x.p = e.p.dropLast → ¬ c.p <+: x.p := fun e _ hn x hx hc => hn (hc.trans (hx ▸ List.dropLast_prefix e.p))
  refine ⟨?_, ?_, ?_, fun e he => h.nam e (mem_out.1 he).1, fun e he => h.dep e (mem_out.1 he).1, Nat.le_trans (List.length_filter_le _ _) h.few, fun a ha b hb => h.nbs a (mem_out.1 ha).1 b (mem_out.1 hb).1, fun a ha b hb => h.dbs a (mem_out.1 ha).1 b (mem_out.1 hb).1, ?_, fun e he hk => (h.lef e (mem_out.1 he).1 hk).ch (ch.lo (Nat.zero_le _)) saf_tob⟩
  · exact h.one.sublist ((List.filter_sublist).map En.p)
  · obtain ⟨r, h1, h2, h3⟩ := h.root
    exact ⟨r, mem_out.2 ⟨h1, fun e => hcp (List.prefix_nil.1 (h2 ▸ e))⟩, h2, h3⟩
  · intro e he hn
    obtain ⟨h1, h2⟩ := mem_out.1 he
    obtain ⟨x, k1, k2, k3⟩ := h.par e h1 hn
    exact ⟨x, mem_out.2 ⟨k1, hpar e h1 h2 x k2⟩, k2, k3⟩
  · intro x hx xk
    obtain ⟨hx1, hx2⟩ := mem_out.1 hx
    obtain ⟨k1, k2, k3, k4, up', L', k5, k6, k7⟩ := h.dir x hx1 xk
    have hup : ∀ {v : Value}, UpOf S x v → UpOf (out c.p S) x v := fun hv => hv.imp id fun ⟨j0, y, j1, j2, j3, j4⟩ => ⟨j0, y, mem_out.2 ⟨j1, hpar x hx1 hx2 y j3⟩, j2, j3, j4⟩
    refine ⟨k1, k2, k3, k4, ?_⟩
    by_cases hxd : x = d
    · subst hxd
      refine ⟨up, _, hD', hup hU, fun m v => ?_⟩
      rw [lk_del hE.one]
      by_cases hmn : m = n
      · subst hmn
        rw [if_pos rfl]
        refine ⟨fun e => (by cases e), ?_⟩
        rintro ⟨y, hy, hyp, -⟩
        exact absurd (show c.p <+: y.p by rw [hyp, hp]; exact List.prefix_refl _) (mem_out.1 hy).2
      · rw [if_neg (fun e => hmn (ba_inj e)), hK m v]
        refine ⟨fun ⟨y, j1, j2, j3⟩ => ⟨y, mem_out.2 ⟨j1, fun hc2 => ?_⟩, j2, j3⟩, fun ⟨y, j1, j2⟩ => ⟨y, (mem_out.1 j1).1, j2⟩⟩
        rw [j2] at hc2
        rcases pre_snoc hc2 with e | e
        · rw [hp] at e; exact hmn (snoc_inj e).2.symm
        · exact hx2 e
    · have hxc : x ≠ c := fun e => hx2 (e ▸ List.prefix_refl _)
      refine ⟨up', L', dr_keep k5 m1 hb u (fun e => hxd (h.dbs x hx1 d hd xk hk (.inr e))) (hbx x hx1 xk hxd hxc), hup k6, fun m v => (k7 m v).trans ⟨fun ⟨y, j1, j2, j3⟩ => ⟨y, mem_out.2 ⟨j1, fun hc2 => ?_⟩, j2, j3⟩, fun ⟨y, j1, j2⟩ => ⟨y, (mem_out.1 j1).1, j2⟩⟩⟩
      rw [j2] at hc2
      rcases pre_snoc hc2 with e | e
      · rw [hp] at e
        exact hxd (one_p h.one hx1 hd (snoc_inj e).1.symm)
      · exact hx2 e
theorem drop_snoc {q x : List B} {n : B} (h : q <+: x) : (x ++ [n]).drop q.length = x.drop q.length ++ [n] := List.drop_append_of_le_length h.length_le
/-- What stands at c and below, as a tree of its own. -/
theorem Tr.part {lo : Nat} {w w' : World} {S : List En} (h : Tr lo w S) {d c : En} {n : B} {XL : List KV} {m : Nat} {es es' : Array MapEntry} {cl cl' : Nat} (hd : d ∈ S) (hk : d.k = 1) (hc : c ∈ S) (hck : c.k = 1) (hp : c.p = d.p ++ [n]) {xup : Value} (hX : Dr w c.nb c.db c.mb xup XL) (hKX : Kids S c.p XL) (hX' : Dr w' c.nb c.db c.mb (.pointer none) XL)
    (hm : w.heap[m]? = some (.map es cl)) (hm' : w'.heap[m]? = some (.map es' cl')) (hmd : m = d.mb) (u : Upd (fun k => k = m ∨ k = c.db) w w') : Tr lo w' (sub c.p S) := by
  have ch := tob_upd hm hX.dir hm' hX'.dir u
  have hcd : ¬ c.p <+: d.p := fun e => by
    have := e.length_le
    rw [hp, List.length_append, List.length_singleton] at this
    omega
  have hpar : ∀ e ∈ S, c.p <+: e.p → (e.rel c.p).p ≠ [] → c.p <+: e.p.dropLast ∧ (e.rel c.p).p.dropLast = e.p.dropLast.drop c.p.length := fun e _ he hn => by
    have h1 := rel_p he
    have h2 : e.p.dropLast = c.p ++ (e.rel c.p).p.dropLast := by rw [← h1, List.dropLast_append_of_ne_nil hn]
    exact ⟨h2 ▸ List.prefix_append _ _, by rw [h2, List.drop_left]⟩
  refine ⟨?_, ⟨c.rel c.p, mem_sub.2 ⟨c, hc, List.prefix_refl _, rfl⟩, by simp [En.rel], hck⟩, ?_, ?_, ?_, ?_, ?_, ?_, ?_, ?_⟩
  · unfold sub
    rw [List.map_map]
    have h1 : ((und c.p S).map En.p).Nodup := h.one.sublist ((List.filter_sublist).map En.p)
    rw [List.Nodup, List.pairwise_map] at h1 ⊢
    refine h1.imp_of_mem fun {a b} ha hb hab e => hab ?_
    have e2 : (a.rel c.p).p = (b.rel c.p).p := e
    rw [← rel_p (mem_und.1 ha).2, ← rel_p (mem_und.1 hb).2, e2]
  · intro e he hn
    obtain ⟨x, hx, hpx, rfl⟩ := mem_sub.1 he
    have hn2 : x.p ≠ [] := fun e0 => hn (by simp [En.rel, e0])
    obtain ⟨y, h1, h2, h3⟩ := h.par x hx hn2
    obtain ⟨k1, k2⟩ := hpar x hx hpx hn
    exact ⟨y.rel c.p, mem_sub.2 ⟨y, h1, h2 ▸ k1, rfl⟩, by rw [k2, ← h2]; rfl, h3⟩
  · intro e he m hm
    obtain ⟨x, hx, hpx, rfl⟩ := mem_sub.1 he
    exact h.nam x hx m (List.mem_of_mem_drop hm)
  · intro e he
    obtain ⟨x, hx, hpx, rfl⟩ := mem_sub.1 he
    have := h.dep x hx
    show (x.p.drop c.p.length).length ≤ 64
    rw [List.length_drop]
    omega
  · show (List.map _ _).length ≤ _
    rw [List.length_map]
    exact Nat.le_trans (List.length_filter_le _ _) h.few
  · intro a ha b hb hab
    obtain ⟨x, hx, hpx, rfl⟩ := mem_sub.1 ha
    obtain ⟨y, hy, hpy, rfl⟩ := mem_sub.1 hb
    rw [h.nbs x hx y hy hab]
  · intro a ha b hb ka kb hab
    obtain ⟨x, hx, hpx, rfl⟩ := mem_sub.1 ha
    obtain ⟨y, hy, hpy, rfl⟩ := mem_sub.1 hb
    rw [h.dbs x hx y hy ka kb hab]
  · intro a ha ka
    obtain ⟨x, hx, hpx, rfl⟩ := mem_sub.1 ha
    obtain ⟨k1, k2, k3, k4, up', L', k5, k6, k7⟩ := h.dir x hx ka
    have hkid : ∀ {L : List KV}, Kids S x.p L → Kids (sub c.p S) (x.rel c.p).p L := fun {L} hL i v => (hL i v).trans
      ⟨fun ⟨y, j1, j2, j3⟩ => ⟨y.rel c.p, mem_sub.2 ⟨y, j1, by rw [j2]; exact hpx.trans (List.prefix_append _ _), rfl⟩, by show y.p.drop _ = _; rw [j2, drop_snoc hpx]; rfl, j3⟩,
       fun ⟨z, j1, j2, j3⟩ => by
        obtain ⟨y, hy, hpy, rfl⟩ := mem_sub.1 j1
        refine ⟨y, hy, ?_, j3⟩
        rw [← rel_p hpy, j2, ← List.append_assoc, rel_p hpx]⟩
    refine ⟨k1, k2, k3, k4, ?_⟩
    by_cases hxc : x = c
    · subst hxc
      exact ⟨_, XL, hX', .inl ⟨by simp [En.rel], rfl⟩, hkid hKX⟩
    · have hxd : x ≠ d := fun e => hcd (e ▸ hpx)
      have hxn : (x.rel c.p).p ≠ [] := fun e => hxc (one_p h.one hx hc (by have := rel_p hpx; rw [e, List.append_nil] at this; exact this.symm))
      refine ⟨up', L', dr_keep k5 hm hX.dir u (fun e => hxd (h.dbs x hx d hd ka hk (.inr (e.trans hmd)))) (fun e => hxc (h.dbs x hx c hc ka hck (.inl e))), .inr ⟨hxn, ?_⟩, hkid k7⟩
      rcases k6 with ⟨j1, -⟩ | ⟨-, y, j1, j2, j3, j4⟩
      · exact absurd (List.prefix_nil.1 (j1 ▸ hpx)) (by rw [hp]; simp)
      · obtain ⟨i1, i2⟩ := hpar x hx hpx hxn
        exact ⟨y.rel c.p, mem_sub.2 ⟨y, j1, j3 ▸ i1, rfl⟩, j2, by rw [i2, ← j3]; rfl, j4⟩
  · intro a ha ka
    obtain ⟨x, hx, hpx, rfl⟩ := mem_sub.1 ha
    have := (h.lef x hx ka).ch (ch.lo (Nat.zero_le _)) saf_tob
    exact this
/-- A tree is put below a directory of another. -/
theorem Tr.graft {lo : Nat} {w w' : World} {R C : List En} (h : Tr lo w R) (g : Tr lo w C) {t c : En} {a : B} {up : Value} {L XL : List KV} (ht : t ∈ R) (hk : t.k = 1) (hc : c ∈ C) (hcp : c.p = []) (hn : nameOk (ba a) = true) (hnew : ∀ x ∈ R, x.p ≠ t.p ++ [a])
    (hdep : ∀ x ∈ C, t.p.length + 1 + x.p.length ≤ 64) (hfew : R.length + C.length ≤ 100000) (hnb : ∀ x ∈ R, ∀ y ∈ C, x.nb ≠ y.nb) (hdb : ∀ x ∈ R, ∀ y ∈ C, x.k = 1 → y.k = 1 → x.db ≠ y.db ∧ x.mb ≠ y.mb)
    (hD : Dr w t.nb t.db t.mb up L) (hK : Kids R t.p L) (hU : UpOf R t up) (hX : Dr w c.nb c.db c.mb (.pointer none) XL) (hKX : Kids C [] XL) (hD' : Dr w' t.nb t.db t.mb up (L ++ [(ba a, Pt c.nb)])) (hX' : Dr w' c.nb c.db c.mb (Pt t.db) XL) (u : Upd (fun k => k = t.mb ∨ k = c.db) w w') : Tr lo w' (R ++ C.map (En.ins (t.p ++ [a]))) := by
  obtain ⟨es, cl, m1, hE⟩ := hD.map
  obtain ⟨es', cl', m2, -⟩ := hD'.map
  have ch := tob_upd m1 hX.dir m2 hX'.dir u
  have hck : c.k = 1 := by
    obtain ⟨r, r1, r2, r3⟩ := g.root
    rw [one_p g.one hc r1 (hcp.trans r2.symm)]; exact r3
  have hq : ∀ x ∈ R, ¬ (t.p ++ [a]) <+: x.p := fun x hx e => by
    obtain ⟨y, h1, h2, -⟩ := h.anc (x.p.length - (t.p ++ [a]).length) x hx (by have := e.length_le; omega) e
    exact hnew y h1 h2
  have hmem : ∀ {x : En}, x ∈ R ++ C.map (En.ins (t.p ++ [a])) ↔ x ∈ R ∨ ∃ y ∈ C, x = y.ins (t.p ++ [a]) := fun {x} => by
    rw [List.mem_append, List.mem_map]
    exact or_congr Iff.rfl ⟨fun ⟨y, h1, h2⟩ => ⟨y, h1, h2.symm⟩, fun ⟨y, h1, h2⟩ => ⟨y, h1, h2.symm⟩⟩
  have hup : ∀ {x : En} {v : Value}, UpOf R x v → UpOf (R ++ C.map (En.ins (t.p ++ [a]))) x v := fun hv => hv.imp id fun ⟨j0, y, j1, j2⟩ => ⟨j0, y, hmem.2 (.inl j1), j2⟩
  refine ⟨?_, ?_, ?_, ?_, ?_, by simpa using hfew, ?_, ?_, ?_, ?_⟩
  · rw [List.map_append, List.map_map]
    refine List.nodup_append.2 ⟨h.one, ?_, fun x hx y hy e => ?_⟩
    · have h1 := g.one
      rw [List.Nodup, List.pairwise_map] at h1 ⊢
      exact h1.imp fun {a b} hab e => hab (List.append_cancel_left e)
    · obtain ⟨z, hz, rfl⟩ := List.mem_map.1 hx
      obtain ⟨v, hv, rfl⟩ := List.mem_map.1 hy
      exact hq z hz (e ▸ List.prefix_append _ _)
  · obtain ⟨r, h1, h2⟩ := h.root
    exact ⟨r, hmem.2 (.inl h1), h2⟩
  · intro x hx hp
    replace hx := hmem.1 hx
    rcases hx with hx | ⟨y, hy, rfl⟩
    · obtain ⟨z, h1, h2⟩ := h.par x hx hp
      exact ⟨z, hmem.2 (.inl h1), h2⟩
    · by_cases hy0 : y.p = []
      · exact ⟨t, hmem.2 (.inl ht), by show t.p = ((t.p ++ [a]) ++ y.p).dropLast; rw [hy0]; simp, hk⟩
      · obtain ⟨z, h1, h2, h3⟩ := g.par y hy hy0
        exact ⟨z.ins _, hmem.2 (.inr ⟨z, h1, rfl⟩), by show (t.p ++ [a]) ++ z.p = ((t.p ++ [a]) ++ y.p).dropLast; rw [List.dropLast_append_of_ne_nil hy0, h2], h3⟩
  · intro x hx m hm
    replace hx := hmem.1 hx
    rcases hx with hx | ⟨y, hy, rfl⟩
    · exact h.nam x hx m hm
    · rcases List.mem_append.1 (show m ∈ (t.p ++ [a]) ++ y.p from hm) with hm | hm
      · rcases List.mem_append.1 hm with hm | hm
        · exact h.nam t ht m hm
        · rw [List.mem_singleton.1 hm]; exact hn
      · exact g.nam y hy m hm
  · intro x hx
    replace hx := hmem.1 hx
    rcases hx with hx | ⟨y, hy, rfl⟩
    · exact h.dep x hx
    · show ((t.p ++ [a]) ++ y.p).length ≤ 64
      have := hdep y hy
      simp only [List.length_append, List.length_singleton]
      omega
  · intro x hx y hy e
    replace hx := hmem.1 hx
    replace hy := hmem.1 hy
    rcases hx with hx | ⟨x, hx, rfl⟩ <;> rcases hy with hy | ⟨y, hy, rfl⟩
    · exact h.nbs x hx y hy e
    · exact absurd e (hnb x hx y hy)
    · exact absurd e.symm (hnb y hy x hx)
    · rw [g.nbs x hx y hy e]
  · intro x hx y hy kx ky e
    replace hx := hmem.1 hx
    replace hy := hmem.1 hy
    rcases hx with hx | ⟨x, hx, rfl⟩ <;> rcases hy with hy | ⟨y, hy, rfl⟩
    · exact h.dbs x hx y hy kx ky e
    · exact absurd e (by rintro (e | e); exact (hdb x hx y hy kx ky).1 e; exact (hdb x hx y hy kx ky).2 e)
    · exact absurd e (by rintro (e | e); exact (hdb y hy x hx ky kx).1 e.symm; exact (hdb y hy x hx ky kx).2 e.symm)
    · rw [g.dbs x hx y hy kx ky e]
  · intro x hx kx
    replace hx := hmem.1 hx
    rcases hx with hx | ⟨x, hx, rfl⟩
    · obtain ⟨k1, k2, k3, k4, up', L', k5, k6, k7⟩ := h.dir x hx kx
      refine ⟨k1, k2, k3, k4, ?_⟩
      by_cases hxt : x = t
      · subst hxt
        refine ⟨up, _, hD', hup hU, fun m v => ?_⟩
        rw [lk_app]
        constructor
        · intro e
          cases hl : lk L (ba m) with
          | some v' =>
            rw [hl] at e
            obtain ⟨y, j1, j2⟩ := (hK m v').1 hl
            injection e with e
            exact ⟨y, hmem.2 (.inl j1), e ▸ j2⟩
          | none =>
            rw [hl] at e
            simp only at e
            split at e
            · next h1 =>
              injection e with e
              exact ⟨c.ins _, hmem.2 (.inr ⟨c, hc, rfl⟩), by show (x.p ++ [a]) ++ c.p = _; rw [hcp, ba_inj h1]; simp, e.symm⟩
            · cases e
        · rintro ⟨y, hy, j2, j3⟩
          replace hy := hmem.1 hy
          rcases hy with hy | ⟨y, hy, rfl⟩
          · rw [(hK m v).2 ⟨y, hy, j2, j3⟩]
          · have j4 : (x.p ++ [a]) ++ y.p = x.p ++ [m] := j2
            have hy0 : y.p = [] := by
              have := congrArg List.length j4
              simp only [List.length_append, List.length_singleton] at this
              exact List.eq_nil_of_length_eq_zero (by omega)
            rw [hy0, List.append_nil] at j4
            have ham := (snoc_inj j4).2
            subst ham
            have hyc : y = c := one_p g.one hy hc (hy0.trans hcp.symm)
            have hl : lk L (ba a) = none := by
              cases hl : lk L (ba a) with
              | none => rfl
              | some v' =>
                obtain ⟨z, i1, i2, -⟩ := (hK a v').1 hl
                exact absurd i2 (hnew z i1)
            rw [hl]
            simp only [↓reduceIte]
            rw [j3, hyc]
            rfl
      · refine ⟨up', L', dr_keep k5 m1 hX.dir u (fun e => hxt (h.dbs x hx t ht kx hk (.inr e))) (hdb x hx c hc kx hck).1, hup k6, fun m v => (k7 m v).trans ⟨fun ⟨y, j1, j2⟩ => ⟨y, hmem.2 (.inl j1), j2⟩, ?_⟩⟩
        rintro ⟨y, hy, j2, j3⟩
        replace hy := hmem.1 hy
        rcases hy with hy | ⟨y, hy, rfl⟩
        · exact ⟨y, hy, j2, j3⟩
        · have j4 : (t.p ++ [a]) <+: x.p ++ [m] := by rw [← j2]; exact List.prefix_append _ _
          rcases pre_snoc j4 with e | e
          · exact absurd (one_p h.one hx ht (snoc_inj e).1.symm) hxt
          · exact absurd e (hq x hx)
    · obtain ⟨k1, k2, k3, k4, up', L', k5, k6, k7⟩ := g.dir x hx kx
      refine ⟨k1, k2, k3, k4, ?_⟩
      have hkid : ∀ {L : List KV}, Kids C x.p L → Kids (R ++ C.map (En.ins (t.p ++ [a]))) (x.ins (t.p ++ [a])).p L := fun {L} hL i v => (hL i v).trans
        ⟨fun ⟨y, j1, j2, j3⟩ => ⟨y.ins _, hmem.2 (.inr ⟨y, j1, rfl⟩), by show (t.p ++ [a]) ++ y.p = ((t.p ++ [a]) ++ x.p) ++ [i]; rw [j2, List.append_assoc (t.p ++ [a])], j3⟩,
         fun ⟨z, j1, j2, j3⟩ => by
          have j4 : z.p = ((t.p ++ [a]) ++ x.p) ++ [i] := j2
          rcases hmem.1 j1 with hz | ⟨y, hy, rfl⟩
          · exact absurd (show (t.p ++ [a]) <+: z.p by rw [j4, List.append_assoc]; exact List.prefix_append _ _) (hq z hz)
          · refine ⟨y, hy, ?_, j3⟩
            have j5 : (t.p ++ [a]) ++ y.p = (t.p ++ [a]) ++ (x.p ++ [i]) := by rw [← List.append_assoc (t.p ++ [a])]; exact j4
            exact List.append_cancel_left j5⟩
      by_cases hxc : x = c
      · subst hxc
        refine ⟨_, XL, hX', .inr ⟨by show (t.p ++ [a]) ++ x.p ≠ []; simp, t, hmem.2 (.inl ht), hk, by show t.p = ((t.p ++ [a]) ++ x.p).dropLast; rw [hcp]; simp, rfl⟩, hkid (by rw [hcp]; exact hKX)⟩
      · have hx0 : x.p ≠ [] := fun e => hxc (one_p g.one hx hc (e.trans hcp.symm))
        refine ⟨up', L', dr_keep k5 m1 hX.dir u (fun e => (hdb t ht x hx hk kx).2 e.symm) (fun e => hxc (g.dbs x hx c hc kx hck (.inl e))), .inr ⟨by show (t.p ++ [a]) ++ x.p ≠ []; simp, ?_⟩, hkid k7⟩
        rcases k6 with ⟨j1, -⟩ | ⟨-, y, j1, j2, j3, j4⟩
        · exact absurd j1 hx0
        · exact ⟨y.ins _, hmem.2 (.inr ⟨y, j1, rfl⟩), j2, by show (t.p ++ [a]) ++ y.p = ((t.p ++ [a]) ++ x.p).dropLast; rw [List.dropLast_append_of_ne_nil hx0, j3], j4⟩
  · intro x hx kx
    replace hx := hmem.1 hx
    rcases hx with hx | ⟨x, hx, rfl⟩
    · exact (h.lef x hx kx).ch (ch.lo (Nat.zero_le _)) saf_tob
    · exact (g.lef x hx kx).ch (ch.lo (Nat.zero_le _)) saf_tob
end Go.Proofs.YtbnaegoahdcejaaGreatDoor

namespace Go.Proofs.YtbnaegoahdcejaaGreatDoor
open Go.RowKit Go.ChangeMaps

abbrev NP : Obj → Prop := fun _ => False
theorem vis_NP : Vis NP := ⟨fun _ _ _ _ h => h, fun _ _ h => h, fun _ _ h => h, fun _ _ h => h, fun _ _ h => h, fun _ _ h => h⟩
/-- The variable that holds the node asked for; none of the first k is it. -/
structure Wv (lo : Nat) (S D : List En) (t : En) (w0 : World) (cb : Nat) (k : Nat) (W : World) : Prop where
  tr : Tr lo W S
  bel : Below w0.heap.size w0 W
  cel : W.heap[cb]? = some (.cells #[Pt t.nb] 26 (0, 0))
  not : ∀ j, j < k → D[j]? ≠ some t
set_option maxRecDepth 20000 in
set_option maxHeartbeats 1000000 in
theorem within1_any {lo : Nat} {S D : List En} {t : En} {w0 : World} {cb : Nat} (ht : t ∈ S) (hDS : ∀ x ∈ D, x ∈ S) (s : ByteArray) (k : Nat) (x : En) (W : World) (hx : D[k]? = some x) (hI : Wv lo S D t w0 cb k W) :
    Calls Tryz.prog 90 #[.string s, Pt x.nb, Pt cb] W fun e W' => ∃ c : Int, e = .returned (.int .i64 c) ∧ Ch 0 NP W W' ∧ ((c = 0 ∧ Wv lo S D t w0 cb (k + 1) W') ∨ (c ≠ 0 ∧ (c = 200 ∧ Below w0.heap.size w0 W' ∧ t ∈ D))) := by
  obtain ⟨t1, k1, hn1⟩ := hI.tr.nd ht
  obtain ⟨t2, k2, hn2⟩ := hI.tr.nd (hDS x (List.mem_of_getElem? hx))
  have heq := eq_node hn2 hn1
  have hc : W.cell? ⟨cb, 0, none⟩ = some (Pt t.nb) := by rw [cell_of_row W cb 0 _ _ _ hI.cel]; rfl
  have AI := aside hI
  have AX := aside hx
  have hxt : x.nb = t.nb ↔ x = t := ⟨fun e => hI.tr.nbs x (hDS x (List.mem_of_getElem? hx)) t ht e, fun e => by rw [e]⟩
  have AXT := aside hxt
  obtain ⟨a, ha⟩ : ∃ a, a = x.nb := ⟨_, rfl⟩
  obtain ⟨b, hb⟩ : ∃ b, b = t.nb := ⟨_, rfl⟩
  have Aa := aside ha
  have Ab := aside hb
  rw [← ha, ← hb] at heq
  rw [← ha]
  rw [← hb] at hc
  clear hI hx hxt hn1 hn2 ha hb
  by_cases hab : a = b
  · subst hab
    rw [decide_eq_true rfl] at heq
    go_enter Tryz.func90, Tryz.ntmps90
    go_wp2_with fail
    first | go_ret | go_ret2
    have : x = t := AXT.out.1 (by rw [← Aa.out, ← Ab.out])
    exact ⟨200, rfl, Ch.refl _ _ _, .inr ⟨by decide, rfl, AI.out.bel, List.mem_of_getElem? (this ▸ AX.out)⟩⟩
  · rw [decide_eq_false hab] at heq
    go_enter Tryz.func90, Tryz.ntmps90
    go_wp2_with fail
    first | go_ret | go_ret2
    refine ⟨0, rfl, Ch.refl _ _ _, .inl ⟨rfl, AI.out.tr, AI.out.bel, AI.out.cel, fun j hj e => ?_⟩⟩
    by_cases hjk : j = k
    · rw [hjk, AX.out] at e
      injection e with e
      exact hab (by rw [Aa.out, Ab.out, e])
    · exact AI.out.not j (by omega) e
theorem Tr.notdir {lo : Nat} {w : World} {S : List En} (h : Tr lo w S) {t c : En} (ht : t ∈ S) (hc : c ∈ S) (hk : c.k ≠ 1) (hne : t ≠ c) : ¬ c.p <+: t.p := fun hp => by
  obtain ⟨y, h1, h2, h3⟩ := h.anc (t.p.length - c.p.length) t ht (by have := hp.length_le; omega) hp
  have hyc : y = c := one_p h.one h1 hc h2
  refine hk (hyc ▸ h3 fun e => hne ?_)
  exact one_p h.one ht hc (hp.eq_of_length (by have := hp.length_le; omega)).symm
set_option maxRecDepth 20000 in
set_option maxHeartbeats 1000000 in
theorem twithin_any {lo : Nat} {S : List En} {w : World} (h : Tr lo w S) {t c : En} (ht : t ∈ S) (hc : c ∈ S) : Calls Tryz.prog 58 #[Pt t.nb, Pt c.nb] w fun e w' => e = .returned (.bool (decide (c.p <+: t.p))) ∧ Below w.heap.size w w' := by
  obtain ⟨w1, hw1⟩ : ∃ w1, w1 = w.alloc (.cells #[Pt t.nb] 26) := ⟨_, rfl⟩
  have hB : Below w.heap.size w w1 := by rw [hw1]; exact below_al w _
  have hcel : w1.heap[w.heap.size]? = some (.cells #[Pt t.nb] 26 (0, 0)) := by rw [hw1]; exact heap_alloc_new w _
  have h1 := h.below hB
  obtain ⟨t1, k1, hn1⟩ := h1.nd ht
  obtain ⟨t2, k2, hn2⟩ := h1.nd hc
  have heq := eq_node hn1 hn2
  have hc1 : w1.cell? ⟨w.heap.size, 0, none⟩ = some (Pt t.nb) := by rw [cell_of_row w1 _ 0 _ _ _ hcel]; rfl
  have hnb : t.nb = c.nb ↔ t = c := ⟨fun e => h.nbs t ht c hc e, fun e => by rw [e]⟩
  have AK : Aside (t ≠ c → Calls Tryz.prog 51 #[Pt c.nb, visF 90 #[Pt w.heap.size]] w1 fun e W' => ∃ r : Int, e = .returned (.int .i64 r) ∧ (r = 200 ↔ c.p <+: t.p) ∧ Below w.heap.size w W') := by
    intro hne
    by_cases hk : c.k = 1
    · have hDS : ∀ x ∈ dsc S 65 c.p, x ∈ S := fun x hx => (dsc_mem hx).1
      have hV : Visit lo S (dsc S 65 c.p) c.p.length NP 90 #[Pt w.heap.size] (fun k W => Wv lo S (dsc S 65 c.p) t w w.heap.size k W) (fun _ r W => r = 200 ∧ Below w.heap.size w W ∧ t ∈ dsc S 65 c.p) :=
        ⟨vis_NP, fun args w => by rfl, fun k W W' g b => ⟨g.tr.below b, below_tr g.bel b, (b.block _ (Array.getElem?_eq_some_iff.1 g.cel).1).trans g.cel, g.not⟩, fun k W g => g.tr, fun k x W hx hI => within1_any ht hDS _ k x W hx hI⟩
      refine (through_any c hc hk hV w1 ⟨h1, hB, hcel, fun j hj => by omega⟩).mono ?_
      rintro e w2 ⟨r, rfl, -, ⟨rfl, hI⟩ | ⟨hr, k, rfl, hb, hm⟩⟩
      · refine ⟨0, rfl, ⟨fun e => absurd e (by decide), fun hp => ?_⟩, hI.bel⟩
        obtain ⟨r, hr⟩ := hp
        have hr0 : r ≠ [] := fun e => hne (one_p h.one ht hc (by rw [← hr, e, List.append_nil]))
        have hm := mem_dsc h.closed r (f := 65) hr0 (by have := h.dep t ht; rw [← hr, List.length_append] at this; omega) hr.symm ht
        obtain ⟨j, hj⟩ := List.getElem?_of_mem hm
        exact absurd hj (hI.not j (List.getElem?_eq_some_iff.1 hj).1)
      · obtain ⟨-, r, -, -, he⟩ := dsc_mem hm
        exact ⟨200, rfl, ⟨fun _ => ⟨r, he.symm⟩, fun _ => rfl⟩, hb⟩
    · obtain ⟨tt, kk, hnd, htt⟩ := (h1.lef c hc hk).nd
      refine (through_err (nod_other hnd htt) 90 #[Pt w.heap.size]).mono ?_
      rintro e w2 ⟨rfl, hb⟩
      exact ⟨193, rfl, ⟨fun e => absurd e (by decide), fun hp => absurd hp (h.notdir ht hc hk hne)⟩, below_tr hB hb⟩
  have ABn := aside hB
  have Anb := aside hnb
  obtain ⟨a, ha⟩ : ∃ a, a = t.nb := ⟨_, rfl⟩
  obtain ⟨b, hb⟩ : ∃ b, b = c.nb := ⟨_, rfl⟩
  rw [← ha, ← hb] at heq Anb
  rw [← ha] at hc1 hw1
  rw [← hb] at AK
  rw [← ha, ← hb]
  have AT := aside h
  clear h h1 hB hcel hn1 hn2 hnb ha hb
  rw [hw1] at heq hc1
  by_cases hab : a = b
  · subst hab
    have Atc := aside (Anb.out.1 rfl)
    clear Anb AK
    rw [decide_eq_true rfl] at heq
    go_enter Tryz.func58, Tryz.ntmps58
    go_wp2_with fail
    first | go_ret | go_ret2
    rw [← hw1]
    exact ⟨by rw [Atc.out, decide_eq_true (List.prefix_refl _)]; rfl, ABn.out⟩
  · rw [decide_eq_false hab] at heq
    have AK2 := aside (AK.out (fun e => hab (Anb.out.2 e)))
    clear AK
    go_enter Tryz.func58, Tryz.ntmps58
    go_wp2_with fail
    rw [← hw1]
    refine AK2.out.mono ?_
    rintro e w2 ⟨r, rfl, hr, hb2⟩
    by_cases hp : c.p <+: t.p
    · obtain rfl := hr.2 hp
      go_wp2_with fail
      first | go_ret | go_ret2
      exact ⟨by rw [decide_eq_true hp]; rfl, hb2⟩
    · have hr2 : (r == 200) = false := beq_eq_false_iff_ne.2 (fun e => hp (hr.1 e))
      go_wp2_with fail
      first | go_ret | go_ret2
      exact ⟨by rw [decide_eq_false hp]; rfl, hb2⟩
end Go.Proofs.YtbnaegoahdcejaaGreatDoor

namespace Go.Proofs.YtbnaegoahdcejaaGreatDoor
open Go.RowKit Go.ChangeMaps

/-- The blocks of a tree's directories. -/
def blk (S : List En) (k : Nat) : Prop := ∃ e ∈ S, e.k = 1 ∧ (k = e.db ∨ k = e.mb)
/-- What stands nowhere: a node c and all below it, paths told from it. -/
structure Free (lo : Nat) (w : World) (C : List En) (c : En) : Prop where
  mem : c ∈ C
  top : c.p = []
  dir : c.k = 1 → Tr lo w C
  lef : c.k ≠ 1 → C = [c] ∧ Lf lo w c
theorem Free.below {lo : Nat} {w w' : World} {C : List En} {c : En} (h : Free lo w C c) (b : Below w.heap.size w w') : Free lo w' C c :=
  ⟨h.mem, h.top, fun k => (h.dir k).below b, fun k => ⟨(h.lef k).1, (h.lef k).2.ch (P := fun _ => False) (Ch.of_below b) (fun _ _ _ _ h => h)⟩⟩
theorem und_leaf {lo : Nat} {w : World} {S : List En} (h : Tr lo w S) {c : En} (hc : c ∈ S) (hk : c.k ≠ 1) : und c.p S = [c] := by
  have h1 : ((und c.p S).map En.p).Nodup := h.one.sublist ((List.filter_sublist).map En.p)
  have h2 : ∀ x ∈ und c.p S, x = c := fun x hx => by
    obtain ⟨hx1, hx2⟩ := mem_und.1 hx
    by_cases e : x = c
    · exact e
    · exact absurd hx2 (h.notdir hx1 hc hk e)
  have h3 : c ∈ und c.p S := mem_und.2 ⟨hc, List.prefix_refl _⟩
  cases hu : und c.p S with
  | nil => rw [hu] at h3; simp at h3
  | cons a l =>
    rw [hu] at h1 h2
    have ha := h2 a (by simp)
    cases l with
    | nil => rw [ha]
    | cons b l =>
      have hb := h2 b (by simp)
      rw [ha, hb] at h1
      simp at h1
theorem blk_dir {S : List En} {e : En} (he : e ∈ S) (hk : e.k = 1) : blk S e.db ∧ blk S e.mb := ⟨⟨e, he, hk, .inl rfl⟩, ⟨e, he, hk, .inr rfl⟩⟩
theorem tr_take {lo : Nat} {w : World} {S : List En} (h : Tr lo w S) {d c : En} {n : B} (hd : d ∈ S) (hk : d.k = 1) (hc : c ∈ S) (hp : c.p = d.p ++ [n]) :
    Calls Tryz.prog 59 #[Pt d.nb, .string (ba n)] w fun e w' => e = .returned (.tuple #[Pt c.nb, .int .i64 0]) ∧ Tr lo w' (out c.p S) ∧ Free lo w' (sub c.p S) (c.rel c.p) ∧ Upd (blk S) w w' := by
  obtain ⟨h1, h2, h3, h4, up, L, h5, h6, h7⟩ := h.dir d hd hk
  have hl := (h7 n (Pt c.nb)).2 ⟨c, hc, hp, rfl⟩
  have hcd : c ≠ d := fun e => by
    have := congrArg List.length (e ▸ hp)
    simp at this
  have hmem : c.rel c.p ∈ sub c.p S := mem_sub.2 ⟨c, hc, List.prefix_refl _, rfl⟩
  by_cases hck : c.k = 1
  · obtain ⟨k1, k2, k3, k4, xup, XL, k5, k6, k7⟩ := h.dir c hc hck
    have hne : ∀ {x y : Nat}, (c.db = d.db ∨ c.mb = d.mb) → False := fun e => hcd (h.dbs c hc d hd hck hk e)
    refine (take_dir d.nb d.db d.mb up L (ba n) c.nb c.db c.mb xup XL w h5 hl k5 (fun e => hcd (h.dbs c hc d hd hck hk (.inr e))) (fun e => hcd (h.dbs c hc d hd hck hk (.inl e)))).mono ?_
    rintro e w' ⟨rfl, hD', hX', u⟩
    obtain ⟨es, cl, m1, -⟩ := h5.map
    obtain ⟨es', cl', m2, -⟩ := hD'.map
    refine ⟨rfl, h.cut hd hk hp h5 h7 h6 hD' k5.dir hX'.dir u (fun x hx xk _ hxc e => hxc (h.dbs x hx c hc xk hck (.inl e))), ⟨hmem, by simp [En.rel], fun _ => h.part hd hk hc hck hp k5 k7 hX' m1 m2 rfl u, fun e => absurd hck e⟩, u.mono fun j _ hj => ?_⟩
    rcases hj with rfl | rfl
    · exact (blk_dir hd hk).2
    · exact (blk_dir hc hck).1
  · obtain ⟨t, k, hnd, ht⟩ := (h.lef c hc hck).nd
    refine (take_other d.nb d.db d.mb up L (ba n) c.nb k t w h5 hl hnd ht).mono ?_
    rintro e w' ⟨rfl, hD', u⟩
    have u2 : Upd (fun k => k = d.mb ∨ k = d.db) w w' := u.mono fun j _ hj => .inl hj
    obtain ⟨es, cl, m1, -⟩ := h5.map
    obtain ⟨es', cl', m2, -⟩ := hD'.map
    have ch := tob_upd m1 h5.dir m2 hD'.dir u2
    refine ⟨rfl, h.cut hd hk hp h5 h7 h6 hD' h5.dir hD'.dir u2 (fun x hx xk hxd _ e => hxd (h.dbs x hx d hd xk hk (.inl e))), ⟨hmem, by simp [En.rel], fun e => absurd e hck, fun _ => ⟨by unfold sub; rw [und_leaf h hc hck]; rfl, (h.lef c hc hck).ch (ch.lo (Nat.zero_le _)) saf_tob⟩⟩, u.mono fun j _ hj => ?_⟩
    rw [hj]
    exact (blk_dir hd hk).2
/-- What Add answers. -/
def adc (R C : List En) (p : List B) (a : B) : Int := if nameOk (ba a) = false then 190 else if (R.any fun c => decide (c.p = p ++ [a])) then 191 else if 64 < p.length + hgt C [] + 1 then 3 else 0
theorem adc_zero {R C : List En} {p : List B} {a : B} (h : adc R C p a = 0) : nameOk (ba a) = true ∧ (∀ x ∈ R, x.p ≠ p ++ [a]) ∧ p.length + hgt C [] + 1 ≤ 64 := by
  unfold adc at h
  split at h
  · exact absurd h (by decide)
  · next h1 =>
    split at h
    · exact absurd h (by decide)
    · next h2 =>
      split at h
      · exact absurd h (by decide)
      · next h3 =>
        refine ⟨by simpa using h1, fun x hx e => h2 (List.any_eq_true.2 ⟨x, hx, by simpa using e⟩), by omega⟩
theorem adc_of {R C : List En} {p : List B} {a : B} (h1 : nameOk (ba a) = true) (h2 : ∀ x ∈ R, x.p ≠ p ++ [a]) (h3 : p.length + hgt C [] + 1 ≤ 64) : adc R C p a = 0 := by
  unfold adc
  rw [if_neg (by rw [h1]; decide), if_neg (fun e => ?_), if_neg (by omega)]
  obtain ⟨x, hx, e⟩ := List.any_eq_true.1 e
  exact h2 x hx (by simpa using e)
theorem Free.ht {lo : Nat} {w : World} {C : List En} {c : En} (g : Free lo w C c) : Ht w (Pt c.nb) (hgt C []) ∧ hgt C [] ≤ 64 := by
  by_cases hk : c.k = 1
  · have h1 := (g.dir hk).ht 64 c g.mem (by omega)
    rw [g.top] at h1
    exact ⟨h1, (g.dir hk).hgt64 []⟩
  · obtain ⟨rfl, h2⟩ := g.lef hk
    obtain ⟨t, k, hnd, ht⟩ := h2.nd
    have hz : hgt [c] [] = 0 := (hgt_eq (fun e he _ => by rw [List.mem_singleton.1 he, g.top]; simp) (.inl rfl)).symm
    rw [hz]
    exact ⟨ht_other c.nb k t w hnd ht, by omega⟩
theorem tr_add {lo : Nat} {w : World} {R C : List En} (h : Tr lo w R) {t c : En} (g : Free lo w C c) (ht : t ∈ R) (hk : t.k = 1) (a : B) (hR : R.length ≤ 4096) (hC : C.length ≤ 50000) (hnb : ∀ x ∈ R, ∀ y ∈ C, x.nb ≠ y.nb) (hdb : ∀ x ∈ R, ∀ y ∈ C, x.k = 1 → y.k = 1 → x.db ≠ y.db ∧ x.mb ≠ y.mb) :
    Calls Tryz.prog 47 #[Pt t.nb, .string (ba a), Pt c.nb] w fun e w' => e = .returned (.int .i64 (adc R C t.p a)) ∧ ((adc R C t.p a = 0 ∧ Tr lo w' (R ++ C.map (En.ins (t.p ++ [a]))) ∧ Upd (fun k => blk R k ∨ blk C k) w w') ∨ (adc R C t.p a ≠ 0 ∧ Below w.heap.size w w')) := by
  obtain ⟨up, L, l, h1, h2, h3, h4, h5, h6, -⟩ := h.way _ t rfl ht hk
  have hkl := (h.kidlen h1 h2).1
  have hlen : L.length < 4096 := by
    rw [hkl]
    have : (kidU R t.p).length < R.length := by
      unfold kidU
      refine List.length_filter_lt_length_iff_exists.2 ⟨t, ht, ?_⟩
      simp only [decide_eq_true_eq, not_and]
      intro hn e
      have := congrArg List.length e
      rw [List.length_dropLast] at this
      have := List.length_pos_iff.2 hn
      omega
    omega
  have hdep := h.dep t ht
  obtain ⟨hH, h64⟩ := g.ht
  have hdl : ∀ y ∈ C, y.k = 1 → y.db ∉ t.db :: l := fun y hy ky hm => by
    rcases List.mem_cons.1 hm with e | e
    · exact (hdb t ht y hy hk ky).1 e.symm
    · obtain ⟨x, x1, x2, x3, -⟩ := h6 _ e
      exact (hdb x x1 y hy x2 ky).1 x3.symm
  have hrc : ∀ x, (x = none ∨ ∃ d, x = some (d, false) ∧ d ∉ t.db :: l) → rcode (ba a) L x (t.db :: l) (hgt C []) = adc R C t.p a := fun x hx => by
    unfold rcode adc
    rw [h2.some_iff a, if_neg (show ¬ 4096 ≤ L.length by omega)]
    have : xcode x (t.db :: l) (hgt C []) = if 64 < t.p.length + hgt C [] + 1 then 3 else 0 := by
      rcases hx with rfl | ⟨d, rfl, hd⟩
      · simp only [xcode, tcode, List.length_cons, h5, Nat.add_sub_cancel]
      · simp only [xcode, tcode, List.length_cons, h5, Nat.add_sub_cancel, if_neg hd]
        simp
    rw [this]
  have hdeps : adc R C t.p a = 0 → ∀ x ∈ C, t.p.length + 1 + x.p.length ≤ 64 := fun h0 x hx => by
    have h7 := (adc_zero h0).2.2
    have h8 := hgt_le (p := []) hx (List.nil_prefix)
    simp only [List.length_nil] at h8
    omega
  by_cases hck : c.k = 1
  · have gT := g.dir hck
    obtain ⟨k1, k2, k3, k4, xup, XL, k5, k6, k7⟩ := gT.dir c g.mem hck
    obtain rfl : xup = .pointer none := by
      rcases k6 with ⟨-, e⟩ | ⟨e, -⟩
      · exact e
      · exact absurd g.top e
    have hr := hrc (some (c.db, false)) (.inr ⟨c.db, rfl, hdl c g.mem hck⟩)
    by_cases h0 : adc R C t.p a = 0
    · refine (add_dir t.nb t.db t.mb up L l (ba a) c.nb c.db c.mb XL (hgt C []) w h1 h4 (by omega) k5 hH (by omega) (by omega) (fun e => (hdb t ht c g.mem hk hck).2 e.symm) (hr.trans h0)).mono ?_
      rintro e w' ⟨rfl, hD', hX', u⟩
      obtain ⟨a1, a2, a3⟩ := adc_zero h0
      rw [g.top] at k7
      refine ⟨by rw [h0], .inl ⟨h0, h.graft gT ht hk g.mem g.top a1 a2 (hdeps h0) (by omega) hnb hdb h1 h2 h3 k5 k7 hD' hX' u, u.mono fun j _ hj => ?_⟩⟩
      rcases hj with rfl | rfl
      · exact .inl (blk_dir ht hk).2
      · exact .inr (blk_dir g.mem hck).1
    · refine (add_no t.nb t.db t.mb up L l (ba a) c.nb (some (c.db, false)) (hgt C []) _ w h1 h4 (by omega) (Mk.free _ _ _ k5) hH (by omega) (by omega) hr h0).mono ?_
      rintro e w' ⟨rfl, hb⟩
      exact ⟨rfl, .inr ⟨h0, hb⟩⟩
  · obtain ⟨hC1, hL⟩ := g.lef hck
    obtain ⟨tt, k, hnd, htt⟩ := hL.nd
    have hz : hgt C [] = 0 := by rw [hC1]; exact (hgt_eq (fun e he _ => by rw [List.mem_singleton.1 he, g.top]; simp) (.inl rfl)).symm
    have hr := hrc none (.inl rfl)
    by_cases h0 : adc R C t.p a = 0
    · refine (add_other t.nb t.db t.mb up L l (ba a) c.nb k tt w h1 h4 (by omega) hnd htt (by omega) (by rw [← hz]; exact hr.trans h0)).mono ?_
      rintro e w' ⟨rfl, hD', u⟩
      obtain ⟨a1, a2, a3⟩ := adc_zero h0
      have u2 : Upd (fun k => k = t.mb ∨ k = t.db) w w' := u.mono fun j _ hj => .inl hj
      obtain ⟨es, cl, m1, -⟩ := h1.map
      obtain ⟨es', cl', m2, -⟩ := hD'.map
      have ch := tob_upd m1 h1.dir m2 hD'.dir u2
      refine ⟨by rw [h0], .inl ⟨h0, ?_, u.mono fun j _ hj => .inl (by rw [hj]; exact (blk_dir ht hk).2)⟩⟩
      rw [hC1, List.map_cons, List.map_nil]
      refine h.put (e := c.ins (t.p ++ [a])) ht hk (show (t.p ++ [a]) ++ c.p = _ by rw [g.top, List.append_nil]) a1 ?_ (by omega) ?_ (fun x hx => hnb x hx c g.mem) (fun e => absurd e hck) h1 h2 h3 hD' (u.mono fun j _ hj => .inl hj) (fun e => absurd e hck) (fun _ => ?_)
      · show ((t.p ++ [a]) ++ c.p).length ≤ 64
        have := hdeps h0 c g.mem
        simp only [List.length_append, List.length_singleton]
        omega
      · intro x hx
        show x.p ≠ (t.p ++ [a]) ++ c.p
        rw [g.top, List.append_nil]
        exact a2 x hx
      · exact hL.ch (ch.lo (Nat.zero_le _)) saf_tob
    · refine (add_no t.nb t.db t.mb up L l (ba a) c.nb none (hgt C []) _ w h1 h4 (by omega) (Mk.other tt k hnd htt) hH (by omega) (by omega) hr h0).mono ?_
      rintro e w' ⟨rfl, hb⟩
      exact ⟨rfl, .inr ⟨h0, hb⟩⟩
end Go.Proofs.YtbnaegoahdcejaaGreatDoor

namespace Go.Proofs.YtbnaegoahdcejaaGreatDoor
open Go.RowKit Go.ChangeMaps

/-- The tree behind a move of c to q. -/
def mvd (S : List En) (c : En) (q : List B) : List En := out c.p S ++ (sub c.p S).map (En.ins q)
/-- What Move answers. -/
def mvc (S : List En) (d t c : En) (n a : B) : Int :=
  if t.p = d.p ∧ a = n then 0 else if rnc S t.p a ≠ 0 then rnc S t.p a else if c.p <+: t.p then 200 else adc (out c.p S) (sub c.p S) t.p a
theorem mvd_back {S : List En} {c : En} : (mvd S c c.p).Perm S := by
  unfold mvd
  rw [sub_ins]
  exact out_und _ _
theorem out_len {S : List En} {c : En} (hc : c ∈ S) : (out c.p S).length < S.length := by
  unfold out
  exact List.length_filter_lt_length_iff_exists.2 ⟨c, hc, by simp⟩
theorem sub_len (S : List En) (q : List B) : (sub q S).length ≤ S.length := by
  unfold sub und
  rw [List.length_map]
  exact List.length_filter_le _ _
theorem Tr.apart {lo : Nat} {w : World} {S : List En} (h : Tr lo w S) (q : List B) : (∀ x ∈ out q S, ∀ y ∈ sub q S, x.nb ≠ y.nb) ∧ (∀ x ∈ out q S, ∀ y ∈ sub q S, x.k = 1 → y.k = 1 → x.db ≠ y.db ∧ x.mb ≠ y.mb) := by
  have hne : ∀ x ∈ out q S, ∀ z ∈ S, q <+: z.p → x ≠ z := fun x hx z _ hz e => (mem_out.1 hx).2 (e ▸ hz)
  refine ⟨fun x hx y hy e => ?_, fun x hx y hy kx ky => ?_⟩
  · obtain ⟨z, hz, hp, rfl⟩ := mem_sub.1 hy
    exact hne x hx z hz hp (h.nbs x (mem_out.1 hx).1 z hz e)
  · obtain ⟨z, hz, hp, rfl⟩ := mem_sub.1 hy
    exact ⟨fun e => hne x hx z hz hp (h.dbs x (mem_out.1 hx).1 z hz kx ky (.inl e)), fun e => hne x hx z hz hp (h.dbs x (mem_out.1 hx).1 z hz kx ky (.inr e))⟩
theorem blk_parts {S : List En} {q : List B} {k : Nat} (h : blk (out q S) k ∨ blk (sub q S) k) : blk S k := by
  rcases h with ⟨e, h1, h2⟩ | ⟨e, h1, h2⟩
  · exact ⟨e, (mem_out.1 h1).1, h2⟩
  · obtain ⟨z, hz, -, rfl⟩ := mem_sub.1 h1
    exact ⟨z, hz, h2⟩
/-- It may stand where it stood. -/
theorem adc_back {lo : Nat} {w : World} {S : List En} (h : Tr lo w S) {d c : En} {n : B} (hc : c ∈ S) (hp : c.p = d.p ++ [n]) : adc (out c.p S) (sub c.p S) d.p n = 0 := by
  refine adc_of (h.nam c hc n (by rw [hp]; simp)) (fun x hx e => (mem_out.1 hx).2 (by rw [e, ← hp]; exact List.prefix_refl _)) ?_
  have hcl : c.p.length = d.p.length + 1 := by rw [hp]; simp
  rcases hgt_is (sub c.p S) [] with e | ⟨e, he, -, hl⟩
  · have := h.dep c hc
    omega
  · obtain ⟨z, hz, hpz, rfl⟩ := mem_sub.1 he
    have h1 := h.dep z hz
    have h2 : (z.rel c.p).p.length = z.p.length - c.p.length := by simp [En.rel]
    have h3 := hpz.length_le
    simp only [List.length_nil] at hl
    omega
/-- What a move leaves. -/
def MovP (lo : Nat) (S : List En) (c : En) (q : List B) (r : Int) (w : World) (e : Ending) (w' : World) : Prop :=
  e = .returned (.int .i64 r) ∧ Upd (blk S) w w' ∧ ((r = 0 ∧ Tr lo w' (mvd S c q)) ∨ (r ≠ 0 ∧ Tr lo w' S))
set_option maxRecDepth 20000 in
set_option maxHeartbeats 2000000 in
theorem tmove_any {lo : Nat} {w : World} {S : List En} (h : Tr lo w S) {d t c : En} {n : B} (hd : d ∈ S) (hdk : d.k = 1) (ht : t ∈ S) (htk : t.k = 1) (hc : c ∈ S) (hp : c.p = d.p ++ [n]) (a : B) (hS : S.length ≤ 4097) :
    Calls Tryz.prog 21 #[Pt d.nb, .string (ba n), Pt t.nb, .string (ba a)] w fun e w' => MovP lo S c (t.p ++ [a]) (mvc S d t c n a) w e w' := by
  have AKd : Aside (Kd w (Pt d.nb) 1) := by have := h.kind hd; rw [hdk] at this; exact this
  have AKt : Aside (Kd w (Pt t.nb) 1) := by have := h.kind ht; rw [htk] at this; exact this
  have AG := aside (h.get_yes hd hdk hc hp)
  have AR := aside (rn_any h ht htk a)
  obtain ⟨t1, k1, hn1⟩ := h.nd ht
  obtain ⟨t2, k2, hn2⟩ := h.nd hd
  have heq := eq_node hn1 hn2
  have hnb : t.nb = d.nb ↔ t = d := ⟨fun e => h.nbs t ht d hd e, fun e => by rw [e]⟩
  have AH := aside h
  have Ahc := aside hc
  have Aht := aside ht
  have Ahd := aside hd
  have Ahp := aside hp
  have Ahdk := aside hdk
  have Ahtk := aside htk
  have AhS := aside hS
  clear h hn1 hn2 hc ht hd hp hdk htk hS
  by_cases hsame : t.p = d.p ∧ a = n
  · obtain ⟨htd, rfl⟩ := hsame
    obtain rfl : t = d := one_p AH.out.one Aht.out Ahd.out htd
    clear htd
    have hm : mvc S t t c a a = 0 := by unfold mvc; rw [if_pos ⟨rfl, rfl⟩]
    rw [hm]
    rw [decide_eq_true rfl] at heq
    obtain ⟨fb, hfb⟩ : ∃ fb, fb = t.nb := ⟨_, rfl⟩
    obtain ⟨cb, hcb⟩ : ∃ cb, cb = c.nb := ⟨_, rfl⟩
    obtain ⟨N, hN⟩ : ∃ N, N = ba a := ⟨_, rfl⟩
    rw [← hfb] at AKd AKt AG heq
    rw [← hN, ← hcb] at AG
    rw [← hfb, ← hN]
    clear hm hfb hcb hN hnb
    go_enter Tryz.func21, Tryz.ntmps21
    go_wp2_with fail
    refine AKd.out.mono ?_
    rintro e w' ⟨rfl, rfl⟩
    go_wp2_with fail
    refine AKt.out.mono ?_
    rintro e w' ⟨rfl, rfl⟩
    go_wp2_with fail
    refine AKd.out.mono ?_
    rintro e w' ⟨rfl, rfl⟩
    go_wp2_with fail
    refine AKt.out.mono ?_
    rintro e w' ⟨rfl, rfl⟩
    go_wp2_with fail
    refine AG.out.mono ?_
    rintro e w' ⟨rfl, rfl⟩
    go_wp2_with fail
    go_ret
    exact ⟨rfl, Upd.refl _ _, .inl ⟨rfl, AH.out.perm (by rw [← Ahp.out]; exact mvd_back.symm)⟩⟩
  · obtain ⟨r, hr⟩ : ∃ r, r = rnc S t.p a := ⟨_, rfl⟩
    have hm : mvc S d t c n a = if r ≠ 0 then r else if c.p <+: t.p then 200 else adc (out c.p S) (sub c.p S) t.p a := by unfold mvc; rw [if_neg hsame, ← hr]
    rw [← hr] at AR
    obtain ⟨cd, hcd⟩ : ∃ cd, cd = mvc S d t c n a := ⟨_, rfl⟩
    rw [← hcd]
    have Acd := aside (hcd.trans hm)
    have hcase : (decide (t.nb = d.nb) = true ∧ ((ba a).toList == (ba n).toList) = false) ∨ decide (t.nb = d.nb) = false := by
      by_cases e : t = d
      · left
        refine ⟨decide_eq_true (hnb.2 e), ?_⟩
        refine beq_eq_false_iff_ne.2 fun e0 => hsame ⟨by rw [e], ?_⟩
        rw [Lib.toList_data, Lib.toList_data, ba_list, ba_list] at e0
        exact e0
      · exact .inr (decide_eq_false fun e2 => e (hnb.1 e2))
    obtain ⟨fb, hfb⟩ : ∃ fb, fb = d.nb := ⟨_, rfl⟩
    obtain ⟨tb, htb⟩ : ∃ tb, tb = t.nb := ⟨_, rfl⟩
    obtain ⟨cb, hcb⟩ : ∃ cb, cb = c.nb := ⟨_, rfl⟩
    obtain ⟨N, hN⟩ : ∃ N, N = ba n := ⟨_, rfl⟩
    obtain ⟨A, hA⟩ : ∃ A, A = ba a := ⟨_, rfl⟩
    have Afb := aside hfb
    have Atb := aside htb
    have Acb := aside hcb
    have AN := aside hN
    have AA := aside hA
    rw [← hfb] at AKd AG
    rw [← htb] at AKt
    rw [← htb, ← hA] at AR
    rw [← hN, ← hcb] at AG
    rw [← hfb, ← htb] at heq
    rw [← hfb, ← htb, ← hN, ← hA] at hcase
    rw [← hfb, ← htb, ← hN, ← hA]
    clear hm hfb htb hcb hN hA hnb hcd hr hsame
    rcases hcase with ⟨hq1, hq2⟩ | hq1 <;> rw [hq1] at heq <;> clear hq1 <;>
    · go_enter Tryz.func21, Tryz.ntmps21
      go_wp2_with fail
      refine AKd.out.mono ?_
      rintro e w' ⟨rfl, rfl⟩
      go_wp2_with fail
      refine AKt.out.mono ?_
      rintro e w' ⟨rfl, rfl⟩
      go_wp2_with fail
      refine AKd.out.mono ?_
      rintro e w' ⟨rfl, rfl⟩
      go_wp2_with fail
      refine AKt.out.mono ?_
      rintro e w' ⟨rfl, rfl⟩
      go_wp2_with fail
      refine AG.out.mono ?_
      rintro e w' ⟨rfl, rfl⟩
      go_wp2_with fail
      refine AR.out.mono ?_
      rintro e w1 ⟨rfl, hb1⟩
      have AB1 := aside hb1
      clear hb1 AR AG AKd AKt
      by_cases hr0 : r = 0
      · subst hr0
        have AW := aside (twithin_any (AH.out.below AB1.out) Aht.out Ahc.out)
        rw [← Atb.out, ← Acb.out] at AW
        have Acd1 := aside (Acd.out)
        simp only [ne_eq, not_true_eq_false, ↓reduceIte] at Acd1
        clear Acd
        go_wp2_with fail
        refine AW.out.mono ?_
        rintro e w2 ⟨rfl, hb2⟩
        have AB2 := aside (below_tr AB1.out hb2)
        clear hb2 AW AB1
        by_cases hw : c.p <+: t.p
        · rw [decide_eq_true hw]
          have Acd2 := aside (Acd1.out.trans (if_pos hw))
          clear Acd1
          go_wp2_with fail
          go_ret
          rw [Acd2.out]
          exact ⟨rfl, Upd.of_below AB2.out, .inr ⟨by decide, AH.out.below AB2.out⟩⟩
        · rw [decide_eq_false hw]
          have Acd2 := aside (Acd1.out.trans (if_neg hw))
          have Ahw := aside hw
          clear Acd1 hw
          have AT := aside (tr_take (AH.out.below AB2.out) Ahd.out Ahdk.out Ahc.out Ahp.out)
          rw [← Afb.out, ← Acb.out, ← AN.out] at AT
          go_wp2_with fail
          refine AT.out.mono ?_
          rintro e w3 ⟨rfl, hR, hF, hu⟩
          obtain ⟨ap1, ap2⟩ := AH.out.apart c.p
          have hl1 := out_len Ahc.out
          have hl2 := sub_len S c.p
          have hl3 := AhS.out
          have htR : t ∈ out c.p S := mem_out.2 ⟨Aht.out, Ahw.out⟩
          have hdR : d ∈ out c.p S := mem_out.2 ⟨Ahd.out, fun e => by have := e.length_le; rw [Ahp.out, List.length_append, List.length_singleton] at this; omega⟩
          have AU3 := aside ((Upd.of_below (F := blk S) AB2.out).trans hu (fun j _ hj => hj))
          have AA3 := aside (tr_add hR hF htR Ahtk.out a (by omega) (by omega) ap1 ap2)
          rw [← Atb.out, ← AA.out, show (c.rel c.p).nb = c.nb from rfl, ← Acb.out] at AA3
          have AF3 := aside hF
          have AR3 := aside hR
          have AtR := aside htR
          have AdR := aside hdR
          have Aap := aside (And.intro ap1 ap2)
          have Al := aside (And.intro hl1 (And.intro hl2 hl3))
          rw [← Acd2.out] at AA3
          clear hR hF hu ap1 ap2 hl1 hl2 hl3 htR hdR AT
          go_wp2_with fail
          refine AA3.out.mono ?_
          rintro e w4 ⟨rfl, h4⟩
          have A4 := aside h4
          clear AA3 h4
          by_cases hcd0 : cd = 0
          · subst hcd0
            go_wp2_with fail
            go_ret
            rcases A4.out with ⟨-, hT4, hu4⟩ | ⟨h40, -⟩
            · exact ⟨rfl, AU3.out.trans hu4 (fun j _ hj => blk_parts hj), .inl ⟨rfl, hT4⟩⟩
            · exact absurd rfl h40
          · have hcb0 : (cd == 0) = false := beq_eq_false_iff_ne.2 hcd0
            have hb4 : Below w3.heap.size w3 w4 := by
              rcases A4.out with ⟨h40, -⟩ | ⟨-, hb⟩
              · exact absurd h40 hcd0
              · exact hb
            have hz := adc_back AH.out Ahc.out Ahp.out
            have AA5 := aside (tr_add (AR3.out.below hb4) (AF3.out.below hb4) AdR.out Ahdk.out n (by have := Al.out; omega) (by have := Al.out; omega) Aap.out.1 Aap.out.2)
            rw [← Afb.out, ← AN.out, show (c.rel c.p).nb = c.nb from rfl, ← Acb.out, hz] at AA5
            have AB4 := aside hb4
            clear hb4 hz
            go_wp2_with fail
            refine AA5.out.mono ?_
            rintro e w5 ⟨rfl, h5⟩
            have A5 := aside h5
            clear AA5 h5
            go_wp2_with fail
            go_ret
            rcases A5.out with ⟨-, hT5, hu5⟩ | ⟨h50, -⟩
            · refine ⟨rfl, (AU3.out.trans (Upd.of_below (F := blk S) AB4.out) (fun j _ hj => hj)).trans hu5 (fun j _ hj => blk_parts hj), .inr ⟨hcd0, hT5.perm ?_⟩⟩
              rw [← Ahp.out]
              exact mvd_back
            · exact absurd rfl h50
      · have hrb : (r == 0) = false := beq_eq_false_iff_ne.2 hr0
        have Acd2 := aside (Acd.out.trans (if_pos hr0))
        clear Acd
        go_wp2_with fail
        go_ret
        rw [Acd2.out]
        exact ⟨rfl, Upd.of_below AB1.out, .inr ⟨hr0, AH.out.below AB1.out⟩⟩
end Go.Proofs.YtbnaegoahdcejaaGreatDoor

namespace Go.Proofs.YtbnaegoahdcejaaGreatDoor
open Go.RowKit Go.ChangeMaps

abbrev stl (l : List B) : List Value := l.map fun n => Value.string (ba n)
theorem st_cell (W : World) (x : ByteArray) : ∀ j u, [Value.string x][j]? = some u → (W.alloc (.cells #[.string x] 9)).cell? ((⟨W.heap.size, 0, none⟩ : Addr).add j) = some u := fun j u hj => by
  rw [Addr.add_lit, Nat.zero_add, cell_of_row _ _ j _ _ _ (heap_alloc_new W _)]
  simpa using hj
theorem st_one (x : ByteArray) : ∀ u ∈ [Value.string x], u.oneCell' = true := by
  intro u hm
  rw [List.mem_singleton.1 hm]; rfl
/-- Names that were found so far. -/
structure Nl (W wx : World) (zs : List B) (v : Value) : Prop where
  bel : Below W.heap.size W wx
  row : wx.ownsRow 0 9 1 v zs.length (stl zs)
  rb : ∀ b, v.ownBlock = some b → W.heap.size ≤ b
theorem Nl.below {W wx wy : World} {zs : List B} {v : Value} (h : Nl W wx zs v) (b : Below wx.heap.size wx wy) : Nl W wy zs v := ⟨h.bel.trans (b.mono h.bel.size), row_below h.row b, h.rb⟩
theorem nl_app {W wx w7 : World} {zs : List B} {x : B} {v v' : Value} {o : Obj} (h : Nl W wx zs v) (ho : w7.ownsRow 0 9 1 v' (zs.length + 1) (stl zs ++ [.string (ba x)])) (hg : (wx.alloc o).grownBy w7 v.ownBlock)
    (hwh : (v'.ownBlock = v.ownBlock ∧ ∃ g, v.ownBlock = some g) ∨ (v'.ownBlock = some (wx.alloc o).heap.size ∧ Below (wx.alloc o).heap.size (wx.alloc o) w7)) : Nl W w7 (zs ++ [x]) v' := by
  have hs := h.bel.size
  refine ⟨?_, ?_, fun b hv => ?_⟩
  · exact (h.bel.trans ((below_al wx o).mono hs)).trans ((Upd.of_grown hg (F := fun k => v.ownBlock = some k) (fun k hk => hk)).below (by rw [World.size_alloc]; omega) (fun k hk => h.rb k hk))
  · have : stl (zs ++ [x]) = stl zs ++ [.string (ba x)] := by simp
    rw [this, List.length_append]
    exact ho
  · rcases hwh with ⟨e, -⟩ | ⟨e, -⟩
    · exact h.rb b (e ▸ hv)
    · rw [e] at hv
      injection hv with hv
      rw [World.size_alloc] at hv
      omega
/-- How far Names has come. -/
structure Nmi (s : B) (zs : List B) (fr i : Nat) : Prop where
  le : i ≤ s.length + 1
  on : i ≤ s.length → fr ≤ i ∧ spl s = zs ++ spl (s.drop fr) ∧ (47 : UInt8) ∉ (s.drop fr).take (i - fr)
  off : i = s.length + 1 → spl s = zs
theorem Nmi.few {s : B} {zs : List B} {fr i : Nat} (h : Nmi s zs fr i) (hi : i ≤ s.length) : zs.length < s.length + 1 := by
  obtain ⟨-, h2, -⟩ := h.on hi
  have h3 := spl_len s
  have h4 := List.count_le_length (a := (47 : UInt8)) (l := s)
  have h5 := List.length_pos_iff.2 (spl_ne (s.drop fr))
  rw [h2, List.length_append] at h3
  omega
theorem take_more {s : B} {fr i : Nat} {c : UInt8} (hf : fr ≤ i) (hi : s[i]? = some c) : (s.drop fr).take (i + 1 - fr) = (s.drop fr).take (i - fr) ++ [c] := by
  rw [show i + 1 - fr = (i - fr) + 1 by omega, List.take_add_one, List.getElem?_drop, show fr + (i - fr) = i by omega, hi]
  rfl
theorem Nmi.cut {s : B} {zs : List B} {fr i : Nat} (h : Nmi s zs fr i) (hi : s[i]? = some 47) : Nmi s (zs ++ [(s.drop fr).take (i - fr)]) (i + 1) (i + 1) := by
  have hil := (List.getElem?_eq_some_iff.1 hi).1
  obtain ⟨h1, h2, h3⟩ := h.on (by omega)
  refine ⟨by omega, fun _ => ⟨Nat.le_refl _, ?_, by simp⟩, fun e => by omega⟩
  have h4 : s.drop fr = (s.drop fr).take (i - fr) ++ 47 :: s.drop (i + 1) := by
    conv => lhs; rw [← List.take_append_drop (i - fr) (s.drop fr)]
    rw [List.drop_drop, show fr + (i - fr) = i by omega, List.drop_eq_getElem_cons hil]
    rw [(List.getElem?_eq_some_iff.1 hi).2]
  rw [h2]
  conv => lhs; rw [h4]
  rw [spl_cut _ h3, List.append_assoc]
  rfl
theorem Nmi.step {s : B} {zs : List B} {fr i : Nat} {c : UInt8} (h : Nmi s zs fr i) (hi : s[i]? = some c) (hc : c ≠ 47) : Nmi s zs fr (i + 1) := by
  have hil := (List.getElem?_eq_some_iff.1 hi).1
  obtain ⟨h1, h2, h3⟩ := h.on (by omega)
  refine ⟨by omega, fun _ => ⟨by omega, h2, ?_⟩, fun e => by omega⟩
  rw [take_more h1 hi]
  intro hm
  rcases List.mem_append.1 hm with hm | hm
  · exact h3 hm
  · exact hc (List.mem_singleton.1 hm).symm
theorem Nmi.last {s : B} {zs : List B} {fr : Nat} (h : Nmi s zs fr s.length) : Nmi s (zs ++ [(s.drop fr).take (s.length - fr)]) (s.length + 1) (s.length + 1) := by
  obtain ⟨h1, h2, h3⟩ := h.on (Nat.le_refl _)
  refine ⟨Nat.le_refl _, fun e => by omega, fun _ => ?_⟩
  have h4 : (s.drop fr).take (s.length - fr) = s.drop fr := List.take_of_length_le (by rw [List.length_drop]; exact Nat.le_refl _)
  rw [h4] at h3 ⊢
  rw [h2, spl_plain h3]
theorem extract_list (s : B) (fr i : Nat) (_h : fr ≤ i) : (ba s).extract fr i = ba ((s.drop fr).take (i - fr)) := by
  rw [← ba_of ((ba s).extract fr i)]
  congr 1
  rw [ByteArray.data_extract, Array.toList_extract, ba_list]
set_option maxRecDepth 20000 in
set_option maxHeartbeats 4000000 in
theorem names_any (s : B) (w : World) (hs : s.length ≤ 1000000000) : Calls Tryz.prog 35 #[.string (ba s)] w fun e w' => ∃ a c, e = .returned (.slice a (spl s).length c) ∧ Nl w w' (spl s) (.slice a (spl s).length c) := by
  obtain ⟨S, hS⟩ : ∃ S, S = ba s := ⟨_, rfl⟩
  have hsz : S.size = s.length := by rw [hS, ba_size]
  have AS := aside hS
  obtain ⟨n, hn⟩ : ∃ n, n = s.length := ⟨_, rfl⟩
  have AN := aside hn
  rw [← hn] at hsz
  rw [← hS]
  have hnl : n ≤ 1000000000 := by rw [hn]; exact hs
  have A0 : Aside (Nmi s [] 0 0) := ⟨by omega, fun _ => ⟨Nat.le_refl _, by simp, by simp⟩, fun e => by omega⟩
  clear hS hn
  go_enter Tryz.func35, Tryz.ntmps35
  go_wp2_with fail
  go_loopg [3, 4, 5] (n + 1) (fun g s3 s4 s5 wx => ∃ (zs : List B) (fr i k : Nat) (a : Option Addr) (c : Nat), i + g = n + 1 ∧ k = zs.length ∧ fr ≤ n + 1 ∧ s5 = .int .i64 (i : Int) ∧ s4 = .int .i64 (fr : Int) ∧ s3 = .slice a k c ∧ Nl w wx zs (.slice a k c) ∧ Nmi s zs fr i)
  case atStart => exact ⟨[], 0, 0, 0, none, 0, by omega, rfl, by omega, rfl, rfl, rfl, ⟨Below.refl _ _, World.ownsRow_nil _ _ _ _, fun b hb => by simp [Value.ownBlock] at hb⟩, A0.out⟩
  case round =>
    obtain ⟨zs, fr, i, k, a, c, hig, hk, hfr, rfl, rfl, rfl, hN, hM⟩ := hrel
    have ANl := aside hN
    have ANi := aside hM
    have AK := aside hk
    clear hN hM A0 hk
    cases gk with
    | zero =>
      obtain rfl : i = n + 1 := by omega
      have hi : ¬ (((n + 1 : Nat) : Int) ≤ (n : Int)) := by omega
      go_wp2_with fail
      go_ret
      have hz := ANi.out.off (by rw [AN.out])
      exact ⟨a, c, by rw [hz, ← AK.out]; rfl, by rw [hz, ← AK.out]; exact ANl.out⟩
    | succ gk =>
      have hi : ((i : Int) ≤ (n : Int)) := by omega
      have hin : i ≤ s.length := by have := AN.out; omega
      have hfi := (ANi.out.on hin).1
      have hkn : k ≤ n := by rw [AK.out]; have := ANi.out.few hin; have := AN.out; omega
      have hwi : IntKind.i64.wrap ((i : Int) + 1) = ((i + 1 : Nat) : Int) := by rw [wrap_small _ (by omega) (by omega)]; simp
      have H63 : Aside (k + 1 ≤ maxLen) := by show k + 1 ≤ maxLen; unfold maxLen; omega
      have hby : (k + 1) * 16 ≤ 140737488355328 := by omega
      have ARb : Aside (∀ o1, (wr.alloc o1).ownsRow 0 9 1 (.slice a k c) k (stl zs)) := fun o1 => by
        have := row_below ANl.out.row (below_al _ o1)
        rwa [← AK.out] at this
      have hex := extract_list s fr i hfi
      rw [← AS.out] at hex
      have Aex := aside hex
      have h1 : (0 : Int) ≤ (fr : Int) := by omega
      have h2 : (fr : Int) ≤ (i : Int) := by omega
      have h3 : (i : Int) ≤ (S.size : Int) := by omega
      clear hex
      by_cases hl : i = n
      · subst hl
        have hle : ((i : Int) == (i : Int)) = true := beq_self_eq_true _
        go_wp2_with (at_builtin; refine M.wpList_append_where _ rfl _ _ 69 rfl 9 (.string ByteArray.empty) 1 16 Tryz.underlying69 infoS rfl (by decide) (.slice a k c) k (stl zs) rfl (ARb.out _) _ 1 _ [.string (S.extract fr i)] rfl rfl (st_cell wr _) (st_one _) H63.out hby (by decide) ?_; intro v' w7 ho hg hwh; obtain ⟨a9, c9, rfl, -⟩ := own_slice ho; rw [Aex.out] at ho; have A1 := aside (nl_app (x := (s.drop fr).take (i - fr)) ANl.out (by rw [← AK.out]; exact ho) hg hwh); clear ho hg hwh)
        go_roundg gk
        case measure => omega
        case rel =>
          have h4 := ANi.out
          rw [AN.out] at h4
          exact ⟨_, i + 1, i + 1, k + 1, a9, c9, by omega, by rw [List.length_append, AK.out]; rfl, by omega, by first | rfl | simp, by first | rfl | simp, rfl, A1.out, by have := h4.last; rw [← AN.out] at this; exact this⟩
      · have hle : ((i : Int) == (n : Int)) = false := beq_eq_false_iff_ne.2 (by omega)
        have hi1 : i < S.size := by omega
        have hi2 : (i : Int) < (S.size : Int) := by omega
        have hil : i < s.length := by have := AN.out; omega
        have hSi : S[i]'hi1 = s[i]'hil := by
          have := AS.out
          subst this
          rfl
        have hg47 : s[i]? = some (s[i]'hil) := List.getElem?_eq_getElem hil
        by_cases hb : s[i]'hil = 47
        · have hc : (((S[i]'hi1).toNat : Int) == 47) = true := by rw [hSi, hb]; rfl
          have Acut := aside (ANi.out.cut (by rw [hg47, hb]))
          clear hb hSi hg47
          go_wp2_with (at_builtin; refine M.wpList_append_where _ rfl _ _ 69 rfl 9 (.string ByteArray.empty) 1 16 Tryz.underlying69 infoS rfl (by decide) (.slice a k c) k (stl zs) rfl (ARb.out _) _ 1 _ [.string (S.extract fr i)] rfl rfl (st_cell wr _) (st_one _) H63.out hby (by decide) ?_; intro v' w7 ho hg hwh; obtain ⟨a9, c9, rfl, -⟩ := own_slice ho; rw [Aex.out] at ho; have A1 := aside (nl_app (x := (s.drop fr).take (i - fr)) ANl.out (by rw [← AK.out]; exact ho) hg hwh); clear ho hg hwh)
          go_roundg gk
          case measure => omega
          case rel => exact ⟨_, i + 1, i + 1, k + 1, a9, c9, by omega, by rw [List.length_append, AK.out]; rfl, by omega, by first | rfl | simp, by first | rfl | simp, rfl, A1.out, Acut.out⟩
        · have hc : (((S[i]'hi1).toNat : Int) == 47) = false := by
            rw [hSi]
            refine beq_eq_false_iff_ne.2 fun e => hb ?_
            apply UInt8.toNat_inj.1
            have : (s[i]'hil).toNat = 47 := by omega
            rw [this]; rfl
          have Ast := aside (ANi.out.step hg47 hb)
          clear hb hSi hg47
          go_wp2_with fail
          go_roundg gk
          case measure => omega
          case rel => exact ⟨zs, fr, i + 1, k, a, c, by omega, AK.out, by omega, by first | rfl | simp, rfl, rfl, ANl.out, Ast.out⟩
end Go.Proofs.YtbnaegoahdcejaaGreatDoor
