/- meetsOne, keeps, refuses: what they tell. -/
import Derived.Test.YtfpegmmciphjiaaMeet
namespace Go.Proofs.Ytfpegmmciphjiaa
open Go.RowKit

theorem hit_cons (l x : Lk) (L : List Lk) : hit l (x :: L) = (meet l x || hit l L) := rfl
theorem hit_take_succ {l x : Lk} {L : List Lk} {k : Nat} (hx : L[k]? = some x) : hit l (L.take (k + 1)) = (hit l (L.take k) || meet l x) := by
  rw [List.take_add_one, hx, Option.toList_some, hit_append]; simp [hit]

theorem hit_of_take {l : Lk} {L : List Lk} {k : Nat} {b : Bool} (h : hit l (L.take k) = (b || true)) : hit l L = true := by
  rw [Bool.or_true] at h
  obtain ⟨y, hy, hm⟩ := hit_iff.1 h
  exact hit_iff.2 ⟨y, List.mem_of_mem_take hy, hm⟩

set_option maxHeartbeats 1000000 in
theorem meetsOne_any (l : Lk) (L : List Lk) (a : Option Addr) (c : Nat) (hl : may l = true) (hL : ∀ x ∈ L, may x = true) (hn : L.length ≤ 1048576) (w : World) (hR : LsAt w a L) :
    Calls Try.prog 41 #[l.val, .slice a L.length c] w fun e w' => e = .returned (.bool (hit l L)) ∧ Below w.heap.size w w' := by
  have ML := aside (fun x hx => meet_any l x hl (hL x hx))
  have HR := aside hR
  clear hL hR hl
  obtain ⟨who, x, n, sh⟩ := l
  obtain ⟨l, hl⟩ : ∃ l : Lk, l = ⟨who, x, n, sh⟩ := ⟨_, rfl⟩
  have HL := aside hl
  rw [← hl] at ML ⊢
  rw [show l.val = .agg #[.int .i64 who, .int .i64 x, .int .i64 n, .bool sh] by rw [hl]; rfl] at ML ⊢
  clear hl
  obtain ⟨W, hW⟩ : ∃ W, W = w.alloc (.cells #[.int .i64 who, .int .i64 x, .int .i64 n, .bool sh] 29) := ⟨_, rfl⟩
  have HW := aside hW
  have BW : Aside (Below w.heap.size w W) := by rw [hW]; exact below_al w _
  have BX : Aside (Bx W w.heap.size who x n sh) := by rw [hW]; exact bx_new w who x n sh
  clear hW
  go_enter Try.func41, Try.ntmps41
  go_wp2
  rw [← HW.out]
  go_loopg [9] L.length (fun G s9 wr => ∃ k : Nat, k + G = L.length ∧ s9 = .int .i64 (k : Int) ∧ Aside (hit l (L.take k) = false) ∧ Aside (Below W.heap.size W wr))
  case atStart => exact ⟨0, by omega, rfl, aside (by simp [hit]), aside (Below.refl _ _)⟩
  case round =>
    obtain ⟨k, hkG, rfl, hN, hB⟩ := hrel
    by_cases hk : k < L.length
    · have t1 : (k : Int) < (L.length : Int) := by omega
      obtain ⟨y, hy⟩ : ∃ y, L[k]? = some y := ⟨_, List.getElem?_eq_getElem hk⟩
      have hyL : y ∈ L := List.mem_of_getElem? hy
      obtain ⟨g, o, rfl, hrd⟩ := HR.out (fun h => by rw [h] at hk; simp at hk)
      obtain ⟨q0, q1, q2, q3⟩ := (hrd.below (below_tr BW.out hB.out)).lock hy
      have HT := aside (hit_take_succ (l := l) hy)
      have M := aside (ML.out y hyL)
      clear hy hyL hrd
      obtain ⟨yw, yx, yn, ys⟩ := y
      obtain ⟨y, hy⟩ : ∃ y : Lk, y = ⟨yw, yx, yn, ys⟩ := ⟨_, rfl⟩
      rw [← hy] at HT M
      rw [show y.val = .agg #[.int .i64 yw, .int .i64 yx, .int .i64 yn, .bool ys] by rw [hy]; rfl] at M
      clear hy
      simp only at q0 q1 q2 q3
      have BX2 := (BX.out.below hB.out).below (below_al wr (.cells #[.int .i64 yw, .int .i64 yx, .int .i64 yn, .bool ys] 29))
      have c0 := BX2.c0
      have c1 := BX2.c1
      have c2 := BX2.c2
      have c3 := BX2.c3
      clear BX2
      generalize hmm : meet l y = m at *
      clear hmm
      cases m
      · go_wp2_with ((go_at_call 44; refine (M.out _).mono ?_; rintro e w2 ⟨rfl, hb2⟩; have HB2 := aside hb2; clear hb2))
        go_roundg (L.length - (k + 1))
        case measure => omega
        case rel => exact ⟨k + 1, by omega, by go_num, aside (by rw [HT.out, hN.out]; rfl), aside (below_tr (below_tr hB.out (below_al _ _)) HB2.out)⟩
      · go_wp2_with ((go_at_call 44; refine (M.out _).mono ?_; rintro e w2 ⟨rfl, hb2⟩; have HB2 := aside hb2; clear hb2))
        go_ret
        rw [hit_of_take HT.out]
        exact ⟨rfl, below_tr BW.out (below_tr (below_tr hB.out (below_al _ _)) HB2.out)⟩
    · obtain rfl : k = L.length := by omega
      have t1 : ¬ ((L.length : Int) < (L.length : Int)) := by omega
      have hN2 := hN.out
      rw [List.take_length] at hN2
      have HN := aside hN2
      clear hN hN2
      go_wp2
      go_ret
      rw [HN.out]
      exact ⟨rfl, below_tr BW.out hB.out⟩

set_option maxHeartbeats 1000000 in
theorem keeps_any (p : Nat) (l : Lk) (H A : List Lk) (ha a : Option Addr) (hc c : Nat) (hl : may l = true) (hH : ∀ x ∈ H, may x = true) (hA : ∀ x ∈ A, may x = true) (hn : H.length ≤ 1048576) (hm : A.length ≤ 1048576) (w : World)
    (hp : w.cell? ⟨p, 0, none⟩ = some (.slice ha H.length hc)) (hR : LsAt w ha H) (hS : LsAt w a A) :
    Calls Try.prog 27 #[.pointer (some ⟨p, 0, none⟩), l.val, .slice a A.length c] w fun e w' => e = .returned (.bool (hit l H || hit l A)) ∧ Below w.heap.size w w' := by
  have MH := aside (fun (W : World) (hW : Below w.heap.size w W) => meetsOne_any l H ha hc hl hH hn W (hR.below hW))
  have MA := aside (fun (W : World) (hW : Below w.heap.size w W) => meetsOne_any l A a c hl hA hm W (hS.below hW))
  clear hR hS hH hA hn hm hl
  generalize hit l H = h1 at *
  generalize hit l A = h2 at *
  generalize H.length = nH at *
  generalize A.length = nA at *
  obtain ⟨who, x, n, sh⟩ := l
  simp only [Lk.val] at *
  obtain ⟨W, hW⟩ : ∃ W, W = w.alloc (.cells #[.int .i64 who, .int .i64 x, .int .i64 n, .bool sh] 29) := ⟨_, rfl⟩
  have HW := aside hW
  have BW : Aside (Below w.heap.size w W) := by rw [hW]; exact below_al w _
  have BX : Aside (Bx W w.heap.size who x n sh) := by rw [hW]; exact bx_new w who x n sh
  clear hW
  have q0 : ∀ d os, (ext W d os).cell? ⟨p, 0, none⟩ = some (.slice ha nH hc) := fun d os => ext_cell ((BW.out.cell (World.block_lt_of_cell? w _ hp)).trans hp) d os
  have a0 : ∀ d os, (ext W d os).cell? ⟨w.heap.size, 0, none⟩ = some (.int .i64 who) := fun d os => (BX.out.ext d os).c0
  have a1 : ∀ d os, (ext W d os).cell? ⟨w.heap.size, 1, none⟩ = some (.int .i64 x) := fun d os => (BX.out.ext d os).c1
  have a2 : ∀ d os, (ext W d os).cell? ⟨w.heap.size, 2, none⟩ = some (.int .i64 n) := fun d os => (BX.out.ext d os).c2
  have a3 : ∀ d os, (ext W d os).cell? ⟨w.heap.size, 3, none⟩ = some (.bool sh) := fun d os => (BX.out.ext d os).c3
  cases h1
  · go_enter Try.func27, Try.ntmps27
    go_wp2
    rw [← HW.out]
    refine region_ext (by kernel_rfl) (by kernel_rfl) ?_
    repeat (any_goals (first | go_big_quiet_step ((first | (with_reducible exact calls_ext (MH.out _ (below_tr BW.out (below_ext _ _ _)))) | (with_reducible exact calls_ext (MA.out _ (below_tr BW.out (below_ext _ _ _)))))) | quiet_step ((first | (with_reducible exact calls_ext (MH.out _ (below_tr BW.out (below_ext _ _ _)))) | (with_reducible exact calls_ext (MA.out _ (below_tr BW.out (below_ext _ _ _))))))))
    refine wpQuiet_nil ?_
    intro wq hq
    go_wp2
    go_ret
    exact ⟨rfl, below_tr BW.out hq⟩
  · go_enter Try.func27, Try.ntmps27
    go_wp2
    rw [← HW.out]
    refine region_ext (by kernel_rfl) (by kernel_rfl) ?_
    repeat (any_goals (first | go_big_quiet_step ((first | (with_reducible exact calls_ext (MH.out _ (below_tr BW.out (below_ext _ _ _)))) | (with_reducible exact calls_ext (MA.out _ (below_tr BW.out (below_ext _ _ _)))))) | quiet_step ((first | (with_reducible exact calls_ext (MH.out _ (below_tr BW.out (below_ext _ _ _)))) | (with_reducible exact calls_ext (MA.out _ (below_tr BW.out (below_ext _ _ _))))))))
    refine wpQuiet_nil ?_
    intro wq hq
    go_wp2
    go_ret
    exact ⟨rfl, below_tr BW.out hq⟩

theorem below_drN (w : World) (n : Nat) : Below w.heap.size w (w.drewN n) := ⟨rfl, rfl, rfl, Nat.le_refl _, fun _ _ => rfl⟩
/-- What Try and Wait answer whatever l meets. -/
def refE (l : Lk) (n : Nat) : Int := if may l = false then 2 else if 256 ≤ n then 4 else 0

set_option maxHeartbeats 1000000 in
theorem refuses_any (p : Nat) (l : Lk) (ha wa : Option Addr) (nH nW hc wc : Nat) (hl : InR l) (hn : nH + nW ≤ 1048576) (w : World)
    (hp : w.cell? ⟨p, 0, none⟩ = some (.slice ha nH hc)) (hq : w.cell? ⟨p, 1, none⟩ = some (.slice wa nW wc)) :
    Calls Try.prog 26 #[.pointer (some ⟨p, 0, none⟩), l.val] w fun e w' => e = .returned (.int .i64 (refE l (nH + nW))) ∧ Below w.heap.size w w' := by
  have M := aside (mayBe_any l hl)
  unfold refE
  generalize may l = m at *
  clear hl
  obtain ⟨who, x, n, sh⟩ := l
  simp only [Lk.val] at *
  have hpl := World.block_lt_of_cell? w _ hp
  obtain ⟨W, hW⟩ : ∃ W, W = w.alloc (.cells #[.int .i64 who, .int .i64 x, .int .i64 n, .bool sh] 29) := ⟨_, rfl⟩
  have HW := aside hW
  have BW : Aside (Below w.heap.size w W) := by rw [hW]; exact below_al w _
  have BX : Aside (Bx W w.heap.size who x n sh) := by rw [hW]; exact bx_new w who x n sh
  clear hW
  have c0 := BX.out.c0
  have c1 := BX.out.c1
  have c2 := BX.out.c2
  have c3 := BX.out.c3
  rw [HW.out] at c0 c1 c2 c3
  cases m
  · go_enter Try.func26, Try.ntmps26
    go_wp2_with ((go_at_call 32; refine (M.out _).mono ?_; rintro e w2 ⟨rfl, hb2⟩; have HB2 := aside hb2; clear hb2))
    go_ret
    rw [← HW.out] at HB2
    exact ⟨by simp, below_tr BW.out HB2.out⟩
  · by_cases h6 : 256 ≤ nH + nW
    · have t1 : (256 : Int) ≤ (nH : Int) + (nW : Int) := by omega
      go_enter Try.func26, Try.ntmps26
      go_wp2_with ((go_at_call 32; refine (M.out _).mono ?_; rintro e w2 ⟨rfl, hb2⟩; have HB2 := aside hb2; clear hb2; have k0 := fun d os => ext_cell (((below_tr (below_al w _) HB2.out).cell hpl).trans hp) d os; have k1 := fun d os => ext_cell (((below_tr (below_al w _) HB2.out).cell (p := ⟨p, 1, none⟩) hpl).trans hq) d os))
      refine region_ext (by kernel_rfl) (by kernel_rfl) ?_
      repeat (any_goals (first | go_big_quiet_step ((fail)) | quiet_step ((fail))))
      refine wpQuiet_nil ?_
      intro wq hwq
      have HQ := aside hwq
      clear hwq
      go_wp2
      go_ret
      rw [← HW.out] at HB2
      exact ⟨rfl, below_tr BW.out (below_tr HB2.out HQ.out)⟩
    · obtain ⟨z, hz⟩ : ∃ z : Nat, z = nH + nW := ⟨_, rfl⟩
      have t0 : (nH : Int) + (nW : Int) = (z : Int) := by omega
      have t1 : decide ((256 : Int) ≤ (z : Int)) = false := by rw [decide_eq_false_iff_not]; omega
      have HT1 := aside t1
      have hzl : z < 1048577 := by omega
      rw [if_neg h6]
      clear hz h6 hn t1
      go_enter Try.func26, Try.ntmps26
      go_wp2_with ((go_at_call 32; refine (M.out _).mono ?_; rintro e w2 ⟨rfl, hb2⟩; have HB2 := aside hb2; clear hb2; have k0 := fun d os => ext_cell (((below_tr (below_al w _) HB2.out).cell hpl).trans hp) d os; have k1 := fun d os => ext_cell (((below_tr (below_al w _) HB2.out).cell (p := ⟨p, 1, none⟩) hpl).trans hq) d os))
      refine region_ext (by kernel_rfl) (by kernel_rfl) ?_
      repeat (any_goals (first | go_big_quiet_step ((fail)) | quiet_step ((fail))))
      refine wpQuiet_nil ?_
      intro wq hwq
      have HQ := aside hwq
      clear hwq
      rw [HT1.out]
      clear t0 hzl
      go_wp2
      go_ret
      rw [← HW.out] at HB2
      exact ⟨rfl, below_tr BW.out (below_tr HB2.out HQ.out)⟩
end Go.Proofs.Ytfpegmmciphjiaa
