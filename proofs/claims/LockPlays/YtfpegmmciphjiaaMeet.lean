/- end, meet, mayBe: what they tell. -/
import Derived.Test.YtfpegmmciphjiaaRep
namespace Go.Proofs.Ytfpegmmciphjiaa
open Go.RowKit

def endv (l : Lk) : Int := if l.len = 0 then 9223372036854775807 else l.org + l.len
/-- A lock whose numbers are the machine's. -/
structure InR (l : Lk) : Prop where
  w1 : -9223372036854775808 ≤ l.who
  w2 : l.who ≤ 9223372036854775807
  o1 : -9223372036854775808 ≤ l.org
  o2 : l.org ≤ 9223372036854775807
  n1 : -9223372036854775808 ≤ l.len
  n2 : l.len ≤ 9223372036854775807
theorem inR_of_may {l : Lk} (h : may l = true) : InR l := by
  obtain ⟨h1, h2, h3, h4, h5⟩ := may_iff.1 h
  exact ⟨by omega, by omega, by omega, by omega, by omega, by omega⟩

/-- A lock in a box of its own. -/
structure Bx (W : World) (b : Nat) (who x n : Int) (sh : Bool) : Prop where
  c0 : W.cell? ⟨b, 0, none⟩ = some (.int .i64 who)
  c1 : W.cell? ⟨b, 1, none⟩ = some (.int .i64 x)
  c2 : W.cell? ⟨b, 2, none⟩ = some (.int .i64 n)
  c3 : W.cell? ⟨b, 3, none⟩ = some (.bool sh)
theorem bx_new (w : World) (who x n : Int) (sh : Bool) : Bx (w.alloc (.cells #[.int .i64 who, .int .i64 x, .int .i64 n, .bool sh] 29)) w.heap.size who x n sh := ⟨by go_simp, by go_simp, by go_simp, by go_simp⟩
theorem Bx.below {W W' : World} {b : Nat} {who x n : Int} {sh : Bool} (h : Bx W b who x n sh) (hb : Below W.heap.size W W') : Bx W' b who x n sh := by
  have hlt := World.block_lt_of_cell? W _ h.c0
  exact ⟨(hb.cell hlt).trans h.c0, (hb.cell (p := ⟨b, 1, none⟩) hlt).trans h.c1, (hb.cell (p := ⟨b, 2, none⟩) hlt).trans h.c2, (hb.cell (p := ⟨b, 3, none⟩) hlt).trans h.c3⟩
theorem Bx.ext {W : World} {b : Nat} {who x n : Int} {sh : Bool} (h : Bx W b who x n sh) (d : Nat) (os : Array Obj) : Bx (ext W d os) b who x n sh := h.below (below_ext _ _ _)
theorem Bx.upd {F : Nat → Prop} {W W' : World} {b : Nat} {who x n : Int} {sh : Bool} (h : Bx W b who x n sh) (hu : Upd F W W') (hn : ¬ F b) : Bx W' b who x n sh := ⟨hu.cell h.c0 hn, hu.cell h.c1 hn, hu.cell h.c2 hn, hu.cell h.c3 hn⟩

theorem end_any (l : Lk) (h : may l = true) (w : World) : Calls Try.prog 45 #[l.val] w fun e w' => e = .returned (.int .i64 (endv l)) ∧ Below w.heap.size w w' := by
  obtain ⟨h1, h2, h3, h4, h5⟩ := may_iff.1 h
  obtain ⟨who, x, n, sh⟩ := l
  simp only [Lk.val, endv] at *
  have B := aside (below_al w (.cells #[.int .i64 who, .int .i64 x, .int .i64 n, .bool sh] 29))
  clear h
  by_cases hn : n = 0
  · subst hn
    go_enter Try.func45, Try.ntmps45
    go_wp2
    go_ret
    exact ⟨rfl, B.out⟩
  · go_enter Try.func45, Try.ntmps45
    go_wp2
    go_ret
    exact ⟨by go_num, B.out⟩

theorem meet_eq {a b : Lk} (ha : may a = true) (hb : may b = true) : meet a b = (decide (a.who ≠ b.who) && !(a.sh && b.sh) && (decide (a.org < endv b) && decide (b.org < endv a))) := by
  obtain ⟨h1, h2, h3, h4, h5⟩ := may_iff.1 ha
  obtain ⟨k1, k2, k3, k4, k5⟩ := may_iff.1 hb
  unfold meet endv
  rw [Bool.and_assoc, Bool.and_comm (_ || _) (_ || _)]
  congr 1
  congr 1
  · by_cases h : b.len = 0 <;> simp [h] <;> omega
  · by_cases h : a.len = 0 <;> simp [h] <;> omega

set_option maxHeartbeats 1000000 in
theorem meet_any (a b : Lk) (ha : may a = true) (hb : may b = true) (w : World) : Calls Try.prog 44 #[a.val, b.val] w fun e w' => e = .returned (.bool (meet a b)) ∧ Below w.heap.size w w' := by
  rw [meet_eq ha hb]
  have EA := aside (end_any a ha)
  have EB := aside (end_any b hb)
  generalize endv a = ea at *
  generalize endv b = eb at *
  clear ha hb
  obtain ⟨wa, xa, na, sa⟩ := a
  obtain ⟨wb, xb, nb, sb⟩ := b
  simp only [Lk.val] at *
  have B1 := aside (below_al w (.cells #[.int .i64 wa, .int .i64 xa, .int .i64 na, .bool sa] 29))
  have B2 := aside (below_tr B1.out (below_al _ (.cells #[.int .i64 wb, .int .i64 xb, .int .i64 nb, .bool sb] 29)))
  obtain ⟨W, hW⟩ : ∃ W, W = (w.alloc (.cells #[.int .i64 wa, .int .i64 xa, .int .i64 na, .bool sa] 29)).alloc (.cells #[.int .i64 wb, .int .i64 xb, .int .i64 nb, .bool sb] 29) := ⟨_, rfl⟩
  have BA : Aside (Bx W w.heap.size wa xa na sa) := by rw [hW]; exact (bx_new w wa xa na sa).below (below_al _ _)
  have BB : Aside (Bx W (w.heap.size + 1) wb xb nb sb) := by rw [hW]; have := bx_new (w.alloc (.cells #[.int .i64 wa, .int .i64 xa, .int .i64 na, .bool sa] 29)) wb xb nb sb; rw [World.size_alloc] at this; exact this
  have a0 : ∀ d os, (ext W d os).cell? ⟨w.heap.size, 0, none⟩ = some (.int .i64 wa) := fun d os => (BA.out.ext d os).c0
  have a1 : ∀ d os, (ext W d os).cell? ⟨w.heap.size, 1, none⟩ = some (.int .i64 xa) := fun d os => (BA.out.ext d os).c1
  have a2 : ∀ d os, (ext W d os).cell? ⟨w.heap.size, 2, none⟩ = some (.int .i64 na) := fun d os => (BA.out.ext d os).c2
  have a3 : ∀ d os, (ext W d os).cell? ⟨w.heap.size, 3, none⟩ = some (.bool sa) := fun d os => (BA.out.ext d os).c3
  have b0 : ∀ d os, (ext W d os).cell? ⟨w.heap.size + 1, 0, none⟩ = some (.int .i64 wb) := fun d os => (BB.out.ext d os).c0
  have b1 : ∀ d os, (ext W d os).cell? ⟨w.heap.size + 1, 1, none⟩ = some (.int .i64 xb) := fun d os => (BB.out.ext d os).c1
  have b2 : ∀ d os, (ext W d os).cell? ⟨w.heap.size + 1, 2, none⟩ = some (.int .i64 nb) := fun d os => (BB.out.ext d os).c2
  have b3 : ∀ d os, (ext W d os).cell? ⟨w.heap.size + 1, 3, none⟩ = some (.bool sb) := fun d os => (BB.out.ext d os).c3
  have HW := aside hW
  rw [← hW] at B2
  clear hW B1
  by_cases h1 : wa = wb
  · subst h1
    go_enter Try.func44, Try.ntmps44
    go_wp2
    go_ret
    rw [← HW.out]
    exact ⟨by simp, B2.out⟩
  by_cases h2 : sa = true ∧ sb = true
  · obtain ⟨rfl, rfl⟩ := h2
    go_enter Try.func44, Try.ntmps44
    go_wp2
    go_ret
    rw [← HW.out]
    exact ⟨by simp, B2.out⟩
  have h3 : (sa && sb) = false := by cases sa <;> cases sb <;> simp at h2 ⊢
  have hwne : decide (wa ≠ wb) = true := by simpa using h1
  simp only [hwne, h3, Bool.not_false, Bool.true_and]
  have hwne2 : (wa == wb) = false := by simpa using h1
  by_cases hx : xa < eb
  · have hd : decide (xa < eb) = true := by simpa using hx
    by_cases hs : sa = true
    · subst hs
      have hsb : sb = false := by simpa using h3
      subst hsb
      go_enter Try.func44, Try.ntmps44
      go_wp2
      rw [← HW.out]
      refine region_ext (by kernel_rfl) (by kernel_rfl) ?_
      repeat (any_goals (first | go_big_quiet_step ((first | (with_reducible exact calls_ext (EA.out _)) | (with_reducible exact calls_ext (EB.out _)))) | quiet_step ((first | (with_reducible exact calls_ext (EA.out _)) | (with_reducible exact calls_ext (EB.out _))))))
      refine wpQuiet_nil ?_
      intro wq hq
      go_wp2
      go_ret
      exact ⟨by simp [hd], below_tr B2.out hq⟩
    · obtain rfl : sa = false := by simpa using hs
      go_enter Try.func44, Try.ntmps44
      go_wp2
      rw [← HW.out]
      refine region_ext (by kernel_rfl) (by kernel_rfl) ?_
      repeat (any_goals (first | go_big_quiet_step ((first | (with_reducible exact calls_ext (EA.out _)) | (with_reducible exact calls_ext (EB.out _)))) | quiet_step ((first | (with_reducible exact calls_ext (EA.out _)) | (with_reducible exact calls_ext (EB.out _))))))
      refine wpQuiet_nil ?_
      intro wq hq
      go_wp2
      go_ret
      exact ⟨by simp [hd], below_tr B2.out hq⟩
  · have hd : decide (xa < eb) = false := by simpa using hx
    by_cases hs : sa = true
    · subst hs
      have hsb : sb = false := by simpa using h3
      subst hsb
      go_enter Try.func44, Try.ntmps44
      go_wp2
      rw [← HW.out]
      refine region_ext (by kernel_rfl) (by kernel_rfl) ?_
      repeat (any_goals (first | go_big_quiet_step ((first | (with_reducible exact calls_ext (EA.out _)) | (with_reducible exact calls_ext (EB.out _)))) | quiet_step ((first | (with_reducible exact calls_ext (EA.out _)) | (with_reducible exact calls_ext (EB.out _))))))
      refine wpQuiet_nil ?_
      intro wq hq
      go_wp2
      go_ret
      exact ⟨by simp [hd], below_tr B2.out hq⟩
    · obtain rfl : sa = false := by simpa using hs
      go_enter Try.func44, Try.ntmps44
      go_wp2
      rw [← HW.out]
      refine region_ext (by kernel_rfl) (by kernel_rfl) ?_
      repeat (any_goals (first | go_big_quiet_step ((first | (with_reducible exact calls_ext (EA.out _)) | (with_reducible exact calls_ext (EB.out _)))) | quiet_step ((first | (with_reducible exact calls_ext (EA.out _)) | (with_reducible exact calls_ext (EB.out _))))))
      refine wpQuiet_nil ?_
      intro wq hq
      go_wp2
      go_ret
      exact ⟨by simp [hd], below_tr B2.out hq⟩

set_option maxHeartbeats 1000000 in
theorem mayBe_any (l : Lk) (h : InR l) (w : World) : Calls Try.prog 32 #[l.val] w fun e w' => e = .returned (.bool (may l)) ∧ Below w.heap.size w w' := by
  obtain ⟨r1, r2, r3, r4, r5, r6⟩ := h
  unfold may
  obtain ⟨who, x, n, sh⟩ := l
  simp only [Lk.val] at *
  have B := aside (below_al w (.cells #[.int .i64 who, .int .i64 x, .int .i64 n, .bool sh] 29))
  have hbool : decide (0 ≤ who ∧ who < 256 ∧ 0 ≤ x ∧ 0 ≤ n ∧ x + n ≤ 4611686018427387904) = (decide (0 ≤ who) && decide (who < 256) && decide (0 ≤ x) && decide (0 ≤ n) && decide (x ≤ 4611686018427387904 - n)) := by
    simp only [Bool.decide_and, Bool.and_assoc]
    congr 4
    exact decide_eq_decide.2 ⟨fun h => by omega, fun h => by omega⟩
  rw [hbool]
  clear hbool
  by_cases h1 : 0 ≤ who
  · by_cases h2 : who < 256
    · by_cases h3 : 0 ≤ x
      · by_cases h4 : 0 ≤ n
        · go_enter Try.func32, Try.ntmps32
          go_wp2
          go_ret
          exact ⟨by simp [h1, h2, h3, h4], B.out⟩
        · go_enter Try.func32, Try.ntmps32
          go_wp2
          go_ret
          exact ⟨by simp; omega, B.out⟩
      · go_enter Try.func32, Try.ntmps32
        go_wp2
        go_ret
        exact ⟨by simp; omega, B.out⟩
    · go_enter Try.func32, Try.ntmps32
      go_wp2
      go_ret
      exact ⟨by simp; omega, B.out⟩
  · go_enter Try.func32, Try.ntmps32
    go_wp2
    go_ret
    exact ⟨by simp; omega, B.out⟩
end Go.Proofs.Ytfpegmmciphjiaa
