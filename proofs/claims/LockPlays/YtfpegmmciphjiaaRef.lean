/- The document's own Meet, meets, May, refused. -/
import Derived.Test.YtfpegmmciphjiaaStK
namespace Go.Proofs.Ytfpegmmciphjiaa
open Go.RowKit

set_option maxHeartbeats 4000000 in
theorem rMeet_any (a b : Lk) (ha : may a = true) (hb : may b = true) (w : World) : Calls Try.prog 42 #[a.val, b.val] w fun e w' => e = .returned (.bool (meet a b)) ∧ Below w.heap.size w w' := by
  obtain ⟨h1, h2, h3, h4, h5⟩ := may_iff.1 ha
  obtain ⟨k1, k2, k3, k4, k5⟩ := may_iff.1 hb
  unfold meet
  clear ha hb
  obtain ⟨wa, xa, na, sa⟩ := a
  obtain ⟨wb, xb, nb, sb⟩ := b
  simp only [Lk.val] at *
  have B2 := aside (below_tr (below_al w (.cells #[.int .i64 wa, .int .i64 xa, .int .i64 na, .bool sa] 29)) (below_al _ (.cells #[.int .i64 wb, .int .i64 xb, .int .i64 nb, .bool sb] 29)))
  by_cases h6 : wa = wb
  · subst h6
    go_enter Try.func42, Try.ntmps42
    go_wp2
    go_ret
    exact ⟨by simp, B2.out⟩
  have h6b : (wa == wb) = false := by simpa using h6
  by_cases h7 : sa = true ∧ sb = true
  · obtain ⟨rfl, rfl⟩ := h7
    go_enter Try.func42, Try.ntmps42
    go_wp2
    go_ret
    exact ⟨by simp, B2.out⟩
  have h8 : (sa && sb) = false := by cases sa <;> cases sb <;> simp at h7 ⊢
  have e0 : (decide (wa ≠ wb) && !(sa && sb)) = true := by rw [h8]; simpa using h6
  rw [e0, Bool.true_and]
  have hn1 : (na == 0) = decide (na = 0) := rfl
  have key : ∀ (Q : Prop), (∀ (_ : na = 0) (_ : nb = 0), Q) → (∀ (_ : na = 0) (_ : ¬ nb = 0), Q) → (∀ (_ : ¬ na = 0) (_ : nb = 0), Q) → (∀ (_ : ¬ na = 0) (_ : ¬ nb = 0), Q) → Q := fun Q f1 f2 f3 f4 => by
    by_cases q1 : na = 0
    · by_cases q2 : nb = 0
      · exact f1 q1 q2
      · exact f2 q1 q2
    · by_cases q2 : nb = 0
      · exact f3 q1 q2
      · exact f4 q1 q2
  clear hn1 h7 e0
  have fin : ∀ (s : Bool), sa = s → Calls Try.prog 42 #[.agg #[.int .i64 wa, .int .i64 xa, .int .i64 na, .bool sa], .agg #[.int .i64 wb, .int .i64 xb, .int .i64 nb, .bool sb]] w fun e w' => e = .returned (.bool ((decide (na = 0) || decide (xb < xa + na)) && (decide (nb = 0) || decide (xa < xb + nb)))) ∧ Below w.heap.size w w' := fun s hs => by
    cases s
    · subst hs
      refine key _ (fun r1 r2 => ?_) (fun r1 r2 => ?_) (fun r1 r2 => ?_) (fun r1 r2 => ?_)
      all_goals clear key h8
      · subst r1 r2
        go_enter Try.func42, Try.ntmps42
        go_wp2
        go_ret
        exact ⟨by simp, B2.out⟩
      · subst r1
        have r3 : (nb == 0) = false := by simpa using r2
        go_enter Try.func42, Try.ntmps42
        go_wp2
        go_ret
        exact ⟨by simp [r2], B2.out⟩
      · subst r2
        have r3 : (na == 0) = false := by simpa using r1
        go_enter Try.func42, Try.ntmps42
        go_wp2
        all_goals go_ret
        all_goals exact ⟨by first | (simp_all; done) | (simp_all; omega), B2.out⟩
      · have r3 : (na == 0) = false := by simpa using r1
        have r4 : (nb == 0) = false := by simpa using r2
        go_enter Try.func42, Try.ntmps42
        go_wp2
        all_goals go_ret
        all_goals exact ⟨by first | (simp_all; done) | (simp_all; omega), B2.out⟩
    · subst hs
      obtain rfl : sb = false := by simpa using h8
      refine key _ (fun r1 r2 => ?_) (fun r1 r2 => ?_) (fun r1 r2 => ?_) (fun r1 r2 => ?_)
      all_goals clear key h8
      · subst r1 r2
        go_enter Try.func42, Try.ntmps42
        go_wp2
        go_ret
        exact ⟨by simp, B2.out⟩
      · subst r1
        have r3 : (nb == 0) = false := by simpa using r2
        go_enter Try.func42, Try.ntmps42
        go_wp2
        go_ret
        exact ⟨by simp [r2], B2.out⟩
      · subst r2
        have r3 : (na == 0) = false := by simpa using r1
        go_enter Try.func42, Try.ntmps42
        go_wp2
        all_goals go_ret
        all_goals exact ⟨by first | (simp_all; done) | (simp_all; omega), B2.out⟩
      · have r3 : (na == 0) = false := by simpa using r1
        have r4 : (nb == 0) = false := by simpa using r2
        go_enter Try.func42, Try.ntmps42
        go_wp2
        all_goals go_ret
        all_goals exact ⟨by first | (simp_all; done) | (simp_all; omega), B2.out⟩
  exact fin sa rfl
end Go.Proofs.Ytfpegmmciphjiaa
