/- The statements' own meet. -/
import Derived.Test.YtfpegmmciphjiaaStK
namespace Go.Proofs.Ytfpegmmciphjiaa
open Go.RowKit

set_option maxHeartbeats 4000000 in
theorem lmeet_any (a b : Lk) (ha : may a = true) (hb : may b = true) (w : World) : Calls Try.prog 24 #[a.val, b.val] w fun e w' => e = .returned (.bool (meet a b)) ∧ Below w.heap.size w w' := by
  obtain ⟨h1, h2, h3, h4, h5⟩ := may_iff.1 ha
  obtain ⟨k1, k2, k3, k4, k5⟩ := may_iff.1 hb
  obtain ⟨m, hm⟩ : ∃ m, m = meet a b := ⟨_, rfl⟩
  rw [← hm]
  unfold meet at hm
  clear ha hb
  obtain ⟨wa, xa, na, sa⟩ := a
  obtain ⟨wb, xb, nb, sb⟩ := b
  simp only [Lk.val] at *
  have B2 := aside (below_tr (below_al w (.cells #[.int .i64 wa, .int .i64 xa, .int .i64 na, .bool sa] 29)) (below_al _ (.cells #[.int .i64 wb, .int .i64 xb, .int .i64 nb, .bool sb] 29)))
  have HM := aside hm
  clear hm
  by_cases p1 : 0 < na ∧ na ≤ xb - xa
  · obtain ⟨p1, p2⟩ := p1
    have e : m = false := by rw [HM.out]; simp; omega
    subst e
    go_enter Try.func24, Try.ntmps24
    go_wp2
    go_ret
    exact ⟨rfl, B2.out⟩
  by_cases p3 : 0 < nb ∧ nb ≤ xa - xb
  · obtain ⟨p3, p4⟩ := p3
    have e : m = false := by rw [HM.out]; simp; omega
    subst e
    by_cases p5 : 0 < na
    · have p6 : ¬ (na ≤ xb - xa) := by omega
      go_enter Try.func24, Try.ntmps24
      go_wp2
      go_ret
      exact ⟨rfl, B2.out⟩
    · go_enter Try.func24, Try.ntmps24
      go_wp2
      go_ret
      exact ⟨rfl, B2.out⟩
  have e0 : m = (decide (wa ≠ wb) && !(sa && sb)) := by
    rw [HM.out]
    have q1 : (decide (na = 0) || decide (xb < xa + na)) = true := by simp; omega
    have q2 : (decide (nb = 0) || decide (xa < xb + nb)) = true := by simp; omega
    rw [q1, q2]; simp
  subst e0
  clear HM
  have key : ∀ (Q : Prop), (∀ (_ : 0 < na) (_ : ¬ na ≤ xb - xa) (_ : 0 < nb) (_ : ¬ nb ≤ xa - xb), Q) → (∀ (_ : 0 < na) (_ : ¬ na ≤ xb - xa) (_ : ¬ 0 < nb), Q) → (∀ (_ : ¬ 0 < na) (_ : 0 < nb) (_ : ¬ nb ≤ xa - xb), Q) → (∀ (_ : ¬ 0 < na) (_ : ¬ 0 < nb), Q) → Q := fun Q f1 f2 f3 f4 => by
    by_cases q1 : 0 < na
    · by_cases q2 : 0 < nb
      · exact f1 q1 (by omega) q2 (by omega)
      · exact f2 q1 (by omega) q2
    · by_cases q2 : 0 < nb
      · exact f3 q1 q2 (by omega)
      · exact f4 q1 q2
  clear p1 p3
  by_cases h6 : wa = wb
  · subst h6
    refine key _ (fun r1 r2 r3 r4 => ?_) (fun r1 r2 r3 => ?_) (fun r1 r2 r3 => ?_) (fun r1 r2 => ?_)
    all_goals clear key
    all_goals (
      go_enter Try.func24, Try.ntmps24
      go_wp2
      go_ret
      exact ⟨by simp, B2.out⟩)
  · have h6b : (wa == wb) = false := by simpa using h6
    cases sa
    · refine key _ (fun r1 r2 r3 r4 => ?_) (fun r1 r2 r3 => ?_) (fun r1 r2 r3 => ?_) (fun r1 r2 => ?_)
      all_goals clear key
      all_goals (
        go_enter Try.func24, Try.ntmps24
        go_wp2
        go_ret
        exact ⟨by simp [h6], B2.out⟩)
    · refine key _ (fun r1 r2 r3 r4 => ?_) (fun r1 r2 r3 => ?_) (fun r1 r2 r3 => ?_) (fun r1 r2 => ?_)
      all_goals clear key
      all_goals (
        go_enter Try.func24, Try.ntmps24
        go_wp2
        go_ret
        exact ⟨by simp [h6], B2.out⟩)

end Go.Proofs.Ytfpegmmciphjiaa
