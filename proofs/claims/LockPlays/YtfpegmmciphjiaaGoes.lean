/- goes: a step on a table, with whos brought into a few; what stays true of its locks. -/
import Derived.Test.YtfpegmmciphjiaaStU
namespace Go.Proofs.Ytfpegmmciphjiaa
open Go.RowKit

/-- The table's promise, and whos below six. -/
structure Good (H W : List Lk) : Prop where
  inv : Inv H W
  wh : ∀ x, x ∈ H ∨ x ∈ W → 0 ≤ x.who ∧ x.who < 6
theorem good_nil : Good [] [] := ⟨inv_nil, by simp⟩
theorem good_try {H W : List Lk} {l : Lk} (h : Good H W) (hl : 0 ≤ l.who ∧ l.who < 6) : Good (tryH H W l) W := by
  refine ⟨inv_try l h.inv, fun x hx => ?_⟩
  unfold tryH at hx
  split at hx
  · rcases hx with hx | hx
    · rcases List.mem_append.1 hx with hx | hx
      · exact h.wh x (.inl hx)
      · simp at hx; rw [hx]; exact hl
    · exact h.wh x (.inr hx)
  · exact h.wh x hx
theorem good_wait {H W : List Lk} {l : Lk} {d : Bool} (hd : d = true ↔ dead H W l) (h : Good H W) (hl : 0 ≤ l.who ∧ l.who < 6) : Good (waitH H W l d) (waitW H W l d) := by
  refine ⟨inv_wait l d hd h.inv, fun x hx => ?_⟩
  unfold waitH waitW at hx
  rcases hx with hx | hx
  · split at hx
    · rcases List.mem_append.1 hx with hx | hx
      · exact h.wh x (.inl hx)
      · simp at hx; rw [hx]; exact hl
    · exact h.wh x (.inl hx)
  · split at hx
    · rcases List.mem_append.1 hx with hx | hx
      · exact h.wh x (.inr hx)
      · simp at hx; rw [hx]; exact hl
    · exact h.wh x (.inr hx)
theorem on_mem {H W : List Lk} {x : Lk} (hx : x ∈ (onF H [] [] W).1 ∨ x ∈ (onF H [] [] W).2.1) : x ∈ H ∨ x ∈ W := by
  have hp := onF_p W H [] []
  obtain ⟨D, h1, -, h3⟩ := hp.ex
  obtain ⟨R, h4, h5⟩ := hp.sub
  rcases hx with hx | hx
  · rw [h1] at hx
    rcases List.mem_append.1 hx with hx | hx
    · exact .inl hx
    · exact .inr (h3 x hx)
  · rw [h4] at hx; simp at hx; exact .inr (h5 x hx)
theorem good_free {H W : List Lk} (l : Lk) (h : Good H W) : Good (freeT H W l).1 (freeT H W l).2.1 := by
  refine ⟨inv_free l h.inv, fun x hx => ?_⟩
  unfold freeT at hx
  split at hx
  · rcases on_mem hx with hx | hx
    · exact h.wh x (.inl (List.eraseP_sublist.subset hx))
    · exact h.wh x (.inr hx)
  · exact h.wh x hx
theorem good_leave {H W : List Lk} (who : Int) (h : Good H W) : Good (leaveT H W who).1 (leaveT H W who).2.1 := by
  refine ⟨inv_leave who h.inv, fun x hx => ?_⟩
  rcases on_mem hx with hx | hx
  · exact h.wh x (.inl (List.filter_sublist.subset hx))
  · exact h.wh x (.inr (List.filter_sublist.subset hx))

set_option maxHeartbeats 2000000 in
theorem goes_any {w0 w : World} {p : Nat} {H W : List Lk} (dd : Int) (l : Lk) (hl : InR l) (h : St w0 w p H W) (hG : Good H W) :
    Calls Try.prog 23 #[.pointer (some ⟨p, 0, none⟩), .agg #[.int .i8 dd, .int .i64 l.who, .int .i64 l.org, .int .i64 l.len, .bool l.sh], .int .i64 6] w fun e w' => ∃ a n c H' W', e = .returned (.slice a n c) ∧ St w0 w' p H' W' ∧ Good H' W' := by
  obtain ⟨u, hu⟩ : ∃ u : Int, u = ((l.who.tmod 6) + 6).tmod 6 := ⟨_, rfl⟩
  have hr1 : -6 < l.who.tmod 6 ∧ l.who.tmod 6 < 6 := by
    constructor
    · have := Int.lt_tmod_of_pos l.who (by decide : (0 : Int) < 6); omega
    · exact Int.tmod_lt_of_pos l.who (by decide)
  have hu1 : 0 ≤ u ∧ u < 6 := by
    rw [hu]
    constructor
    · exact Int.tmod_nonneg _ (by omega)
    · exact Int.tmod_lt_of_pos _ (by decide)
  obtain ⟨r, hr⟩ : ∃ r : Int, r = l.who.tmod 6 := ⟨_, rfl⟩
  rw [← hr] at hu hr1
  have hm1 : l.who.tmod 6 = r := hr.symm
  have hm2 : (r + 6).tmod 6 = u := hu.symm
  clear hr hu
  have HI : Aside (InR ⟨u, l.org, l.len, l.sh⟩) := ⟨by simp only; omega, by simp only; omega, hl.o1, hl.o2, hl.n1, hl.n2⟩
  obtain ⟨d, hd⟩ : ∃ d : Bool, d = true ↔ dead H W ⟨u, l.org, l.len, l.sh⟩ := by
    by_cases hx : dead H W ⟨u, l.org, l.len, l.sh⟩
    · exact ⟨true, by simp [hx]⟩
    · exact ⟨false, by simp [hx]⟩
  have HD := aside hd
  have HG := aside hG
  have HS := aside h
  have HU := aside hu1
  obtain ⟨V, hV⟩ : ∃ V, V = (w.alloc (.cells #[.int .i8 dd, .int .i64 l.who, .int .i64 l.org, .int .i64 l.len, .bool l.sh] 31)).alloc (.cells #[.int .i64 u, .int .i64 l.org, .int .i64 l.len, .bool l.sh] 29) := ⟨_, rfl⟩
  have BV : Aside (Below w.heap.size w V) := by rw [hV]; exact below_tr (below_al _ _) (below_al _ _)
  have C1 := aside (try_st ⟨u, l.org, l.len, l.sh⟩ HI.out (h.below BV.out))
  have C2 := aside (wait_st ⟨u, l.org, l.len, l.sh⟩ HI.out (h.below BV.out) d hd)
  have C3 := aside (free_st ⟨u, l.org, l.len, l.sh⟩ HI.out (h.below BV.out))
  have HV := aside hV
  rw [hV] at C1 C2 C3
  simp only at C1 C2 C3
  clear hV hd hG h hl
  by_cases h0 : dd = 0
  · subst h0
    go_enter Try.func23, Try.ntmps23
    go_wp2_with ((go_at_call 11; with_reducible refine C1.out.mono ?_; rintro e w2 ⟨rfl, hs⟩; have HS2 := aside hs; clear hs))
    go_ret
    exact ⟨none, 0, 0, _, _, rfl, HS2.out, good_try HG.out HU.out⟩
  by_cases h1 : dd = 1
  · subst h1
    go_enter Try.func23, Try.ntmps23
    go_wp2_with ((go_at_call 13; with_reducible refine C2.out.mono ?_; rintro e w2 ⟨rfl, hs⟩; have HS2 := aside hs; clear hs))
    go_ret
    exact ⟨none, 0, 0, _, _, rfl, HS2.out, good_wait HD.out HG.out HU.out⟩
  by_cases h2 : dd = 2
  · subst h2
    go_enter Try.func23, Try.ntmps23
    go_wp2_with ((go_at_call 15; with_reducible refine C3.out.mono ?_; rintro e w2 ⟨a2, c2, rfl, hs, -, -⟩; have HS2 := aside hs; clear hs))
    go_ret
    exact ⟨_, _, _, _, _, rfl, HS2.out, good_free _ HG.out⟩
  · have e0 : (dd == 0) = false := by simpa using h0
    have e1 : (dd == 1) = false := by simpa using h1
    have e2 : (dd == 2) = false := by simpa using h2
    go_enter Try.func23, Try.ntmps23
    go_wp2_with fail
    go_ret
    rw [← HV.out]
    exact ⟨none, 0, 0, _, _, rfl, HS.out.below BV.out, HG.out⟩
end Go.Proofs.Ytfpegmmciphjiaa
