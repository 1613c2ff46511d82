/- Give: every way. -/
import Derived.Test.YtleenkdlnmoepaaGive
namespace Go.Proofs.Ytleenkdlnmoepaa
open Go.RowKit Go.MapLit Go.ChangeMaps

theorem and_not {r p : Nat} (hr : r < 256) (hp : p < 256) : r &&& (255 - p) = 0 ↔ r &&& p = r := by
  have hs : ∀ i, (255 - p).testBit i = (decide (i < 8) && !p.testBit i) := fun i => by
    rw [show 255 - p = 2 ^ 8 - (p + 1) by omega]; exact Nat.testBit_two_pow_sub_succ (by omega) i
  have hb : ∀ i, r.testBit i = true → i < 8 := fun i hi => by
    rcases Nat.lt_or_ge i 8 with h | h
    · exact h
    · have : r < 2 ^ i := Nat.lt_of_lt_of_le (show r < 2 ^ 8 by omega) (Nat.pow_le_pow_right (by decide) h)
      rw [Nat.testBit_lt_two_pow this] at hi
      cases hi
  constructor
  · intro h
    apply Nat.eq_of_testBit_eq
    intro i
    have h1 := congrArg (fun n => Nat.testBit n i) h
    simp only [Nat.testBit_and, hs, Nat.zero_testBit] at h1
    rw [Nat.testBit_and]
    cases hi : r.testBit i with
    | false => simp
    | true => have := hb i hi; simpa [hi, this] using h1
  · intro h
    apply Nat.eq_of_testBit_eq
    intro i
    have h1 := congrArg (fun n => Nat.testBit n i) h
    simp only [Nat.testBit_and] at h1
    simp only [Nat.testBit_and, hs, Nat.zero_testBit]
    cases hi : r.testBit i with
    | false => simp
    | true => simp [hi] at h1; simp [h1]
theorem wf_i64 {a : Int} (h1 : -9223372036854775808 ≤ a) (h2 : a ≤ 9223372036854775807) : (Lit.int .i64 a).wf = true := by
  have e1 : IntKind.i64.min = -9223372036854775808 := by decide
  have e2 : IntKind.i64.max = 9223372036854775807 := by decide
  simp [Lit.wf, e1, e2]; omega

set_option maxRecDepth 20000 in
set_option maxHeartbeats 1000000 in
theorem give_gone (b : Bok) (a : Int) (r : Nat) (w : World) (h : Bk w b) (hw : (Lit.int .i64 a).wf = true) (hr : r < 256) (h1 : r &&& 192 = 0) (hl : lk b.L a = none) : Calls Try.prog 8 #[pt b.p, .int .i64 a, .int .u8 (r : Int)] w fun e w' => e = .returned (.tuple #[.int .i64 0, .int .i64 6]) ∧ Below w.heap.size w w' := by
  have e1 : bits .andNot .u8 (r : Int) 63 = 0 := by rw [show bits .andNot .u8 (r : Int) 63 = ((r &&& 192 : Nat) : Int) from u8_andNot_nat r 63 hr (by decide), h1]; rfl
  have c0 := h.c0
  have hk := (h.no hw hl).1
  clear h hl h1
  go_enter Try.func8, Try.ntmps8
  go_wp2
  go_ret2
  exact ⟨rfl, below_al w _⟩

set_option maxRecDepth 20000 in
set_option maxHeartbeats 1000000 in
theorem give_right (b : Bok) (a : Int) (r : Nat) (w : World) (h : Bk w b) (hw : (Lit.int .i64 a).wf = true) (hr : r < 256) (h1 : r &&& 192 = 0) {g : Gr} (hl : lk b.L a = some g) (h2 : ¬ r &&& (255 - g.r) = 0) : Calls Try.prog 8 #[pt b.p, .int .i64 a, .int .u8 (r : Int)] w fun e w' => e = .returned (.tuple #[.int .i64 0, .int .i64 170]) ∧ Below w.heap.size w w' := by
  have e1 : bits .andNot .u8 (r : Int) 63 = 0 := by rw [show bits .andNot .u8 (r : Int) 63 = ((r &&& 192 : Nat) : Int) from u8_andNot_nat r 63 hr (by decide), h1]; rfl
  have hg := h.inv.r63 g (lk_mem hl).1
  have e2 : bits .andNot .u8 (r : Int) (g.r : Int) = ((r &&& (255 - g.r) : Nat) : Int) := u8_andNot_nat r g.r hr (by omega)
  obtain ⟨x, hx⟩ : ∃ x, x = r &&& (255 - g.r) := ⟨_, rfl⟩
  rw [← hx] at e2 h2
  have c0 := h.c0
  have hk := (h.yes hw hl).1
  clear h hl h1 hx hg
  go_enter Try.func8, Try.ntmps8
  go_wp2
  go_ret2
  exact ⟨rfl, below_al w _⟩

set_option maxRecDepth 20000 in
set_option maxHeartbeats 1000000 in
theorem give_full (b : Bok) (a : Int) (r : Nat) (w : World) (h : Bk w b) (hw : (Lit.int .i64 a).wf = true) (hr : r < 256) (h1 : r &&& 192 = 0) {g : Gr} (hl : lk b.L a = some g) (h2 : r &&& (255 - g.r) = 0) (hm : 4096 ≤ b.made) : Calls Try.prog 8 #[pt b.p, .int .i64 a, .int .u8 (r : Int)] w fun e w' => e = .returned (.tuple #[.int .i64 0, .int .i64 4]) ∧ Below w.heap.size w w' := by
  have e1 : bits .andNot .u8 (r : Int) 63 = 0 := by rw [show bits .andNot .u8 (r : Int) 63 = ((r &&& 192 : Nat) : Int) from u8_andNot_nat r 63 hr (by decide), h1]; rfl
  have hg := h.inv.r63 g (lk_mem hl).1
  have e2 : bits .andNot .u8 (r : Int) (g.r : Int) = 0 := by rw [show bits .andNot .u8 (r : Int) (g.r : Int) = ((r &&& (255 - g.r) : Nat) : Int) from u8_andNot_nat r g.r hr (by omega), h2]; rfl
  have hm' : ((4096 : Int) ≤ (b.made : Int)) := by omega
  have c0 := h.c0
  have hlp := h.lp
  have c1 := h.c1
  have hk := (h.yes hw hl).1
  clear h hl h1 hg hm
  go_enter Try.func8, Try.ntmps8
  go_wp2
  go_ret2
  exact ⟨rfl, below_al w _⟩

set_option maxRecDepth 20000 in
set_option maxHeartbeats 1000000 in
theorem give_ok (b : Bok) (a : Int) (r : Nat) (w : World) (h : Bk w b) (hw : (Lit.int .i64 a).wf = true) (hr : r < 256) (h1 : r &&& 192 = 0) {g : Gr} (hl : lk b.L a = some g) (h2 : r &&& (255 - g.r) = 0) (hm : b.made < 4096) : Calls Try.prog 8 #[pt b.p, .int .i64 a, .int .u8 (r : Int)] w fun e w' => e = .returned (.tuple #[.int .i64 (b.made : Int), .int .i64 0]) ∧ NxB w w' b ⟨b.p, b.mb, b.made + 1, b.L ++ [⟨b.made, r, g.id⟩]⟩ := by
  have e1 : bits .andNot .u8 (r : Int) 63 = 0 := by rw [show bits .andNot .u8 (r : Int) 63 = ((r &&& 192 : Nat) : Int) from u8_andNot_nat r 63 hr (by decide), h1]; rfl
  have hg := h.inv.r63 g (lk_mem hl).1
  have e2 : bits .andNot .u8 (r : Int) (g.r : Int) = 0 := by rw [show bits .andNot .u8 (r : Int) (g.r : Int) = ((r &&& (255 - g.r) : Nat) : Int) from u8_andNot_nat r g.r hr (by omega), h2]; rfl
  have hm' : ¬ ((4096 : Int) ≤ (b.made : Int)) := by omega
  have HI := aside (inv_give h.inv hl ((and_not hr (by omega)).1 h2) hm)
  have hag : (g.id : Int) = a := (lk_mem hl).2
  have c0 := h.c0
  have hlp := h.lp
  have c1 := h.c1
  have hk := (h.yes hw hl).1
  obtain ⟨W, hW⟩ : ∃ W, W = w.alloc (.cells #[.int .u8 (g.r : Int), .int .i64 (g.of : Int)] 63) := ⟨_, rfl⟩
  have hbW : Below w.heap.size w W := by rw [hW]; exact below_al w _
  have hW2 := h.below hbW
  obtain ⟨es, clock, hmap, hE⟩ := hW2.map
  obtain ⟨es', hrun, hE'⟩ := put_new hmap hE (g := ⟨b.made, r, g.id⟩) (wf_i64 (by simp only; omega) (by simp only; omega)) (lk_made h.inv)
  simp only [hag] at hrun
  obtain ⟨U, hU⟩ : ∃ U, U = setBlock W b.mb (.map es' (clock + 1)) := ⟨_, rfl⟩
  rw [← hU] at hrun
  have hne := h.ne
  have hu1 : Upd b.F w U := (Upd.of_below hbW).trans (by rw [hU]; exact Upd.setBlock (F := b.F) W b.mb _ (.inr rfl)) (fun _ _ h => h)
  have hU1 : U.heap[b.p]? = some (.cells #[.map (some b.mb), .int .i64 (b.made : Int)] 67 (0, 0)) := by rw [hU]; exact heap_set_far hW2.blk hne
  have hU2 : U.heap[b.mb]? = some (.map es' (clock + 1)) := by rw [hU]; exact heap_set_same hmap
  have d1 : U.cell? ⟨b.p, 1, none⟩ = some (.int .i64 (b.made : Int)) := by rw [cell_of_row U b.p 1 _ _ _ hU1]; rfl
  have g1 : U.frozen? ⟨b.p, 1, none⟩ = false := frozen_of_row U b.p 1 _ _ hU1
  have HU := aside hu1
  have HU1 := aside hU1
  have HU2 := aside hU2
  have HE := aside hE'
  have HNE := aside hne
  rw [hW] at hrun
  clear h hl h1 hg hm hmap hE hE' hU hu1 hU1 hU2 hW2 hbW hW hag hne
  go_enter Try.func8, Try.ntmps8
  go_wp2
  go_ret2
  have hse : Upd b.F U (U.setCell ⟨b.p, 1, none⟩ (.int .i64 ((b.made : Int) + 1))) := Upd.setCell (F := b.F) (p := ⟨b.p, 1, none⟩) (.inl rfl) _
  refine ⟨rfl, ⟨⟨?_, ⟨es', clock + 1, set_far HU2.out (fun e => HNE.out e.symm), HE.out⟩, HI.out⟩, rfl, rfl, HU.out.trans hse (fun _ _ h => h)⟩⟩
  have := set_same (i := 1) (v := .int .i64 ((b.made : Int) + 1)) HU1.out
  simpa using this

/-- What Give tells: the error's number. -/
def giveE (L : List Gr) (made : Nat) (a : Int) (r : Nat) : Nat :=
  if r &&& 192 = 0 then
    match lk L a with
    | none => 6
    | some g => if r &&& (255 - g.r) = 0 then (if made < 4096 then 0 else 4) else 170
  else 2
/-- The book behind Give. -/
def giveL (L : List Gr) (made : Nat) (a : Int) (r : Nat) : List Gr := if giveE L made a r = 0 then L ++ [⟨made, r, a.toNat⟩] else L
def giveM (L : List Gr) (made : Nat) (a : Int) (r : Nat) : Nat := if giveE L made a r = 0 then made + 1 else made
def giveN (L : List Gr) (made : Nat) (a : Int) (r : Nat) : Nat := if giveE L made a r = 0 then made else 0
theorem give_any (b : Bok) (a : Int) (r : Nat) (w : World) (h : Bk w b) (hw : (Lit.int .i64 a).wf = true) (hr : r < 256) :
    Calls Try.prog 8 #[pt b.p, .int .i64 a, .int .u8 (r : Int)] w fun e w' => e = .returned (.tuple #[.int .i64 (giveN b.L b.made a r : Int), .int .i64 (giveE b.L b.made a r : Int)]) ∧ NxB w w' b ⟨b.p, b.mb, giveM b.L b.made a r, giveL b.L b.made a r⟩ := by
  have same : ∀ {x : Nat} {w' : World}, giveE b.L b.made a r = x → x ≠ 0 → Below w.heap.size w w' → Ending.returned (.tuple #[.int .i64 0, .int .i64 (x : Int)]) = .returned (.tuple #[.int .i64 (giveN b.L b.made a r : Int), .int .i64 (giveE b.L b.made a r : Int)]) ∧ NxB w w' b ⟨b.p, b.mb, giveM b.L b.made a r, giveL b.L b.made a r⟩ := fun hx h0 hb => by
    unfold giveN giveM giveL
    rw [hx, if_neg h0, if_neg h0, if_neg h0]
    exact ⟨rfl, NxB.of_below h hb⟩
  by_cases h1 : r &&& 192 = 0
  · cases hl : lk b.L a with
    | none =>
      have hE : giveE b.L b.made a r = 6 := by unfold giveE; rw [if_pos h1, hl]
      refine (give_gone b a r w h hw hr h1 hl).mono ?_
      rintro e w' ⟨rfl, hb⟩
      exact same hE (by decide) hb
    | some g =>
      by_cases h2 : r &&& (255 - g.r) = 0
      · by_cases hm : b.made < 4096
        · have hE : giveE b.L b.made a r = 0 := by unfold giveE; rw [if_pos h1, hl]; simp only; rw [if_pos h2, if_pos hm]
          refine (give_ok b a r w h hw hr h1 hl h2 hm).mono ?_
          rintro e w' ⟨rfl, hn⟩
          unfold giveN giveM giveL
          rw [hE, if_pos rfl, if_pos rfl, if_pos rfl, show a.toNat = g.id by have := lk_id hl; omega]
          exact ⟨rfl, hn⟩
        · have hE : giveE b.L b.made a r = 4 := by unfold giveE; rw [if_pos h1, hl]; simp only; rw [if_pos h2, if_neg hm]
          refine (give_full b a r w h hw hr h1 hl h2 (by omega)).mono ?_
          rintro e w' ⟨rfl, hb⟩
          exact same hE (by decide) hb
      · have hE : giveE b.L b.made a r = 170 := by unfold giveE; rw [if_pos h1, hl]; simp only; rw [if_neg h2]
        refine (give_right b a r w h hw hr h1 hl h2).mono ?_
        rintro e w' ⟨rfl, hb⟩
        exact same hE (by decide) hb
  · have hE : giveE b.L b.made a r = 2 := by unfold giveE; rw [if_neg h1]
    refine (give_arg b a r w hr h1).mono ?_
    rintro e w' ⟨rfl, rfl⟩
    exact same hE (by decide) (Below.refl _ _)
end Go.Proofs.Ytleenkdlnmoepaa
