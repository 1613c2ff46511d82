/- A table beside a list that was told; a full table. -/
import Derived.Test.YtfpegmmciphjiaaWakes
namespace Go.Proofs.Ytfpegmmciphjiaa
open Go.RowKit

/-- A table, and a row that is none of its own. -/
def StU (w0 w : World) (p : Nat) (H W : List Lk) (v : Value) (U : List Lk) : Prop := Below w0.heap.size w0 w ∧ Own w v U ∧ ∃ t : Tb, t.p = p ∧ t.H = H ∧ t.W = W ∧ Tab 55 w t ∧ (∀ k, t.F k → w0.heap.size ≤ k) ∧ ∀ k, v.ownBlock = some k → ¬ t.F k
theorem StU.st {w0 w : World} {p : Nat} {H W : List Lk} {v : Value} {U : List Lk} (h : StU w0 w p H W v U) : St w0 w p H W := by
  obtain ⟨h1, -, t, h2, h3, h4, h5, h6, -⟩ := h
  exact ⟨h1, t, h2, h3, h4, h5, h6⟩
theorem StU.own {w0 w : World} {p : Nat} {H W : List Lk} {v : Value} {U : List Lk} (h : StU w0 w p H W v U) : Own w v U := h.2.1
theorem free_tells {w0 w : World} {p : Nat} {H W : List Lk} (who org len : Int) (sh : Bool) (m : Nat) (n : Int) (H' W' U : List Lk) (h : St w0 w p H W) (hl : InR ⟨who, org, len, sh⟩) (hE : ((freeE H ⟨who, org, len, sh⟩ : Nat) : Int) = n) (hT : freeT H W ⟨who, org, len, sh⟩ = (H', W', U)) (hm : U.length = m) :
    Calls Try.prog 15 #[.pointer (some ⟨p, 0, none⟩), .agg #[.int .i64 who, .int .i64 org, .int .i64 len, .bool sh]] w fun e w' => ∃ a c, e = .returned (.tuple #[.slice a m c, .int .i64 n]) ∧ StU w0 w' p H' W' (.slice a m c) U := by
  obtain ⟨h1, t, rfl, rfl, rfl, h5, h6⟩ := h
  refine (free_any t ⟨who, org, len, sh⟩ hl w h5).mono ?_
  rintro e w' ⟨a, k, c, rfl, t', e2, e3, e4, e5, e6⟩
  rw [hT] at e3 e4 e5
  simp only at e3 e4 e5
  obtain ⟨a', c', he, -, -⟩ := own_slice e5
  simp only [Value.slice.injEq] at he
  obtain ⟨rfl, rfl, rfl⟩ := he
  subst hm
  rw [hE]
  have hst := st_next h1 h6 e2
  exact ⟨a, c, rfl, hst.1, e5, t', e2.pp, e3, e4, e2.tab, fun j hj => (e2.grew j hj).elim (h6 j) (fun h => Nat.le_trans h1.size h), fun j hj => (e6 j hj).2⟩
theorem free_keeps {w0 w : World} {p : Nat} {H W : List Lk} {v : Value} {V : List Lk} (who org len : Int) (sh : Bool) (m : Nat) (n : Int) (H' W' U : List Lk) (h : StU w0 w p H W v V) (hl : InR ⟨who, org, len, sh⟩) (hE : ((freeE H ⟨who, org, len, sh⟩ : Nat) : Int) = n) (hT : freeT H W ⟨who, org, len, sh⟩ = (H', W', U)) (hm : U.length = m) :
    Calls Try.prog 15 #[.pointer (some ⟨p, 0, none⟩), .agg #[.int .i64 who, .int .i64 org, .int .i64 len, .bool sh]] w fun e w' => ∃ a c, e = .returned (.tuple #[.slice a m c, .int .i64 n]) ∧ St w0 w' p H' W' ∧ Own w' v V := by
  obtain ⟨h1, hO, t, rfl, rfl, rfl, h5, h6, h7⟩ := h
  refine (free_any t ⟨who, org, len, sh⟩ hl w h5).mono ?_
  rintro e w' ⟨a, k, c, rfl, t', e2, e3, e4, e5, e6⟩
  rw [hT] at e3 e4 e5
  simp only at e3 e4 e5
  obtain ⟨a', c', he, -, -⟩ := own_slice e5
  simp only [Value.slice.injEq] at he
  obtain ⟨rfl, rfl, rfl⟩ := he
  subst hm
  rw [hE]
  refine ⟨a, c, rfl, ?_, e2.upd.own hO h7⟩
  have := st_next h1 h6 e2
  rw [e3, e4] at this
  exact this

set_option maxHeartbeats 1000000 in
/-- Try at a full table. -/
theorem try_full {w0 w : World} {p : Nat} {H W : List Lk} (who org len : Int) (sh : Bool) (h : St w0 w p H W) (hm : may ⟨who, org, len, sh⟩ = true) (hn : 256 ≤ H.length + W.length) :
    Calls Try.prog 11 #[.pointer (some ⟨p, 0, none⟩), .agg #[.int .i64 who, .int .i64 org, .int .i64 len, .bool sh]] w fun e w' => e = .returned (.int .i64 4) ∧ Below w.heap.size w w' := by
  obtain ⟨-, t, rfl, rfl, rfl, h5, -⟩ := h
  obtain ⟨ha, hc, hhv, -, -, -⟩ := h5.oh.tel
  obtain ⟨wa, wc, hwv, -, -, -⟩ := h5.ow.tel
  have c0 := h5.c0
  have c1 := h5.c1
  rw [hhv] at c0
  rw [hwv] at c1
  have hfew := h5.few
  have R := aside (fun (V : World) (hV : Below w.heap.size w V) => refuses_any t.p ⟨who, org, len, sh⟩ ha wa t.H.length t.W.length hc wc (inR_of_may hm) (by omega) V ((hV.cell h5.lt).trans c0) ((hV.cell (p := ⟨t.p, 1, none⟩) h5.lt).trans c1))
  have hr : refE ⟨who, org, len, sh⟩ (t.H.length + t.W.length) = 4 := by unfold refE; rw [if_neg (by rw [hm]; simp), if_pos hn]
  rw [hr] at R
  simp only [Lk.val] at R
  have BX := bx_new w who org len sh
  have x0 := BX.c0
  have x1 := BX.c1
  have x2 := BX.c2
  have x3 := BX.c3
  clear hr hn hm hfew c0 c1 hhv hwv BX
  go_enter Try.func11, Try.ntmps11
  go_wp2_with ((go_at_call 26; refine (R.out _ (below_al w _)).mono ?_; rintro e w2 ⟨rfl, hb2⟩; have HB2 : Aside (Below w.heap.size w w2) := aside (below_tr (below_al w _) hb2); clear hb2))
  go_ret
  exact ⟨rfl, HB2.out⟩
/-- Wait at a full table. -/
theorem wait_full {w0 w : World} {p : Nat} {H W : List Lk} (who org len : Int) (sh : Bool) (h : St w0 w p H W) (hm : may ⟨who, org, len, sh⟩ = true) (hn : 256 ≤ H.length + W.length) :
    Calls Try.prog 13 #[.pointer (some ⟨p, 0, none⟩), .agg #[.int .i64 who, .int .i64 org, .int .i64 len, .bool sh]] w fun e w' => e = .returned (.tuple #[.bool false, .int .i64 4]) ∧ St w0 w' p H W := by
  obtain ⟨d, hd⟩ : ∃ d : Bool, d = true ↔ dead H W ⟨who, org, len, sh⟩ := by
    by_cases hx : dead H W ⟨who, org, len, sh⟩
    · exact ⟨true, by simp [hx]⟩
    · exact ⟨false, by simp [hx]⟩
  have hE : waitE H W ⟨who, org, len, sh⟩ d = 4 := by unfold waitE; rw [if_neg (by rw [hm]; simp), if_pos hn]
  have := wait_st ⟨who, org, len, sh⟩ (inR_of_may hm) h d hd
  rw [show waitH H W ⟨who, org, len, sh⟩ d = H by simp [waitH, hE], show waitW H W ⟨who, org, len, sh⟩ d = W by simp [waitW, hE], hE] at this
  exact this

/-- Locks of one place each, side by side. -/
def rowF (k : Nat) : List Lk := (List.range k).map fun i => ⟨((i % 7 : Nat) : Int), (i : Int), 1, false⟩
theorem rowF_len (k : Nat) : (rowF k).length = k := by simp [rowF]
theorem rowF_succ (k : Nat) : rowF (k + 1) = rowF k ++ [⟨((k % 7 : Nat) : Int), (k : Int), 1, false⟩] := by simp [rowF, List.range_succ]
theorem rowF_try {k : Nat} (hk : k < 256) : tryE (rowF k) [] ⟨((k % 7 : Nat) : Int), (k : Int), 1, false⟩ = 0 := by
  have hm : may ⟨((k % 7 : Nat) : Int), (k : Int), 1, false⟩ = true := may_iff.2 ⟨by simp only; omega, by simp only; omega, by simp only; omega, by simp only; omega, by simp only; omega⟩
  have hh : hit ⟨((k % 7 : Nat) : Int), (k : Int), 1, false⟩ (rowF k) = false := hit_false.2 fun y hy => by
    simp only [rowF, List.mem_map, List.mem_range] at hy
    obtain ⟨i, hi, rfl⟩ := hy
    simp [meet]
    omega
  unfold tryE
  rw [if_neg (by rw [hm]; simp), if_neg (by rw [rowF_len]; simp; omega), if_neg (by rw [hh]; simp [hit])]
theorem rowF_tryH {k : Nat} (hk : k < 256) : tryH (rowF k) [] ⟨((k % 7 : Nat) : Int), (k : Int), 1, false⟩ = rowF (k + 1) := by
  unfold tryH; rw [if_pos (rowF_try hk), rowF_succ]
abbrev zH : Lk := ⟨0, 0, 1, false⟩
abbrev zW : Lk := ⟨1, 0, 1, false⟩
theorem rep_dead (k : Nat) : ¬ dead [zH] (List.replicate k zW) zW := no_dead (List.all_eq_true.2 fun y hy => List.all_eq_true.2 fun x hx => by
  have hx1 : x = zW := by
    rcases List.mem_append.1 hx with h | h
    · exact (List.mem_replicate.1 h).2
    · simpa using h
  subst hx1
  rcases List.mem_append.1 hy with h | h
  · simp at h; subst h; rfl
  · obtain rfl := (List.mem_replicate.1 h).2; rfl)
theorem rep_wait {k : Nat} (hk : k < 255) : waitE [zH] (List.replicate k zW) zW false = 1 := by
  unfold waitE
  rw [if_neg (by decide), if_neg (by simp; omega), if_neg (by rw [show hit zW [zH] = true from rfl]; simp), if_neg (by simp)]
theorem rep_waitW {k : Nat} (hk : k < 255) : waitH [zH] (List.replicate k zW) zW false = [zH] ∧ waitW [zH] (List.replicate k zW) zW false = List.replicate (k + 1) zW := by
  unfold waitH waitW
  rw [rep_wait hk, List.replicate_succ']
  simp
theorem rep_c {w0 w : World} {p k : Nat} (h : St w0 w p [zH] (List.replicate k zW)) (hk : k < 255) :
    Calls Try.prog 13 #[.pointer (some ⟨p, 0, none⟩), .agg #[.int .i64 1, .int .i64 0, .int .i64 1, .bool false]] w fun e w' => e = .returned (.tuple #[.bool false, .int .i64 0]) ∧ St w0 w' p [zH] (List.replicate (k + 1) zW) :=
  wait_c 1 0 1 false false 0 [zH] (List.replicate (k + 1) zW) false h (inR_c rfl) ⟨fun h => by simp at h, fun h => absurd h (rep_dead k)⟩ (by rw [rep_wait hk]; rfl) (by rw [rep_wait hk]; rfl) (rep_waitW hk).1 (rep_waitW hk).2
end Go.Proofs.Ytfpegmmciphjiaa
