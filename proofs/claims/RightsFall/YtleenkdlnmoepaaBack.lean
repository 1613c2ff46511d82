/- Back: every way. -/
import Derived.Test.YtleenkdlnmoepaaBelow
import Derived.Test.YtleenkdlnmoepaaGive2
namespace Go.Proofs.Ytleenkdlnmoepaa
open Go.RowKit Go.MapLit Go.ChangeMaps

theorem not_take {l : List Int} (h : l.Nodup) {i : Nat} {x : Int} (hx : l[i]? = some x) : x ∉ l.take i := fun hm => by
  obtain ⟨j, hj, e⟩ := List.getElem_of_mem hm
  rw [List.getElem_take] at e
  have hjl : j < i := by rw [List.length_take] at hj; omega
  obtain ⟨hi, rfl⟩ := List.getElem?_eq_some_iff.1 hx
  exact List.pairwise_iff_getElem.1 h j i (by omega) hi hjl e
theorem take_snoc {l : List Int} {i : Nat} {x : Int} (hx : l[i]? = some x) : l.take (i + 1) = l.take i ++ [x] := by
  obtain ⟨hi, rfl⟩ := List.getElem?_eq_some_iff.1 hx
  rw [List.take_succ_eq_append_getElem hi]

theorem back_zero (b : Bok) (w : World) : Calls Try.prog 9 #[pt b.p, .int .i64 0] w fun e w' => e = .returned (.tuple #[.int .i64 0, .int .i64 2]) ∧ w' = w := by
  go_enter Try.func9, Try.ntmps9
  go_wp2
  go_ret2
  exact ⟨rfl, rfl⟩
set_option maxRecDepth 20000 in
set_option maxHeartbeats 1000000 in
theorem back_gone (b : Bok) (a : Int) (w : World) (h : Bk w b) (hw : (Lit.int .i64 a).wf = true) (h0 : ¬ a = 0) (hl : lk b.L a = none) : Calls Try.prog 9 #[pt b.p, .int .i64 a] w fun e w' => e = .returned (.tuple #[.int .i64 0, .int .i64 6]) ∧ Below w.heap.size w w' := by
  have c0 := h.c0
  have hk := (h.no hw hl).1
  clear h hl
  go_enter Try.func9, Try.ntmps9
  go_wp2
  go_ret2
  exact ⟨rfl, below_al w _⟩

set_option maxRecDepth 20000 in
set_option maxHeartbeats 2000000 in
theorem back_ok (b : Bok) (a : Int) (w : World) (h : Bk w b) (hw : (Lit.int .i64 a).wf = true) (h0 : ¬ a = 0) {g : Gr} (hl : lk b.L a = some g) :
    Calls Try.prog 9 #[pt b.p, .int .i64 a] w fun e w' => e = .returned (.tuple #[.int .i64 (((belowL b.L b.made a).length + 1 : Nat) : Int), .int .i64 0]) ∧ NxB w w' b ⟨b.p, b.mb, b.made, dels b.L (belowL b.L b.made a ++ [a])⟩ := by
  have c0 := h.c0
  have hk := (h.yes hw hl).1
  obtain ⟨W, hW⟩ : ∃ W, W = w.alloc (.cells #[.int .u8 (g.r : Int), .int .i64 (g.of : Int)] 63) := ⟨_, rfl⟩
  have hbW : Below w.heap.size w W := by rw [hW]; exact below_al w _
  have CB := aside (below_any b a W (h.below hbW) hw)
  have HBW := aside hbW
  have HI := aside (inv_back h.inv h0 hl)
  have HG : Aside ((belowL b.L b.made a ++ [a]).Nodup ∧ (∀ x ∈ belowL b.L b.made a ++ [a], (Lit.int .i64 x).wf = true ∧ ∃ y, lk b.L x = some y) ∧ (belowL b.L b.made a).length ≤ 4096) := by
    refine aside ⟨?_, fun x hx => ?_, ?_⟩
    · have := gone_nodup b.L b.made a h.inv
      exact ((List.perm_append_comm (l₁ := [a]) (l₂ := belowL b.L b.made a)).nodup_iff).1 this
    · rcases List.mem_append.1 hx with hx | hx
      · obtain ⟨h1, h2, h3⟩ := below_mem h.inv hx
        have := lk_id hl
        have := h.inv.most
        exact ⟨wf_i64 (by omega) (by omega), h3⟩
      · simp only [List.mem_singleton] at hx; subst hx; exact ⟨hw, g, hl⟩
    · have := below_len (L := b.L) (made := b.made) a; have := h.inv.most; omega
  have HB := aside h
  have HND := aside h.inv.nd
  obtain ⟨D, hD⟩ : ∃ D, D = belowL b.L b.made a := ⟨_, rfl⟩
  rw [← hD] at CB HI HG ⊢
  rw [hW] at CB
  clear h hl hbW hD
  go_enter Try.func9, Try.ntmps9
  go_wp2_with fail
  refine CB.out.mono ?_
  rintro e w1 ⟨s, n, c, rfl, ho, hb, hf⟩
  rw [← hW] at hb hf
  have HN := aside ho.len
  have hD4 : n ≤ 4096 := by have := HG.out.2.2; have := HN.out; omega
  have HO := aside ho
  have HB1 := aside (below_tr HBW.out hb)
  have HF : Aside (∀ k, (Value.slice s n c).ownBlock = some k → w.heap.size ≤ k) := fun k hk => Nat.le_trans HBW.out.size (hf k hk)
  have HOv : Aside ((w1.alloc (.cells #[.int .i64 a] 3)).ownsRow 0 3 1 (.slice s n c) n (nums D)) := by
    have h1 := HO.out.below (below_al w1 (.cells #[.int .i64 a] 3))
    unfold OwnI at h1
    rw [← HN.out] at h1
    exact h1
  clear ho hb hf
  go_wp2_with (at_builtin; refine wpList_push rfl _ _ 33 rfl 3 (.int .i64 0) 1 8 Try.underlying33 info3 rfl (by decide) (.slice s n c) n (n + 1) _ rfl HOv.out w1.heap.size [.int .i64 a] rfl rfl (0, 0) (heap_alloc_new w1 _) (one_i _) (by omega) (by decide) rfl ?_; intro a' c' w3 h1 h2 h3; have HO3 := aside h1; have HU3 := aside h2; have HF3 := aside h3; clear h1 h2 h3)
  have hB3 : Aside (Below w.heap.size w w3) := (below_tr HB1.out (below_al w1 _)).trans (HU3.out.below (below_tr HB1.out (below_al w1 _)).size (fun j hj => HF.out j hj))
  have hO3 : Aside (OwnI w3 (.slice a' (n + 1) c') (D ++ [a])) := ownI_push HN.out HO3.out
  have hF3 : Aside (∀ j, (Value.slice a' (n + 1) c').ownBlock = some j → w.heap.size ≤ j) := fun j hj => by
    rcases HF3.out with e | e
    · exact HF.out j (by rw [← e]; exact hj)
    · rw [hj] at e; simp only [Option.some.injEq] at e; rw [e]; exact (below_tr HB1.out (below_al w1 _)).size
  have hbk3 := HB.out.below hB3.out
  have HBk3 := aside hbk3
  clear hbk3 HOv HO3 HU3 HF3 HO HF c0 hk
  go_loopg [34] (n + 1) (fun G s34 wr => ∃ i : Nat, i + G = n + 1 ∧ s34 = .int .i64 (i : Int) ∧ Aside (wr.heap[b.p]? = some (.cells #[.map (some b.mb), .int .i64 (b.made : Int)] 67 (0, 0)) ∧ (∃ es clock, wr.heap[b.mb]? = some (.map es clock) ∧ Ents es (dels b.L ((D ++ [a]).take i))) ∧ Upd b.F w wr ∧ OwnI wr (.slice a' (n + 1) c') (D ++ [a])))
  case atStart => exact ⟨0, by omega, rfl, aside ⟨HBk3.out.blk, HBk3.out.map, Upd.of_below hB3.out, hO3.out⟩⟩
  case round =>
    obtain ⟨i, hiG, rfl, hI⟩ := hrel
    obtain ⟨h1, ⟨es, clock, h2, h3⟩, h4, h5⟩ := hI.out
    by_cases hi : i < n + 1
    · have t1 : (i : Int) < (n : Int) + 1 := by omega
      obtain ⟨x, hx⟩ : ∃ x, (D ++ [a])[i]? = some x := ⟨_, List.getElem?_eq_getElem (by have := HN.out; simp; omega)⟩
      obtain ⟨gb, o, rfl, hc⟩ := h5.ns (by simp)
      have cx := hc i x hx
      obtain ⟨hwx, y, hy⟩ := HG.out.2.1 x (List.mem_of_getElem? hx)
      have hly : lk (dels b.L ((D ++ [a]).take i)) x = some y := by rw [lk_dels HND.out, if_neg (not_take HG.out.1 hx)]; exact hy
      obtain ⟨es', hdel, hE'⟩ := take_out h2 h3 hwx hly
      rw [← dels_snoc, ← take_snoc hx] at hE'
      have p0 : wr.cell? ⟨b.p, 0, none⟩ = some (.map (some b.mb)) := by rw [cell_of_row wr b.p 0 _ _ _ h1]; rfl
      have hpm : ¬ b.p = b.mb := HB.out.ne
      have hnew : Aside ((setBlock wr b.mb (.map es' clock)).heap[b.p]? = some (.cells #[.map (some b.mb), .int .i64 (b.made : Int)] 67 (0, 0)) ∧ (∃ es clock_1, (setBlock wr b.mb (.map es' clock)).heap[b.mb]? = some (.map es clock_1) ∧ Ents es (dels b.L ((D ++ [a]).take (i + 1)))) ∧ Upd b.F w (setBlock wr b.mb (.map es' clock)) ∧ OwnI (setBlock wr b.mb (.map es' clock)) (.slice (some ⟨gb, o, none⟩) (n + 1) c') (D ++ [a])) := by
        have hu : Upd (fun k => k = b.mb) wr (setBlock wr b.mb (.map es' clock)) := Upd.setBlock _ _ _ rfl
        refine aside ⟨heap_set_far h1 hpm, ⟨es', clock, heap_set_same h2, hE'⟩, h4.trans hu (fun j _ hj => .inr hj), h5.upd hu (fun j hj e => ?_)⟩
        have := hF3.out j hj; have := HB.out.lm; omega
      clear h1 h2 h3 h4 h5 hc hx hwx hy hly hE' hpm hI
      go_wp2
      go_roundg (n + 1 - (i + 1))
      case measure => omega
      case rel => exact ⟨i + 1, by omega, by go_num, hnew⟩
    · obtain rfl : i = n + 1 := by omega
      have HE := aside h3
      rw [List.take_of_length_le (by have := HN.out; simp; omega)] at HE
      have H1 := aside h1
      have H2 := aside h2
      have H4 := aside h4
      clear h1 h2 h3 h4 h5 hI hi
      go_wp2
      go_ret2
      refine ⟨?_, ⟨H1.out, ⟨es, clock, H2.out, HE.out⟩, HI.out⟩, rfl, rfl, H4.out⟩
      rw [← HN.out]
      rfl

/-- What Back tells, and the book behind it. -/
def backE (L : List Gr) (a : Int) : Nat := if a = 0 then 2 else if (lk L a).isSome then 0 else 6
def backN (L : List Gr) (made : Nat) (a : Int) : Nat := if backE L a = 0 then (belowL L made a).length + 1 else 0
def backL (L : List Gr) (made : Nat) (a : Int) : List Gr := if backE L a = 0 then dels L (belowL L made a ++ [a]) else L
theorem back_any (b : Bok) (a : Int) (w : World) (h : Bk w b) (hw : (Lit.int .i64 a).wf = true) :
    Calls Try.prog 9 #[pt b.p, .int .i64 a] w fun e w' => e = .returned (.tuple #[.int .i64 (backN b.L b.made a : Int), .int .i64 (backE b.L a : Int)]) ∧ NxB w w' b ⟨b.p, b.mb, b.made, backL b.L b.made a⟩ := by
  unfold backN backL
  by_cases h0 : a = 0
  · have hE : backE b.L a = 2 := by unfold backE; rw [if_pos h0]
    rw [hE, if_neg (by decide), if_neg (by decide)]
    subst h0
    refine (back_zero b w).mono ?_
    rintro e w' ⟨rfl, rfl⟩
    exact ⟨rfl, NxB.refl h⟩
  · cases hl : lk b.L a with
    | none =>
      have hE : backE b.L a = 6 := by unfold backE; rw [if_neg h0, hl]; rfl
      rw [hE, if_neg (by decide), if_neg (by decide)]
      refine (back_gone b a w h hw h0 hl).mono ?_
      rintro e w' ⟨rfl, hb⟩
      exact ⟨rfl, NxB.of_below h hb⟩
    | some g =>
      have hE : backE b.L a = 0 := by unfold backE; rw [if_neg h0, hl]; rfl
      rw [hE, if_pos rfl, if_pos rfl]
      exact back_ok b a w h hw h0 hl
end Go.Proofs.Ytleenkdlnmoepaa
