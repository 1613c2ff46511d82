/- A table that was made by the caller: its locks, and its calls. -/
import Derived.Test.YtfpegmmciphjiaaWait
import Derived.Test.YtfpegmmciphjiaaFree
namespace Go.Proofs.Ytfpegmmciphjiaa
open Go.RowKit

/-- At p lies a table that is newer than w0; H and W are its locks; nothing older has changed. -/
def St (w0 w : World) (p : Nat) (H W : List Lk) : Prop := Below w0.heap.size w0 w ∧ ∃ t : Tb, t.p = p ∧ t.H = H ∧ t.W = W ∧ Tab 55 w t ∧ ∀ k, t.F k → w0.heap.size ≤ k
theorem St.bl {w0 w : World} {p : Nat} {H W : List Lk} (h : St w0 w p H W) : Below w0.heap.size w0 w := h.1
theorem St.below {w0 w w' : World} {p : Nat} {H W : List Lk} (h : St w0 w p H W) (hb : Below w.heap.size w w') : St w0 w' p H W := by
  obtain ⟨h1, t, h2, h3, h4, h5, h6⟩ := h
  exact ⟨below_tr h1 hb, t, h2, h3, h4, h5.below hb, h6⟩
theorem St.rebase {w0 w1 w : World} {p : Nat} {H W : List Lk} (h : St w1 w p H W) (hb : Below w0.heap.size w0 w1) : St w0 w p H W := by
  obtain ⟨h1, t, h2, h3, h4, h5, h6⟩ := h
  exact ⟨below_tr hb h1, t, h2, h3, h4, h5, fun k hk => Nat.le_trans hb.size (h6 k hk)⟩
theorem st_next {w0 w w' : World} {t t' : Tb} (hb : Below w0.heap.size w0 w) (hF : ∀ k, t.F k → w0.heap.size ≤ k) (hn : Nx 55 w w' t t') : St w0 w' t.p t'.H t'.W :=
  ⟨hb.trans (hn.upd.below hb.size hF), t', hn.pp, rfl, rfl, hn.tab, fun k hk => (hn.grew k hk).elim (hF k) (fun h => Nat.le_trans hb.size h)⟩
theorem St.few {w0 w : World} {p : Nat} {H W : List Lk} (h : St w0 w p H W) : H.length + W.length ≤ 256 := by
  obtain ⟨-, t, -, rfl, rfl, h5, -⟩ := h
  exact h5.few

theorem new_st (w : World) : Calls Try.prog 9 #[] w fun e w' => ∃ p, e = .returned (.pointer (some ⟨p, 0, none⟩)) ∧ St w w' p [] [] ∧ w.heap.size ≤ p :=
  (new_any w).mono fun _ _ ⟨t, h1, h2, h3, h4, h5, h6⟩ => ⟨t.p, h1, ⟨h5, t, rfl, h3, h4, h2, h6⟩, h6 _ (.inl rfl)⟩
theorem try_st {w0 w : World} {p : Nat} {H W : List Lk} (l : Lk) (hl : InR l) (h : St w0 w p H W) :
    Calls Try.prog 11 #[.pointer (some ⟨p, 0, none⟩), .agg #[.int .i64 l.who, .int .i64 l.org, .int .i64 l.len, .bool l.sh]] w fun e w' => e = .returned (.int .i64 (tryE H W l : Nat)) ∧ St w0 w' p (tryH H W l) W := by
  obtain ⟨h1, t, rfl, rfl, rfl, h5, h6⟩ := h
  exact (try_any t l hl w h5).mono fun _ _ ⟨t', e1, e2, e3, e4⟩ => ⟨e1, by have := st_next h1 h6 e2; rw [e3, e4] at this; exact this⟩
theorem wait_st {w0 w : World} {p : Nat} {H W : List Lk} (l : Lk) (hl : InR l) (h : St w0 w p H W) (d : Bool) (hd : d = true ↔ dead H W l) :
    Calls Try.prog 13 #[.pointer (some ⟨p, 0, none⟩), .agg #[.int .i64 l.who, .int .i64 l.org, .int .i64 l.len, .bool l.sh]] w fun e w' => e = .returned (.tuple #[.bool (okOf (waitE H W l d)), .int .i64 (erOf (waitE H W l d) : Nat)]) ∧ St w0 w' p (waitH H W l d) (waitW H W l d) := by
  obtain ⟨h1, t, rfl, rfl, rfl, h5, h6⟩ := h
  refine (wait_any t l hl w h5).mono ?_
  rintro e w' ⟨d', t', e1, e2, e3, e4, e5⟩
  have hdd : d' = d := by
    have := e2.trans hd.symm
    cases d <;> cases d' <;> simp_all
  subst hdd
  exact ⟨e1, by have := st_next h1 h6 e3; rw [e4, e5] at this; exact this⟩
theorem ToldP.st {w0 w w' : World} {t : Tb} {r : List Lk × List Lk × List Lk} {v : Value} (h : ToldP 55 w w' t r v) (h1 : Below w0.heap.size w0 w) (h6 : ∀ k, t.F k → w0.heap.size ≤ k) : St w0 w' t.p r.1 r.2.1 ∧ Own w' v r.2.2 ∧ ∀ k, v.ownBlock = some k → w.heap.size ≤ k := by
  obtain ⟨t', e2, e3, e4, e5, e6⟩ := h
  refine ⟨by have := st_next h1 h6 e2; rw [e3, e4] at this; exact this, e5, fun k hk => (e6 k hk).1⟩
theorem free_st {w0 w : World} {p : Nat} {H W : List Lk} (l : Lk) (hl : InR l) (h : St w0 w p H W) :
    Calls Try.prog 15 #[.pointer (some ⟨p, 0, none⟩), .agg #[.int .i64 l.who, .int .i64 l.org, .int .i64 l.len, .bool l.sh]] w fun e w' => ∃ a c, e = .returned (.tuple #[.slice a (freeT H W l).2.2.length c, .int .i64 (freeE H l : Nat)]) ∧ St w0 w' p (freeT H W l).1 (freeT H W l).2.1 ∧ Own w' (.slice a (freeT H W l).2.2.length c) (freeT H W l).2.2 ∧ ∀ k, (Value.slice a (freeT H W l).2.2.length c).ownBlock = some k → w.heap.size ≤ k := by
  obtain ⟨h1, t, rfl, rfl, rfl, h5, h6⟩ := h
  refine (free_any t l hl w h5).mono ?_
  rintro e w' ⟨a, n, c, rfl, hT⟩
  obtain ⟨s1, s2, s3⟩ := hT.st h1 h6
  obtain ⟨a', c', he, -, -⟩ := own_slice s2
  simp only [Value.slice.injEq] at he
  obtain ⟨rfl, rfl, rfl⟩ := he
  exact ⟨a, c, rfl, s1, s2, s3⟩
theorem leave_st {w0 w : World} {p : Nat} {H W : List Lk} (who : Int) (h : St w0 w p H W) :
    Calls Try.prog 18 #[.pointer (some ⟨p, 0, none⟩), .int .i64 who] w fun e w' => ∃ a c, e = .returned (.slice a (leaveT H W who).2.2.length c) ∧ St w0 w' p (leaveT H W who).1 (leaveT H W who).2.1 ∧ Own w' (.slice a (leaveT H W who).2.2.length c) (leaveT H W who).2.2 ∧ ∀ k, (Value.slice a (leaveT H W who).2.2.length c).ownBlock = some k → w.heap.size ≤ k := by
  obtain ⟨h1, t, rfl, rfl, rfl, h5, h6⟩ := h
  refine (leave_any t who w h5).mono ?_
  rintro e w' ⟨a, n, c, rfl, hT⟩
  obtain ⟨s1, s2, s3⟩ := hT.st h1 h6
  obtain ⟨a', c', he, -, -⟩ := own_slice s2
  simp only [Value.slice.injEq] at he
  obtain ⟨rfl, rfl, rfl⟩ := he
  exact ⟨a, c, rfl, s1, s2, s3⟩
theorem held_st {w0 w : World} {p : Nat} {H W : List Lk} (h : St w0 w p H W) :
    Calls Try.prog 20 #[.pointer (some ⟨p, 0, none⟩)] w fun e w' => ∃ a c, e = .returned (.slice a H.length c) ∧ Own w' (.slice a H.length c) H ∧ Below w.heap.size w w' ∧ ∀ k, (Value.slice a H.length c).ownBlock = some k → w.heap.size ≤ k := by
  obtain ⟨h1, t, rfl, rfl, rfl, h5, h6⟩ := h
  refine (held_any t w h5).mono ?_
  rintro e w' ⟨v, rfl, ho, hb, hn⟩
  obtain ⟨a', c', rfl, -, -⟩ := own_slice ho
  exact ⟨a', c', rfl, ho, hb, hn⟩
theorem waits_st {w0 w : World} {p : Nat} {H W : List Lk} (h : St w0 w p H W) :
    Calls Try.prog 21 #[.pointer (some ⟨p, 0, none⟩)] w fun e w' => ∃ a c, e = .returned (.slice a W.length c) ∧ Own w' (.slice a W.length c) W ∧ Below w.heap.size w w' ∧ ∀ k, (Value.slice a W.length c).ownBlock = some k → w.heap.size ≤ k := by
  obtain ⟨h1, t, rfl, rfl, rfl, h5, h6⟩ := h
  refine (waits_any t w h5).mono ?_
  rintro e w' ⟨v, rfl, ho, hb, hn⟩
  obtain ⟨a', c', rfl, -, -⟩ := own_slice ho
  exact ⟨a', c', rfl, ho, hb, hn⟩

/-- No edge comes to l's who: no circle with it. -/
theorem no_dead {H W : List Lk} {l : Lk} (h : ((H ++ W).all fun y => (W ++ [l]).all fun x => !(meet x y) || decide (y.who ≠ l.who)) = true) : ¬ dead H W l := by
  intro t
  have key : ∀ a, ¬ E H (W ++ [l]) a l.who := by
    rintro a ⟨S, x, R, y, hs, hy, hm, -, hb⟩
    have hyW : y ∈ H ++ W := by
      rcases hy with hy | hy
      · exact List.mem_append_left _ hy
      · rcases snoc_split hs with ⟨R', h1, -⟩ | ⟨h1, -, -⟩
        · rw [h1]; simp [hy]
        · rw [h1]; simp [hy]
    have hx : x ∈ W ++ [l] := by rw [hs]; simp
    have := List.all_eq_true.1 (List.all_eq_true.1 h y hyW) x hx
    simp [hm, hb] at this
  unfold dead at t
  generalize l.who = o at *
  cases t with
  | single x => exact key _ x
  | tail _ x => exact key _ x
end Go.Proofs.Ytfpegmmciphjiaa
