/- Leave, Free. -/
import Derived.Test.YtfpegmmciphjiaaOn
import Derived.Test.YtfpegmmciphjiaaEql
namespace Go.Proofs.Ytfpegmmciphjiaa
open Go.RowKit

/-- What a call that lets the table go on leaves, and tells. -/
def ToldP (ty : TypeId) (w w' : World) (t : Tb) (r : List Lk × List Lk × List Lk) (v : Value) : Prop :=
  ∃ t', Nx ty w w' t t' ∧ t'.H = r.1 ∧ t'.W = r.2.1 ∧ Own w' v r.2.2 ∧ ∀ k, v.ownBlock = some k → w.heap.size ≤ k ∧ ¬ t'.F k
theorem ToldP.after {ty : TypeId} {w w1 w' : World} {t t1 : Tb} {r : List Lk × List Lk × List Lk} {v : Value} (h : ToldP ty w1 w' t1 r v) (hn : Nx ty w w1 t t1) : ToldP ty w w' t r v := by
  obtain ⟨t', h1, h2, h3, h4, h5⟩ := h
  exact ⟨t', hn.trans h1, h2, h3, h4, fun k hk => ⟨by have := (h5 k hk).1; have := hn.upd.size; omega, (h5 k hk).2⟩⟩
theorem goOn_told (t : Tb) (w : World) (h : Tab 55 w t) :
    Calls Try.prog 34 #[.pointer (some ⟨t.p, 0, none⟩)] w fun e w' => ∃ a n c, e = .returned (.slice a n c) ∧ ToldP 55 w w' t (onF t.H [] [] t.W) (.slice a n c) :=
  (goOn_any t w h).mono fun _ _ ⟨t', a, n, c, h1, h2, h3, h4, h5, h6⟩ => ⟨a, n, c, h1, t', h2, h3, h4, h5, h6⟩
theorem gone_sub (L : List Lk) (who : Int) : (gone L who).Sublist L := List.filter_sublist

/-- One of the two rows of a table is turned by a callee, and laid back: what is known then. -/
structure Turn (c : Nat) (w w1 W : World) (t t1 : Tb) (a1 : Option Addr) (n1 c1 : Nat) (x0 x1 : Value) : Prop where
  eq : W = w1.setCell ⟨t.p, c, none⟩ (.slice a1 n1 c1)
  nx : Nx 55 w W t t1
  y0 : w1.cell? ⟨t.p, 0, none⟩ = some x0
  y1 : w1.cell? ⟨t.p, 1, none⟩ = some x1
  f : w1.frozen? ⟨t.p, c, none⟩ = false

theorem turn_held {w w1 : World} {t : Tb} {a1 : Option Addr} {n1 c1 : Nat} {H' : List Lk} (h : Tab 55 w t) (ho : Own w1 (.slice a1 n1 c1) H') (hu : Upd (fun k => t.hv.ownBlock = some k) w w1) (hb : ∀ k, (Value.slice a1 n1 c1).ownBlock = some k → t.hv.ownBlock = some k ∨ w.heap.size ≤ k) (hs : H'.Sublist t.H) :
    Turn 0 w w1 (w1.setCell ⟨t.p, 0, none⟩ (.slice a1 n1 c1)) t ⟨t.p, .slice a1 n1 c1, t.wv, H', t.W⟩ a1 n1 c1 t.hv t.wv :=
  ⟨rfl, nx_held h ho hu hb (fun x hx => h.mh x (hs.subset hx)) (by have := hs.length_le; have := h.few; omega), hu.cell h.c0 h.nh, hu.cell h.c1 h.nh, (World.frozen?_of_block (hu.block t.p h.lt h.nh)).trans (h.f0 0)⟩
theorem turn_waits {w w1 : World} {t : Tb} {a1 : Option Addr} {n1 c1 : Nat} {W' : List Lk} (h : Tab 55 w t) (ho : Own w1 (.slice a1 n1 c1) W') (hu : Upd (fun k => t.wv.ownBlock = some k) w w1) (hb : ∀ k, (Value.slice a1 n1 c1).ownBlock = some k → t.wv.ownBlock = some k ∨ w.heap.size ≤ k) (hs : W'.Sublist t.W) :
    Turn 1 w w1 (w1.setCell ⟨t.p, 1, none⟩ (.slice a1 n1 c1)) t ⟨t.p, t.hv, .slice a1 n1 c1, t.H, W'⟩ a1 n1 c1 t.hv t.wv :=
  ⟨rfl, nx_waits h ho hu hb (fun x hx => h.mw x (hs.subset hx)) (by have := hs.length_le; have := h.few; omega), hu.cell h.c0 h.nw, hu.cell h.c1 h.nw, (World.frozen?_of_block (hu.block t.p h.lt h.nw)).trans (h.f0 1)⟩

theorem leave_held (t : Tb) (who : Int) (w : World) (h : Tab 55 w t) : Calls Try.prog 38 #[t.hv, .int .i64 who] w fun e w1 => ∃ a1 n1 c1 W, e = .returned (.slice a1 n1 c1) ∧ Turn 0 w w1 W t ⟨t.p, .slice a1 n1 c1, t.wv, gone t.H who, t.W⟩ a1 n1 c1 t.hv t.wv :=
  (withoutWho_any t.hv t.H who w h.oh (by have := h.few; omega)).mono fun _ _ ⟨a1, n1, c1, he, ho, hu, hb⟩ => ⟨a1, n1, c1, _, he, turn_held h ho hu hb (gone_sub _ _)⟩
theorem leave_waits (t : Tb) (who : Int) (w : World) (h : Tab 55 w t) : Calls Try.prog 38 #[t.wv, .int .i64 who] w fun e w1 => ∃ a1 n1 c1 W, e = .returned (.slice a1 n1 c1) ∧ Turn 1 w w1 W t ⟨t.p, t.hv, .slice a1 n1 c1, t.H, gone t.W who⟩ a1 n1 c1 t.hv t.wv :=
  (withoutWho_any t.wv t.W who w h.ow (by have := h.few; omega)).mono fun _ _ ⟨a1, n1, c1, he, ho, hu, hb⟩ => ⟨a1, n1, c1, _, he, turn_waits h ho hu hb (gone_sub _ _)⟩

set_option maxHeartbeats 2000000 in
theorem leave_any (t : Tb) (who : Int) (w : World) (h : Tab 55 w t) :
    Calls Try.prog 18 #[.pointer (some ⟨t.p, 0, none⟩), .int .i64 who] w fun e w' => ∃ a n c, e = .returned (.slice a n c) ∧ ToldP 55 w w' t (leaveT t.H t.W who) (.slice a n c) := by
  have C1 := aside (leave_held t who w h)
  obtain ⟨ha, hc, hhv, -, -, -⟩ := h.oh.tel
  obtain ⟨wa, wc, hwv, -, -, -⟩ := h.ow.tel
  have c0 := h.c0
  rw [hhv] at c0
  rw [hhv, hwv] at C1
  generalize t.H.length = nH at *
  generalize t.W.length = nW at *
  clear hhv hwv h
  go_enter Try.func18, Try.ntmps18
  go_wp2_with (first
    | (go_at_call 38; with_reducible refine C1.out.mono ?_; rintro e w1 ⟨a1, n1, c1, W1, rfl, ht⟩; have y0 := ht.y0; have y1 := ht.y1; have yf := ht.f; have HE1 := aside ht.eq; have HN1 := aside ht.nx; have C2 := aside (leave_waits _ who W1 ht.nx.tab); simp only at C2; rw [HE1.out] at C2; clear ht)
    | (go_at_call 38; with_reducible refine C2.out.mono ?_; rintro e w2 ⟨a2, n2, c2, W2, rfl, ht⟩; have z0 := ht.y0; have z1 := ht.y1; have zf := ht.f; simp only at z0 z1 zf; have HE2 := aside ht.eq; have HN2 := aside ht.nx; have C3 := aside (goOn_told _ W2 ht.nx.tab); simp only at C3; rw [HE2.out] at C3; clear ht)
    | (go_at_call 34; with_reducible refine C3.out.mono ?_; rintro e w3 ⟨a3, n3, c3, rfl, ht⟩; have HT3 := aside ht; clear ht))
  go_ret
  refine ⟨a3, n3, c3, rfl, ?_⟩
  have h3 := HT3.out
  rw [← HE1.out] at HN2
  rw [← HE2.out] at h3
  exact h3.after (HN1.out.trans HN2.out)
end Go.Proofs.Ytfpegmmciphjiaa
