/- The program's table and the document's, beside each other. -/
import Derived.Test.YtfpegmmciphjiaaRefWait
import Derived.Test.YtfpegmmciphjiaaRefFree
import Derived.Test.YtfpegmmciphjiaaIs
import Derived.Test.YtfpegmmciphjiaaWakes
import Derived.Test.YtfpegmmciphjiaaStK
import Derived.Deep.RegionHeld3
namespace Go.Proofs.Ytfpegmmciphjiaa
open Go.RowKit

structure Two (w0 w : World) (t r : Tb) : Prop where
  bel : Below w0.heap.size w0 w
  tab : Tab 55 w t
  ref : Tab 43 w r
  nt : ∀ k, t.F k → w0.heap.size ≤ k
  nr : ∀ k, r.F k → w0.heap.size ≤ k
  ap : ∀ k, t.F k → ¬ r.F k
theorem Two.quiet {w0 w w' : World} {t r : Tb} (h : Two w0 w t r) (k : Below w.heap.size w w') : Two w0 w' t r :=
  ⟨below_tr h.bel k, h.tab.below k, h.ref.below k, h.nt, h.nr, h.ap⟩
theorem Two.upd {w0 w w' : World} {t r : Tb} {F : Nat → Prop} (h : Two w0 w t r) (u : Upd F w w') (hF : ∀ k, F k → w0.heap.size ≤ k ∧ ¬ t.F k ∧ ¬ r.F k) : Two w0 w' t r :=
  ⟨h.bel.trans (u.below h.bel.size (fun k hk => (hF k hk).1)), h.tab.kept u (fun k hk hf => (hF k hf).2.1 hk), h.ref.kept u (fun k hk hf => (hF k hf).2.2 hk), h.nt, h.nr, h.ap⟩
theorem Two.left {w0 w w' : World} {t t' r : Tb} (h : Two w0 w t r) (n : Nx 55 w w' t t') : Two w0 w' t' r :=
  ⟨h.bel.trans (n.upd.below h.bel.size h.nt), n.tab, h.ref.kept n.upd (fun k hk hf => h.ap k hf hk), fun k hk => (n.grew k hk).elim (h.nt k) (fun hs => Nat.le_trans h.bel.size hs), h.nr, fun k hk hf => (n.grew k hk).elim (fun hs => h.ap k hs hf) (fun hs => by have := h.ref.flt hf; omega)⟩
theorem Two.right {w0 w w' : World} {t r r' : Tb} (h : Two w0 w t r) (n : Nx 43 w w' r r') : Two w0 w' t r' :=
  ⟨h.bel.trans (n.upd.below h.bel.size h.nr), h.tab.kept n.upd (fun k hk hf => h.ap k hk hf), n.tab, h.nt, fun k hk => (n.grew k hk).elim (h.nr k) (fun hs => Nat.le_trans h.bel.size hs), fun k hk hf => (n.grew k hf).elim (fun hs => h.ap k hk hs) (fun hs => by have := h.tab.flt hk; omega)⟩

/-- Both tables hold the same locks. -/
structure Ali (w0 w : World) (p q : Nat) (H W : List Lk) (t r : Tb) : Prop where
  two : Two w0 w t r
  pp : t.p = p
  qq : r.p = q
  th : t.H = H
  tw : t.W = W
  rh : r.H = H
  rw : r.W = W
  inv : Inv H W

theorem Bx.nx {ty : TypeId} {w w' : World} {t t' : Tb} {b : Nat} {x y z : Int} {s : Bool} (h : Bx w b x y z s) (n : Nx ty w w' t t') (hb : ¬ t.F b) : Bx w' b x y z s := h.upd n.upd hb

section
variable {w0 w : World} {p q : Nat} {H W : List Lk} {t r : Tb} {b : Nat} {l : Lk}

theorem two_try1 (A : Ali w0 w p q H W t r) (hl : InR l) (B : Bx w b l.who l.org l.len l.sh) (hb : ¬ t.F b) :
    Calls Try.prog 11 #[.pointer (some ⟨p, 0, none⟩), l.val] w fun e w1 => e = .returned (.int .i64 (tryE H W l : Nat)) ∧ Bx w1 b l.who l.org l.len l.sh ∧ Aside (w.heap.size ≤ w1.heap.size ∧ ∃ t', Two w0 w1 t' r ∧ t'.p = p ∧ t'.H = tryH H W l ∧ t'.W = W) := by
  obtain ⟨A1, rfl, A3, rfl, rfl, A6, A7, A8⟩ := A
  refine (try_any t l hl w A1.tab).mono ?_
  rintro e w1 ⟨t', rfl, hn, h1, h2⟩
  exact ⟨rfl, B.nx hn hb, hn.upd.size, t', A1.left hn, hn.pp, h1, h2⟩
theorem two_try2 {w1 : World} {t' : Tb} (A : Ali w0 w p q H W t r) (hl : InR l) (h1 : Two w0 w1 t' r) (h2 : t'.p = p) (h3 : t'.H = tryH H W l) (h4 : t'.W = W) (B : Bx w1 b l.who l.org l.len l.sh) (hb : ¬ r.F b) :
    Calls Try.prog 12 #[.pointer (some ⟨q, 0, none⟩), l.val] w1 fun e w2 => e = .returned (.int .i64 (tryE H W l : Nat)) ∧ Bx w2 b l.who l.org l.len l.sh ∧ Aside (∃ H' W' t' r', Ali w0 w2 p q H' W' t' r') := by
  obtain ⟨A1, A2, rfl, A4, A5, rfl, rfl, A8⟩ := A
  refine (rTry_any r l hl w1 h1.ref).mono ?_
  rintro e w2 ⟨r', rfl, hn, g1, g2⟩
  exact ⟨rfl, B.nx hn hb, _, _, t', r', ⟨h1.right hn, h2, hn.pp, h3, h4, g1, g2, inv_try l A8⟩⟩

theorem two_wait1 (A : Ali w0 w p q H W t r) (hl : InR l) {d : Bool} (hd : d = true ↔ dead H W l) (B : Bx w b l.who l.org l.len l.sh) (hb : ¬ t.F b) :
    Calls Try.prog 13 #[.pointer (some ⟨p, 0, none⟩), l.val] w fun e w1 => e = .returned (.tuple #[.bool (okOf (waitE H W l d)), .int .i64 (erOf (waitE H W l d) : Nat)]) ∧ Bx w1 b l.who l.org l.len l.sh ∧ Aside (w.heap.size ≤ w1.heap.size ∧ ∃ t', Two w0 w1 t' r ∧ t'.p = p ∧ t'.H = waitH H W l d ∧ t'.W = waitW H W l d) := by
  obtain ⟨A1, rfl, A3, rfl, rfl, A6, A7, A8⟩ := A
  refine (wait_any t l hl w A1.tab).mono ?_
  rintro e w1 ⟨d', t', rfl, hd', hn, h1, h2⟩
  obtain rfl : d' = d := by cases d <;> cases d' <;> simp_all
  exact ⟨rfl, B.nx hn hb, hn.upd.size, t', A1.left hn, hn.pp, h1, h2⟩
theorem two_wait2 {w1 : World} {t' : Tb} (A : Ali w0 w p q H W t r) (hl : InR l) {d : Bool} (hd : d = true ↔ dead H W l) (h1 : Two w0 w1 t' r) (h2 : t'.p = p) (h3 : t'.H = waitH H W l d) (h4 : t'.W = waitW H W l d) :
    Calls Try.prog 14 #[.pointer (some ⟨q, 0, none⟩), l.val] w1 fun e w2 => e = .returned (.tuple #[.bool (okOf (waitE H W l d)), .int .i64 (erOf (waitE H W l d) : Nat)]) ∧ Aside (∃ H' W' t' r', Ali w0 w2 p q H' W' t' r') := by
  obtain ⟨A1, A2, rfl, A4, A5, rfl, rfl, A8⟩ := A
  refine (rWait_any r l hl w1 h1.ref A8.nc).mono ?_
  rintro e w2 ⟨d', r', rfl, hd', hn, g1, g2⟩
  obtain rfl : d' = d := by cases d <;> cases d' <;> simp_all
  exact ⟨rfl, _, _, t', r', ⟨h1.right hn, h2, hn.pp, h3, h4, g1, g2, inv_wait l d' hd A8⟩⟩

/-- What the program tells: locks in a row of its own. -/
def Tol (w0 w : World) (t r : Tb) (v : Value) (T : List Lk) : Prop := Own w v T ∧ ∀ k, v.ownBlock = some k → w0.heap.size ≤ k ∧ ¬ t.F k ∧ ¬ r.F k

theorem two_free1 (A : Ali w0 w p q H W t r) (hl : InR l) (B : Bx w b l.who l.org l.len l.sh) (hb : ¬ t.F b) {m : Nat} (hm : (freeT H W l).2.2.length = m) :
    Calls Try.prog 15 #[.pointer (some ⟨p, 0, none⟩), l.val] w fun e w1 => ∃ a c, e = .returned (.tuple #[.slice a m c, .int .i64 (freeE H l : Nat)]) ∧ Bx w1 b l.who l.org l.len l.sh ∧ Aside (w.heap.size ≤ w1.heap.size ∧ ∃ t', Two w0 w1 t' r ∧ t'.p = p ∧ t'.H = (freeT H W l).1 ∧ t'.W = (freeT H W l).2.1 ∧ Tol w0 w1 t' r (.slice a m c) (freeT H W l).2.2) := by
  subst hm
  obtain ⟨A1, rfl, A3, rfl, rfl, A6, A7, A8⟩ := A
  refine (free_any t l hl w A1.tab).mono ?_
  rintro e w1 ⟨a, n, c, rfl, t', hn, h1, h2, ho, hk⟩
  obtain ⟨a', c', he, -, -⟩ := own_slice ho
  simp only [Value.slice.injEq] at he
  obtain ⟨rfl, rfl, rfl⟩ := he
  exact ⟨a, c, rfl, B.nx hn hb, hn.upd.size, t', A1.left hn, hn.pp, h1, h2, ho, fun k hk2 => ⟨Nat.le_trans A1.bel.size (hk k hk2).1, (hk k hk2).2, fun hf => by have := A1.ref.flt hf; have := (hk k hk2).1; omega⟩⟩
theorem two_free2 {w1 : World} {t' : Tb} {v : Value} (A : Ali w0 w p q H W t r) (hl : InR l) (h1 : Two w0 w1 t' r) (h2 : t'.p = p) (h3 : t'.H = (freeT H W l).1) (h4 : t'.W = (freeT H W l).2.1) (h5 : Tol w0 w1 t' r v (freeT H W l).2.2) {m : Nat} (hm : (freeT H W l).2.2.length = m) :
    Calls Try.prog 16 #[.pointer (some ⟨q, 0, none⟩), l.val] w1 fun e w2 => ∃ a c, e = .returned (.tuple #[.slice a m c, .int .i64 (freeE H l : Nat)]) ∧ Aside (∃ H' W' t' r', Ali w0 w2 p q H' W' t' r' ∧ Tol w0 w2 t' r' v (freeT H W l).2.2 ∧ LsAt w2 a (freeT H W l).2.2) := by
  subst hm
  obtain ⟨A1, A2, rfl, A4, A5, rfl, rfl, A8⟩ := A
  refine (rFree_any r l hl w1 h1.ref).mono ?_
  rintro e w2 ⟨a, n, c, rfl, r', hn, g1, g2, ho, hk⟩
  obtain ⟨a', c', he, -, -, hls⟩ := ho.tel
  simp only [Value.slice.injEq] at he
  obtain ⟨rfl, rfl, rfl⟩ := he
  refine ⟨a, c, rfl, _, _, t', r', ⟨h1.right hn, h2, hn.pp, h3, h4, g1, g2, inv_free l A8⟩, ⟨hn.upd.row h5.1 (fun k hk2 => (h5.2 k hk2).2.2), fun k hk2 => ⟨(h5.2 k hk2).1, (h5.2 k hk2).2.1, fun hf => (hn.grew k hf).elim (h5.2 k hk2).2.2 (fun hs => by have := (World.ownsRow.lt h5.1 k hk2).2; omega)⟩⟩, hls⟩

theorem two_leave1 (A : Ali w0 w p q H W t r) (who : Int) (B : Bx w b l.who l.org l.len l.sh) (hb : ¬ t.F b) {m : Nat} (hm : (leaveT H W who).2.2.length = m) :
    Calls Try.prog 18 #[.pointer (some ⟨p, 0, none⟩), .int .i64 who] w fun e w1 => ∃ a c, e = .returned (.slice a m c) ∧ Bx w1 b l.who l.org l.len l.sh ∧ Aside ((∀ k, (Value.slice a m c).ownBlock = some k → w.heap.size ≤ k) ∧ ∃ t', Two w0 w1 t' r ∧ t'.p = p ∧ t'.H = (leaveT H W who).1 ∧ t'.W = (leaveT H W who).2.1 ∧ Tol w0 w1 t' r (.slice a m c) (leaveT H W who).2.2) := by
  subst hm
  obtain ⟨A1, rfl, A3, rfl, rfl, A6, A7, A8⟩ := A
  refine (leave_any t who w A1.tab).mono ?_
  rintro e w1 ⟨a, n, c, rfl, t', hn, h1, h2, ho, hk⟩
  obtain ⟨a', c', he, -, -⟩ := own_slice ho
  simp only [Value.slice.injEq] at he
  obtain ⟨rfl, rfl, rfl⟩ := he
  exact ⟨a, c, rfl, B.nx hn hb, fun k hk2 => (hk k hk2).1, t', A1.left hn, hn.pp, h1, h2, ho, fun k hk2 => ⟨Nat.le_trans A1.bel.size (hk k hk2).1, (hk k hk2).2, fun hf => by have := A1.ref.flt hf; have := (hk k hk2).1; omega⟩⟩
theorem two_leave2 {w1 : World} {t' : Tb} {v : Value} (A : Ali w0 w p q H W t r) (who : Int) (B : Bx w1 b l.who l.org l.len l.sh) (hb : ¬ r.F b) (h1 : Two w0 w1 t' r) (h2 : t'.p = p) (h3 : t'.H = (leaveT H W who).1) (h4 : t'.W = (leaveT H W who).2.1) (h5 : Tol w0 w1 t' r v (leaveT H W who).2.2) {m : Nat} (hm : (leaveT H W who).2.2.length = m) :
    Calls Try.prog 19 #[.pointer (some ⟨q, 0, none⟩), .int .i64 who] w1 fun e w2 => ∃ a c, e = .returned (.slice a m c) ∧ Bx w2 b l.who l.org l.len l.sh ∧ Aside (∃ H' W' t' r', Ali w0 w2 p q H' W' t' r' ∧ Tol w0 w2 t' r' v (leaveT H W who).2.2 ∧ LsAt w2 a (leaveT H W who).2.2) := by
  subst hm
  obtain ⟨A1, A2, rfl, A4, A5, rfl, rfl, A8⟩ := A
  refine (rLeave_any r who w1 h1.ref).mono ?_
  rintro e w2 ⟨a, n, c, rfl, r', hn, g1, g2, ho, hk⟩
  obtain ⟨a', c', he, -, -, hls⟩ := ho.tel
  simp only [Value.slice.injEq] at he
  obtain ⟨rfl, rfl, rfl⟩ := he
  refine ⟨a, c, rfl, B.nx hn hb, _, _, t', r', ⟨h1.right hn, h2, hn.pp, h3, h4, g1, g2, inv_leave who A8⟩, ⟨hn.upd.row h5.1 (fun k hk2 => (h5.2 k hk2).2.2), fun k hk2 => ⟨(h5.2 k hk2).1, (h5.2 k hk2).2.1, fun hf => (hn.grew k hf).elim (h5.2 k hk2).2.2 (fun hs => by have := (World.ownsRow.lt h5.1 k hk2).2; omega)⟩⟩, hls⟩

/-- is: what is told is read, written over and grown: both tables stay. -/
theorem two_is (A : Ali w0 w p q H W t r) {a b' : Option Addr} {m c c' : Nat} {T : List Lk} (hT : Tol w0 w t r (.slice a m c) T) (hL : LsAt w b' T) (hm : T.length = m) (hn : m ≤ 1000) :
    Calls Try.prog 17 #[.slice a m c, .slice b' m c'] w fun e w' => e = .returned (.bool true) ∧ Aside (Upd (fun k => (Value.slice a m c).ownBlock = some k) w w' ∧ Ali w0 w' p q H W t r) := by
  refine (is_any (.slice a m c) b' T m c' w hT.1 hL hm hn).mono ?_
  rintro e w' ⟨rfl, hu⟩
  exact ⟨rfl, hu, { A with two := A.two.upd hu hT.2 }⟩

theorem two_held (A : Ali w0 w p q H W t r) {m : Nat} (hm : H.length = m) :
    Calls Try.prog 20 #[.pointer (some ⟨p, 0, none⟩)] w fun e w' => ∃ a c, e = .returned (.slice a m c) ∧ Aside (Ali w0 w' p q H W t r ∧ Tol w0 w' t r (.slice a m c) H) := by
  subst hm
  have hA := A
  obtain ⟨A1, rfl, A3, rfl, rfl, A6, A7, A8⟩ := A
  refine (held_any t w A1.tab).mono ?_
  rintro e w' ⟨v', rfl, ho, hb, hk⟩
  obtain ⟨a, c, rfl, -, -⟩ := own_slice ho
  exact ⟨a, c, rfl, { hA with two := A1.quiet hb }, ho, fun k hk2 => ⟨Nat.le_trans A1.bel.size (hk k hk2), fun hf => by have := A1.tab.flt hf; have := hk k hk2; omega, fun hf => by have := A1.ref.flt hf; have := hk k hk2; omega⟩⟩
theorem two_waits (A : Ali w0 w p q H W t r) {m : Nat} (hm : W.length = m) :
    Calls Try.prog 21 #[.pointer (some ⟨p, 0, none⟩)] w fun e w' => ∃ a c, e = .returned (.slice a m c) ∧ Aside (Ali w0 w' p q H W t r ∧ Tol w0 w' t r (.slice a m c) W) := by
  subst hm
  have hA := A
  obtain ⟨A1, rfl, A3, rfl, rfl, A6, A7, A8⟩ := A
  refine (waits_any t w A1.tab).mono ?_
  rintro e w' ⟨v', rfl, ho, hb, hk⟩
  obtain ⟨a, c, rfl, -, -⟩ := own_slice ho
  exact ⟨a, c, rfl, { hA with two := A1.quiet hb }, ho, fun k hk2 => ⟨Nat.le_trans A1.bel.size (hk k hk2), fun hf => by have := A1.tab.flt hf; have := hk k hk2; omega, fun hf => by have := A1.ref.flt hf; have := hk k hk2; omega⟩⟩

/-- The document's rows, as they stand in its cells. -/
structure Rv (r : Tb) (ha : Option Addr) (nH hc : Nat) (wa : Option Addr) (nW wc : Nat) : Prop where
  h : r.hv = .slice ha nH hc
  w : r.wv = .slice wa nW wc
theorem Ali.rv (A : Ali w0 w p q H W t r) : ∃ ha hc wa wc, Rv r ha H.length hc wa W.length wc := by
  obtain ⟨ha, hc, h1, -, -, -⟩ := A.two.ref.oh.tel
  obtain ⟨wa, wc, h2, -, -, -⟩ := A.two.ref.ow.tel
  rw [A.rh] at h1
  rw [A.rw] at h2
  exact ⟨ha, hc, wa, wc, h1, h2⟩
theorem Ali.c0 {ha wa : Option Addr} {nH hc nW wc : Nat} (A : Ali w0 w p q H W t r) (R : Rv r ha nH hc wa nW wc) : w.cell? ⟨q, 0, none⟩ = some (.slice ha nH hc) := by
  rw [← A.qq, ← R.h]; exact A.two.ref.c0
theorem Ali.c1 {ha wa : Option Addr} {nH hc nW wc : Nat} (A : Ali w0 w p q H W t r) (R : Rv r ha nH hc wa nW wc) : w.cell? ⟨q, 1, none⟩ = some (.slice wa nW wc) := by
  rw [← A.qq, ← R.w]; exact A.two.ref.c1
theorem Ali.lh {ha wa : Option Addr} {nH hc nW wc : Nat} (A : Ali w0 w p q H W t r) (R : Rv r ha nH hc wa nW wc) : LsAt w ha H := by
  obtain ⟨a, c, h1, -, -, h2⟩ := A.two.ref.oh.tel
  rw [R.h] at h1
  injection h1 with h1
  rw [h1, ← A.rh]; exact h2
theorem Ali.lw {ha wa : Option Addr} {nH hc nW wc : Nat} (A : Ali w0 w p q H W t r) (R : Rv r ha nH hc wa nW wc) : LsAt w wa W := by
  obtain ⟨a, c, h1, -, -, h2⟩ := A.two.ref.ow.tel
  rw [R.w] at h1
  injection h1 with h1
  rw [h1, ← A.rw]; exact h2
theorem Ali.quiet {w' : World} (A : Ali w0 w p q H W t r) (k : Below w.heap.size w w') : Ali w0 w' p q H W t r := { A with two := A.two.quiet k }
theorem Ali.far (A : Ali w0 w p q H W t r) {k : Nat} (hk : w.heap.size ≤ k) : ¬ t.F k ∧ ¬ r.F k := ⟨fun hf => by have := A.two.tab.flt hf; omega, fun hf => by have := A.two.ref.flt hf; omega⟩
end

theorem on_told {H W : List Lk} : (onF H [] [] W).2.2.length ≤ W.length := by
  have hp := onF_p W H [] []
  have := hp.len
  simp at this
  omega
theorem free_few {H W : List Lk} (l : Lk) (h : Inv H W) : (freeT H W l).2.2.length ≤ 1000 := by
  have h1 := h.few
  unfold freeT
  split
  · have := on_told (H := freeH H l) (W := W); omega
  · simp
theorem leave_few {H W : List Lk} (who : Int) (h : Inv H W) : (leaveT H W who).2.2.length ≤ 1000 := by
  have h1 := h.few
  unfold leaveT
  have h2 := on_told (H := gone H who) (W := gone W who)
  have h3 : (gone W who).length ≤ W.length := List.length_filter_le _ _
  omega
end Go.Proofs.Ytfpegmmciphjiaa
