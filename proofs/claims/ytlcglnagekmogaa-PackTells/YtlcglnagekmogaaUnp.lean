/- pack.Unpack: every argument. -/
import Derived.Test.YtlcglnagekmogaaTell
namespace Go.Proofs.Ytlcglnagekmogaa
open Go.RowKit
attribute [local simp] lcells_nil readB_length bcells_length
set_option maxRecDepth 20000

theorem hd_lt (l : List UInt8) : hd l < 4294967296 := by
  unfold hd
  have := byte_lt (l.getD 0 0)
  have := byte_lt (l.getD 1 0)
  have := byte_lt (l.getD 2 0)
  have := byte_lt (l.getD 3 0)
  omega

/-- An answer's bytes: where there are some, they begin a block of new memory. -/
def Ans (w' : World) (B : Nat) (a : Option Addr) (l : List UInt8) : Prop := l ≠ [] → ∃ g cur, a = some ⟨g, 0, none⟩ ∧ B ≤ g ∧ RowB w' g cur ∧ l.length ≤ cur.length ∧ cur.take l.length = l
theorem Ans.nil (w' : World) (B : Nat) (a : Option Addr) : Ans w' B a [] := fun h => absurd rfl h
theorem Ans.of_row {w' : World} {B g : Nat} {l : List UInt8} (h : RowB w' g l) (hg : B ≤ g) : Ans w' B (some ⟨g, 0, none⟩) l := fun _ => ⟨g, l, rfl, hg, h, Nat.le_refl _, List.take_length⟩
theorem Ans.bs {w' : World} {B : Nat} {a : Option Addr} {l : List UInt8} (h : Ans w' B a l) : BsAt w' a l := fun hl => by
  obtain ⟨g, cur, rfl, -, hr, hc, ht⟩ := h hl
  refine bs_of (o := 0) (fun j x hj => ?_) hl
  rw [Nat.zero_add]
  refine hr.cell ?_
  rw [← ht, List.getElem?_take] at hj
  split at hj
  · exact hj
  · cases hj
theorem Ans.upd {w w' : World} {F : Nat → Prop} {B : Nat} {a : Option Addr} {l : List UInt8} (h : Ans w B a l) (k : Upd F w w') (hF : ∀ j, B ≤ j → j < w.heap.size → ¬ F j) : Ans w' B a l := fun hl => by
  obtain ⟨g, cur, rfl, hg, hr, hc, ht⟩ := h hl
  exact ⟨g, cur, rfl, hg, hr.upd k (hF g hg hr.lt), hc, ht⟩
theorem Ans.below {w w' : World} {B : Nat} {a : Option Addr} {l : List UInt8} (h : Ans w B a l) (k : Below w.heap.size w w') : Ans w' B a l := h.upd (F := fun _ => False) (Upd.of_below k) (fun _ _ _ h => h)
theorem Ans.mono {w : World} {B C : Nat} {a : Option Addr} {l : List UInt8} (h : Ans w B a l) (hC : C ≤ B) : Ans w C a l := fun hl => by
  obtain ⟨g, cur, rfl, hg, hr⟩ := h hl
  exact ⟨g, cur, rfl, Nat.le_trans hC hg, hr⟩

/-- What Unpack answers: bytes in new memory, with no room behind them, and the error's number. -/
def UnR (w w' : World) (u : Un) (e : Ending) : Prop :=
  ∃ a, e = .returned (.tuple #[.slice a u.bs.length u.bs.length, .int .i64 u.err]) ∧ Ans w' w.heap.size a u.bs

set_option maxHeartbeats 2000000 in
theorem unpack_any (a : Option Addr) (l : List UInt8) (c : Nat) (w : World) (h : BsAt w a l) (hlc : l.length ≤ c) (hc : c ≤ 9223372036854775807) :
    Calls Try.prog 14 #[.slice a l.length c] w fun e w' => UnR w w' (unp l) e ∧ Below w.heap.size w w' := by
  by_cases h4 : l.length < 4
  · have t1 : (l.length : Int) < 4 := by omega
    have HU : Aside (unp l = .pack) := by unfold unp; rw [if_pos h4]; exact aside rfl
    go_enter Try.func14, Try.ntmps14
    go_wp2_with fail
    go_ret2
    rw [HU.out]
    exact ⟨⟨none, rfl, Ans.nil _ _ _⟩, Below.refl _ _⟩
  · have t1 : ¬ ((l.length : Int) < 4) := by omega
    have S1 := aside (said_any a l c w h (by omega))
    obtain ⟨a2, s2, hb2⟩ := slice_l a l c 4 (by omega) hlc
    rw [show ((4 : Nat) : Int) = 4 from rfl] at s2
    have hhl := hd_lt l
    by_cases h5 : 65536 < hd l
    · have t2 : (65536 : Int) < (hd l : Nat) := by omega
      have HU : Aside (unp l = .long) := by unfold unp; rw [if_neg h4, if_pos h5]; exact aside rfl
      generalize hd l = n at *
      go_enter Try.func14, Try.ntmps14
      go_wp2_with fail
      refine S1.out.mono ?_
      rintro e w1 ⟨rfl, hb1⟩
      have HB1 := aside hb1
      clear hb1
      go_wp2_with fail
      go_ret2
      rw [HU.out]
      exact ⟨⟨none, rfl, Ans.nil _ _ _⟩, HB1.out⟩
    · have t2 : ¬ ((65536 : Int) < (hd l : Nat)) := by omega
      have HU : Aside (unp l = match unpk (hd l) [] (l.drop 4) with | some l => .ok l | none => .pack) := by unfold unp; rw [if_neg h4, if_neg h5]; exact aside rfl
      have HLN : Aside (∀ t, unpk (hd l) [] (l.drop 4) = some t → t.length = hd l) := fun t ht => unpk_length ht
      have HBS := aside (hb2 w h)
      have hlc2 : (l.drop 4).length ≤ c - 4 := by rw [List.length_drop]; omega
      generalize hd l = n at *
      generalize l.drop 4 = l4 at *
      clear hb2
      go_enter Try.func14, Try.ntmps14
      go_wp2_with fail
      refine S1.out.mono ?_
      rintro e w1 ⟨rfl, hb1⟩
      have T1 := aside (tell_any a2 l4 (c - 4) n w1 (HBS.out.below hb1) hlc2 (by omega) (by omega))
      have HB1 := aside hb1
      clear hb1
      go_wp2_with fail
      refine T1.out.mono ?_
      rintro e w2 ⟨ht, hb2⟩
      have HB2 := aside (below_tr HB1.out hb2)
      clear hb2
      rcases ht with ⟨t, ht, rfl, hrow⟩ | ⟨ht, rfl⟩
      · have HR := aside hrow
        have HT := aside ht
        have hsz := aside HB1.out.size
        clear ht hrow
        go_wp2_with fail
        go_ret2
        have e1 := HU.out
        rw [HT.out] at e1
        rw [e1]
        have e2 := HLN.out t HT.out
        refine ⟨⟨_, by simp only [Un.ok, e2]; rfl, Ans.of_row HR.out hsz.out⟩, HB2.out⟩
      · have HT := aside ht
        clear ht
        go_wp2_with fail
        go_ret2
        have e1 := HU.out
        rw [HT.out] at e1
        rw [e1]
        exact ⟨⟨none, rfl, Ans.nil _ _ _⟩, HB2.out⟩
end Go.Proofs.Ytlcglnagekmogaa
