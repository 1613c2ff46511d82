/- pack.putRun, pack.putMatch: a piece is laid into a row. -/
import Derived.Test.YtlcglnagekmogaaLongest
namespace Go.Proofs.Ytlcglnagekmogaa
open Go.RowKit
attribute [local simp] lcells_nil readB_length bcells_length
set_option maxRecDepth 20000

theorem splice_zero (l : List UInt8) (o : Nat) : splice l o [] = l := by simp [splice]
theorem set_splice {l : List UInt8} {o : Nat} {x : UInt8} (h : o < l.length) : l.set o x = splice l o [x] := by
  simp only [splice, List.length_singleton]
  rw [List.set_eq_take_append_cons_drop, if_pos h]
  simp
theorem splice_splice {l : List UInt8} {o : Nat} {x : UInt8} {r : List UInt8} (h : o + 1 + r.length ≤ l.length) : splice (splice l o [x]) (o + 1) r = splice l o (x :: r) := by
  simp only [splice, List.length_cons, List.length_nil, Nat.zero_add]
  have e1 : (l.take o).length = o := by rw [List.length_take]; omega
  have e2 : (l.take o ++ ([x] ++ l.drop (o + 1))).take (o + 1) = l.take o ++ [x] := by
    rw [← List.append_assoc, List.take_append_of_le_length (by rw [List.length_append, e1]; simp), List.take_of_length_le (by rw [List.length_append, e1]; simp)]
  have e3 : (l.take o ++ ([x] ++ l.drop (o + 1))).drop (o + 1 + r.length) = l.drop (o + (r.length + 1)) := by
    rw [← List.append_assoc, List.drop_append, List.drop_of_length_le (by rw [List.length_append, e1]; simp), List.nil_append, List.length_append, e1, List.drop_drop]
    congr 1
    simp; omega
  rw [e2, e3]
  simp
theorem splice_len {l : List UInt8} {o : Nat} {r : List UInt8} (h : o + r.length ≤ l.length) : (splice l o r).length = l.length := by
  simp only [splice, List.length_append, List.length_take, List.length_drop]; omega
theorem bset (l : List UInt8) (o : Nat) (x : UInt8) : (bcells l).toArray.setIfInBounds o (.int .u8 (x.toNat : Nat)) = (bcells (l.set o x)).toArray := by
  rw [List.setIfInBounds_toArray]
  unfold bcells
  rw [List.map_set]
theorem row_setCell {W : World} {g o : Nat} {l : List UInt8} {x : UInt8} (h : RowB W g l) : W.setCell ⟨g, o, none⟩ (.int .u8 (x.toNat : Nat)) = W.setRow g (bcells (l.set o x)).toArray := by
  rw [setCell_eq_setRow W g o _ _ _ _ h, bset]

set_option maxHeartbeats 2000000 in
theorem putRun_any (ao a : Option Addr) (m mc c g o : Nat) (r cur : List UInt8) (w : World) (hrow : RowB w g cur) (hs : ∀ W, Upd (fun j => j = g) w W → BsAt W a r) (hr : r.length ≤ 128) (hao : r ≠ [] → ao = some ⟨g, o, none⟩ ∧ m ≤ mc ∧ o + m ≤ cur.length ∧ 1 + r.length ≤ m) :
    Calls Try.prog 46 #[.slice ao m mc, .slice a r.length c] w fun e w' => e = .returned (.int .i64 ((runs r).length : Nat)) ∧ RowB w' g (splice cur o (runs r)) ∧ Upd (fun j => j = g) w w' := by
  by_cases hn : r = []
  · subst hn
    have HR := aside hrow
    clear hs
    go_enter Try.func46, Try.ntmps46
    go_wp2_with fail
    go_ret
    rw [runs_nil, splice_zero]
    exact ⟨rfl, HR.out, Upd.refl _ _⟩
  · obtain ⟨rfl, hmc, hom, hrm⟩ := hao hn
    have hp := List.length_pos_iff.2 hn
    have HRU := aside (runs_short hn hr)
    obtain ⟨k, hk⟩ : ∃ k, k = r.length := ⟨_, rfl⟩
    obtain ⟨x, hx⟩ : ∃ x, x = UInt8.ofNat (k - 1) := ⟨_, rfl⟩
    have hxn : (x.toNat : Nat) = k - 1 := by rw [hx, UInt8.toNat_ofNat']; omega
    have hkx : ((k : Int) - 1) % 256 = ((x.toNat : Nat) : Int) := by omega
    have hkx' : IntKind.u8.wrap ((k : Int) - 1) = ((x.toNat : Nat) : Int) := by rw [← hkx]; simp [IntKind.wrap, IntKind.bits, IntKind.signed]
    have HXN := aside hxn
    clear hxn
    have z1 : w.frozen? ⟨g, o, none⟩ = false := frozen_of_row w g o _ _ hrow
    obtain ⟨y, hy⟩ : ∃ y, cur[o]? = some y := ⟨_, List.getElem?_eq_getElem (by omega)⟩
    have z0 := hrow.cell hy
    have hR1 : RowB (w.setCell ⟨g, o, none⟩ (.int .u8 (x.toNat : Nat))) g (splice cur o [x]) := by rw [row_setCell hrow, ← set_splice (by omega)]; exact hrow.set
    have hU1 : Upd (fun j => j = g) w (w.setCell ⟨g, o, none⟩ (.int .u8 (x.toNat : Nat))) := Upd.setCell (F := fun j => j = g) (p := ⟨g, o, none⟩) rfl _
    have hcp : ∀ ty c1 c2, (Builtin.copy_ #[22, 22] ty #[.slice (some ⟨g, o + 1, none⟩) (m - 1) c1, .slice a k c2]).run Try.prog (w.setCell ⟨g, o, none⟩ (.int .u8 (x.toNat : Nat))) = .ok (goInt k) ((w.setCell ⟨g, o, none⟩ (.int .u8 (x.toNat : Nat))).setRow g (bcells (splice cur o (x :: r))).toArray) := fun ty c1 c2 => by
      have := copy_row (dLen := m - 1) (dCap := c1) (sLen := k) (sCap := c2) ty hR1 (hs _ hU1) (off := o + 1) (by omega) (by rw [splice_len (by simp; omega)]; omega)
      rw [this, splice_splice (by omega), ← hk]
    have s1 : ∀ W, (Instr.slice 22 (.slice (some ⟨g, o, none⟩) m mc) (some (.int .i64 1)) none none).run Try.prog W = .ok (.slice (some ⟨g, o + 1, none⟩) (m - 1) (mc - 1)) W := fun W => by
      rw [run_slice_l W 22 _ m mc elem22 .i64 _ (by omega) (by omega), size22]
      simp only [Result.andThen, sliced]
      rw [show (1 : Int).toNat = 1 from rfl, if_neg (by omega), Option.map_some, Addr.add_lit, Nat.mul_one]
    have HR2 := aside (hR1.set (l := splice cur o (x :: r)))
    have HU2 : Aside (Upd (fun j => j = g) w ((w.setCell ⟨g, o, none⟩ (.int .u8 (x.toNat : Nat))).setRow g (bcells (splice cur o (x :: r))).toArray)) := hU1.trans (upd_setRow (F := fun j => j = g) _ g _ rfl) (fun _ _ h => h)
    have t1 : ¬ ((k : Int) = 0) := by omega
    have t2 : (0 : Int) < (m : Int) := by omega
    have t1' : ((k : Int) == 0) = false := by simp; omega
    have hk1 : 1 ≤ k := by omega
    have hk2 : k ≤ 128 := by omega
    have hk3 : k < m := by omega
    have HX := aside hx
    have HK := aside hk
    rw [← hk]
    clear hR1 hU1 hs hx hk hn hr hrm hp
    go_enter Try.func46, Try.ntmps46
    go_wp2_with fail
    go_ret
    have e1 : runs r = x :: r := by rw [HX.out, HK.out]; exact HRU.out
    rw [e1, List.length_cons, ← HK.out]
    exact ⟨by simp; omega, HR2.out, HU2.out⟩
end Go.Proofs.Ytlcglnagekmogaa
