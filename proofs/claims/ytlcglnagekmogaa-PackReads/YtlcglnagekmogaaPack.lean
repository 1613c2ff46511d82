/- pack.Pack: every argument. -/
import Derived.Test.YtlcglnagekmogaaPieces
namespace Go.Proofs.Ytlcglnagekmogaa
open Go.RowKit
attribute [local simp] lcells_nil readB_length bcells_length
set_option maxRecDepth 20000

/-- What Pack tells: the error's number, and the bytes beside it. -/
def pkE (l : List UInt8) : Int := if 65536 < l.length then 3 else 0
def pkB (l : List UInt8) : List UInt8 := if 65536 < l.length then [] else pck l
def PkR (w w' : World) (l : List UInt8) (e : Ending) : Prop :=
  ∃ a, e = .returned (.tuple #[.slice a (pkB l).length (pkB l).length, .int .i64 (pkE l)]) ∧ Ans w' w.heap.size a (pkB l)

set_option maxHeartbeats 4000000 in
theorem pack_any (a : Option Addr) (l : List UInt8) (c : Nat) (w : World) (h : BsAt w a l) (hlc : l.length ≤ c) (hc : c ≤ 9223372036854775807) :
    Calls Try.prog 11 #[.slice a l.length c] w fun e w' => PkR w w' l e ∧ Below w.heap.size w w' := by
  by_cases h4 : 65536 < l.length
  · have t1 : (65536 : Int) < (l.length : Int) := by omega
    have H1 : Aside (pkB l = []) := by unfold pkB; rw [if_pos h4]; exact aside rfl
    have H2 : Aside (pkE l = 3) := by unfold pkE; rw [if_pos h4]; exact aside rfl
    go_enter Try.func11, Try.ntmps11
    go_wp2_with fail
    go_ret2
    unfold PkR
    rw [H1.out, H2.out]
    exact ⟨⟨none, rfl, Ans.nil _ _ _⟩, Below.refl _ _⟩
  · have t1 : ¬ ((65536 : Int) < (l.length : Int)) := by omega
    have H1 : Aside (pkB l = pck l) := by unfold pkB; rw [if_neg h4]; exact aside rfl
    have H2 : Aside (pkE l = 0) := by unfold pkE; rw [if_neg h4]; exact aside rfl
    obtain ⟨R, hR⟩ : ∃ R, R = 4 + l.length + (l.length + 127) / 128 := ⟨_, rfl⟩
    have hP := pck_length l
    have hpl : (pck l).length = 4 + (pks l 0 0).length := by unfold pck; simp; omega
    have RM := aside (room_any l.length w (by omega))
    rw [← hR] at RM hP
    have hmk := make_bytes w R (by omega)
    obtain ⟨W1, hW1⟩ : ∃ W, W = w.alloc (.cells (bcells (List.replicate R 0)).toArray 5) := ⟨_, rfl⟩
    have hB1 : Below w.heap.size w W1 := by rw [hW1]; exact below_al w _
    have hr1 : RowB W1 w.heap.size (List.replicate R 0) := by rw [hW1]; exact heap_alloc_new w _
    have HD := aside (head_any l.length W1 (by omega))
    rw [← hW1] at hmk
    have HB1 := aside hB1
    have HR1 := aside hr1
    have HBS := aside h
    have hR4 : 4 ≤ R := by omega
    have hR2 : R ≤ 131072 := by omega
    have HPL := aside hpl
    have hsz1 : W1.heap.size = w.heap.size + 1 := by rw [hW1]; simp
    have HSZ := aside hsz1
    have hPR : (pck l).length ≤ R := by omega
    clear hB1 hr1 h hW1 hR hpl hP hsz1
    go_enter Try.func11, Try.ntmps11
    go_wp2_with fail
    refine RM.out.mono ?_
    rintro e w' ⟨rfl, rfl⟩
    go_wp2_with fail
    refine HD.out.mono ?_
    rintro e w2 ⟨rfl, hr4, hb2⟩
    have hr2 := HR1.out.below hb2
    have hcp : ∀ ty c1 c2, (Builtin.copy_ #[22, 22] ty #[.slice (some ⟨w'.heap.size, 0, none⟩) R c1, .slice (some ⟨W1.heap.size, 0, none⟩) 4 c2]).run Try.prog w2 = .ok (goInt 4) (w2.setRow w'.heap.size (bcells (splice (List.replicate R 0) 0 (four l.length))).toArray) := fun ty c1 c2 => by
      have := copy_row (dLen := R) (dCap := c1) (sLen := 4) (sCap := c2) ty hr2 (hr4.bs 0) (off := 0) (by simp [four]; omega) (by simp [four]; omega)
      rw [this]
      rfl
    have hr3 := hr2.set (l := splice (List.replicate R 0) 0 (four l.length))
    have hu3 : Upd (fun j => j = w'.heap.size) W1 (w2.setRow w'.heap.size (bcells (splice (List.replicate R 0) 0 (four l.length))).toArray) := (Upd.of_below hb2).trans (upd_setRow (F := fun j => j = w'.heap.size) w2 _ _ rfl) (fun _ _ h => h)
    have hB3 := upd_new HB1.out hu3
    obtain ⟨o, ho1, ho2, s1⟩ : ∃ o, (R ≠ 4 → o = 4) ∧ o + (R - 4) ≤ R ∧ ∀ W, (Instr.slice 22 (.slice (some ⟨w'.heap.size, 0, none⟩) R R) (some (.int .i64 4)) none none).run Try.prog W = .ok (.slice (some ⟨w'.heap.size, o, none⟩) (R - 4) (R - 4)) W := by
      refine ⟨if R = 4 then 0 else 4, fun h => if_neg h, by split <;> omega, fun W => ?_⟩
      rw [run_slice_l W 22 _ R R elem22 .i64 _ (by omega) (by omega), size22]
      simp only [Result.andThen, sliced]
      rw [show (4 : Int).toNat = 4 from rfl]
      by_cases h0 : R = 4
      · rw [if_pos h0, if_pos h0]
      · rw [if_neg h0, if_neg h0, Option.map_some, Addr.add_lit, Nat.mul_one, Nat.zero_add]
    obtain ⟨pl, hpl⟩ : ∃ pl, pl = (pck l).length := ⟨_, rfl⟩
    have s2 : ∀ W, (Instr.slice 22 (.slice (some ⟨w'.heap.size, 0, none⟩) R R) none (some (.int .i64 (pl : Int))) (some (.int .i64 (pl : Int)))).run Try.prog W = .ok (.slice (some ⟨w'.heap.size, 0, none⟩) pl pl) W := fun W => by
      rw [run_slice_hm W 22 _ R R elem22 .i64 .i64 _ _ (by omega) (by omega) (by omega), size22]
      simp only [Result.andThen, sliced, Int.toNat_natCast, Nat.zero_mul, Option.map_some, add_zero', ite_self, Nat.sub_zero]
    have hcl : (splice (List.replicate R (0 : UInt8)) 0 (four l.length)).length = R := by rw [splice_len (by simp [four]; omega), List.length_replicate]
    obtain ⟨W3, hW3⟩ : ∃ W, W = w2.setRow w'.heap.size (bcells (splice (List.replicate R 0) 0 (four l.length))).toArray := ⟨_, rfl⟩
    rw [← hW3] at hcp hr3 hB3
    have PP := aside (putPieces_any a l (splice (List.replicate R 0) 0 (four l.length)) c w'.heap.size o (R - 4) W3 hr3 (fun W hW => HBS.out.below (upd_new hB3 hW)) hlc hc (by omega) (by have := HPL.out; omega) (by omega) (by rw [hcl]; exact ho2))
    have HTK : Aside ((splice (splice (List.replicate R (0 : UInt8)) 0 (four l.length)) o (pks l 0 0)).take (pck l).length = pck l) := by
      have e0 : splice (List.replicate R (0 : UInt8)) 0 (four l.length) = four l.length ++ List.replicate (R - 4) 0 := by
        simp only [splice, List.take_zero, List.nil_append, Nat.zero_add, List.drop_replicate]
        rfl
      have e1 : pck l = four l.length ++ pks l 0 0 := rfl
      by_cases h0 : R = 4
      · have hz : pks l 0 0 = [] := List.eq_nil_of_length_eq_zero (by have := HPL.out; omega)
        rw [hz, splice_zero, e0, e1, hz, List.append_nil, List.take_left]
        exact aside rfl
      · rw [ho1 h0, e0]
        have := splice_end (told := four l.length) (rest := List.replicate (R - 4) 0) (cs := pks l 0 0)
        rw [show (four l.length).length = 4 from rfl] at this
        rw [this, ← e1, List.take_left]
        exact aside rfl
    have hpn : (4 : Int) + ((pks l 0 0).length : Nat) = (pl : Int) := by have := HPL.out; omega
    have HPLN := aside hpl
    have hplR : pl ≤ R := by omega
    have HB3 := aside hB3
    generalize (pks l 0 0).length = pn at *
    clear hB3 hr3 hu3 hr2 hb2 hr4 hpl hcl ho1 ho2
    go_wp2_with fail
    rw [← hW3]
    clear hW3
    refine PP.out.mono ?_
    rintro e w4 ⟨rfl, hr5, hu5⟩
    have HR5 := aside hr5
    have HB5 := aside (upd_new HB3.out hu5)
    clear hr5 hu5
    go_wp2_with fail
    go_ret2
    unfold PkR
    rw [H1.out, H2.out, ← HPLN.out]
    refine ⟨⟨_, rfl, fun _ => ⟨w'.heap.size, _, rfl, Nat.le_refl _, HR5.out, ?_, HTK.out⟩⟩, HB5.out⟩
    have := congrArg List.length HTK.out
    rw [List.length_take] at this
    omega
end Go.Proofs.Ytlcglnagekmogaa
