/- SealOnce, walked. -/
import Derived.Test.YtbofeednhihniaaMade
namespace Go.Proofs.Ytbofeednhihniaa
open Go.RowKit

theorem nine (n : Int) : ∃ m : Nat, (wrap64 (n.tmod 9 + 9)).tmod 9 = (m : Int) ∧ m ≤ 8 := by
  have h1 : -9 < n.tmod 9 := Int.lt_tmod_of_pos n (by decide)
  have h3 : n.tmod 9 < 9 := Int.tmod_lt_of_pos n (by decide)
  have h2 : wrap64 (n.tmod 9 + 9) = n.tmod 9 + 9 := by
    unfold wrap64; omega
  rw [h2]
  have h4 : 0 ≤ (n.tmod 9 + 9).tmod 9 := Int.tmod_nonneg 9 (by omega)
  have h5 : (n.tmod 9 + 9).tmod 9 < 9 := Int.tmod_lt_of_pos _ (by decide)
  exact ⟨((n.tmod 9 + 9).tmod 9).toNat, by omega, by omega⟩

theorem bq (s u : ByteArray) : (s == u) = decide (s = u) := by
  cases s with | mk a =>
  cases u with | mk b =>
  show (a == b) = _
  by_cases h : a = b
  · subst h; simp
  · simp [h]
theorem bq_list (s u : ByteArray) : (s.toList == u.toList) = decide (s = u) := by
  rw [Lib.toList_data, Lib.toList_data]
  by_cases h : s = u
  · subst h; simp
  · have h2 : ¬ s.data = u.data := fun e => h (by cases s; cases u; simp_all)
    simp [h, h2]
theorem bq_both (s u : ByteArray) : ∃ r : Bool, (s.toList == u.toList) = r ∧ (s == u) = r ∧ (u == s) = r :=
  ⟨s == u, by rw [bq_list, bq], rfl, by rw [bq, bq]; by_cases h : s = u <;> simp [h, eq_comm]⟩

set_option maxRecDepth 20000 in
set_option maxHeartbeats 4000000 in
theorem sealOnce_walk (s u : ByteArray) (n : Int) (w : World) : Calls Try.prog 5 #[.string s, .string u, .int .i64 n] w fun e w' => e = .returned (.bool true) ∧ Below w.heap.size w w' := by
  have hnot : ∀ (x : Bool) (w : World), (Op.unary .not (.bool x)).run Try.prog w = .ok (.bool (!x)) w := fun _ _ => rfl
  have hpe := eql_han
  have hcv := fun (w : World) (s : ByteArray) => Lib.run_convert_string_bytes (P := Try.prog) w 9 40 5 s Try.underlying9 Try.underlying40 Try.underlying5
  by_cases hs : 16384 < (s.size : Int)
  · go_enter Try.func5, Try.ntmps5
    go_wp2_with fail
    refine (wakes_any w).mono ?_
    rintro e w1 ⟨rfl, b1⟩
    go_wp2
    go_ret
    exact ⟨rfl, b1⟩
  by_cases hu : 16384 < (u.size : Int)
  · go_enter Try.func5, Try.ntmps5
    go_wp2_with fail
    refine (wakes_any w).mono ?_
    rintro e w1 ⟨rfl, b1⟩
    go_wp2
    go_ret
    exact ⟨rfl, b1⟩
  obtain ⟨m, hm, hm8⟩ := nine n
  obtain ⟨z, hz⟩ : ∃ z : Nat, z = min s.size 99 := ⟨_, rfl⟩
  have HZ : Aside (min (s.size : Int) 99 = (z : Int)) := aside (by omega)
  have hzs : (z : Int) ≤ (s.size : Int) := by omega
  have hz9 : z ≤ 99 := by omega
  clear hz
  go_enter Try.func5, Try.ntmps5
  go_wp2_with fail
  refine (newB _ w).mono ?_
  rintro e w1 ⟨a, ka, sa, rfl, hA, b1, -, -, qa⟩
  have A1 := aside hA; have B1 := aside b1; have KA := aside ka; have QA := aside qa
  clear hA b1 ka sa qa
  go_wp2_with fail
  refine (plainB _ w1).mono ?_
  rintro e w2 ⟨p, kp, sp, rfl, hP, b2, -⟩
  have A2 := aside (A1.out.below b2); have P2 := aside hP; have B2 := aside (below_tr B1.out b2); have KP := aside kp; have SP := aside sp; have S2 := aside b2.size
  clear hP b2 kp sp A1 B1
  go_wp2_with fail
  refine (plainB _ w2).mono ?_
  rintro e w3 ⟨q, kq, sq, rfl, hQ, b3, -⟩
  have A3 := aside (A2.out.below b3); have P3 := aside (P2.out.below b3); have Q3 := aside hQ; have B3 := aside (below_tr B2.out b3); have KQ := aside kq; have SQ := aside sq; have S3 := aside (Nat.le_trans S2.out b3.size)
  clear hQ b3 kq sq A2 P2 B2 S2
  go_wp2_with fail
  refine (oddB _ w3).mono ?_
  rintro e w4 ⟨o, ko, so, rfl, hO, b4, -⟩
  have A4 := aside (A3.out.below b4); have P4 := aside (P3.out.below b4); have Q4 := aside (Q3.out.below b4); have O4 := aside hO; have B4 := aside (below_tr B3.out b4); have KO := aside ko; have S4 := aside (Nat.le_trans S3.out b4.size)
  clear hO b4 ko so A3 P3 Q3 B3 S3
  go_wp2_with ((with_reducible refine wpList_min2 _ rfl _ _ _ rfl (s.size : Int) 99 (z : Int) ?_ ?_ HZ.out ?_); rfl; rfl)
  have M4 := memStr15 (s.extract 0 z) w4 (by rw [show (s.extract 0 z).size = min z s.size by simp]; omega)
  rw [show (s.extract 0 z).size = min z s.size by simp] at M4
  refine M4.mono ?_
  rintro e w5 ⟨h, rfl, b5⟩
  have A5 := aside (A4.out.below b5); have P5 := aside (P4.out.below b5); have Q5 := aside (Q4.out.below b5); have O5 := aside (O4.out.below b5); have B5 := aside (below_tr B4.out b5); have S5 := aside (Nat.le_trans S4.out b5.size)
  clear b5 M4 A4 P4 Q4 O4 B4 S4
  go_wp2_with fail
  refine (seal_bx a h w5).mono ?_
  rintro e w6 ⟨x, rfl, hX, b6, -⟩
  have A6 := aside (A5.out.below b6); have P6 := aside (P5.out.below b6); have Q6 := aside (Q5.out.below b6); have O6 := aside (O5.out.below b6); have X6 := aside hX; have B6 := aside (below_tr B5.out b6); have S6 := aside (Nat.le_trans S5.out b6.size)
  clear hX b6 A5 P5 Q5 O5 B5 S5
  go_wp2
  go_loopg [14] m (fun G s14 wr => ∃ k : Nat, k + G = m ∧ s14 = .int .i64 (k : Int) ∧ Aside (Below w6.heap.size w6 wr))
  case atStart => exact ⟨0, by omega, rfl, aside (Below.refl _ _)⟩
  case round =>
    obtain ⟨k, hkG, rfl, hB⟩ := hrel
    rename World => wr
    have A7 := aside (A6.out.below hB.out); have P7 := aside (P6.out.below hB.out); have Q7 := aside (Q6.out.below hB.out); have O7 := aside (O6.out.below hB.out); have X7 := aside (X6.out.below hB.out); have B7 := aside (below_tr B6.out hB.out); have S7 := aside (Nat.le_trans S6.out hB.out.size)
    by_cases hk : k < m
    · have t1 : (k : Int) < (m : Int) := by omega
      go_wp2_with fail
      refine (newB _ _).mono ?_
      rintro e w8 ⟨y, ky, sy, rfl, hY, b8, -, qy, -⟩
      have A8 := aside (A7.out.below b8); have Y8 := aside hY; have X8 := aside (X7.out.below b8); have G8 := aside (below_tr hB.out b8)
      have M1 : Aside (sm a y = false) := sm_new KA.out ky (by have := QA.out; have := S7.out; omega)
      have M2 : Aside (sm y a = false) := sm_new ky KA.out (by have := QA.out; have := S7.out; omega)
      clear hY b8 ky sy qy A7 P7 Q7 O7 X7 B7 S7 hB
      go_wp2_with fail
      refine (open_no Y8.out A8.out X8.out M2.out).mono ?_
      rintro e w9 ⟨rfl, b9⟩
      have A9 := aside (A8.out.below b9); have Y9 := aside (Y8.out.below b9); have G9 := aside (below_tr G8.out b9)
      clear b9 A8 Y8 X8 G8
      go_wp2_with fail
      refine (same_r A9.out Y9.out M1.out).mono ?_
      rintro e w10 ⟨rfl, b10⟩
      have A10 := aside (A9.out.below b10); have Y10 := aside (Y9.out.below b10); have G10 := aside (below_tr G9.out b10)
      clear b10 A9 Y9 G9
      go_wp2_with fail
      refine (same_r Y10.out A10.out M2.out).mono ?_
      rintro e w11 ⟨rfl, b11⟩
      have G11 := aside (below_tr G10.out b11)
      clear b11 A10 Y10 G10
      go_wp2_with fail
      go_roundg (m - (k + 1))
      case measure => omega
      case rel => exact ⟨k + 1, by omega, by go_num, G11⟩
    · have t1 : ¬ ((k : Int) < (m : Int)) := by omega
      obtain ⟨r, e0, e1, e2⟩ := bq_both s u
      have M1 : Aside (sm p q = r) := by rw [sm_plain KP.out KQ.out, SP.out, SQ.out]; exact e1
      have M2 : Aside (sm q p = r) := by rw [sm_plain KQ.out KP.out, SP.out, SQ.out]; exact e2
      clear hB e1 e2 hkG hk
      go_wp2_with fail
      refine (open_yes A7.out A7.out X7.out (sm_self KA.out)).mono ?_
      rintro e w8 ⟨rfl, b8⟩
      have A8 := aside (A7.out.below b8); have P8 := aside (P7.out.below b8); have Q8 := aside (Q7.out.below b8); have O8 := aside (O7.out.below b8); have B8 := aside (below_tr B7.out b8)
      clear b8 A7 P7 Q7 O7 B7 X7 S7
      go_wp2_with fail
      refine (seal_bx p h w8).mono ?_
      rintro e w9 ⟨y, rfl, hX, b9, -⟩
      have A9 := aside (A8.out.below b9); have P9 := aside (P8.out.below b9); have Q9 := aside (Q8.out.below b9); have O9 := aside (O8.out.below b9); have B9 := aside (below_tr B8.out b9)
      have C9 := aside (open_any q p y h w9 Q9.out P9.out hX)
      rw [M2.out] at C9
      clear hX b9 A8 P8 Q8 O8 B8
      cases r
      · rw [opn_false, ope_false] at C9
        go_wp2_with fail
        refine C9.out.mono ?_
        rintro e w10 ⟨rfl, b10⟩
        have A10 := aside (A9.out.below b10); have P10 := aside (P9.out.below b10); have Q10 := aside (Q9.out.below b10); have O10 := aside (O9.out.below b10); have B10 := aside (below_tr B9.out b10)
        clear b10 C9 A9 P9 Q9 O9 B9
        go_wp2_with fail
        refine (same_r P10.out Q10.out M1.out).mono ?_
        rintro e w11 ⟨rfl, b11⟩
        have A11 := aside (A10.out.below b11); have P11 := aside (P10.out.below b11); have Q11 := aside (Q10.out.below b11); have O11 := aside (O10.out.below b11); have B11 := aside (below_tr B10.out b11)
        clear b11 A10 P10 Q10 O10 B10
        go_wp2_with fail
        refine (same_r Q11.out P11.out M2.out).mono ?_
        rintro e w12 ⟨rfl, b12⟩
        have A12 := aside (A11.out.below b12); have P12 := aside (P11.out.below b12); have O12 := aside (O11.out.below b12); have B12 := aside (below_tr B11.out b12)
        clear b12 A11 P11 Q11 O11 B11
        go_wp2_with fail
        refine (same_r O12.out O12.out (sm_oddL KO.out)).mono ?_
        rintro e w13 ⟨rfl, b13⟩
        have A13 := aside (A12.out.below b13); have P13 := aside (P12.out.below b13); have O13 := aside (O12.out.below b13); have B13 := aside (below_tr B12.out b13)
        clear b13 A12 P12 O12 B12
        go_wp2_with fail
        refine (oddB _ w13).mono ?_
        rintro e w14 ⟨o2, -, -, rfl, hO2, b14, -⟩
        have A14 := aside (A13.out.below b14); have P14 := aside (P13.out.below b14); have O14 := aside (O13.out.below b14); have R14 := aside hO2; have B14 := aside (below_tr B13.out b14)
        clear b14 hO2 A13 P13 O13 B13
        go_wp2_with fail
        refine (same_r O14.out R14.out (sm_oddL KO.out)).mono ?_
        rintro e w15 ⟨rfl, b15⟩
        have A15 := aside (A14.out.below b15); have P15 := aside (P14.out.below b15); have O15 := aside (O14.out.below b15); have B15 := aside (below_tr B14.out b15)
        clear b15 A14 P14 O14 R14 B14
        go_wp2_with fail
        refine (same_r O15.out P15.out (sm_oddL KO.out)).mono ?_
        rintro e w16 ⟨rfl, b16⟩
        have A16 := aside (A15.out.below b16); have P16 := aside (P15.out.below b16); have B16 := aside (below_tr B15.out b16)
        clear b16 A15 P15 O15 B15
        go_wp2_with fail
        refine (same_r A16.out P16.out (sm_unlike (by rw [KA.out, KP.out]; decide))).mono ?_
        rintro e w17 ⟨rfl, b17⟩
        have A17 := aside (A16.out.below b17); have P17 := aside (P16.out.below b17); have B17 := aside (below_tr B16.out b17)
        clear b17 A16 P16 B16
        go_wp2_with fail
        refine (same_r P17.out A17.out (sm_unlike (by rw [KA.out, KP.out]; decide))).mono ?_
        rintro e w18 ⟨rfl, b18⟩
        have B18 := aside (below_tr B17.out b18)
        clear b18 A17 P17 B17
        go_wp2_with fail
        refine (wakes_any w18).mono ?_
        rintro e w19 ⟨rfl, b19⟩
        have B19 := aside (below_tr B18.out b19)
        clear b19 B18
        go_wp2
        go_ret
        exact ⟨rfl, B19.out⟩
      · rw [opn_true, ope_true] at C9
        go_wp2_with fail
        refine C9.out.mono ?_
        rintro e w10 ⟨rfl, b10⟩
        have A10 := aside (A9.out.below b10); have P10 := aside (P9.out.below b10); have Q10 := aside (Q9.out.below b10); have O10 := aside (O9.out.below b10); have B10 := aside (below_tr B9.out b10)
        clear b10 C9 A9 P9 Q9 O9 B9
        go_wp2_with fail
        refine (same_r P10.out Q10.out M1.out).mono ?_
        rintro e w11 ⟨rfl, b11⟩
        have A11 := aside (A10.out.below b11); have P11 := aside (P10.out.below b11); have Q11 := aside (Q10.out.below b11); have O11 := aside (O10.out.below b11); have B11 := aside (below_tr B10.out b11)
        clear b11 A10 P10 Q10 O10 B10
        go_wp2_with fail
        refine (same_r Q11.out P11.out M2.out).mono ?_
        rintro e w12 ⟨rfl, b12⟩
        have A12 := aside (A11.out.below b12); have P12 := aside (P11.out.below b12); have O12 := aside (O11.out.below b12); have B12 := aside (below_tr B11.out b12)
        clear b12 A11 P11 Q11 O11 B11
        go_wp2_with fail
        refine (same_r O12.out O12.out (sm_oddL KO.out)).mono ?_
        rintro e w13 ⟨rfl, b13⟩
        have A13 := aside (A12.out.below b13); have P13 := aside (P12.out.below b13); have O13 := aside (O12.out.below b13); have B13 := aside (below_tr B12.out b13)
        clear b13 A12 P12 O12 B12
        go_wp2_with fail
        refine (oddB _ w13).mono ?_
        rintro e w14 ⟨o2, -, -, rfl, hO2, b14, -⟩
        have A14 := aside (A13.out.below b14); have P14 := aside (P13.out.below b14); have O14 := aside (O13.out.below b14); have R14 := aside hO2; have B14 := aside (below_tr B13.out b14)
        clear b14 hO2 A13 P13 O13 B13
        go_wp2_with fail
        refine (same_r O14.out R14.out (sm_oddL KO.out)).mono ?_
        rintro e w15 ⟨rfl, b15⟩
        have A15 := aside (A14.out.below b15); have P15 := aside (P14.out.below b15); have O15 := aside (O14.out.below b15); have B15 := aside (below_tr B14.out b15)
        clear b15 A14 P14 O14 R14 B14
        go_wp2_with fail
        refine (same_r O15.out P15.out (sm_oddL KO.out)).mono ?_
        rintro e w16 ⟨rfl, b16⟩
        have A16 := aside (A15.out.below b16); have P16 := aside (P15.out.below b16); have B16 := aside (below_tr B15.out b16)
        clear b16 A15 P15 O15 B15
        go_wp2_with fail
        refine (same_r A16.out P16.out (sm_unlike (by rw [KA.out, KP.out]; decide))).mono ?_
        rintro e w17 ⟨rfl, b17⟩
        have A17 := aside (A16.out.below b17); have P17 := aside (P16.out.below b17); have B17 := aside (below_tr B16.out b17)
        clear b17 A16 P16 B16
        go_wp2_with fail
        refine (same_r P17.out A17.out (sm_unlike (by rw [KA.out, KP.out]; decide))).mono ?_
        rintro e w18 ⟨rfl, b18⟩
        have B18 := aside (below_tr B17.out b18)
        clear b18 A17 P17 B17
        go_wp2_with fail
        refine (wakes_any w18).mono ?_
        rintro e w19 ⟨rfl, b19⟩
        have B19 := aside (below_tr B18.out b19)
        clear b19 B18
        go_wp2
        go_ret
        exact ⟨rfl, B19.out⟩
end Go.Proofs.Ytbofeednhihniaa
