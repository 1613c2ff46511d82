/- wakes: what the document says of a few brands holds of this program. -/
import Derived.Test.YtbofeednhihniaaBd
import Derived.Test.YtbofeednhihniaaMem
namespace Go.Proofs.Ytbofeednhihniaa
open Go.RowKit
attribute [local simp] bcells_length

theorem sm_self {a : Bd} (h : a.k = 0) : sm a a = true := by simp [sm, h]
theorem sm_new {a b : Bd} (ha : a.k = 0) (hb : b.k = 0) (h : ¬ a.q = b.q) : sm a b = false := by simp [sm, ha, hb, h]
theorem sm_plain {a b : Bd} (ha : a.k = 1) (hb : b.k = 1) : sm a b = (a.s == b.s) := by simp [sm, ha, hb]
theorem sm_oddL {a b : Bd} (h : a.k = 2) : sm a b = false := by simp [sm, h]
theorem sm_unlike {a b : Bd} (h : ¬ a.k = b.k) : sm a b = false := by
  unfold sm
  rw [if_neg (by omega), if_neg (by omega)]
theorem opn_true (h : Nat) : opn true h = .pointer (some ⟨h, 0, none⟩) := rfl
theorem opn_false (h : Nat) : opn false h = .pointer none := rfl
theorem ope_true : ope true = 0 := rfl
theorem ope_false : ope false = 160 := rfl
theorem siz36 : (Try.prog.info? 82).isSome = true := by kernel_rfl
theorem eql_han (h : Nat) (w : World) : (binOp .eql 36 (.pointer (some ⟨h, 0, none⟩)) (.pointer (some ⟨h, 0, none⟩))).run Try.prog w = .ok (.bool true) w := by
  obtain ⟨j, hj⟩ := Option.isSome_iff_exists.1 siz36
  exact run_eql_ptr_same w ⟨h, 0, none⟩ Try.underlying36 hj

/-- Same, its answer known. -/
theorem same_r {a b : Bd} {w : World} {r : Bool} (ha : Br w a) (hb : Br w b) (h : sm a b = r) :
    Calls Try.prog 13 #[.pointer (some ⟨a.p, 0, none⟩), .pointer (some ⟨b.p, 0, none⟩)] w fun e w' => e = .returned (.bool r) ∧ Below w.heap.size w w' := by
  rw [← h]; exact same_any a b w ha hb
theorem open_yes {a b : Bd} {x h : Nat} {w : World} (ha : Br w a) (hb : Br w b) (hx : Bx w x b h) (hs : sm a b = true) :
    Calls Try.prog 12 #[.pointer (some ⟨a.p, 0, none⟩), .pointer (some ⟨x, 0, none⟩)] w fun e w' => e = .returned (.tuple #[.pointer (some ⟨h, 0, none⟩), .int .i64 0]) ∧ Below w.heap.size w w' := by
  have := open_any a b x h w ha hb hx
  rw [hs, opn_true, ope_true] at this
  exact this
theorem open_no {a b : Bd} {x h : Nat} {w : World} (ha : Br w a) (hb : Br w b) (hx : Bx w x b h) (hs : sm a b = false) :
    Calls Try.prog 12 #[.pointer (some ⟨a.p, 0, none⟩), .pointer (some ⟨x, 0, none⟩)] w fun e w' => e = .returned (.tuple #[.pointer none, .int .i64 160]) ∧ Below w.heap.size w w' := by
  have := open_any a b x h w ha hb hx
  rw [hs, opn_false, ope_false] at this
  exact this

theorem beq_a : ((⟨#[97]⟩ : ByteArray) == ⟨#[97]⟩) = true := by decide
theorem beq_ab : ((⟨#[97]⟩ : ByteArray) == ⟨#[98]⟩) = false := by decide

set_option maxRecDepth 20000 in
set_option maxHeartbeats 4000000 in
theorem wakes_any (w : World) : Calls Try.prog 7 #[] w fun e w' => e = .returned (.bool true) ∧ Below w.heap.size w w' := by
  have hcv := fun (w : World) (C : Array Value) (n c : Nat) => Lib.run_convert_bytes_const (P := Try.prog) w 40 5 C n c Try.underlying40 Try.underlying5
  have hpe := eql_han
  have hnot : ∀ (x : Bool) (w : World), (Op.unary .not (.bool x)).run Try.prog w = .ok (.bool (!x)) w := fun _ _ => rfl
  go_enter Try.func7, Try.ntmps7
  go_wp2_with fail
  refine (newB _ w).mono ?_
  rintro e w1 ⟨a, ka, sa, rfl, hA, b1, -, -, qa⟩
  have A1 := aside hA; have B1 := aside b1; have KA := aside ka; have QA := aside qa
  clear hA b1 ka sa qa
  go_wp2_with fail
  refine (plainB _ w1).mono ?_
  rintro e w2 ⟨p, kp, sp, rfl, hP, b2, -⟩
  have A2 := aside (A1.out.below b2); have P2 := aside hP; have B2 := aside (below_tr B1.out b2); have KP := aside kp; have SP := aside sp; have S2 := aside b2.size
  clear hP b2 kp sp A1 B1
  go_wp2_with fail
  refine (oddB _ w2).mono ?_
  rintro e w3 ⟨o, ko, so, rfl, hO, b3, -⟩
  have A3 := aside (A2.out.below b3); have P3 := aside (P2.out.below b3); have O3 := aside hO; have B3 := aside (below_tr B2.out b3); have KO := aside ko; have S3 := aside (Nat.le_trans S2.out b3.size)
  clear hO b3 ko so A2 P2 B2 S2
  go_wp2_with fail
  refine (memRow0 w3.heap.size [120] 1 _ _ (by decide) (by decide) (by decide) (heap_alloc_new w3 _)).mono ?_
  rintro e w4 ⟨h, rfl, b4⟩
  have b4' := below_tr (below_al w3 _) b4
  have A4 := aside (A3.out.below b4'); have P4 := aside (P3.out.below b4'); have O4 := aside (O3.out.below b4'); have B4 := aside (below_tr B3.out b4'); have S4 := aside (Nat.le_trans S3.out b4'.size)
  clear b4 b4' A3 P3 O3 B3 S3
  go_wp2_with fail
  refine (plainB _ w4).mono ?_
  rintro e w5 ⟨p', kp', sp', rfl, hP', b5, -⟩
  have A5 := aside (A4.out.below b5); have P5 := aside (P4.out.below b5); have O5 := aside (O4.out.below b5); have R5 := aside hP'; have B5 := aside (below_tr B4.out b5); have S5 := aside (Nat.le_trans S4.out b5.size)
  have M5 : Aside (sm p' p = true) := by rw [sm_plain kp' KP.out, sp', SP.out]; exact beq_a
  clear hP' b5 kp' sp' A4 P4 O4 B4 S4
  go_wp2_with fail
  refine (seal_bx p h w5).mono ?_
  rintro e w6 ⟨x, rfl, hX, b6, -⟩
  have A6 := aside (A5.out.below b6); have P6 := aside (P5.out.below b6); have O6 := aside (O5.out.below b6); have R6 := aside (R5.out.below b6); have X6 := aside hX; have B6 := aside (below_tr B5.out b6); have S6 := aside (Nat.le_trans S5.out b6.size)
  clear hX b6 A5 P5 O5 R5 B5 S5
  go_wp2_with fail
  refine (open_yes R6.out P6.out X6.out M5.out).mono ?_
  rintro e w7 ⟨rfl, b7⟩
  have A7 := aside (A6.out.below b7); have P7 := aside (P6.out.below b7); have O7 := aside (O6.out.below b7); have B7 := aside (below_tr B6.out b7); have S7 := aside (Nat.le_trans S6.out b7.size)
  clear b7 A6 P6 O6 R6 X6 B6 S6 M5
  go_wp2_with fail
  refine (seal_bx o h w7).mono ?_
  rintro e w8 ⟨y, rfl, hX, b8, -⟩
  have A8 := aside (A7.out.below b8); have P8 := aside (P7.out.below b8); have O8 := aside (O7.out.below b8); have X8 := aside hX; have B8 := aside (below_tr B7.out b8); have S8 := aside (Nat.le_trans S7.out b8.size)
  clear hX b8 A7 P7 O7 B7 S7
  go_wp2_with fail
  refine (open_no O8.out O8.out X8.out (sm_oddL KO.out)).mono ?_
  rintro e w9 ⟨rfl, b9⟩
  have A9 := aside (A8.out.below b9); have P9 := aside (P8.out.below b9); have O9 := aside (O8.out.below b9); have B9 := aside (below_tr B8.out b9); have S9 := aside (Nat.le_trans S8.out b9.size)
  clear b9 A8 P8 O8 X8 B8 S8
  go_wp2_with fail
  refine (seal_bx p h w9).mono ?_
  rintro e w10 ⟨z, rfl, hX, b10, -⟩
  have A10 := aside (A9.out.below b10); have P10 := aside (P9.out.below b10); have O10 := aside (O9.out.below b10); have X10 := aside hX; have B10 := aside (below_tr B9.out b10); have S10 := aside (Nat.le_trans S9.out b10.size)
  clear hX b10 A9 P9 O9 B9 S9
  go_wp2_with fail
  refine (open_no A10.out P10.out X10.out (sm_unlike (by rw [KA.out, KP.out]; decide))).mono ?_
  rintro e w11 ⟨rfl, b11⟩
  have A11 := aside (A10.out.below b11); have P11 := aside (P10.out.below b11); have O11 := aside (O10.out.below b11); have B11 := aside (below_tr B10.out b11); have S11 := aside (Nat.le_trans S10.out b11.size)
  clear b11 A10 P10 O10 X10 B10 S10
  go_wp2_with fail
  refine (same_r A11.out A11.out (sm_self KA.out)).mono ?_
  rintro e w12 ⟨rfl, b12⟩
  have A12 := aside (A11.out.below b12); have P12 := aside (P11.out.below b12); have O12 := aside (O11.out.below b12); have B12 := aside (below_tr B11.out b12); have S12 := aside (Nat.le_trans S11.out b12.size)
  clear b12 A11 P11 O11 B11 S11
  go_wp2_with fail
  refine (newB _ w12).mono ?_
  rintro e w13 ⟨c, kc, -, rfl, hC, b13, -, qc, -⟩
  have A13 := aside (A12.out.below b13); have P13 := aside (P12.out.below b13); have O13 := aside (O12.out.below b13); have C13 := aside hC; have B13 := aside (below_tr B12.out b13)
  have M13 : Aside (sm a c = false) := sm_new KA.out kc (by have := QA.out; have := S12.out; omega)
  clear hC b13 kc qc A12 P12 O12 B12 S12
  go_wp2_with fail
  refine (same_r A13.out C13.out M13.out).mono ?_
  rintro e w14 ⟨rfl, b14⟩
  have P14 := aside (P13.out.below b14); have O14 := aside (O13.out.below b14); have B14 := aside (below_tr B13.out b14)
  clear b14 A13 P13 O13 B13 C13 M13
  go_wp2_with fail
  refine (plainB _ w14).mono ?_
  rintro e w15 ⟨d, kd, sd, rfl, hD, b15, -⟩
  have P15 := aside (P14.out.below b15); have O15 := aside (O14.out.below b15); have D15 := aside hD; have B15 := aside (below_tr B14.out b15)
  have M15 : Aside (sm p d = false) := by rw [sm_plain KP.out kd, sd, SP.out]; exact beq_ab
  clear hD b15 kd sd P14 O14 B14
  go_wp2_with fail
  refine (same_r P15.out D15.out M15.out).mono ?_
  rintro e w16 ⟨rfl, b16⟩
  have O16 := aside (O15.out.below b16); have B16 := aside (below_tr B15.out b16)
  clear b16 P15 O15 B15 D15 M15
  go_wp2_with fail
  refine (same_r O16.out O16.out (sm_oddL KO.out)).mono ?_
  rintro e w17 ⟨rfl, b17⟩
  have B17 := aside (below_tr B16.out b17)
  clear b17
  go_wp2
  go_ret
  exact ⟨rfl, B17.out⟩
end Go.Proofs.Ytbofeednhihniaa
