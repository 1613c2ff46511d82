/- PackTells: the walk. -/
import Derived.Test.YtlcglnagekmogaaKeptW
namespace Go.Proofs.Ytlcglnagekmogaa
open Go.RowKit
attribute [local simp] lcells_nil readB_length bcells_length
set_option maxRecDepth 20000

theorem un_len (l : List UInt8) : (unp l).bs.length ≤ 65536 := by
  rcases unp_cases l with e | e | ⟨x, e⟩
  · rw [e]; exact Nat.zero_le _
  · rw [e]; exact Nat.zero_le _
  · have := (unp_whole e).1
    rw [e]; exact this
theorem pk_len (l : List UInt8) : (pkB l).length ≤ 131072 := by
  unfold pkB
  split
  · simp
  · have := pck_length l; omega
theorem tells_pack (l : List UInt8) : Tells 11 l (pkB l) (pkE l) := fun W a c h hlc hc => pack_any a l c W h hlc hc
theorem tells_unp (l : List UInt8) : Tells 14 l (unp l).bs (unp l).err := fun W a c h hlc hc => unpack_any a l c W h hlc hc

set_option maxHeartbeats 8000000 in
theorem packTells_walk (a : Option Addr) (l : List UInt8) (c : Nat) (w : World) (h : BsAt w a l) (hlc : l.length ≤ c) :
    Calls Try.prog 3 #[.slice a l.length c] w fun e w' => e = .returned (.bool true) ∧ Below w.heap.size w w' := by
  have HBS := aside h
  clear h
  go_enter Try.func3, Try.ntmps3
  go_wp2_with fail
  refine (works_any w).mono ?_
  rintro e w1 ⟨rfl, hb1⟩
  have HB1 := aside hb1
  have HBS1 := aside (HBS.out.below hb1)
  clear hb1 HBS
  by_cases h20 : 1048576 < l.length
  · have t1 : (1048576 : Int) < (l.length : Int) := by omega
    go_wp2_with fail
    refine (works_any w1).mono ?_
    rintro e w2 ⟨rfl, hb2⟩
    have HB2 := aside (below_tr HB1.out hb2)
    clear hb2
    go_wp2_with fail
    go_ret
    exact ⟨rfl, HB2.out⟩
  · have t1 : ¬ ((1048576 : Int) < (l.length : Int)) := by omega
    have hl : l.length ≤ 1048576 := by omega
    have K1 := aside (kept_any 11 (fun args w => by kernel_rfl) l (pkB l) (pkE l) (tells_pack l) a c w1 HBS1.out hlc hl (by have := pk_len l; omega))
    have R1 := aside (fun (W : World) (hW : BsAt W a l) => refPack_any a l c W hW hlc)
    have K2 := aside (fun (W : World) (hW : BsAt W a l) => kept_any 14 (fun args w => by kernel_rfl) l (unp l).bs (unp l).err (tells_unp l) a c W hW hlc hl (by have := un_len l; omega))
    have R2 := aside (fun (W : World) (hW : BsAt W a l) => refUnpack_any a l c W hW hlc hl)
    unfold RUnR at R2
    generalize pkB l = B1 at *
    generalize pkE l = E1 at *
    generalize (unp l).bs = B2 at *
    generalize (unp l).err = E2 at *
    go_wp2_with fail
    refine K1.out.mono ?_
    rintro e w2 ⟨a2, rfl, h2, hb2⟩
    have HX2 := aside h2
    have HB2 := aside (below_tr HB1.out hb2)
    have HBS2 := aside (HBS1.out.below hb2)
    clear h2 hb2 K1
    go_wp2_with fail
    refine (R1.out w2 HBS2.out).mono ?_
    rintro e w3 ⟨a3, c3, rfl, h3, hb3⟩
    have Q1 := aside (equal_same a2 a3 B1 B1.length c3 w3 (HX2.out.below hb3) h3)
    have HB3 := aside (below_tr HB2.out hb3)
    have HBS3 := aside (HBS2.out.below hb3)
    clear h3 hb3 R1
    go_wp2_with fail
    refine Q1.out.mono ?_
    rintro e w' ⟨rfl, rfl⟩
    go_wp2_with fail
    refine (K2.out w' HBS3.out).mono ?_
    rintro e w4 ⟨a4, rfl, h4, hb4⟩
    have HX4 := aside h4
    have HB4 := aside (below_tr HB3.out hb4)
    have HBS4 := aside (HBS3.out.below hb4)
    clear h4 hb4 K2
    go_wp2_with fail
    refine (R2.out w4 HBS4.out).mono ?_
    rintro e w5 ⟨⟨a5, c5, rfl, h5⟩, hb5⟩
    have Q2 := aside (equal_same a4 a5 B2 B2.length c5 w5 (HX4.out.below hb5) h5)
    have HB5 := aside (below_tr HB4.out hb5)
    clear h5 hb5 R2
    go_wp2_with fail
    refine Q2.out.mono ?_
    rintro e w' ⟨rfl, rfl⟩
    go_wp2_with fail
    go_ret
    exact ⟨rfl, HB5.out⟩
end Go.Proofs.Ytlcglnagekmogaa
