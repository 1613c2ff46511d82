/- Files of memory of any bytes; what pack and memory read of a file, whole; New of a file of packed bytes; All of what it tells. -/
import Derived.Test.YtlcglnagekmogaaRdB
import Derived.Test.YtlcglnagekmogaaRefRun
namespace Go.Proofs.Ytlcglnagekmogaa
open Go.RowKit
attribute [local simp] lcells_nil readB_length bcells_length

def RdR (w w' : World) (P : List UInt8) (e : Ending) : Prop := ∃ a c, e = .returned (.tuple #[.slice a P.length c, .int .i64 0]) ∧ P.length ≤ c ∧ c ≤ maxLen ∧ BsAt w' a P ∧ Below w.heap.size w w'

theorem readB_one (g cap : Nat) (l : List UInt8) (x k : Nat) (h : x + k ≤ l.length) : readB [⟨0, g, cap, l⟩] x k = (l.drop x).take k := by
  apply List.ext_getElem
  · rw [readB_length, List.length_take, List.length_drop]; omega
  · intro i h1 h2
    rw [readB_length] at h1
    simp only [readB, List.getElem_map, List.getElem_range, List.getElem_take, List.getElem_drop, byteAt]
    rw [if_pos (by unfold Piece.fin; simp only; omega)]
    simp only [Nat.sub_zero]
    rw [List.getD_eq_getElem?_getD, List.getElem?_eq_getElem (by omega)]
    rfl

set_option maxRecDepth 20000 in
set_option maxHeartbeats 1000000 in
theorem memNewP (src : Addr) (l : List UInt8) (w : World) (h0 : 0 < l.length) (hl : l.length ≤ 131072) (hsrc : BsAt w (some src) l) :
    Calls Try.prog 16 #[.slice (some src) l.length l.length, .int .u8 0] w fun e w' => ∃ hb fb m b lv g cap, e = .returned (.tuple #[.pointer (some ⟨hb, 0, none⟩), .int .i64 0]) ∧ All0 w' hb fb ⟨m, 0, none⟩ ∧ Fil w' m b ∧ Rep w' b l.length lv [⟨0, g, cap, l⟩] ∧ Below w.heap.size w w' := by
  obtain ⟨ad, he, hc⟩ := hsrc (List.length_pos_iff.1 h0)
  obtain rfl : src = ad := by simpa using he
  have N1 := new_any src l l.length w h0 (Nat.le_refl _) (by omega) hc
  rw [List.take_of_length_le (by omega)] at N1
  have HN := aside N1
  clear N1 hc hsrc he
  go_enter Try.func16, Try.ntmps16
  go_wp2_with fail
  refine HN.out.mono ?_
  rintro e w1 ⟨rfl, lv, g, cap, hR, hb1, -⟩
  have HR := aside hR
  have HB := aside hb1
  clear hR hb1
  go_wp2_with fail
  refine (of_none w.heap.size w1).mono ?_
  rintro e w2 ⟨hb, fb, m, rfl, -, -, -, h4, h5, hb2⟩
  have H4 := aside h4
  have H5 := aside h5
  have HB2 := aside hb2
  clear h4 h5 hb2
  go_wp2_with fail
  go_ret2
  exact ⟨hb, fb, m, w.heap.size, lv, g, cap, rfl, H4.out, H5.out, HR.out.below HB2.out, below_tr HB.out HB2.out⟩

/-- A read of a file of memory, its bytes as a list. -/
theorem memRead (m b : Nat) (lv : Value) (g cap : Nat) (P : List UInt8) (x n : Nat) (w : World) (hF : Fil w m b) (hR : Rep w b P.length lv [⟨0, g, cap, P⟩]) (hx : x < P.length) (hn : n ≤ 65536) (hn0 : 0 < n) (hxn : x + n ≤ P.length) :
    Calls Try.prog 118 #[.pointer (some ⟨m, 0, none⟩), .int .i64 (x : Int), .int .i64 (n : Int)] w fun e w' => ∃ a c, e = .returned (.tuple #[.slice (some a) ((P.drop x).take n).length c, .int .i64 0]) ∧ ((P.drop x).take n).length ≤ c ∧ BsAt w' (some a) ((P.drop x).take n) ∧ Below w.heap.size w w' := by
  refine (fRead_any m b P.length lv [⟨0, g, cap, P⟩] x n w hF hR hx hn hn0).mono ?_
  rintro e w' ⟨k, hk, rfl, hrow, hb⟩
  obtain rfl : k = n := by omega
  rw [readB_one g cap P x k hxn] at hrow
  have hl : ((P.drop x).take k).length = k := by rw [List.length_take, List.length_drop]; omega
  rw [hl]
  exact ⟨_, _, rfl, Nat.le_refl _, bs_row hrow, hb⟩

set_option maxRecDepth 20000 in
set_option maxHeartbeats 4000000 in
theorem packRead_any (hb fb m b : Nat) (lv : Value) (g cap : Nat) (P : List UInt8) (w : World) (h : All0 w hb fb ⟨m, 0, none⟩) (hF : Fil w m b) (hR : Rep w b P.length lv [⟨0, g, cap, P⟩]) (hP : P.length ≤ 131072) :
    Calls Try.prog 34 #[.iface 126 (.pointer (some ⟨fb, 0, none⟩)), .int .i64 (P.length : Nat)] w fun e w' => RdR w w' P e := by
  have H := aside h
  have HF := aside hF
  have HR := aside hR
  clear h hF hR
  go_enter Try.func34, Try.ntmps34
  go_wp2_with fail
  go_loopw [6] (fun s6 wr => ∃ (ao : Option Addr) (co k : Nat), s6 = .slice ao k co ∧ k ≤ P.length ∧ Aside (Grw w wr (.slice ao k co) (P.take k))) (fun s6 _ => P.length - lenV s6)
  case atStart => exact ⟨none, 0, 0, rfl, Nat.zero_le _, aside ⟨own_none w, Below.refl _ _, fun k hk => by simp [Value.ownBlock] at hk⟩⟩
  case round =>
    obtain ⟨ao, co, k, rfl, hk, hG⟩ := hrel
    by_cases hlt : k < P.length
    · have t1 : (k : Int) < (P.length : Int) := by omega
      obtain ⟨n, hn⟩ : ∃ n, n = min (P.length - k) 65536 := ⟨_, rfl⟩
      have m1 : min ((P.length : Int) - (k : Int)) 65536 = (n : Int) := by omega
      have hKl : ((P.drop k).take n).length = n := by rw [List.length_take, List.length_drop]; omega
      have hm := meth0_ReadAt wr fb ⟨m, 0, none⟩ (H.out.below hG.out.below).c0
      have RD := aside (memRead m b lv g cap P k n wr (HF.out.below hG.out.below) (HR.out.below hG.out.below) hlt (by omega) (by omega) (by omega))
      have htk : P.take k ++ (P.drop k).take n = P.take (k + n) := by rw [List.take_add]
      have HTK := aside htk
      have HM1 := aside m1
      have HKL := aside hKl
      have hn1 : 0 < n := by omega
      have hn2 : n ≤ 65536 := by omega
      have hkn : k + n ≤ P.length := by omega
      have m2 : min (n : Int) (n : Int) = (n : Int) := by omega
      have HM2 := aside m2
      generalize (P.drop k).take n = K at *
      clear hn m1 htk m2
      go_wp2_with ((with_reducible refine wpList_min2 _ rfl _ _ _ rfl ((P.length : Int) - (k : Int)) 65536 (n : Int) ?_ ?_ HM1.out ?_); rfl; rfl)
      refine RD.out.mono ?_
      rintro e w1 ⟨a1, c1, rfl, hc1, h1, hb1⟩
      obtain ⟨aq, s1, hbs⟩ := slice_h (some a1) K c1 n (by rw [hKl]; exact Nat.le_refl _) hc1
      rw [List.take_of_length_le (by rw [hKl]; exact Nat.le_refl _)] at s1 hbs
      have HBS := aside (hbs w1 h1)
      have HG1 := aside (hG.out.quiet hb1)
      rw [hKl] at s1 ⊢
      have hpk : (P.take k).length = k := by rw [List.length_take]; omega
      have HPK := aside hpk
      have hrl : n = K.length := hKl.symm
      have HRL := aside hrl
      clear h1 hb1 hbs hG RD hKl hpk hrl hc1
      go_wp2_with (first
        | ((with_reducible refine wpList_min2 _ rfl _ _ _ rfl (n : Int) (n : Int) (n : Int) ?_ ?_ HM2.out ?_); rfl; rfl)
        | (at_builtin; refine wpList_app rfl _ _ rfl (.slice ao k co) (P.take k) K aq c1 rfl (by rw [← HRL.out]; rfl) HG1.out.own HBS.out (by rw [HPK.out, ← HRL.out]; omega) ?_))
      intro v2 w2 ho2 hu2 hv2
      have hg2 := HG1.out.app ho2 hu2 hv2
      rw [HTK.out] at hg2
      obtain ⟨a2, c2, rfl, -, -, -⟩ := hg2.own.tel
      have hpk2 : (P.take (k + n)).length = k + n := by rw [List.length_take]; omega
      rw [hpk2] at hg2 ⊢
      have HG2 := aside hg2
      have t2 : ¬ ((n : Int) < (n : Int)) := by omega
      clear ho2 hu2 hv2 hg2 hpk2 HG1 HBS
      obtain ⟨k2, hk2⟩ : ∃ k2, k2 = k + n := ⟨_, rfl⟩
      rw [← hk2] at HG2 hkn ⊢
      have hkk : k < k2 := by omega
      clear hk2 HTK
      go_wp2_with fail
      go_roundw
      case rel => exact ⟨a2, c2, k2, rfl, hkn, HG2⟩
      case measure => simp [lenV]; omega
    · have t1 : ¬ ((k : Int) < (P.length : Int)) := by omega
      obtain rfl : k = P.length := by omega
      have hg := hG.out
      rw [List.take_length] at hg
      obtain ⟨a2, c2, he, h1, h2, h3⟩ := hg.own.tel
      obtain ⟨rfl, rfl⟩ : ao = a2 ∧ co = c2 := by simpa using he
      have HX := aside h3
      have HB := aside hg.below
      have HC := aside h1
      have HC2 := aside h2
      clear hg he h1 h2 h3 hG
      go_wp2_with fail
      go_ret2
      exact ⟨ao, co, rfl, HC.out, HC2.out, HX.out, HB.out⟩

set_option maxRecDepth 20000 in
set_option maxHeartbeats 4000000 in
theorem memRead44_any (hb fb pf : Nat) (P : List UInt8) (w : World) (h : All0T 74 w hb fb ⟨pf, 0, none⟩) (hF : PF w pf P) (hP6 : P.length ≤ 65536) :
    Calls Try.prog 44 #[.iface 126 (.pointer (some ⟨fb, 0, none⟩)), .int .i64 (P.length : Nat)] w fun e w' => RdR w w' P e := by
  have H := aside h
  have HF := aside hF
  clear h hF
  go_enter Try.func44, Try.ntmps44
  go_wp2_with fail
  go_loopw [6] (fun s6 wr => ∃ (ao : Option Addr) (co k : Nat), s6 = .slice ao k co ∧ k ≤ P.length ∧ Aside (Grw w wr (.slice ao k co) (P.take k))) (fun s6 _ => P.length - lenV s6)
  case atStart => exact ⟨none, 0, 0, rfl, Nat.zero_le _, aside ⟨own_none w, Below.refl _ _, fun k hk => by simp [Value.ownBlock] at hk⟩⟩
  case round =>
    obtain ⟨ao, co, k, rfl, hk, hG⟩ := hrel
    by_cases hlt : k < P.length
    · have t1 : (k : Int) < (P.length : Int) := by omega
      obtain ⟨n, hn⟩ : ∃ n, n = min (P.length - k) 65536 := ⟨_, rfl⟩
      have m1 : min ((P.length : Int) - (k : Int)) 65536 = (n : Int) := by omega
      have hKl : ((P.drop k).take n).length = n := by rw [List.length_take, List.length_drop]; omega
      have hm := methP_ReadAt wr fb ⟨pf, 0, none⟩ (H.out.below hG.out.below).c0
      have RD := aside (pRead_any pf P k n wr (HF.out.below hG.out.below) hP6 hlt (by omega))
      have htk : P.take k ++ (P.drop k).take n = P.take (k + n) := by rw [List.take_add]
      have HTK := aside htk
      have HM1 := aside m1
      have HKL := aside hKl
      have hn1 : 0 < n := by omega
      have hn2 : n ≤ 65536 := by omega
      have hkn : k + n ≤ P.length := by omega
      have m2 : min (n : Int) (n : Int) = (n : Int) := by omega
      have HM2 := aside m2
      generalize (P.drop k).take n = K at *
      clear hn m1 htk m2
      go_wp2_with ((with_reducible refine wpList_min2 _ rfl _ _ _ rfl ((P.length : Int) - (k : Int)) 65536 (n : Int) ?_ ?_ HM1.out ?_); rfl; rfl)
      refine RD.out.mono ?_
      rintro e w1 ⟨a1, c1, rfl, hc1, h1, hb1⟩
      obtain ⟨aq, s1, hbs⟩ := slice_h (some a1) K c1 n (by rw [hKl]; exact Nat.le_refl _) hc1
      rw [List.take_of_length_le (by rw [hKl]; exact Nat.le_refl _)] at s1 hbs
      have HBS := aside (hbs w1 h1)
      have HG1 := aside (hG.out.quiet hb1)
      rw [hKl] at s1 ⊢
      have hpk : (P.take k).length = k := by rw [List.length_take]; omega
      have HPK := aside hpk
      have hrl : n = K.length := hKl.symm
      have HRL := aside hrl
      clear h1 hb1 hbs hG RD hKl hpk hrl hc1
      go_wp2_with (first
        | ((with_reducible refine wpList_min2 _ rfl _ _ _ rfl (n : Int) (n : Int) (n : Int) ?_ ?_ HM2.out ?_); rfl; rfl)
        | (at_builtin; refine wpList_app rfl _ _ rfl (.slice ao k co) (P.take k) K aq c1 rfl (by rw [← HRL.out]; rfl) HG1.out.own HBS.out (by rw [HPK.out, ← HRL.out]; omega) ?_))
      intro v2 w2 ho2 hu2 hv2
      have hg2 := HG1.out.app ho2 hu2 hv2
      rw [HTK.out] at hg2
      obtain ⟨a2, c2, rfl, -, -, -⟩ := hg2.own.tel
      have hpk2 : (P.take (k + n)).length = k + n := by rw [List.length_take]; omega
      rw [hpk2] at hg2 ⊢
      have HG2 := aside hg2
      have t2 : ¬ ((n : Int) < (n : Int)) := by omega
      clear ho2 hu2 hv2 hg2 hpk2 HG1 HBS
      obtain ⟨k2, hk2⟩ : ∃ k2, k2 = k + n := ⟨_, rfl⟩
      rw [← hk2] at HG2 hkn ⊢
      have hkk : k < k2 := by omega
      clear hk2 HTK
      go_wp2_with fail
      go_roundw
      case rel => exact ⟨a2, c2, k2, rfl, hkn, HG2⟩
      case measure => simp [lenV]; omega
    · have t1 : ¬ ((k : Int) < (P.length : Int)) := by omega
      obtain rfl : k = P.length := by omega
      have hg := hG.out
      rw [List.take_length] at hg
      obtain ⟨a2, c2, he, h1, h2, h3⟩ := hg.own.tel
      obtain ⟨rfl, rfl⟩ : ao = a2 ∧ co = c2 := by simpa using he
      have HX := aside h3
      have HB := aside hg.below
      have HC := aside h1
      have HC2 := aside h2
      clear hg he h1 h2 h3 hG
      go_wp2_with fail
      go_ret2
      exact ⟨ao, co, rfl, HC.out, HC2.out, HX.out, HB.out⟩

end Go.Proofs.Ytlcglnagekmogaa
