/- pack.New of a file of packed bytes; memory.All of what it tells. -/
import Derived.Test.YtlcglnagekmogaaRdC
namespace Go.Proofs.Ytlcglnagekmogaa
open Go.RowKit
attribute [local simp] lcells_nil readB_length bcells_length

set_option maxRecDepth 20000 in
set_option maxHeartbeats 2000000 in
theorem packNew_any (hb fb m b : Nat) (lv : Value) (g cap : Nat) (P l : List UInt8) (w : World) (h : All0 w hb fb ⟨m, 0, none⟩) (hF : Fil w m b) (hR : Rep w b P.length lv [⟨0, g, cap, P⟩]) (hP : P.length ≤ 131072) (hu : unp P = .ok l) :
    Calls Try.prog 17 #[.pointer (some ⟨hb, 0, none⟩)] w fun e w' => ∃ hb' fb' pf, e = .returned (.tuple #[.pointer (some ⟨hb', 0, none⟩), .int .i64 0]) ∧ All0T 74 w' hb' fb' ⟨pf, 0, none⟩ ∧ PF w' pf l ∧ Below w.heap.size w w' := by
  have c5 := (han_cells h.han).2.2.2.2.2
  have hm := meth0_Size w fb ⟨m, 0, none⟩ h.c0
  have F1 := aside (file_any hb _ w c5)
  have F2 := aside (fSize_any m b P.length lv [⟨0, g, cap, P⟩] w hF hR)
  have F3 := aside (packRead_any hb fb m b lv g cap P w h hF hR hP)
  have t1 : ¬ ((131072 : Int) < (P.length : Int)) := by omega
  have HU := aside hu
  clear h hF hR c5 hu
  go_enter Try.func17, Try.ntmps17
  go_wp2_with fail
  refine F1.out.mono ?_
  rintro e w' ⟨rfl, rfl⟩
  go_wp2_with fail
  refine F2.out.mono ?_
  rintro e w' ⟨rfl, rfl⟩
  go_wp2_with fail
  refine F3.out.mono ?_
  rintro e w1 ⟨a1, c1, rfl, hc1, hc2, h1, hb1⟩
  unfold maxLen at hc2
  have P1 := aside (unpack_any a1 P c1 w1 h1 hc1 (by omega))
  unfold UnR at P1
  rw [HU.out] at P1
  simp only [Un.ok] at P1
  have HB1 := aside hb1
  clear h1 hb1 hc1 hc2 F3
  go_wp2_with fail
  refine P1.out.mono ?_
  rintro e w2 ⟨⟨a2, rfl, h2⟩, hb2⟩
  have hA := below_al w2 (.cells #[.slice a2 l.length l.length] 76)
  have hPF : PF (w2.alloc (.cells #[.slice a2 l.length l.length] 76)) w2.heap.size l := ⟨a2, heap_alloc_new w2 _, (h2.below hA).bs⟩
  have HPF := aside hPF
  have HB2 := aside (below_tr (below_tr HB1.out hb2) hA)
  have MK := aside (make_noneT 74 ⟨w2.heap.size, 0, none⟩ (w2.alloc (.cells #[.slice a2 l.length l.length] 76)))
  clear h2 hb2 hA hPF P1
  go_wp2_with fail
  refine MK.out.mono ?_
  rintro e w3 ⟨hb', fb', rfl, -, -, h3, h4, hb3⟩
  have H3 : Aside (All0T 74 w3 hb' fb' ⟨w2.heap.size, 0, none⟩) := ⟨h3, h4⟩
  have HP3 := aside (HPF.out.below hb3)
  have HB3 := aside (below_tr HB2.out hb3)
  clear h3 h4 hb3
  go_wp2_with fail
  go_ret2
  exact ⟨hb', fb', w2.heap.size, rfl, H3.out, HP3.out, HB3.out⟩

set_option maxRecDepth 20000 in
set_option maxHeartbeats 2000000 in
theorem allP_any (hb fb pf : Nat) (l : List UInt8) (w : World) (h : All0T 74 w hb fb ⟨pf, 0, none⟩) (hF : PF w pf l) (hl : l.length ≤ 65536) :
    Calls Try.prog 23 #[.pointer (some ⟨hb, 0, none⟩)] w fun e w' => RdR w w' l e := by
  have hm := methP_Size w fb ⟨pf, 0, none⟩ h.c0
  have F1 := aside (file_any hb _ w h.c5)
  have F2 := aside (pSize_any pf l w hF)
  have F3 := aside (memRead44_any hb fb pf l w h hF hl)
  have t1 : ¬ ((4194304 : Int) < (l.length : Int)) := by omega
  clear h hF
  go_enter Try.func23, Try.ntmps23
  go_wp2_with fail
  refine F1.out.mono ?_
  rintro e w' ⟨rfl, rfl⟩
  go_wp2_with fail
  refine F2.out.mono ?_
  rintro e w' ⟨rfl, rfl⟩
  go_wp2_with fail
  refine F3.out.mono ?_
  rintro e w1 ⟨a1, c1, rfl, hc1, hc2, h1, hb1⟩
  have H1 := aside h1
  have HB1 := aside hb1
  have HC1 := aside hc1
  have HC2 := aside hc2
  clear h1 hb1 hc1 hc2
  go_wp2_with fail
  go_ret2
  exact ⟨a1, c1, rfl, HC1.out, HC2.out, H1.out, HB1.out⟩
end Go.Proofs.Ytlcglnagekmogaa
