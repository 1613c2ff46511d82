/- SumsNil: the walk. -/
import Derived.Test.YtoagjgcpgpjjeaaGJ
import Derived.Test.YtoagjgcpgpjjeaaGK
namespace Go.Proofs.Ytoagjgcpgpjjeaa
open Go.RowKit
set_option linter.unusedVariables false
attribute [local simp] lcells_nil readB_length bcells_length

set_option maxRecDepth 20000 in
set_option maxHeartbeats 1000000 in
theorem sumsNew_nilL (hb : Nat) (v : Value) (w : World) (h : w.cell? ⟨hb, 5, none⟩ = some v) : Calls Try.prog 16 #[.pointer none, .pointer (some ⟨hb, 0, none⟩)] w fun e w' => e = .returned (.tuple #[.pointer none, .int .i64 1]) ∧ w' = w := by
  have F := aside (file_any hb v w h)
  clear h
  go_enter Try.func16, Try.ntmps16
  go_wp2_with fail
  refine (file_nil w).mono ?_
  rintro e w' ⟨rfl, rfl⟩
  go_wp2_with fail
  refine F.out.mono ?_
  rintro e w' ⟨rfl, rfl⟩
  go_wp2_with fail
  go_ret2
  exact ⟨rfl, rfl⟩
set_option maxRecDepth 20000 in
set_option maxHeartbeats 1000000 in
theorem sumsNew_nilR (hb t fb : Nat) (w : World) (h : w.cell? ⟨hb, 5, none⟩ = some (.iface t (.pointer (some ⟨fb, 0, none⟩)))) : Calls Try.prog 16 #[.pointer (some ⟨hb, 0, none⟩), .pointer none] w fun e w' => e = .returned (.tuple #[.pointer none, .int .i64 1]) ∧ w' = w := by
  have F := aside (file_any hb _ w h)
  clear h
  go_enter Try.func16, Try.ntmps16
  go_wp2_with fail
  refine F.out.mono ?_
  rintro e w' ⟨rfl, rfl⟩
  go_wp2_with fail
  refine (file_nil w').mono ?_
  rintro e w' ⟨rfl, rfl⟩
  go_wp2_with fail
  go_ret2
  exact ⟨rfl, rfl⟩
set_option maxRecDepth 20000 in
set_option maxHeartbeats 1000000 in
theorem table_nil (w : World) : Calls Try.prog 11 #[.pointer none] w fun e w' => e = .returned (.tuple #[.slice none 0 0, .int .i64 1]) ∧ w' = w := by
  go_enter Try.func11, Try.ntmps11
  go_wp2_with fail
  refine (file_nil w).mono ?_
  rintro e w' ⟨rfl, rfl⟩
  go_wp2_with fail
  go_ret2
  exact ⟨rfl, rfl⟩

set_option maxRecDepth 20000 in
set_option maxHeartbeats 4000000 in
theorem sumsNil_walk (f : Fm) (w : World) (hf : f.At w) (hcan : f.can < 256) :
    Calls Try.prog 4 #[.agg f.cells] w fun e w' => e = .returned (.bool true) ∧ Below w.heap.size w w' := by
  obtain ⟨W, hW⟩ : ∃ W, W = (w.alloc (.cells f.cells 25)).alloc (.cells f.cells 25) := ⟨_, rfl⟩
  have hB : Below w.heap.size w W := by rw [hW]; exact below_tr (below_al w _) (below_al _ _)
  have hm1 : W.heap[w.heap.size]? = some (.cells f.cells 25 (0, 0)) := by rw [hW]; exact heap_alloc_first w _ _ _ _
  have hm2 : W.heap[w.heap.size + 1]? = some (.cells f.cells 25 (0, 0)) := by rw [hW]; exact heap_alloc2_new w _ _
  have HG := aside (great10_any (w.heap.size + 1) [f] W (fun g hg => by rw [List.mem_singleton] at hg; subst hg; exact hf.below hB) (fun j g hg => by
    obtain rfl : j = 0 := by have := (List.getElem?_eq_some_iff.1 hg).1; simp at this; omega
    obtain rfl : f = g := by simpa using hg
    exact ⟨by rw [cell_of_row W _ 0 _ _ _ hm2]; rfl, by rw [cell_of_row W _ 1 _ _ _ hm2]; rfl⟩) (by simp) (by simp))
  have HK : Aside (∀ V, Below W.heap.size W V → V.cell? ⟨w.heap.size, 0, none⟩ = some (.slice f.a f.l.length f.c) ∧ V.cell? ⟨w.heap.size, 1, none⟩ = some (.slice f.am f.ms.length f.cm) ∧ V.cell? ⟨w.heap.size, 2, none⟩ = some (.int .u8 f.can)) := fun V hV => by
    have := (hV.block _ (Array.getElem?_eq_some_iff.1 hm1).1).trans hm1
    exact ⟨by rw [cell_of_row V _ 0 _ _ _ this]; rfl, by rw [cell_of_row V _ 1 _ _ _ this]; rfl, by rw [cell_of_row V _ 2 _ _ _ this]; rfl⟩
  have HF := aside (hf.below hB)
  have HB := aside hB
  have HWK := aside wakes10_any
  clear hf hB hm1 hm2
  go_enter Try.func4, Try.ntmps4
  go_wp2_with fail
  rw [← hW]
  clear hW
  refine HG.out.mono ?_
  rintro e w1 ⟨⟨g, rfl, hg⟩, hb1⟩
  have HB1 := aside hb1
  cases g
  case true =>
    clear hg hb1
    go_wp2_with fail
    refine (HWK.out w1).mono ?_
    rintro e w2 ⟨rfl, hb⟩
    have HB2 := aside hb
    clear hb
    go_wp2
    go_ret
    exact ⟨rfl, below_tr (below_tr HB.out HB1.out) HB2.out⟩
  case false =>
    have htot : f.tot ≤ 131072 := by have := hg rfl; simpa [tots] using this
    obtain ⟨c0, c1, c2⟩ := HK.out w1 hb1
    have HM := aside (made10_any f w1 (HF.out.below hb1) htot hcan)
    clear hg hb1 HG
    go_wp2_with fail
    refine HM.out.mono ?_
    rintro e w2 ⟨hb, t, fb, mm, F, nn, y, rfl, hWy, hFl, -, -, hb2⟩
    have HB2 := aside (below_tr (below_tr HB.out HB1.out) hb2)
    have N1 : Aside (∀ V, Below w2.heap.size w2 V → V.cell? ⟨hb, 5, none⟩ = some (.iface t (.pointer (some ⟨fb, 0, none⟩)))) := fun V hV => (hWy.below hV).c5
    clear hWy hFl hb2 HM c0 c1 c2 HB1
    go_wp2_with fail
    have hA := below_al w2 (.cells #[.pointer (some ⟨hb, 0, none⟩), .pointer (some ⟨y.s, 0, none⟩), .pointer (some ⟨F, 0, none⟩)] 33)
    obtain ⟨V, hV⟩ : ∃ V, V = w2.alloc (.cells #[.pointer (some ⟨hb, 0, none⟩), .pointer (some ⟨y.s, 0, none⟩), .pointer (some ⟨F, 0, none⟩)] 33) := ⟨_, rfl⟩
    rw [← hV] at hA
    have p0 : V.cell? ⟨w2.heap.size, 0, none⟩ = some (.pointer (some ⟨hb, 0, none⟩)) := by rw [hV]; go_simp
    rw [← hV]
    clear hV
    have G1 := aside (sumsNew_nilL hb _ V (N1.out V hA))
    have G2 := aside (sumsNew_nilR hb t fb V (N1.out V hA))
    have G3 := aside (table_nil V)
    have HBV := aside (below_tr HB2.out hA)
    clear hA N1 HB2
    refine G1.out.mono ?_
    rintro e w' ⟨rfl, rfl⟩
    go_wp2_with fail
    refine G2.out.mono ?_
    rintro e w' ⟨rfl, rfl⟩
    go_wp2_with fail
    refine G3.out.mono ?_
    rintro e w' ⟨rfl, rfl⟩
    go_wp2_with fail
    refine (HWK.out w').mono ?_
    rintro e w5 ⟨rfl, hb5⟩
    have HB5 := aside hb5
    clear hb5
    go_wp2_with fail
    go_ret
    exact ⟨rfl, below_tr HBV.out HB5.out⟩
end Go.Proofs.Ytoagjgcpgpjjeaa
