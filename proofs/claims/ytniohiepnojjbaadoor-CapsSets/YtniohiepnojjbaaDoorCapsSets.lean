/-
  CapsSets: All and Less answer as the document does for every two numbers, and each answer is new memory; for every input, with no condition of ours.
-/
import Derived.Test.YtniohiepnojjbaaDoorWraps
import Derived.Test.YtniohiepnojjbaaDoorRise
import Derived.Test.YtniohiepnojjbaaDoorPush
import Derived.Test.YtniohiepnojjbaaDoorCards
import Derived.Test.YtniohiepnojjbaaDoorTie
namespace Go.Proofs.YtniohiepnojjbaaDoor
open Go.ChangeShapes Go.WideShapes Go.ChangeAt Go.RowKit

/-- A byte of a row of one's own is written. -/
theorem own_set {w : World} {b g n cap j : Nat} {zs : List Nat} (h : w.ownsRow b 5 1 (.slice (some ⟨g, 0, none⟩) n cap) n (u8s zs)) (hj : j < n) (x : Nat) :
    (w.setCell ⟨g, j, none⟩ (.int .u8 (x : Int))).ownsRow b 5 1 (.slice (some ⟨g, 0, none⟩) n cap) n (u8s (zs.set j x)) ∧ w.frozen? ⟨g, j, none⟩ = false ∧ ∃ v, w.cell? ⟨g, j, none⟩ = some v := by
  rcases h.2 with ⟨hv, hz⟩ | ⟨g', cap', cur, hv, hb, hh, hnc, hcm, hcs, htake⟩
  · omega
  · simp only [Value.slice.injEq, Option.some.injEq, Addr.mk.injEq, and_true, true_and] at hv
    obtain ⟨rfl, rfl⟩ := hv
    have hl := h.1
    refine ⟨⟨by simpa [u8s] using hl, .inr ⟨g, cap, cur.setIfInBounds j (.int .u8 (x : Int)), rfl, hb, ?_, hnc, hcm, by simpa using hcs, ?_⟩⟩, ?_, ?_⟩
    · rw [setCell_eq_setRow w g j cur 5 (0, 0) _ hh]; exact setRow_heap _ _ _ _ _ _ hh
    · rw [Array.toList_setIfInBounds, List.take_set, htake, u8s, u8s, List.map_set]
    · simp [World.frozen?, hh]
    · rw [cell_of_row w g j cur 5 (0, 0) hh]
      exact ⟨cur[j]'(by omega), Array.getElem?_eq_getElem _⟩

theorem below_set {B g j : Nat} {w0 w : World} {b n cap : Nat} {zs : List Nat} (hb : Below B w0 w) (h : w.ownsRow b 5 1 (.slice (some ⟨g, 0, none⟩) n cap) n (u8s zs)) (hn : 0 < n) (hg : B ≤ g) (u : Value) : Below B w0 (w.setCell ⟨g, j, none⟩ u) := by
  rcases h.2 with ⟨hv, hz⟩ | ⟨g', cap', cur, hv, _, hh, _⟩
  · omega
  · simp only [Value.slice.injEq, Option.some.injEq, Addr.mk.injEq, and_true, true_and] at hv
    obtain ⟨rfl, -⟩ := hv
    rw [setCell_eq_setRow w g j cur 5 (0, 0) _ hh]; exact below_setRow hb hg _

set_option maxHeartbeats 8000000 in
set_option maxRecDepth 100000 in
theorem capsSets_walk (a b : Nat) (ha : a < 256) (hb : b < 256) (w : World) (hw : WordsAt w) :
    Calls Tryd.prog 4 #[.int .u8 (a : Int), .int .u8 (b : Int)] w fun e w' => e = .returned (.bool true) ∧ Below w.heap.size w w' := by
  have HW := aside hw
  have AL := aside (fun W => all_any a ha W)
  have RA := aside (fun W => refAll_any a ha W)
  have hlen := allN_len a
  have LE := aside (fun W => less_any a b ha hb W)
  have RL := aside (fun W => refLess_any a b ha hb W)
  clear hw
  generalize allN a = A at *
  generalize lessN a b = lab at *
  go_enter Tryd.func4, Tryd.ntmps4
  go_wp2_with fail
  refine (AL.out w).mono ?_
  rintro e1 w1 ⟨⟨v1, rfl, o1⟩, b1⟩
  obtain ⟨a1, c1, rfl, -, -⟩ := row_form o1
  have O1 := aside o1
  have B1 := aside b1
  clear o1 b1
  go_wp2_with fail
  refine (AL.out w1).mono ?_
  rintro e2 w2 ⟨⟨v2, rfl, o2⟩, b2⟩
  obtain ⟨a2, c2, rfl, -, -⟩ := row_form o2
  have O2 := aside o2
  have B2 := aside b2
  clear o2 b2
  go_wp2_with fail
  refine (RA.out w2).mono ?_
  rintro e3 w3 ⟨⟨v3, rfl, o3⟩, b3⟩
  obtain ⟨a3, c3, rfl, -, -⟩ := row_form o3
  have O3 := aside (row_le o3 B2.out.size)
  have O2' := aside (row_below O2.out b3)
  have O1' := aside (row_below (row_below O1.out B2.out) b3)
  have B3 := aside (below_tr (below_tr B1.out B2.out) b3)
  have hs13 := Nat.le_trans B2.out.size b3.size
  have L1 := aside (own_lt O1.out)
  clear o3 b3
  have rd : ∀ (W : World) (B : Nat) (x : Option Addr) (c : Nat), W.ownsRow B 5 1 (.slice x A.length c) A.length (u8s A) → A ≠ [] → ∃ blk off, x = some ⟨blk, off, none⟩ ∧ RdB W blk off A := by
    intro W B x c ho hne
    rcases ho.2 with ⟨-, hz⟩ | ⟨g, cap, cur, hv, -⟩
    · exact absurd (List.length_eq_zero_iff.1 hz) hne
    · simp only [Value.slice.injEq] at hv
      obtain ⟨rfl, -, -⟩ := hv
      exact ⟨g, 0, rfl, row_rd (l := A) (r := []) (by simpa using ho)⟩
  have RD := aside rd
  clear rd
  go_wp2_with fail
  refine (same_any A A a1 a3 c1 c3 w3 (RD.out w3 _ a1 c1 O1'.out) (RD.out w3 _ a3 c3 O3.out) (by omega) (by omega)).mono ?_
  rintro e4 w4 ⟨rfl, b4⟩
  rw [beq_self_eq_true]
  have B4 := aside b4
  clear b4
  go_wp2_with fail
  refine (same_any A A a2 a3 c2 c3 w4 (RD.out w4 _ a2 c2 (row_below O2'.out B4.out)) (RD.out w4 _ a3 c3 (row_below O3.out B4.out)) (by omega) (by omega)).mono ?_
  rintro e5 w5 ⟨rfl, b5⟩
  rw [beq_self_eq_true]
  have B45 := aside (below_tr B4.out b5)
  clear b5
  go_wp2
  have B5 := aside (below_tr B3.out B45.out)
  have O1s := aside (row_below O1'.out B45.out)
  have O2s := aside (row_below O2'.out B45.out)
  have O3s := aside (row_below O3.out B45.out)
  have hs15 := Nat.le_trans hs13 B45.out.size
  have hs01 := B1.out.size
  have hx1 : ∀ g, a1 = some ⟨g, 0, none⟩ → w.heap.size ≤ g ∧ g < w1.heap.size := fun g hg => by subst hg; exact ⟨row_own O1.out g rfl, L1.out g rfl⟩
  have HX1 := aside hx1
  clear hx1
  go_loopg [28] A.length (fun kx s28 wr => ∃ (j : Nat) (zs : List Nat), s28 = .int .i64 j ∧ j ≤ A.length ∧ A.length - j ≤ kx ∧ zs.length = A.length ∧ w1.heap.size ≤ wr.heap.size ∧ Aside (Below w.heap.size w wr) ∧
    Aside (wr.ownsRow w.heap.size 5 1 (.slice a1 A.length c1) A.length (u8s zs)) ∧ Aside (wr.ownsRow w1.heap.size 5 1 (.slice a2 A.length c2) A.length (u8s A)) ∧ Aside (wr.ownsRow w1.heap.size 5 1 (.slice a3 A.length c3) A.length (u8s A)))
  case atStart => exact ⟨0, A, rfl, Nat.zero_le _, by omega, rfl, hs15, B5, O1s, O2s, O3s⟩
  case round =>
    obtain ⟨j, zs, rfl, hj, hk, hzl, hsz, hbw, ox, oy, ow⟩ := hrel
    by_cases hlt : j < A.length
    · obtain ⟨g, rfl⟩ : ∃ g, a1 = some ⟨g, 0, none⟩ := by
        rcases ox.out.2 with ⟨-, hz0⟩ | ⟨g, cap, cur, hv, -⟩
        · omega
        · simp only [Value.slice.injEq] at hv; exact ⟨g, hv.1⟩
      obtain ⟨hg1, hg2⟩ := HX1.out g rfl
      obtain ⟨on, hfz, v0, hv0⟩ := own_set ox.out hlt 77
      have ON := aside on
      have BN := aside (below_set (j := j) hbw.out ox.out (by omega) hg1 (.int .u8 ((77 : Nat) : Int)))
      have YN := aside (ownsRow_setCell_below oy.out (a := ⟨g, j, none⟩) hg2 (.int .u8 ((77 : Nat) : Int)))
      have WN := aside (ownsRow_setCell_below ow.out (a := ⟨g, j, none⟩) hg2 (.int .u8 ((77 : Nat) : Int)))
      clear on
      go_wp2
      go_roundg (A.length - (j + 1))
      case measure => omega
      case rel => exact ⟨j + 1, zs.set j 77, by go_num, by omega, by omega, by simpa using hzl, by simpa using hsz, BN, ON, YN, WN⟩
    · obtain rfl : j = A.length := by omega
      have hB6 := aside (below_al wr (.cells #[.int .u8 ((78 : Nat) : Int)] 5))
      obtain ⟨a6, c6, w6, hr6, o6, g6, -⟩ := push_where (wr.alloc (.cells #[.int .u8 ((78 : Nat) : Int)] 5)) 35 w.heap.size (.slice a1 A.length c1) A.length (u8s zs) (row_below ox.out hB6.out) wr.heap.size 1 (.int .u8 ((78 : Nat) : Int)) (by go_simp) rfl (by omega) (by simp; omega)
      have hdis : ∀ (x : Option Addr) (c : Nat), (wr.alloc (.cells #[.int .u8 ((78 : Nat) : Int)] 5)).ownsRow w1.heap.size 5 1 (.slice x A.length c) A.length (u8s A) → w6.ownsRow w1.heap.size 5 1 (.slice x A.length c) A.length (u8s A) := by
        intro x c ho
        refine row_grown ho g6 (fun g hg hv => ?_)
        have q1 := row_own ho g hg
        have q2 : a1 = some ⟨g, 0, none⟩ := by
          rcases ox.out.2 with ⟨hn, -⟩ | ⟨g', cap, cur, hv', -⟩
          · rw [hn] at hv; cases hv
          · rw [hv'] at hv; simp only [Value.ownBlock, Option.some.injEq] at hv; subst hv; simp only [Value.slice.injEq] at hv'; exact hv'.1
        have := (HX1.out g q2).2
        omega
      have Y6 := aside (hdis a2 c2 (row_below oy.out hB6.out))
      have W6 := aside (hdis a3 c3 (row_below ow.out hB6.out))
      have B6 := aside (show Below w.heap.size w w6 from (hbw.out.trans (hB6.out.mono (by omega))).grown g6 (by simp; omega) (row_own (row_below ox.out hB6.out)))
      have HR6 := aside hr6
      clear hdis o6 g6 hr6
      go_wp2_with (at_builtin; (with_reducible refine wpList_append_to _ rfl _ _ 35 35 rfl _ _ ?_ ?_ HR6.out ?_); rfl; rfl)
      refine (same_any A A a2 a3 c2 c3 w6 (RD.out w6 _ a2 c2 Y6.out) (RD.out w6 _ a3 c3 W6.out) (by omega) (by omega)).mono ?_
      rintro e7 w7 ⟨rfl, b7⟩
      rw [beq_self_eq_true]
      have B7 := aside (below_tr B6.out b7)
      clear b7
      go_wp2_with fail
      refine (LE.out w7).mono ?_
      rintro e8 w8 ⟨rfl, rfl⟩
      go_wp2_with fail
      refine (RL.out w8).mono ?_
      rintro e9 w9 ⟨rfl, rfl⟩
      go_wp2_with fail
      refine (works_any w9 (HW.out.below B7.out)).mono ?_
      rintro e10 w10 ⟨rfl, b10⟩
      go_wp2
      go_ret
      exact ⟨rfl, below_tr B7.out b10⟩

set_option maxRecDepth 100000 in
theorem capsSets_lifted (os : Os) (started : os.Started) (H : Type) (enc : TypeId × Value → H) :
    ReturnsInHanded {} Tryd.checked os 4 .any (fun w args => (Rows.capsSetsSpec.pre enc Tryd.prog Tryd.f4 [] false w args ∧ laidMetH Tryd.prog laidW w) ∧ sizedMet enc Tryd.prog Tryd.f4 (OpenSpec.ofChange Rows.capsSetsSpec) false w args)
      (Rows.capsSetsSpec.post enc Tryd.prog Tryd.f4 false true false false) := by
  refine returnsInHanded_of_change_and (C := Tryd.checked) (X := fun w _ => laidMetH Tryd.prog laidW w) (fun _ _ _ hh h => h.of_heap hh) own started (by kernel_rfl) Tryd.func4
    (ChangeSpec.witness_shaped (enc := enc) (C := Tryd.checked) (os := os) (X := fun w _ => laidMetH Tryd.prog laidW w) false (World.doorLaid Tryd.prog 400 os) #[.int .u8 0, .int .u8 0] 8 rfl (World.shaped_of_RefB (by kernel_rfl) (by kernel_rfl)) (by kernel_rfl) (by kernel_rfl) (by kernel_rfl) (door_met os _)) ?_
  intro W base args ds gs before hval0 hW _ _ hL _
  have hval : ∀ (j : Nat) t v, Tryd.f4.params[j]? = some t → args[j]? = some v → Value.okWide Tryd.prog W .any base t v := hval0
  have hW' := hW
  obtain ⟨p, q, hA0, hV, rfl, hfz, hnd⟩ := hW
  have hA : DataW.TrodAll enc Tryd.prog W 0 (fun _ => true) true Tryd.f4.params.toList args.toList ds p := hA0
  rw [Tryd.params4] at hA hval
  obtain ⟨v0, vs0, d0, ds0, p0, q0, hargs, rfl, rfl, h0, r0⟩ := trodAll_cons hA
  obtain ⟨v1, vs1, d1, ds1, p1, q1, hargs1, rfl, rfl, h1, r1⟩ := trodAll_cons r0
  obtain ⟨rfl, rfl, rfl⟩ := trodAll_nil r1
  obtain rfl : args = #[v0, v1] := by cases args; simp_all
  obtain ⟨rfl, rfl⟩ := trodVars_none hV
  have k0 := h0
  have k1 := h1
  have lt0 : ∀ x ∈ p0, x.block < W.heap.size := by obtain ⟨m, hm⟩ := k0; exact DataW.trod_lt m _ _ _ hm
  have lt1 : ∀ x ∈ p1, x.block < W.heap.size := by obtain ⟨m, hm⟩ := k1; exact DataW.trod_lt m _ _ _ hm
  obtain ⟨a0, rfl, -, -, hwa⟩ := open_int Tryd.underlying5 (hval 0 5 v0 rfl rfl) h0
  obtain ⟨b0, rfl, -, -, hwb⟩ := open_int Tryd.underlying5 (hval 1 5 v1 rfl rfl) h1
  obtain ⟨a, rfl, ha⟩ := open_u8 hwa
  obtain ⟨b, rfl, hb⟩ := open_u8 hwb
  clear hA0 hval0
  refine (capsSets_walk a b ha hb W (words_of_laid hL)).mono fun e W' ⟨he, bel⟩ => ?_
  subst he
  exact ⟨_, rfl, _, _, _, [], _, [], hW', trodAll_mk1 (shut_bool Tryd.underlying4 _), (trodAll_cons_mk (Below.trod laidOut (by kernel_rfl) (of_decide_eq_true (by kernel_rfl)) k0 bel lt0) (trodAll_cons_mk (Below.trod laidOut (by kernel_rfl) (of_decide_eq_true (by kernel_rfl)) k1 bel lt1) trodAll_mk0)), rfl, bel.frame _, fun h => by cases h⟩

theorem capsSets_row : Rows.CapsSetsSaid :=
  OpenClaim.holds_of_wide 4 Tryd.f4 rfl rfl rfl rfl rfl rfl rfl ⟨rfl, rfl, rfl, rfl, rfl⟩ rfl rfl rfl rfl rfl (by kernel_rfl) Tryd.func4 (by kernel_rfl)
    (of_decide_eq_true (by kernel_rfl)) (by unfold Func.isWrapper; first | (rw [if_pos (by decide +kernel)]; kernel_rfl) | (rw [if_neg (by decide +kernel)]; exact ⟨rfl, rfl⟩))
    (fun os started H enc _ => capsSets_lifted os started H enc)

theorem capsSets_holds : Rows.CapsSetsCardSaid :=
  Claim7.holds_tied_plain_at .later [] [.data] true Rows.capsSetsCard.stood.harness true
    capsSets_row (fun _ h => by cases h) (by kernel_rfl) (fun _ h => by cases h) capsSets_row_tie rfl ⟨rfl, rfl⟩ (by kernel_rfl) rfl
    (fun f fn hf hfn => by
      obtain rfl : f = 4 := Option.some.inj ((show Tryd.prog.funcNamed Rows.capsSetsRow.func = some 4 by kernel_rfl).symm.trans hf) |>.symm
      obtain rfl : fn = Tryd.f4 := (Option.some.inj (Tryd.func4.symm.trans hfn)).symm
      exact ⟨by kernel_rfl, fun j t ht => by
        rw [Tryd.params4] at ht
        match j, ht with
        | 0, ht => simp at ht; subst ht; exact (show Tryd.prog.wantsStandIn 5 = false by kernel_rfl)
        | 1, ht => simp at ht; subst ht; exact (show Tryd.prog.wantsStandIn 5 = false by kernel_rfl)
        | j + 2, ht => simp at ht⟩)
    (by kernel_rfl)

#print axioms capsSets_holds
end Go.Proofs.YtniohiepnojjbaaDoor
