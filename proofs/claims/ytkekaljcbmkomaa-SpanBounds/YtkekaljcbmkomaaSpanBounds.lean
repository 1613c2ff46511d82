/-
  SpanBounds: the bounds of what is held and of the size; a closed statement, with no condition of ours.
-/
import Derived.Test.YtkekaljcbmkomaaOpen
import Derived.Test.YtkekaljcbmkomaaTiles
namespace Go.Proofs.Ytkekaljcbmkomaa
open Go.ChangeShapes Go.WideShapes Go.ChangeAt Go.RowKit Go.Joins
attribute [local simp] lcells_nil readB_length bcells_length

def bigN : Nat := 4194305
def bigL : List UInt8 := List.replicate bigN 0
theorem bigL_len : bigL.length = 4194305 := by unfold bigL; rw [List.length_replicate]; rfl
theorem make_big (w : World) : ∃ W : World, (Instr.makeSlice 22 (.int .i64 4194305) (.int .i64 4194305)).run Try.prog w = .ok (.slice (some ⟨w.heap.size, 0, none⟩) 4194305 4194305) W ∧ Below w.heap.size w W ∧ BsAt W (some ⟨w.heap.size, 0, none⟩) bigL := by
  have h := make_bytes w bigN (by unfold bigN; omega)
  refine ⟨_, h, below_al w _, fun _ => ⟨_, rfl, fun j v hj => ?_⟩⟩
  exact cells_lit (cs := bcells bigL) (heap_alloc_new w _) j v hj

theorem ovls_one {L : List Piece} (hs : L.Pairwise (fun a b => a.fin < b.org)) (x : Nat) : (heldAt L x → ovls x (x + 1) L = 1) ∧ (¬ heldAt L x → ovls x (x + 1) L = 0) := by
  induction L with
  | nil => exact ⟨fun ⟨d, hd, _⟩ => by simp at hd, fun _ => rfl⟩
  | cons d L ih =>
    have hs' := List.pairwise_cons.1 hs
    rw [ovls_cons]
    by_cases hd : d.org ≤ x ∧ x < d.fin
    · have h0 : ovls x (x + 1) L = 0 := (ih hs'.2).2 (fun ⟨e, he, h1, h2⟩ => by have := hs'.1 e he; omega)
      refine ⟨fun _ => ?_, fun h => absurd ⟨d, by simp, hd⟩ h⟩
      rw [h0]; unfold ovl; omega
    · have h0 : ovl x (x + 1) d = 0 := by unfold ovl; omega
      have hiff : heldAt (d :: L) x ↔ heldAt L x := ⟨fun ⟨e, he, h1⟩ => by
        rcases List.mem_cons.1 he with rfl | he
        · exact absurd h1 hd
        · exact ⟨e, he, h1⟩, fun ⟨e, he, h1⟩ => ⟨e, by simp [he], h1⟩⟩
      rw [h0, hiff]
      exact ⟨fun h => by rw [(ih hs'.2).1 h], fun h => by rw [(ih hs'.2).2 h]⟩

theorem put1_all (b sz : Nat) (lv : Value) (L : List Piece) (x : Int) (v : UInt8) (n : Int) (hv : n = v.toNat) (g : Nat) (w : World) (hR : Rep w b sz lv L) (hh : w.heap[g]? = some (.cells #[.int .u8 n] 5 (0, 0))) (hx : x ≤ 9223372036854775807) :
    Calls Try.prog 19 #[.pointer (some ⟨b, 0, none⟩), .int .i64 x, .slice (some ⟨g, 0, none⟩) 1 1] w fun e w' => ∃ r sz' lv' L', e = .returned (.int .i64 r) ∧ PutR sz L x [v] r sz' L' ∧ Rep w' b sz' lv' L' ∧ Grew b lv L w lv' L' ∧ Upd (Foot b lv L) w w' := by
  subst hv
  exact put_all b sz lv L x (some ⟨g, 0, none⟩) [v] 1 w hR (fun _ => ⟨_, rfl, cells_lit (cs := bcells [v]) hh⟩) hx (by simp)

theorem putR_one {sz : Nat} {L : List Piece} {x : Nat} {v : UInt8} {r : Int} {sz' : Nat} {L' : List Piece} (h : PutR sz L x [v] r sz' L') :
    ((x + 1 ≤ 1073741824 ∧ heldOf L - ovls x (x + 1) L + 1 ≤ 4194304) → r = 0 ∧ sz' = max sz (x + 1) ∧ Laid L L' x [v]) ∧ (¬ (x + 1 ≤ 1073741824 ∧ heldOf L - ovls x (x + 1) L + 1 ≤ 4194304) → r = 3 ∧ sz' = sz ∧ L' = L) := by
  unfold PutR at h
  simp only [Int.toNat_natCast, List.length_singleton] at h
  rcases h with ⟨h1, -⟩ | ⟨-, h1, -⟩ | ⟨-, -, h1, h2, h3, h4⟩ | ⟨-, -, h1, h2, h3, h4, h5⟩
  · omega
  · simp at h1
  · exact ⟨fun h => by omega, fun _ => ⟨h2, h3, h4⟩⟩
  · exact ⟨fun _ => ⟨h3, h4, h5⟩, fun h => by omega⟩

structure Own (w0 w : World) (b sz : Nat) (lv : Value) (L : List Piece) : Prop where
  rep : Rep w b sz lv L
  below : Below w0.heap.size w0 w
  foot : ∀ k, Foot b lv L k → w0.heap.size ≤ k
theorem Own.quiet {w0 w w' : World} {b sz : Nat} {lv : Value} {L : List Piece} (h : Own w0 w b sz lv L) (hb : Below w.heap.size w w') : Own w0 w' b sz lv L := ⟨h.rep.below hb, h.below.trans (hb.mono h.below.size), h.foot⟩
theorem Own.step {w0 w w' : World} {b sz : Nat} {lv : Value} {L : List Piece} (h : Own w0 w b sz lv L) {sz' : Nat} {lv' : Value} {L' : List Piece} (hR : Rep w' b sz' lv' L') (hG : Grew b lv L w lv' L') (hu : Upd (Foot b lv L) w w') : Own w0 w' b sz' lv' L' := by
  refine ⟨hR, h.below.trans (hu.below h.below.size h.foot), fun k hk => ?_⟩
  rcases hG k hk with h1 | h1
  · exact h.foot k h1
  · exact Nat.le_trans h.below.size h1

set_option maxHeartbeats 8000000 in
set_option maxRecDepth 100000 in
theorem spanBounds_walk (w : World) : Calls Try.prog 4 #[] w fun e w' => e = .returned (.bool true) ∧ Below w.heap.size w w' := by
  obtain ⟨W, hmk, hbW, hbs⟩ := make_big w
  have NW := aside (new_all (some ⟨w.heap.size, 0, none⟩) bigL 4194305 W hbs (by rw [bigL_len]; omega) (by omega))
  rw [bigL_len] at NW
  have HBW := aside hbW
  clear hbW hbs
  go_enter Try.func4, Try.ntmps4
  go_wp2_with fail
  refine NW.out.mono ?_
  rintro e w1 ⟨rfl, lv1, L1, hR1, hct1, -, hb1, hf1⟩
  rw [show min 4194305 4194304 = 4194304 from rfl] at hR1
  have O1 : Aside (Own w w1 W.heap.size 4194304 lv1 L1) := ⟨hR1, HBW.out.trans (hb1.mono HBW.out.size), fun k hk => Nat.le_trans HBW.out.size (hf1 k hk)⟩
  obtain ⟨d, rfl, hd0, hdl⟩ : ∃ d, L1 = [d] ∧ d.org = 0 ∧ d.bs.length = 4194304 := by
    have hne : bigL ≠ [] := fun h => by have := bigL_len; rw [h] at this; simp at this
    rw [ini, if_neg hne] at hct1
    rcases ct_cases (L := L1) (M := [⟨0, 0, 0, bigL.take 4194304⟩]) (by rw [hct1]; rfl) with ⟨-, h⟩ | ⟨d, L', e, M', rfl, h2, h3, h4, h5⟩
    · simp at h
    · obtain ⟨rfl, rfl⟩ := List.cons.inj h2
      have : L' = [] := List.length_eq_zero_iff.1 (by simpa using ct_length h5)
      subst this
      exact ⟨d, rfl, h3, by rw [h4, List.length_take, bigL_len]; rfl⟩
  have hh1 : heldOf [d] = 4194304 := by simp [heldOf, hdl]
  have ha1 : ∀ p, heldAt [d] p ↔ p < 4194304 := fun p => ⟨fun ⟨e, he, h1, h2⟩ => by rw [List.mem_singleton.1 he] at h2; unfold Piece.fin at h2; omega, fun h => ⟨d, by simp, by omega, by unfold Piece.fin; omega⟩⟩
  have H1 := aside hh1
  have A1 := aside ha1
  generalize [d] = L1 at *
  clear hct1 hR1 hb1 hf1 hd0 hdl hh1 ha1 hmk NW
  go_wp2_with fail
  refine (size_any W.heap.size 4194304 lv1 L1 w1 O1.out.rep).mono ?_
  rintro e w2 ⟨rfl, rfl⟩
  go_wp2_with fail
  refine (held_any W.heap.size 4194304 lv1 L1 w2 O1.out.rep).mono ?_
  rintro e w3 ⟨rfl, rfl⟩
  rw [H1.out]
  go_wp2_with fail
  have hq := below_al w3 (.cells #[.int .u8 1] 5)
  refine (put1_all W.heap.size 4194304 lv1 L1 ((4194304 : Nat) : Int) 1 1 rfl w3.heap.size _ (O1.out.quiet hq).rep (heap_alloc_new w3 _) (by decide)).mono ?_
  rintro e w4 ⟨r, sz4, lv4, L4, rfl, hP, hR, hG, hu⟩
  obtain ⟨rfl, rfl, rfl⟩ := (putR_one hP).2 (fun h => by
    have := H1.out
    have := (ovls_one O1.out.rep.inv.sep 4194304).2 (by rw [A1.out]; omega)
    omega)
  have O4 := aside ((O1.out.quiet hq).step hR hG hu)
  clear hP hR hG hu hq
  go_wp2_with fail
  have hq := below_al w4 (.cells #[.int .u8 1] 5)
  refine (put1_all W.heap.size 4194304 lv4 L4 ((5 : Nat) : Int) 1 1 rfl w4.heap.size _ (O4.out.quiet hq).rep (heap_alloc_new w4 _) (by decide)).mono ?_
  rintro e w5 ⟨r, sz5, lv5, L5, rfl, hP, hR, hG, hu⟩
  have ho5 := (ovls_one O4.out.rep.inv.sep 5).1 (by rw [A1.out]; omega)
  obtain ⟨rfl, rfl, hL5⟩ := (putR_one hP).1 (by have := H1.out; omega)
  have O5 := aside ((O4.out.quiet hq).step hR hG hu)
  have H5 : Aside (heldOf L5 = 4194304) := by
    have h1 := hL5.held
    have h2 := H1.out
    simp only [List.length_singleton] at h1
    show heldOf L5 = 4194304
    omega
  have A5 : Aside (∀ p, heldAt L5 p ↔ p < 4194304) := fun p => by
    rw [hL5.has, A1.out]; simp only [List.length_singleton]; omega
  rw [show max 4194304 (5 + 1) = 4194304 from rfl] at O5
  clear hP hR hG hu hq ho5 hL5
  go_wp2_with fail
  refine (punch_any W.heap.size 4194304 lv5 L5 7 1 w5 O5.out.rep).mono ?_
  rintro e w6 ⟨rfl, lv6, L6, hR, hE, hG, hu⟩
  have hE6 : Erased L5 L6 7 8 := hE
  have O6 := aside (O5.out.step hR hG hu)
  have H6 : Aside (heldOf L6 = 4194303) := by
    have h1 := hE6.held
    have h2 := H5.out
    have h3 : ovls 7 8 L5 = 1 := (ovls_one O5.out.rep.inv.sep 7).1 (by rw [A5.out]; omega)
    show heldOf L6 = 4194303
    omega
  have A6 : Aside (∀ p, heldAt L6 p ↔ p < 4194304 ∧ p ≠ 7) := fun p => by
    rw [hE6.has, A5.out]; omega
  clear hR hG hu hE hE6
  go_wp2_with fail
  have hq := below_al w6 (.cells #[.int .u8 9] 5)
  refine (put1_all W.heap.size 4194304 lv6 L6 ((1073741823 : Nat) : Int) 9 9 rfl w6.heap.size _ (O6.out.quiet hq).rep (heap_alloc_new w6 _) (by decide)).mono ?_
  rintro e w7 ⟨r, sz7, lv7, L7, rfl, hP, hR, hG, hu⟩
  have ho7 := (ovls_one O6.out.rep.inv.sep 1073741823).2 (by rw [A6.out]; omega)
  obtain ⟨rfl, rfl, hL7⟩ := (putR_one hP).1 (by have := H6.out; omega)
  have O7 := aside ((O6.out.quiet hq).step hR hG hu)
  have H7 : Aside (heldOf L7 = 4194304) := by
    have h1 := hL7.held
    have h2 := H6.out
    simp only [List.length_singleton] at h1
    show heldOf L7 = 4194304
    omega
  have A7 : Aside (∀ p, heldAt L7 p ↔ (p < 4194304 ∧ p ≠ 7) ∨ p = 1073741823) := fun p => by
    rw [hL7.has, A6.out]; simp only [List.length_singleton]; omega
  have B7 : Aside (byteAt L7 1073741822 = 0 ∧ byteAt L7 1073741823 = 9) := by
    refine ⟨?_, ?_⟩
    · rw [hL7.byte, if_neg (by simp only [List.length_singleton]; omega)]
      exact byteAt_of_not (by rw [A6.out]; omega)
    · rw [hL7.byte, if_pos (by simp only [List.length_singleton]; omega)]; rfl
  rw [show max 4194304 (1073741823 + 1) = 1073741824 from rfl] at O7
  clear hP hR hG hu hq ho7 hL7
  go_wp2_with fail
  refine (size_any W.heap.size 1073741824 lv7 L7 w7 O7.out.rep).mono ?_
  rintro e w8 ⟨rfl, rfl⟩
  go_wp2_with fail
  have hq := below_al w8 (.cells #[.int .u8 1] 5)
  refine (put1_all W.heap.size 1073741824 lv7 L7 ((1073741824 : Nat) : Int) 1 1 rfl w8.heap.size _ (O7.out.quiet hq).rep (heap_alloc_new w8 _) (by decide)).mono ?_
  rintro e w9 ⟨r, sz9, lv9, L9, rfl, hP, hR, hG, hu⟩
  obtain ⟨rfl, rfl, rfl⟩ := (putR_one hP).2 (by omega)
  have O9 := aside ((O7.out.quiet hq).step hR hG hu)
  clear hP hR hG hu hq
  go_wp2_with fail
  have hq := below_al w9 (.cells #[.int .u8 1] 5)
  refine (put1_all W.heap.size 1073741824 lv9 L9 ((7 : Nat) : Int) 1 1 rfl w9.heap.size _ (O9.out.quiet hq).rep (heap_alloc_new w9 _) (by decide)).mono ?_
  rintro e w10 ⟨r, sz10, lv10, L10, rfl, hP, hR, hG, hu⟩
  obtain ⟨rfl, rfl, rfl⟩ := (putR_one hP).2 (fun h => by
    have := H7.out
    have := (ovls_one O9.out.rep.inv.sep 7).2 (by rw [A7.out]; omega)
    omega)
  have O10 := aside ((O9.out.quiet hq).step hR hG hu)
  clear hP hR hG hu hq
  have GX := aside (get_all W.heap.size 1073741824 lv10 L10 1073741822 9 w10 O10.out.rep (by decide))
  have e1 : getL L10 1073741824 1073741822 9 = [0, 9] := by
    unfold getL
    rw [if_neg (by decide), show min (9 : Int).toNat (min 65536 (1073741824 - (1073741822 : Int).toNat)) = 2 from rfl, show (1073741822 : Int).toNat = 1073741822 from rfl]
    simp only [readB, List.range_succ, List.range_zero, List.nil_append, List.map_append, List.map_cons, List.map_nil]
    rw [Nat.add_zero, B7.out.1, B7.out.2]; rfl
  rw [e1] at GX
  clear e1
  go_wp2_with fail
  refine GX.out.mono ?_
  rintro e w11 ⟨a11, c11, rfl, hc11, hn11, hb11⟩
  rcases hn11 with hn11 | ⟨rfl, hn11⟩
  · simp at hn11
  have O11 := aside (O10.out.quiet hb11)
  have k0 : w11.cell? ⟨w10.heap.size, 0, none⟩ = some (.int .u8 0) := by rw [cell_of_row w11 _ 0 _ _ _ hn11]; rfl
  have k1 : w11.cell? ⟨w10.heap.size, 1, none⟩ = some (.int .u8 9) := by rw [cell_of_row w11 _ 1 _ _ _ hn11]; rfl
  have hll : ([0, 9] : List UInt8).length = 2 := rfl
  rw [hll]
  clear hn11 hb11 hc11 hll GX
  go_wp2_with fail
  refine (held_any W.heap.size 1073741824 lv10 L10 w11 O11.out.rep).mono ?_
  rintro e w12 ⟨rfl, rfl⟩
  rw [H7.out]
  have GY := aside (get_all W.heap.size 1073741824 lv10 L10 0 65537 w12 O11.out.rep (by decide))
  have e2 : (getL L10 1073741824 0 65537).length = 65536 := by
    unfold getL
    rw [if_neg (by decide), readB_length]; rfl
  rw [e2] at GY
  clear e2
  go_wp2_with fail
  refine GY.out.mono ?_
  rintro e w13 ⟨a13, c13, rfl, -, -, hb13⟩
  have O13 := aside (O11.out.quiet hb13)
  clear hb13 GY
  go_wp2_with fail
  refine (cutLong_any W.heap.size 1073741825 w13 (by decide)).mono ?_
  rintro e w14 ⟨rfl, rfl⟩
  go_wp2_with fail
  refine (wakes_any w14).mono ?_
  rintro e w15 ⟨rfl, hb15⟩
  have B15 := aside (O13.out.below.trans (hb15.mono O13.out.below.size))
  clear hb15
  go_wp2
  go_ret
  exact ⟨rfl, B15.out⟩

theorem ownB : ownKnob Try.prog.godebug = none := by kernel_rfl

set_option maxRecDepth 100000 in
theorem spanBounds_lifted (os : Os) (started : os.Started) (H : Type) (enc : TypeId × Value → H) :
    ReturnsInHanded {} Try.checked os 4 .any (Rows.spanBoundsSpec.pre6 enc Try.prog Try.f4 Rows.spanBoundsRow.domain false) (Rows.spanBoundsSpec.post enc Try.prog Try.f4 false true false false) := by
  refine returnsInHanded_of_change (C := Try.checked) ownB started (by kernel_rfl) Try.func4
    (ChangeSpec.witness6 (enc := enc) (C := Try.checked) false ⟨#[], #[], []⟩ 8 (by kernel_rfl) (by kernel_rfl) (by kernel_rfl) (by kernel_rfl)) ?_
  intro W base args ds gs before hval0 hW hcnd _
  have hW' := hW
  obtain ⟨p, q, hA0, hV, rfl, hfz, hnd⟩ := hW
  have hA : DataW.TrodAll enc Try.prog W 0 (fun _ => true) true Try.f4.params.toList args.toList ds p := hA0
  rw [Try.params4] at hA
  obtain ⟨h1, rfl, rfl⟩ := trodAll_nil hA
  obtain rfl : args = #[] := by cases args; simp_all
  obtain ⟨rfl, rfl⟩ := trodVars_none hV
  clear hA0 hval0
  refine (spanBounds_walk W).mono fun e W' ⟨he, bel⟩ => ?_
  subst he
  exact ⟨_, rfl, _, _, _, [], _, [], hW', trodAll_mk1 (shut_bool Try.underlying4 _), trodAll_mk0, rfl, bel.frame _, fun h => by cases h⟩

theorem spanBounds_holds : Rows.SpanBoundsSaid :=
  OpenClaim.holds_of_wide 4 Try.f4 rfl rfl rfl rfl rfl rfl rfl ⟨rfl, rfl, rfl, rfl, rfl⟩ rfl rfl rfl rfl rfl (by kernel_rfl) Try.func4 (by kernel_rfl)
    (of_decide_eq_true (by kernel_rfl)) (by unfold Func.isWrapper; first | (rw [if_pos (by decide +kernel)]; kernel_rfl) | (rw [if_neg (by decide +kernel)]; exact ⟨rfl, rfl⟩))
    (fun os started H enc _ => spanBounds_lifted os started H enc)

#print axioms spanBounds_holds
end Go.Proofs.Ytkekaljcbmkomaa
