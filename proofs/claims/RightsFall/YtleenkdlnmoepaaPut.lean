/- (*Bytes).Put over any answer of lay, Put behind all stretches, and the calls on no bytes. -/
import Derived.Test.YtleenkdlnmoepaaLayEnd
namespace Go.Proofs.Ytleenkdlnmoepaa
open Go.RowKit
attribute [local simp] lcells_nil readB_length bcells_length
/-- Bytes with holes, whole: the object, its stretches, what holds of them. -/
structure Rep (w : World) (b : Nat) (sz : Nat) (lv : Value) (L : List Piece) : Prop where
  str : Str w b (.int .i64 sz) (.int .i64 (heldOf L)) lv L
  inv : Inv sz L

theorem Rep.below {w w' : World} {b sz : Nat} {lv : Value} {L : List Piece} (h : Rep w b sz lv L) (hb : Below w.heap.size w w') : Rep w' b sz lv L := ⟨h.str.below hb, h.inv⟩
theorem Rep.cells {w : World} {b sz : Nat} {lv : Value} {L : List Piece} (h : Rep w b sz lv L) : w.cell? ⟨b, 0, none⟩ = some (.int .i64 sz) ∧ w.cell? ⟨b, 1, none⟩ = some (.int .i64 (heldOf L)) ∧ w.cell? ⟨b, 2, none⟩ = some lv :=
  ⟨by rw [cell_of_row w b 0 _ _ _ h.str.obj]; rfl, by rw [cell_of_row w b 1 _ _ _ h.str.obj]; rfl, by rw [cell_of_row w b 2 _ _ _ h.str.obj]; rfl⟩

theorem Str.set {w : World} {b : Nat} {x0 x1 lv : Value} {L : List Piece} (h : Str w b x0 x1 lv L) (i : Nat) (u y0 y1 : Value) (e : (#[x0, x1, lv] : Array Value).setIfInBounds i u = #[y0, y1, lv]) : Str (w.setCell ⟨b, i, none⟩ u) b y0 y1 lv L := by
  have hu := Upd.setCell (F := fun k => k = b) (w := w) (p := ⟨b, i, none⟩) rfl u
  refine ⟨by rw [heap_setCell_same w b i _ _ _ h.obj, e], hu.row h.row (fun k hk e1 => h.lne (by rw [hk, e1])), fun d hd => hu.row (h.data d hd) (fun k hk e1 => ?_), h.lne, h.dne, h.nd⟩
  simp only [Piece.dv, Value.ownBlock, Option.some.injEq] at hk
  exact (h.dne d hd).1 (by rw [hk, e1])

set_option maxHeartbeats 1000000 in
theorem put_of (b sz : Nat) (lv : Value) (L : List Piece) (x n c : Nat) (src : Option Addr) (w : World) (Good : Value → List Piece → Prop) (hR : Rep w b sz lv L) (h0 : 0 < n) (hxl : x + n ≤ 1073741824) (hheld : heldOf L - ovls x (x + n) L + n ≤ 4194304)
    (hlay : ∀ W, Below w.heap.size w W → Calls Try.prog 42 #[.pointer (some ⟨b, 0, none⟩), .int .i64 x, .slice src n c] W fun e w' => e = .returned (.tuple #[]) ∧ ∃ lv' L', Str w' b (.int .i64 sz) (.int .i64 (heldOf L)) lv' L' ∧ Good lv' L' ∧ Upd (Foot b lv L) W w') :
    Calls Try.prog 34 #[.pointer (some ⟨b, 0, none⟩), .int .i64 x, .slice src n c] w fun e w' => e = .returned (.int .i64 0) ∧ ∃ lv' L', Str w' b (.int .i64 ((max sz (x + n) : Nat) : Int)) (.int .i64 ((heldOf L - ovls x (x + n) L + n : Nat) : Int)) lv' L' ∧ Good lv' L' ∧ Upd (Foot b lv L) w w' := by
  obtain ⟨c0, c1, c2⟩ := hR.cells
  have hbl : b < w.heap.size := World.block_lt_of_cell? w _ c0
  have hov := ovls_le x (x + n) L
  have hhe := hR.inv.held
  have hsz := hR.inv.size
  have W1 := fun (W : World) (hW : Below w.heap.size w W) => written_any b lv sz L x (x + n) W hR.inv (by omega) hxl (hR.below hW).cells.2.2 (hR.below hW).str.row
  have x1 : ∀ d os, (ext w d os).cell? ⟨b, 1, none⟩ = some (.int .i64 (heldOf L)) := fun d os => ext_cell c1 d os
  have HW := aside W1
  have HL := aside hlay
  have HR := aside hR
  have hn0 : ((n : Int) == 0) = false := by simp; omega
  have hnz : ¬ (n = 0) := by omega
  generalize ovls x (x + n) L = ov at *
  generalize heldOf L = he at *
  clear W1 hlay hR
  go_enter Try.func34, Try.ntmps34
  go_wp2
  refine region_ext (by kernel_rfl) (by kernel_rfl) ?_
  repeat (any_goals (first | go_big_quiet_step ((go_at_call 41; rw [show (x : Int) + (n : Int) = ((x + n : Nat) : Int) by omega]; exact calls_ext (HW.out _ (below_ext _ _ _)))) | quiet_step ((go_at_call 41; rw [show (x : Int) + (n : Int) = ((x + n : Nat) : Int) by omega]; exact calls_ext (HW.out _ (below_ext _ _ _))))))
  refine wpQuiet_nil ?_
  intro wq hq
  go_wp2_with fail
  refine (HL.out wq hq).mono ?_
  rintro e w3 ⟨rfl, lv', L', hS', hG, hu⟩
  have d0 : w3.cell? ⟨b, 0, none⟩ = some (.int .i64 sz) := by rw [cell_of_row w3 b 0 _ _ _ hS'.obj]; rfl
  have d1 : w3.cell? ⟨b, 1, none⟩ = some (.int .i64 he) := by rw [cell_of_row w3 b 1 _ _ _ hS'.obj]; rfl
  have f0 : w3.frozen? ⟨b, 0, none⟩ = false := frozen_of_row w3 b 0 _ _ hS'.obj
  have f1 : w3.frozen? ⟨b, 1, none⟩ = false := frozen_of_row w3 b 1 _ _ hS'.obj
  have HS := aside hS'
  have HU := aside hu
  have HQ := aside hq
  have hmx : max (sz : Int) ((x : Int) + (n : Int)) = ((max sz (x + n) : Nat) : Int) := by omega
  have HMX := aside hmx
  clear hS' hu hmx
  go_wp2_with ((with_reducible refine wpList_max2 _ rfl _ _ _ rfl (sz : Int) ((x : Int) + (n : Int)) ((max sz (x + n) : Nat) : Int) ?_ ?_ HMX.out ?_); rfl; rfl)

  all_goals go_ret
  all_goals
    refine ⟨rfl, lv', L', ?_, hG, ?_⟩
    · rw [show (he : Int) - ov + n = ((he - ov + n : Nat) : Int) by omega]
      exact (HS.out.set 1 _ (.int .i64 sz) _ rfl).set 0 _ _ _ rfl
    · refine (Upd.of_below HQ.out).trans (G := Foot b lv L) ?_ (fun _ _ h => h)
      refine HU.out.trans (G := fun k => k = b) ?_ (fun k _ e => .inl e)
      exact (Upd.setCell (F := fun k => k = b) (p := ⟨b, 1, none⟩) rfl _).trans (G := fun k => k = b) (Upd.setCell (F := fun k => k = b) (p := ⟨b, 0, none⟩) rfl _) (fun _ _ h => h)

/-- Put where the bytes come behind all stretches. -/
theorem putEnd_any (b sz : Nat) (lv : Value) (L : List Piece) (x : Nat) (src : Addr) (l : List UInt8) (c : Nat) (w : World) (hR : Rep w b sz lv L) (hx : ∀ d, d ∈ L → d.fin < x) (h0 : 0 < l.length) (hxl : x + l.length ≤ 1073741824) (hheld : heldOf L + l.length ≤ 4194304)
    (hsrc : ∀ j v, (bcells l)[j]? = some v → w.cell? (src.add j) = some v) :
    Calls Try.prog 34 #[.pointer (some ⟨b, 0, none⟩), .int .i64 x, .slice (some src) l.length c] w fun e w' => e = .returned (.int .i64 0) ∧ ∃ lv' g cap, Rep w' b (max sz (x + l.length)) lv' (L ++ [⟨x, g, cap, l⟩]) ∧ Upd (Foot b lv L) w w' ∧ w.heap.size ≤ g ∧ (lv'.ownBlock = lv.ownBlock ∨ ∃ k, lv'.ownBlock = some k ∧ w.heap.size ≤ k) := by
  have hov : ovls x (x + l.length) L = 0 := ovls_zero (fun d hd => by have := hx d hd; unfold ovl; omega)
  have h := put_of b sz lv L x l.length c (some src) w (fun lv' L' => ∃ g cap, L' = L ++ [⟨x, g, cap, l⟩] ∧ w.heap.size ≤ g ∧ (lv'.ownBlock = lv.ownBlock ∨ ∃ k, lv'.ownBlock = some k ∧ w.heap.size ≤ k)) hR h0 hxl (by rw [hov]; omega)
    (fun W hW => (layEnd_any b _ _ lv sz L x src l c W (hR.below hW).str hR.inv hx h0 (by omega) hxl (fun j v hj => (hW.cell (World.block_lt_of_cell? w _ (hsrc j v hj))).trans (hsrc j v hj))).mono (by
      rintro e w' ⟨rfl, lv', g, cap, hS, hg, hk, hu⟩
      have hs := hW.size
      refine ⟨rfl, lv', _, hS, ⟨g, cap, rfl, by omega, ?_⟩, hu.mono (fun k _ hk => ?_)⟩
      · rcases hk with e | ⟨k, e, hk⟩
        · exact .inl e
        · exact .inr ⟨k, e, by omega⟩
      · rcases hk with e | e
        · exact .inl e
        · exact .inr (.inl e)))
  refine h.mono ?_
  rintro e w' ⟨rfl, lv', L', hS, ⟨g, cap, rfl, hg, hk⟩, hu⟩
  refine ⟨rfl, lv', g, cap, ⟨?_, ?_⟩, hu, hg, hk⟩
  · rw [hov, Nat.sub_zero] at hS
    rw [heldOf_append]
    simpa [heldOf] using hS
  · refine ⟨?_, ?_, ?_, ?_, ?_⟩
    · rw [List.pairwise_append]
      exact ⟨hR.inv.sep, by simp, fun a ha d hd => by rw [List.mem_singleton.1 hd]; exact hx a ha⟩
    · intro d hd
      rcases List.mem_append.1 hd with hd | hd
      · exact hR.inv.ne d hd
      · rw [List.mem_singleton.1 hd]; exact h0
    · intro d hd
      rcases List.mem_append.1 hd with hd | hd
      · have := hR.inv.fin d hd; omega
      · rw [List.mem_singleton.1 hd]; simp only [Piece.fin]; omega
    · have := hR.inv.size; omega
    · rw [heldOf_append]; simp [heldOf] at hheld ⊢; omega

set_option maxHeartbeats 400000 in
theorem putNeg_any (b : Nat) (x : Int) (v : Value) (w : World) (hx : x < 0) : Calls Try.prog 34 #[.pointer (some ⟨b, 0, none⟩), .int .i64 x, v] w fun e w' => e = .returned (.int .i64 2) ∧ w' = w := by
  go_enter Try.func34, Try.ntmps34
  go_wp2
  go_ret
  exact ⟨rfl, rfl⟩

set_option maxHeartbeats 400000 in
theorem putNil_any (x : Int) (v : Value) (w : World) : Calls Try.prog 34 #[.pointer none, .int .i64 x, v] w fun e w' => e = .returned (.int .i64 1) ∧ w' = w := by
  go_enter Try.func34, Try.ntmps34
  go_wp2
  go_ret
  exact ⟨rfl, rfl⟩
set_option maxHeartbeats 400000 in
theorem size_any (b sz : Nat) (lv : Value) (L : List Piece) (w : World) (hR : Rep w b sz lv L) : Calls Try.prog 84 #[.pointer (some ⟨b, 0, none⟩)] w fun e w' => e = .returned (.int .i64 sz) ∧ w' = w := by
  obtain ⟨c0, c1, c2⟩ := hR.cells
  clear hR
  go_enter Try.func84, Try.ntmps84
  go_wp2
  go_ret
  exact ⟨rfl, rfl⟩
set_option maxHeartbeats 400000 in
theorem sizeNil_any (w : World) : Calls Try.prog 84 #[.pointer none] w fun e w' => e = .returned (.int .i64 0) ∧ w' = w := by
  go_enter Try.func84, Try.ntmps84
  go_wp2
  go_ret
  exact ⟨rfl, rfl⟩


set_option maxHeartbeats 400000 in
theorem cutNil_any (x : Int) (w : World) : Calls Try.prog 81 #[.pointer none, .int .i64 x] w fun e w' => e = .returned (.int .i64 1) ∧ w' = w := by
  go_enter Try.func81, Try.ntmps81
  go_wp2
  go_ret
  exact ⟨rfl, rfl⟩

set_option maxHeartbeats 400000 in
theorem getNil_any (x n : Int) (w : World) : Calls Try.prog 109 #[.pointer none, .int .i64 x, .int .i64 n] w fun e w' => e = .returned (.slice none 0 0) ∧ w' = w := by
  go_enter Try.func109, Try.ntmps109
  go_wp2
  go_ret
  exact ⟨rfl, rfl⟩
set_option maxHeartbeats 400000 in
theorem nextNil_any (x : Int) (w : World) : Calls Try.prog 83 #[.pointer none, .int .i64 x] w fun e w' => e = .returned (.tuple #[.int .i64 0, .int .i64 0]) ∧ Below w.heap.size w w' := by
  go_enter Try.func83, Try.ntmps83
  go_wp2
  go_ret2
  exact ⟨rfl, below_al w _⟩
end Go.Proofs.Ytleenkdlnmoepaa
