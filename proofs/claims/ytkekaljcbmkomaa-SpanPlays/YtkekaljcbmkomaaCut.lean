/- Cut, over erase. -/
import Derived.Test.YtkekaljcbmkomaaEraseAny
namespace Go.Proofs.Ytkekaljcbmkomaa
open Go.RowKit
theorem erased_none {sz : Nat} {L : List Piece} (h : Inv sz L) {x y : Nat} (hxy : y ≤ x) : Erased L L x y := by
  refine ⟨h.sep, h.ne, fun n hn => ⟨n, hn, Nat.le_refl _, Nat.le_refl _, fun h => by omega⟩, ?_, fun p => by rw [if_neg (by omega)], fun p => ⟨fun h => ⟨h, by omega⟩, fun h => h.1⟩, by omega⟩
  rw [ovls_zero (L := L) (fun d hd => by unfold ovl; omega)]; rfl
theorem eraseAll_any (b : Nat) (sz : Nat) (lv : Value) (L : List Piece) (x y : Nat) (w : World) (hR : Rep w b sz lv L) (hy : y ≤ 1073741824) :
    Calls Try.prog 37 #[.pointer (some ⟨b, 0, none⟩), .int .i64 x, .int .i64 y] w fun e w' => e = .returned (.tuple #[]) ∧ ∃ lv' L', Rep w' b sz lv' L' ∧ Erased L L' x y ∧ Grew b lv L w lv' L' ∧ Upd (Foot b lv L) w w' := by
  rcases Nat.lt_or_ge x y with hxy | hxy
  · exact erase_any b sz lv L x y w hR hxy hy
  · refine (eraseNone_any b x y w (by omega)).mono ?_
    rintro e w' ⟨rfl, hb⟩
    exact ⟨rfl, lv, L, hR.below hb, erased_none hR.inv hxy, fun k hk => .inl hk, Upd.of_below hb⟩
theorem cutNeg_any (b : Nat) (x : Int) (w : World) (hx : x < 0) : Calls Try.prog 22 #[.pointer (some ⟨b, 0, none⟩), .int .i64 x] w fun e w' => e = .returned (.int .i64 2) ∧ w' = w := by
  go_enter Try.func22, Try.ntmps22
  go_wp2
  go_ret
  exact ⟨rfl, rfl⟩
theorem cutLong_any (b : Nat) (x : Int) (w : World) (hx : 1073741824 < x) : Calls Try.prog 22 #[.pointer (some ⟨b, 0, none⟩), .int .i64 x] w fun e w' => e = .returned (.int .i64 3) ∧ w' = w := by
  have h0 : ¬ (x < 0) := by omega
  go_enter Try.func22, Try.ntmps22
  go_wp2
  go_ret
  exact ⟨rfl, rfl⟩
theorem cut_any (b sz : Nat) (lv : Value) (L : List Piece) (x : Nat) (w : World) (hR : Rep w b sz lv L) (hx : x ≤ 1073741824) :
    Calls Try.prog 22 #[.pointer (some ⟨b, 0, none⟩), .int .i64 x] w fun e w' => e = .returned (.int .i64 0) ∧ ∃ lv' L', Rep w' b x lv' L' ∧ Erased L L' x sz ∧ Grew b lv L w lv' L' ∧ Upd (Foot b lv L) w w' := by
  have HE := aside (eraseAll_any b sz lv L x sz w hR hR.inv.size)
  obtain ⟨c0, c1, c2⟩ := hR.cells
  have h0 : ¬ ((x : Int) < 0) := by omega
  have h1 : ¬ (1073741824 < (x : Int)) := by omega
  have h2 : ¬ (1073741824 < x) := by omega
  have HR := aside hR
  clear hR
  go_enter Try.func22, Try.ntmps22
  go_wp2_with fail
  refine HE.out.mono ?_
  rintro e w' ⟨rfl, lv', L', hR', hE, hG, hu⟩
  obtain ⟨d0, d1, d2⟩ := hR'.cells
  have f0 : w'.frozen? ⟨b, 0, none⟩ = false := frozen_of_row w' b 0 _ _ hR'.str.obj
  go_wp2_with fail
  go_ret
  have hS := hR'.str.set 0 (.int .i64 x) (.int .i64 x) (.int .i64 (heldOf L')) rfl
  refine ⟨rfl, lv', L', ⟨hS, hR'.inv.sep, hR'.inv.ne, fun d hd => ?_, hx, hR'.inv.held⟩, hE, hG, hu.trans (Upd.setCell (F := fun k => k = b) (p := ⟨b, 0, none⟩) rfl _) (fun k _ h => .inl h)⟩
  obtain ⟨e, he, h3, h4, h5⟩ := hE.inn d hd
  have h6 := HR.out.inv.fin e he
  have h7 := hE.ne d hd
  unfold Piece.fin at *
  omega
end Go.Proofs.Ytkekaljcbmkomaa
