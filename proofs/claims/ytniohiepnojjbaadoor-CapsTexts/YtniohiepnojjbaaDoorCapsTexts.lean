/-
  CapsTexts: every number, every text: the walk.
-/
import Derived.Test.YtniohiepnojjbaaDoorRefParse
import Derived.Test.YtniohiepnojjbaaDoorTold
namespace Go.Proofs.YtniohiepnojjbaaDoor
open Go.RowKit

/-- told, of what Parse answers. -/
theorem told_any (v : Value) (f : Option (Nat × List UInt8)) (w : World) (hv : ErrAt w v f) (hh : HandleAt w) :
    Calls Tryd.prog 11 #[v] w fun e w' => e = .returned (.tuple #[faultV f, .bool true]) ∧ Below w.heap.size w w' := by
  cases f with
  | none =>
    obtain rfl : v = .nilIface := hv
    exact told_nil w
  | some pt =>
    obtain ⟨p, t⟩ := pt
    obtain ⟨g, rfl, hg⟩ := hv
    exact told_fault g p ⟨t.toArray⟩ w hg hh

theorem ErrAt.below {w w' : World} {v : Value} {f : Option (Nat × List UInt8)} (h : ErrAt w v f) (hb : Below w.heap.size w w') : ErrAt w' v f := by
  cases f with
  | none => exact h
  | some pt =>
    obtain ⟨g, hv, hg⟩ := h
    exact ⟨g, hv, (hb.block g (Array.getElem?_eq_some_iff.1 hg).1).trans hg⟩

theorem fault_form (f : Option (Nat × List UInt8)) : ∃ (c p : Int) (s : ByteArray), faultV f = .agg #[.int .i64 c, .int .i64 p, .string s] := by
  cases f with
  | none => exact ⟨0, 0, ⟨#[]⟩, rfl⟩
  | some pt => exact ⟨2, pt.1, ⟨pt.2.toArray⟩, rfl⟩

set_option maxHeartbeats 8000000 in
set_option maxRecDepth 100000 in
theorem capsTexts_walk (can : Nat) (s : ByteArray) (hc : can < 256) (hs : s.size ≤ 140737488351232) (w : World) (hw : WordsAt w) (hh : HandleAt w) :
    Calls Tryd.prog 3 #[.int .u8 (can : Int), .string s] w fun e w' => e = .returned (.bool true) ∧ Below w.heap.size w w' := by
  have HW := aside hw
  have HH := aside hh
  have PA := aside (parse_any s w hs hw)
  have RP := aside (fun W => refParse_any s W hs)
  have TO := aside (fun v W hv (hW : Below w.heap.size w W) => told_any v (parseL s.data.toList).2 W hv (hh.below hW))
  obtain ⟨fc, fp, fs, hf⟩ := fault_form (parseL s.data.toList).2
  rw [hf] at RP TO
  clear hw hh
  generalize parseL s.data.toList = P at *
  obtain ⟨rv, rf⟩ := P
  clear hf
  go_enter Tryd.func3, Tryd.ntmps3
  go_wp2_with fail
  refine PA.out.mono ?_
  rintro e w1 ⟨⟨v1, rfl, hv1⟩, b1⟩
  have B1 := aside b1
  have V1 := aside hv1
  clear b1 hv1
  go_wp2_with fail
  refine (RP.out w1).mono ?_
  rintro e w2 ⟨rfl, b2⟩
  have B2 := aside (below_tr B1.out b2)
  have B12 := aside b2
  clear b2
  go_wp2_with fail
  have V3 := aside ((V1.out.below B12.out).below (below_al w2 (.cells #[.int .i64 fc, .int .i64 fp, .string fs] 28)))
  refine (TO.out v1 _ V3.out (below_tr B2.out (below_al w2 _))).mono ?_
  rintro e w3 ⟨rfl, b3⟩
  have q0 : w3.cell? ⟨w2.heap.size, 0, none⟩ = some (.int .i64 fc) := (b3.cell (p := ⟨w2.heap.size, 0, none⟩) (by simp)).trans (by go_simp)
  have q1 : w3.cell? ⟨w2.heap.size, 1, none⟩ = some (.int .i64 fp) := (b3.cell (p := ⟨w2.heap.size, 1, none⟩) (by simp)).trans (by go_simp)
  have q2 : w3.cell? ⟨w2.heap.size, 2, none⟩ = some (.string fs) := (b3.cell (p := ⟨w2.heap.size, 2, none⟩) (by simp)).trans (by go_simp)
  have hl3 : w2.heap.size < w3.heap.size := by have := b3.size; simp at this; omega
  have B3 := aside (below_tr (below_tr B2.out (below_al w2 _)) b3)
  clear b3 V1 V3 B12
  have TX := aside (fun W (hW : Below w.heap.size w W) => text_any can hc W (HW.out.below hW))
  have RX := aside (fun W => refText_any can hc W)
  generalize (⟨(textL can).toArray⟩ : ByteArray) = tx at *
  go_wp2_with fail
  refine (TX.out _ (below_tr B3.out (below_al w3 _))).mono ?_
  rintro e w4 ⟨rfl, b4⟩
  have B4 := aside (below_tr (below_tr B3.out (below_al w3 _)) b4)
  clear b4
  go_wp2_with fail
  refine (RX.out w4).mono ?_
  rintro e w5 ⟨rfl, b5⟩
  have B5 := aside (below_tr B4.out b5)
  clear b5
  go_wp2
  go_ret
  exact ⟨rfl, B5.out⟩
end Go.Proofs.YtniohiepnojjbaaDoor
