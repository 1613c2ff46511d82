/- wakes: what the document says of a few bytes holds of this program. -/
import Derived.Test.YtkekaljcbmkomaaNext
import Derived.Lib.SlBytesConst
namespace Go.Proofs.Ytkekaljcbmkomaa
open Go.RowKit
attribute [local simp] lcells_nil readB_length bcells_length
theorem cells_lit {w : World} {b : Nat} {cs : List Value} {T : TypeId} {fr : Nat × Nat} (h : w.heap[b]? = some (.cells cs.toArray T fr)) : ∀ j v, cs[j]? = some v → w.cell? ((⟨b, 0, none⟩ : Addr).add j) = some v := fun j v hj => by
  rw [Addr.add_lit, Nat.zero_add, cell_of_row w b j _ _ _ h]; simpa using hj

theorem str_of_bytes (w : World) (a : Addr) (l : List UInt8) (n c : Nat) (hn : n = l.length) (h : ∀ j v, (bcells l)[j]? = some v → w.cell? (a.add j) = some v) : (convert 22 9 (.slice (some a) n c)).run Try.prog w = .ok (.string ⟨l.toArray⟩) w := by
  subst hn
  rw [run_convert_bytes_string w 22 9 5 (some a) l.length c Try.underlying22 Try.underlying5 Try.underlying9]
  have e : bcells l = (l.map fun b => (b.toNat : Int)).map (Value.int .u8) := by simp [bcells]
  rw [run_bytesToString w a l.length c (l.map fun b => (b.toNat : Int)) (by rw [← e]; have := run_loadCells_list (P := Try.prog) (w := w) a (bcells l) h; rwa [bcells_length] at this), foldl_push_byteCells, show ByteArray.empty.data = #[] from rfl, Array.empty_append]

set_option maxHeartbeats 1000000 in
theorem wakes_any (w : World) : Calls Try.prog 10 #[] w fun e w' => e = .returned (.bool true) ∧ Below w.heap.size w w' := by
  have N1 := fun (W : World) (sb : Nat) (hsb : W.heap[sb]? = some (.cells #[.int .u8 97, .int .u8 98, .int .u8 99] 5 (3, 4))) => new_any ⟨sb, 0, none⟩ [97, 98, 99] 3 W (by decide) (by decide) (by decide) (cells_lit (cs := bcells [97, 98, 99]) hsb)
  have HN := aside N1
  clear N1
  have hcv := fun (w : World) (C : Array Value) (n c : Nat) => Lib.run_convert_bytes_const (P := Try.prog) w 22 5 C n c Try.underlying22 Try.underlying5
  go_enter Try.func10, Try.ntmps10
  go_wp2_with fail
  refine (HN.out _ w.heap.size (heap_alloc_new w _)).mono ?_
  rintro e w1 ⟨rfl, lv, g, cap, hR1, hb1, hf1⟩
  rw [show List.take 4194304 ([97, 98, 99] : List UInt8) = [97, 98, 99] from List.take_of_length_le (by decide)] at hR1 hf1
  rw [World.size_alloc] at hR1 hf1
  have HF1 := aside hf1
  change Rep w1 (w.heap.size + 1) 3 lv [⟨0, g, cap, [97, 98, 99]⟩] at hR1
  have HR1 := aside hR1
  have HB1 : Aside (Below w.heap.size w w1) := (below_al w _).trans (hb1.mono (by simp))
  have hs1 : w.heap.size + 1 < w1.heap.size := hR1.str.lv_lt (.inl rfl)
  clear hR1 hb1 hf1
  go_wp2_with fail
  have hA2 := below_al w1 (.cells #[.int .u8 120, .int .u8 121] 5 (2, 3))
  refine (putEnd_any (w.heap.size + 1) 3 lv [⟨0, g, cap, [97, 98, 99]⟩] 5 ⟨w1.heap.size, 0, none⟩ [120, 121] 2 _ (HR1.out.below hA2) (by simp [Piece.fin]) (by decide) (by decide) (by simp [heldOf]) (cells_lit (cs := bcells [120, 121]) (heap_alloc_new w1 _))).mono ?_
  rintro e w2 ⟨rfl, lv2, g2, cap2, hR2, hu2, -, -⟩
  change Rep w2 (w.heap.size + 1) 7 lv2 [⟨0, g, cap, [97, 98, 99]⟩, ⟨5, g2, cap2, [120, 121]⟩] at hR2
  have HR2 := aside hR2
  have HB2 : Aside (Below w.heap.size w w2) := HB1.out.trans ((hA2.mono HB1.out.size).trans (hu2.below (by simp; omega) (fun k hk => by have := HF1.out k hk; omega)))
  clear hR2 hu2 hA2
  go_wp2_with fail
  have hnx := next_any _ 7 lv2 _ 1 w2 HR2.out (by decide)
  rw [show nextOf [⟨0, g, cap, [97, 98, 99]⟩, ⟨5, g2, cap2, [120, 121]⟩] 7 (Int.toNat 1) = (1, 3) from rfl] at hnx
  refine hnx.mono ?_
  clear hnx
  rintro e w3 ⟨rfl, hb3⟩
  have HR3 := aside (HR2.out.below hb3)
  have HB3 := aside (HB2.out.trans (hb3.mono HB2.out.size))
  clear hb3
  go_wp2_with fail
  have hnx := next_any _ 7 lv2 _ 3 w3 HR3.out (by decide)
  rw [show nextOf [⟨0, g, cap, [97, 98, 99]⟩, ⟨5, g2, cap2, [120, 121]⟩] 7 (Int.toNat 3) = (5, 7) from rfl] at hnx
  refine hnx.mono ?_
  clear hnx
  rintro e w4 ⟨rfl, hb4⟩
  have HR4 := aside (HR3.out.below hb4)
  have HB4 := aside (HB3.out.trans (hb4.mono HB3.out.size))
  clear hb4
  go_wp2_with fail
  have hnx := next_any _ 7 lv2 _ 7 w4 HR4.out (by decide)
  rw [show nextOf [⟨0, g, cap, [97, 98, 99]⟩, ⟨5, g2, cap2, [120, 121]⟩] 7 (Int.toNat 7) = (7, 7) from rfl] at hnx
  refine hnx.mono ?_
  clear hnx
  rintro e w5 ⟨rfl, hb5⟩
  have HR5 := aside (HR4.out.below hb5)
  have HB5 := aside (HB4.out.trans (hb5.mono HB4.out.size))
  clear hb5
  go_wp2_with fail
  refine (size_any _ 7 lv2 _ w5 HR5.out).mono ?_
  rintro e w6 ⟨rfl, rfl⟩
  go_wp2_with fail
  have hhd := held_any _ 7 lv2 _ w6 HR5.out
  rw [show heldOf [⟨0, g, cap, [97, 98, 99]⟩, ⟨5, g2, cap2, [120, 121]⟩] = 5 from rfl] at hhd
  refine hhd.mono ?_
  clear hhd
  rintro e w7 ⟨rfl, rfl⟩
  go_wp2_with fail
  have hgt := get_any (w.heap.size + 1) lv2 7 [⟨0, g, cap, [97, 98, 99]⟩, ⟨5, g2, cap2, [120, 121]⟩] 1 5 w7 HR5.out.inv (by decide) (by decide) (by decide) HR5.out.cells.1 HR5.out.cells.2.2 HR5.out.str.row HR5.out.str.data
  refine hgt.mono ?_
  clear hgt
  rintro e w8 ⟨m, rfl, rfl, hrow, hb8⟩
  change w8.heap[w7.heap.size]? = some (.cells #[.int .u8 98, .int .u8 99, .int .u8 0, .int .u8 0, .int .u8 120] 5 (0, 0)) at hrow
  have hst := str_of_bytes w8 ⟨w7.heap.size, 0, none⟩ [98, 99, 0, 0, 120] 5 5 rfl (cells_lit (cs := bcells [98, 99, 0, 0, 120]) hrow)
  have HB8 := aside (HB5.out.trans (hb8.mono HB5.out.size))
  clear hrow hb8
  go_wp2_with fail
  refine (putNeg_any _ (-1) (.slice none 0 0) w8 (by decide)).mono ?_
  rintro e w9 ⟨rfl, rfl⟩
  go_wp2
  go_ret
  exact ⟨rfl, HB8.out⟩
end Go.Proofs.Ytkekaljcbmkomaa
