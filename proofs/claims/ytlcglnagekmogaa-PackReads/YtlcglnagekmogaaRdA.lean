/- A handle over one file of whatever type; the file of packed bytes: its Size and ReadAt; Do of these. -/
import Derived.Test.YtlcglnagekmogaaAsk
import Derived.Test.YtlcglnagekmogaaApp
namespace Go.Proofs.Ytlcglnagekmogaa
open Go.RowKit
attribute [local simp] lcells_nil readB_length bcells_length

abbrev J (t : TypeId) (p : Addr) : Value := .iface t (.pointer (some p))

set_option maxRecDepth 20000 in
set_option maxHeartbeats 1000000 in
theorem can_noneT (t : TypeId) (p : Addr) (w : World) : Calls Try.prog 63 #[.agg #[J t p, .nilIface, .nilIface, .nilIface, .nilIface]] w fun e w' => e = .returned (.int .u8 0) ∧ Below w.heap.size w w' := by
  go_enter Try.func63, Try.ntmps63
  go_wp2
  go_ret
  exact ⟨rfl, below_al w _⟩

set_option maxRecDepth 20000 in
set_option maxHeartbeats 1000000 in
theorem together_noneT (t : TypeId) (p : Addr) (w : World) : Calls Try.prog 51 #[.agg #[J t p, .nilIface, .nilIface, .nilIface, .nilIface]] w fun e w' => ∃ fb, e = .returned (.iface 126 (.pointer (some ⟨fb, 0, none⟩))) ∧ w.heap.size < fb ∧ w'.heap[fb]? = some (.cells #[J t p] 128 (0, 0)) ∧ Below w.heap.size w w' := by
  have hA := aside (below_al w (.cells #[J t p, .nilIface, .nilIface, .nilIface, .nilIface] 115))
  go_enter Try.func51, Try.ntmps51
  go_wp2_with fail
  refine (can_noneT t p _).mono ?_
  rintro e w1 ⟨rfl, hb1⟩
  obtain ⟨c0, c1, c2, c3, c4⟩ := five_cells hb1
  have HB := aside hb1
  have hs := hb1.size
  rw [World.size_alloc] at hs
  clear hb1
  go_wp2
  go_ret
  exact ⟨_, rfl, hs, heap_alloc_new w1 _, below_tr (below_tr hA.out HB.out) (below_al w1 _)⟩

set_option maxRecDepth 20000 in
set_option maxHeartbeats 2000000 in
theorem make_noneT (t : TypeId) (p : Addr) (w : World) : Calls Try.prog 35 #[J t p, .nilIface, .nilIface, .nilIface, .nilIface] w fun e w' => ∃ hb fb, e = .returned (.pointer (some ⟨hb, 0, none⟩)) ∧ w.heap.size ≤ hb ∧ w.heap.size ≤ fb ∧ Han w' hb (J t p) .nilIface .nilIface .nilIface .nilIface (.iface 126 (.pointer (some ⟨fb, 0, none⟩))) ∧ w'.heap[fb]? = some (.cells #[J t p] 128 (0, 0)) ∧ Below w.heap.size w w' := by
  go_enter Try.func35, Try.ntmps35
  go_wp2_with fail
  go_region_with (go_at_call 51; refine (together_noneT t p _).mono ?_; rintro e w1 ⟨fb, rfl, hs, hrow, hb1⟩; have hc := fun o => hb1.cell (p := ⟨w.heap.size, o, none⟩) (by simp); have c0 : w1.cell? ⟨w.heap.size, 0, none⟩ = some (J t p) := (hc 0).trans (by go_simp); have c1 : w1.cell? ⟨w.heap.size, 1, none⟩ = some .nilIface := (hc 1).trans (by go_simp); have c2 : w1.cell? ⟨w.heap.size, 2, none⟩ = some .nilIface := (hc 2).trans (by go_simp); have c3 : w1.cell? ⟨w.heap.size, 3, none⟩ = some .nilIface := (hc 3).trans (by go_simp); have c4 : w1.cell? ⟨w.heap.size, 4, none⟩ = some .nilIface := (hc 4).trans (by go_simp); have HB := aside hb1; have HR := aside hrow; have HS := aside hs; clear hb1 hrow hc hs)
  all_goals
    go_wp2
    go_ret
    have hs := HS.out
    have hfb : fb < w1.heap.size := (Array.getElem?_eq_some_iff.1 HR.out).1
    simp only [World.drew, World.size_alloc] at hs
    have hW := below_tr (below_tr (below_al w _) (below_dr _)) HB.out
    refine ⟨_, fb, rfl, hW.size, by omega, heap_alloc_new w1 _, ?_, below_tr hW (below_al w1 _)⟩
    rw [(below_al w1 _).block fb hfb]
    exact HR.out

/-- Of a handle with a file alone, of whatever type. -/
structure All0T (t : TypeId) (w : World) (hb fb : Nat) (p : Addr) : Prop where
  han : Han w hb (J t p) .nilIface .nilIface .nilIface .nilIface (.iface 126 (.pointer (some ⟨fb, 0, none⟩)))
  fil : w.heap[fb]? = some (.cells #[J t p] 128 (0, 0))
theorem All0T.below {t : TypeId} {w w' : World} {hb fb : Nat} {p : Addr} (h : All0T t w hb fb p) (k : Below w.heap.size w w') : All0T t w' hb fb p :=
  ⟨(k.block hb (Array.getElem?_eq_some_iff.1 h.han).1).trans h.han, (k.block fb (Array.getElem?_eq_some_iff.1 h.fil).1).trans h.fil⟩
theorem All0T.c0 {t : TypeId} {w : World} {hb fb : Nat} {m : Addr} (h : All0T t w hb fb m) : w.cell? ⟨fb, 0, none⟩ = some (J t m) := by
  rw [cell_of_row w fb _ _ _ _ h.fil]; rfl
theorem All0T.c5 {t : TypeId} {w : World} {hb fb : Nat} {m : Addr} (h : All0T t w hb fb m) : w.cell? ⟨hb, 5, none⟩ = some (.iface 126 (.pointer (some ⟨fb, 0, none⟩))) := (han_cells h.han).2.2.2.2.2

theorem methP_Size (w : World) (fb : Nat) (m : Addr) (h : w.cell? ⟨fb, 0, none⟩ = some (J 74 m)) : (method 312 126 (.pointer (some ⟨fb, 0, none⟩)) "Size").run Try.prog w = .ok (114, .pointer (some m)) w :=
  (method_up (n := 311) (st := 128) (ix := 0) (ft := 69) (off := 0) (by kernel_rfl) (by kernel_rfl) (up_size 69 (by kernel_rfl) w) (up_agg 69 Try.underlying69 w) (by simpa [Addr.add] using h)).trans (by kernel_rfl)
theorem methP_ReadAt (w : World) (fb : Nat) (m : Addr) (h : w.cell? ⟨fb, 0, none⟩ = some (J 74 m)) : (method 312 126 (.pointer (some ⟨fb, 0, none⟩)) "ReadAt").run Try.prog w = .ok (113, .pointer (some m)) w :=
  (method_up (n := 311) (st := 128) (ix := 0) (ft := 69) (off := 0) (by kernel_rfl) (by kernel_rfl) (up_size 69 (by kernel_rfl) w) (up_agg 69 Try.underlying69 w) (by simpa [Addr.add] using h)).trans (by kernel_rfl)
theorem meth0_Size (w : World) (fb : Nat) (m : Addr) (h : w.cell? ⟨fb, 0, none⟩ = some (I m)) : (method 312 126 (.pointer (some ⟨fb, 0, none⟩)) "Size").run Try.prog w = .ok (119, .pointer (some m)) w :=
  (method_up (n := 311) (st := 128) (ix := 0) (ft := 69) (off := 0) (by kernel_rfl) (by kernel_rfl) (up_size 69 (by kernel_rfl) w) (up_agg 69 Try.underlying69 w) (by simpa [Addr.add] using h)).trans (by kernel_rfl)

theorem own_built {w : World} {g : Nat} (h : w.heap[g]? = some (.cells #[] 5 (0, 0))) : Own w (.slice (some ⟨g, 0, none⟩) 0 0) [] :=
  ⟨by simp [bcells], .inr ⟨g, 0, #[], rfl, Nat.zero_le _, h, Nat.le_refl _, by unfold maxLen; omega, by simp, by simp [bcells]⟩⟩

set_option maxRecDepth 20000 in
set_option maxHeartbeats 1000000 in
/-- bytes.Clone of bytes that are not nil. -/
theorem bclone_gen (ad : Addr) (l : List UInt8) (c : Nat) (w : World) (h : BsAt w (some ad) l) (hl : l.length ≤ 1048576) :
    Calls Try.prog 36 #[.slice (some ad) l.length c] w fun e w' => ∃ a' c', e = .returned (.slice (some a') l.length c') ∧ l.length ≤ c' ∧ BsAt w' (some a') l ∧ Below w.heap.size w w' := by
  have hnil : ∀ w, (binOp .eql 22 (.slice (some ad) l.length c) (.slice none 0 0)).run Try.prog w = .ok (.bool false) w := fun w => Lib.run_eql_slice_nil w 22 5 (some ad) l.length c 0 0 Try.underlying22
  have hB := below_al w (.cells #[] 5)
  have HO := aside (own_built (heap_new w (.cells #[] 5)))
  have HBS := aside (h.below hB)
  have HB := aside hB
  clear h hB
  go_enter Try.func36, Try.ntmps36
  go_wp2_with (at_builtin; refine wpList_app rfl _ _ rfl (.slice (some ⟨w.heap.size, 0, none⟩) 0 0) [] l _ _ rfl rfl HO.out HBS.out (by simp; omega) ?_)
  intro v' w' ho hu hv
  obtain ⟨a', c', rfl, hlc, -, hb⟩ := ho.tel
  have HLC := aside hlc
  obtain ⟨a2, rfl⟩ : ∃ a2, a' = some a2 := by
    cases a' with
    | none => rcases hv with e | e <;> simp [Value.ownBlock] at e
    | some a2 => exact ⟨a2, rfl⟩
  have HX := aside hb
  have HW : Aside (Below w.heap.size w w') := HB.out.trans (hu.below HB.out.size (fun k hk => by simp only [Value.ownBlock, Option.some.injEq] at hk; omega))
  clear ho hu hv hb hlc
  go_wp2_with fail
  go_ret
  exact ⟨a2, c', rfl, HLC.out, HX.out, HW.out⟩

/-- A file of bytes that stay as they are. -/
structure PF (w : World) (pf : Nat) (l : List UInt8) : Prop where
  row : ∃ a, w.heap[pf]? = some (.cells #[.slice a l.length l.length] 76 (0, 0)) ∧ BsAt w a l
theorem PF.below {w w' : World} {pf : Nat} {l : List UInt8} (h : PF w pf l) (k : Below w.heap.size w w') : PF w' pf l := by
  obtain ⟨a, h1, h2⟩ := h.row
  exact ⟨a, (k.block pf (Array.getElem?_eq_some_iff.1 h1).1).trans h1, h2.below k⟩

set_option maxRecDepth 20000 in
set_option maxHeartbeats 1000000 in
theorem pSize_any (pf : Nat) (l : List UInt8) (w : World) (h : PF w pf l) : Calls Try.prog 114 #[.pointer (some ⟨pf, 0, none⟩)] w fun e w' => e = .returned (.int .i64 (l.length : Nat)) ∧ w' = w := by
  obtain ⟨a, h1, -⟩ := h.row
  have c0 : w.cell? ⟨pf, 0, none⟩ = some (.slice a l.length l.length) := by rw [cell_of_row w pf 0 _ _ _ h1]; rfl
  clear h h1
  go_enter Try.func114, Try.ntmps114
  go_wp2_with fail
  go_ret
  exact ⟨rfl, rfl⟩

set_option maxRecDepth 20000 in
set_option maxHeartbeats 2000000 in
theorem pRead_any (pf : Nat) (l : List UInt8) (x n : Nat) (w : World) (h : PF w pf l) (hl : l.length ≤ 65536) (hx : x < l.length) (hn : n ≤ 65536) :
    Calls Try.prog 113 #[.pointer (some ⟨pf, 0, none⟩), .int .i64 (x : Int), .int .i64 (n : Int)] w fun e w' => ∃ a' c', e = .returned (.tuple #[.slice (some a') ((l.drop x).take n).length c', .int .i64 0]) ∧ ((l.drop x).take n).length ≤ c' ∧ BsAt w' (some a') ((l.drop x).take n) ∧ Below w.heap.size w w' := by
  have S := aside (pSize_any pf l w h)
  obtain ⟨a, h1, h2⟩ := h.row
  have c0 : w.cell? ⟨pf, 0, none⟩ = some (.slice a l.length l.length) := by rw [cell_of_row w pf 0 _ _ _ h1]; rfl
  obtain ⟨g, o, rfl, hcell⟩ := bs_plain h2 (fun h0 => by rw [h0] at hx; simp at hx)
  obtain ⟨y, hy⟩ : ∃ y, y = min (x + n) l.length := ⟨_, rfl⟩
  have m1 : min (x : Int) (l.length : Int) = (x : Int) := by omega
  have m2 : min ((x : Int) + (n : Int)) (l.length : Int) = (y : Int) := by omega
  have hls : (l.take y).drop x = (l.drop x).take n := by
    rw [List.drop_take]
    by_cases hh : x + n ≤ l.length
    · rw [show y - x = n by omega]
    · rw [List.take_of_length_le (by rw [List.length_drop]; omega), List.take_of_length_le (by rw [List.length_drop]; omega)]
  have s1 : ∀ W, (Instr.slice 22 (.slice (some ⟨g, o, none⟩) l.length l.length) (some (.int .i64 (x : Int))) (some (.int .i64 (y : Int))) none).run Try.prog W = .ok (.slice (some ⟨g, o + x, none⟩) ((l.drop x).take n).length (l.length - x)) W := fun W => by
    rw [run_slice_lh W 22 _ _ _ elem22 .i64 .i64 _ _ (by omega) (by omega) (by omega), size22]
    simp only [Result.andThen, sliced, Int.toNat_natCast]
    rw [if_neg (by omega), Option.map_some, Addr.add_lit, Nat.mul_one, ← hls, List.length_drop, List.length_take, Nat.min_eq_left (by omega : y ≤ l.length)]
  have hbs : BsAt w (some ⟨g, o + x, none⟩) ((l.drop x).take n) := bs_of fun j z hz => by
    rw [List.getElem?_take] at hz
    split at hz
    · rw [List.getElem?_drop] at hz; rw [Nat.add_assoc]; exact hcell _ z hz
    · cases hz
  have hKl : ((l.drop x).take n).length ≤ 65536 := by rw [List.length_take]; omega
  have CL := aside (bclone_gen ⟨g, o + x, none⟩ ((l.drop x).take n) (l.length - x) w hbs (by omega))
  have M1 := aside m1
  have M2 := aside m2
  have t1 : ¬ ((x : Int) < 0) := by omega
  have t2 : ¬ ((n : Int) < 0) := by omega
  have t3 : ¬ ((65536 : Int) < (n : Int)) := by omega
  clear h h1 h2 hcell hbs hls hy m1 m2
  generalize (l.drop x).take n = K at *
  go_enter Try.func113, Try.ntmps113
  go_wp2_with fail
  refine S.out.mono ?_
  rintro e w' ⟨rfl, rfl⟩
  go_wp2_with ((with_reducible refine wpList_min2 _ rfl _ _ _ rfl (x : Int) (l.length : Int) (x : Int) ?_ ?_ M1.out ?_); rfl; rfl)
  refine S.out.mono ?_
  rintro e w' ⟨rfl, rfl⟩
  go_wp2_with ((with_reducible refine wpList_min2 _ rfl _ _ _ rfl ((x : Int) + (n : Int)) (l.length : Int) (y : Int) ?_ ?_ M2.out ?_); rfl; rfl)
  refine CL.out.mono ?_
  rintro e w2 ⟨a2, c2, rfl, hlc2, hb2, hw2⟩
  have HX := aside hb2
  have HW := aside hw2
  have HLC := aside hlc2
  clear hb2 hw2 hlc2
  go_wp2_with fail
  go_ret2
  exact ⟨a2, c2, rfl, HLC.out, HX.out, HW.out⟩
end Go.Proofs.Ytlcglnagekmogaa
