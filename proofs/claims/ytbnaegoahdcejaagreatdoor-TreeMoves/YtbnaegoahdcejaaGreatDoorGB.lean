/- What is a name: strings.ContainsAny of any bytes, for the two that no name has; isName. strings.IndexRune of a rune that is no byte; the short road of strings.IndexAny. The way up from a directory: within, depth. How high a node is. Why a directory may not hold a node: refuses. Add: what it refuses, and what it leaves. Add of a directory; Get, Take, Drop. -/
import Derived.Test.YtbnaegoahdcejaaGreatDoorLay
import Derived.Test.YtbnaegoahdcejaaGreatDoorGA
import Derived.Lib.OthersKept
import Derived.Laws.Runes
import Derived.Laws.RangeAny
import Derived.WalkMore
import Derived.Maps.Range
namespace Go.Proofs.YtbnaegoahdcejaaGreatDoor
open Go.RowKit Go.Shelf

abbrev ch : ByteArray := ⟨#[0, 47]⟩

theorem dec_more (s : ByteArray) (pos : Nat) (h : pos < s.size) (ha : 128 ≤ (s[pos]'h).toNat) :
    Utf8.valid ((Utf8.decode s pos).1 : Int) = true ∧ pos + (Utf8.decode s pos).2 ≤ s.size ∧ ∀ k, 1 ≤ k → k < (Utf8.decode s pos).2 → 128 ≤ (s.get! (pos + k)).toNat := by
  have hn : ¬ (s[pos]'h).toNat < 128 := by omega
  have hE : Utf8.valid ((65533 : Nat) : Int) = true := by decide
  have h0 : (s[pos]'h).toNat < 256 := (s[pos]'h).toNat_lt
  simp only [Utf8.decode, get_at s pos h, hn, if_false, Utf8.runeError]
  split
  · next hc =>
    simp only [Bool.and_eq_true, decide_eq_true_eq, beq_iff_eq] at hc
    split
    · refine ⟨?_, by show pos + 2 ≤ s.size; omega, fun k h1 h2 => ?_⟩
      · simp only [Utf8.valid, Bool.or_eq_true, Bool.and_eq_true, decide_eq_true_eq]; omega
      · obtain rfl : k = 1 := by simp only at h2; omega
        omega
    · exact ⟨hE, by show pos + 1 ≤ s.size; omega, fun k h1 h2 => by simp only at h2; omega⟩
  · split
    · next hc =>
      simp only [Bool.and_eq_true, decide_eq_true_eq, beq_iff_eq] at hc
      split
      · next hv =>
        simp only [Bool.and_eq_true] at hv
        refine ⟨hv.2, by show pos + 3 ≤ s.size; omega, fun k h1 h2 => ?_⟩
        have hk : k = 1 ∨ k = 2 := by simp only at h2; omega
        rcases hk with rfl | rfl <;> omega
      · exact ⟨hE, by show pos + 1 ≤ s.size; omega, fun k h1 h2 => by simp only at h2; omega⟩
    · split
      · next hc =>
        simp only [Bool.and_eq_true, decide_eq_true_eq, beq_iff_eq] at hc
        split
        · next hv =>
          simp only [Bool.and_eq_true] at hv
          refine ⟨hv.2, by show pos + 4 ≤ s.size; omega, fun k h1 h2 => ?_⟩
          have hk : k = 1 ∨ k = 2 ∨ k = 3 := by simp only at h2; omega
          rcases hk with rfl | rfl | rfl <;> omega
        · exact ⟨hE, by show pos + 1 ≤ s.size; omega, fun k h1 h2 => by simp only at h2; omega⟩
      · exact ⟨hE, by show pos + 1 ≤ s.size; omega, fun k h1 h2 => by simp only at h2; omega⟩

theorem idxByte_any (s : ByteArray) (c : Int) (w : World) : Calls Tryz.prog 185 #[.string s, .int .u8 c] w fun e w' => e = .returned (.int .i64 (Lib.indexByte s.data.toList c.toNat.toUInt8)) ∧ w' = w :=
  Any.strings_IndexByte (ρ := lays153_ren) { lays153 with } s c w
theorem idxRune_low (r : Int) (w : World) (h0 : 0 ≤ r) (h1 : r < 128) : Calls Tryz.prog 160 #[.string ch, .int .i32 r] w fun e w' => e = .returned (.int .i64 (Lib.indexByte ch.data.toList r.toNat.toUInt8)) ∧ w' = w :=
  Any.strings_IndexRune_ascii (ρ := lays153_ren) { lays153 with } ch r w h0 h1

set_option maxRecDepth 100000 in
set_option maxHeartbeats 4000000 in
theorem idxRune_err (w : World) : Calls Tryz.prog 160 #[.string ch, .int .i32 65533] w fun e w' => e = .returned (.int .i64 (-1)) ∧ Below w.heap.size w w' := by
  go_enter Tryz.func160, Tryz.ntmps160
  go_wp2_with fail
  go_loopg [5, 6] 2 (fun g _ _ wx => ∃ i : Nat, i + g = 2 ∧ wx = w.iter ch i)
  case atStart => exact ⟨0, rfl, rfl⟩
  case round =>
    obtain ⟨i, hig, rfl⟩ := hrel
    cases gk with
    | zero =>
      obtain rfl : i = 2 := by omega
      have hnx := fun ty => run_next_end (P := Tryz.prog) w ch 2 ty (by decide)
      go_wp2
      go_ret
      exact ⟨rfl, below_al w _⟩
    | succ g =>
      have hi : i = 0 ∨ i = 1 := by omega
      rcases hi with rfl | rfl
      · have hnx := fun ty => run_next_ascii (P := Tryz.prog) w ch 0 ty (by decide) (by decide)
        go_wp2
        go_roundg g
        case measure => omega
        case rel => exact ⟨1, by omega, rfl⟩
      · have hnx := fun ty => run_next_ascii (P := Tryz.prog) w ch 1 ty (by decide) (by decide)
        go_wp2
        go_roundg g
        case measure => omega
        case rel => exact ⟨2, by omega, rfl⟩
end Go.Proofs.YtbnaegoahdcejaaGreatDoor

namespace Go.Proofs.YtbnaegoahdcejaaGreatDoor
open Go.RowKit Go.Shelf Go.Lib

theorem below_drn (w : World) (n : Nat) : Below w.heap.size w (w.drewN n) := ⟨rfl, rfl, rfl, Nat.le_refl _, fun _ _ => rfl⟩
theorem validRune_any (r : Int) (w : World) (h : Utf8.valid r = true) : Calls Tryz.prog 186 #[.int .i32 r] w fun e w' => e = .returned (.bool true) ∧ w' = w := by
  rw [validRune_eq] at h
  have h := of_decide_eq_true h
  rcases h with ⟨h0, h1⟩ | ⟨h0, h1⟩
  · go_enter Tryz.func186, Tryz.ntmps186
    go_wp2
    go_ret
    exact ⟨rfl, rfl⟩
  · have h2 : 0 ≤ r := by omega
    have h3 : ¬ r < 55296 := by omega
    go_enter Tryz.func186, Tryz.ntmps186
    go_wp2
    go_ret
    exact ⟨rfl, rfl⟩

set_option maxRecDepth 100000 in
set_option maxHeartbeats 4000000 in
theorem idxRune_high (r : Int) (w : World) (h128 : 128 ≤ r) (hv : Utf8.valid r = true) (hne : r ≠ 65533) : Calls Tryz.prog 160 #[.string ch, .int .i32 r] w fun e w' => e = .returned (.int .i64 (-1)) ∧ Below w.heap.size w w' := by
  obtain ⟨h2, h4, hlast⟩ := encode_facts r hv h128
  have h0 : 0 ≤ r := by omega
  have h1 : ¬ r < 128 := by omega
  have hE : (r == 65533) = false := beq_eq_false_iff_ne.2 hne
  have HV := aside hv
  clear hv
  generalize hrs : Utf8.encode r = rs at *
  go_enter Tryz.func160, Tryz.ntmps160
  go_wp2_with (go_at_call 186; refine (validRune_any r _ HV.out).mono ?_; rintro e w' ⟨rfl, rfl⟩)
  go_step3
  have hrs2 : ((rs.size : Int) - 1) = ((rs.size - 1 : Nat) : Int) := by omega
  go_wp2_with fail
  go_loopw [9, 10, 11, 12] (fun s9 s10 _ _ wx => s9 = .int .i64 (rs.size - 1 : Nat) ∧ s10 = .int .i64 0 ∧ wx = w') (fun _ _ _ _ _ => 0)
  case atStart => exact ⟨by simp, rfl, rfl⟩
  case round =>
    obtain ⟨rfl, rfl, rfl⟩ := hrel
    by_cases hz : rs.size = 2
    · have hlt : rs.size - 1 < rs.size := by omega
      have hl := hlast hlt
      obtain ⟨c, hc⟩ : ∃ c : UInt8, rs[rs.size - 1]'hlt = c := ⟨_, rfl⟩
      rw [hc] at hl
      have hz1 : ((rs.size - 1 : Nat) : Int) = 1 := by omega
      rw [hz1]
      have hz2 : 1 < rs.size := by omega
      have hz3 : (1 : Int) < (rs.size : Int) := by omega
      have hc1 : rs[1] = c := by have e : rs.size - 1 = 1 := by omega
                                 simpa [e] using hc
      have hcc : ((47 : Int) == (c.toNat : Int)) = false := beq_eq_false_iff_ne.2 (by omega)
      clear hlast hc
      go_wp2_with fail
      go_step3
      go_wp2_with fail
      go_quiet (fail)
      have hne2 : ((ch[1].toNat : Int) != (c.toNat : Int)) = true := by
        show (((47 : Nat) : Int) != (c.toNat : Int)) = true
        simp only [bne_iff_ne]
        omega
      rw [hne2]
      have hw2 : IntKind.i64.wrap 2 = 2 := by decide
      have hsl : ∀ w, (Instr.slice 9 (.string ch) (some (.int .i64 2)) none none).run Tryz.prog w = .ok (.string ⟨#[]⟩) w := fun w => by kernel_rfl
      go_wp2_with fail
      go_region_with (go_at_call 185; refine (idxByte_any _ _ _).mono ?_; rintro e w0 ⟨rfl, rfl⟩)
      have hx1 : Lib.indexByte [] c = -1 := rfl
      rw [hx1]
      go_wp2_with fail
      simp (zetaDelta := true) only [Exit.noGoto_ret, Exit.inBlock, Exit.then]
      go_ret
      exact ⟨rfl, below_drn _ _⟩
    · have hz2 : ¬ ((rs.size - 1 : Nat) : Int) < 2 := by omega
      go_wp2_with fail
      go_ret
      exact ⟨rfl, Below.refl _ _⟩

set_option maxRecDepth 100000 in
set_option maxHeartbeats 4000000 in
/-- The short road: at most eight bytes, of whatever kind. -/
theorem idxAny_short (s : ByteArray) (w : World) (h8 : s.size ≤ 8) : Calls Tryz.prog 143 #[.string s, .string ch] w fun e w' => e = .returned (.int .i64 (Lib.indexAny s.data.toList [0, 47])) ∧ Below w.heap.size w w' := by
  have h8z : decide ((8 : Int) < (s.size : Int)) = false := decide_eq_false (by omega)
  go_enter Tryz.func143, Tryz.ntmps143
  go_wp2_with (go_at_call 161; refine (Any.strings_shouldUseASCIISet (ρ := lays153_ren) { lays153 with } _ _).mono ?_; rintro e w' ⟨rfl, hw⟩; rw [hw, h8z])
  go_loopw [9, 10] (fun _ _ wx => ∃ i : Nat, i ≤ s.size ∧ wx.heap[w.heap.size]? = some (.stringIter s i) ∧ Below w.heap.size w wx ∧ Lib.NoAny s.data.toList [0, 47] i) (fun _ _ wx => s.size - wx.iterPos w.heap.size)
  case atStart => exact ⟨0, by omega, World.iter_heap w s 0, below_al w _, Lib.NoAny.zero _ _⟩
  case round =>
    obtain ⟨i, hi, hit, hbl, hno⟩ := hrel
    have HN := aside hno
    have HB := aside hbl
    have HI := aside hit
    have hpos : wr.iterPos w.heap.size = i := by simp [World.iterPos, hit]
    clear hno hbl
    by_cases hz : i < s.size
    · have hnx := fun ty => run_next_any_at (P := Tryz.prog) wr w.heap.size s i ty hit hz
      clear hit
      by_cases hlo : (s[i]'hz).toNat < 128
      · obtain ⟨x, hx⟩ : ∃ x : UInt8, s[i]'hz = x := ⟨_, rfl⟩
        have hxl : s.data.toList[i]? = some x := by rw [← hx]; exact Lib.data_getElem? s i hz
        have hd := decode_ascii s i hz hlo
        rw [hx] at hlo hd
        rw [hd] at hnx
        have Hx := aside hxl
        have hcon := Lib.contains_iff_indexByte [0, 47] x
        have hback : ((x.toNat : Int)).toNat.toUInt8 = x := by simp
        clear hxl hx
        cases hin : ([0, 47] : List UInt8).contains x
        · rw [hin] at hcon
          have hlt : ¬ ((0 : Int) ≤ Lib.indexByte [0, 47] x) := of_decide_eq_false hcon.symm
          clear hcon
          go_wp2_with (go_at_call 160; refine (idxRune_low _ _ (by omega) (by omega)).mono ?_; rintro e w0 ⟨rfl, hw⟩; rw [hw, hback])
          go_roundw
          case rel => exact ⟨i + 1, by omega, iterAt_heap wr _ s i (i + 1) HI.out, below_iterAt HB.out (Nat.le_refl _) s (i + 1), HN.out.succ Hx.out hin⟩
          case measure =>
            have : (wr.iterAt w.heap.size s (i + 1)).iterPos w.heap.size = i + 1 := by simp [World.iterPos, iterAt_heap wr _ s i (i + 1) HI.out]
            rw [this, hpos]; omega
        · rw [hin] at hcon
          have hge : (0 : Int) ≤ Lib.indexByte [0, 47] x := of_decide_eq_true hcon.symm
          clear hcon
          go_wp2_with (go_at_call 160; refine (idxRune_low _ _ (by omega) (by omega)).mono ?_; rintro e w0 ⟨rfl, hw⟩; rw [hw, hback])
          go_ret
          exact ⟨by rw [Lib.indexAny_hit HN.out Hx.out hin]; rfl, below_iterAt HB.out (Nat.le_refl _) s (i + 1)⟩
      · have hd1 := decode_high s i hz (by omega)
        obtain ⟨hd2, hd3, hd4⟩ := dec_more s i hz (by omega)
        generalize hD : Utf8.decode s i = D at *
        have hC : ∀ W, Calls Tryz.prog 160 #[.string ch, .int .i32 (D.1 : Int)] W fun e w' => e = .returned (.int .i64 (-1)) ∧ Below W.heap.size W w' := fun W => by
          by_cases he : (D.1 : Int) = 65533
          · rw [he]; exact idxRune_err W
          · exact idxRune_high _ W (by omega) hd2 he
        have HC := aside hC
        have HN2 : Aside (Lib.NoAny s.data.toList [0, 47] (i + D.2)) := fun j b hj hb => by
          by_cases hji : j < i
          · exact HN.out j b hji hb
          · have hjs : j < s.size := by omega
            have hb2 : s[j]'hjs = b := by have := Lib.data_getElem? s j hjs; rw [this] at hb; simpa using hb
            have h128 : 128 ≤ b.toNat := by
              by_cases hj0 : j = i
              · subst hj0; rw [hb2] at hlo; omega
              · have := hd4 (j - i) (by omega) (by omega)
                rw [show i + (j - i) = j by omega] at this
                have e : s.get! j = s[j]'hjs := get_at s j hjs
                rw [e, hb2] at this
                exact this
            cases hin : ([0, 47] : List UInt8).contains b
            · rfl
            · simp only [List.contains_cons, List.contains_nil, Bool.or_false, Bool.or_eq_true, beq_iff_eq] at hin
              rcases hin with rfl | rfl <;> simp at h128
        clear hC hd2 hd4 hlo hD
        have hd5 := hd1.2
        clear hd1
        go_wp2_with (go_at_call 160; refine (HC.out _).mono ?_; rintro e w0 ⟨rfl, hb0⟩; have HB0 := aside hb0; clear hb0)
        go_roundw
        case rel =>
          have hk := iterAt_heap wr _ s i (i + D.2) HI.out
          exact ⟨i + D.2, hd3, (HB0.out.block _ (Array.getElem?_eq_some_iff.1 hk).1).trans hk, below_tr (below_iterAt HB.out (Nat.le_refl _) s (i + D.2)) HB0.out, HN2.out⟩
        case measure =>
          have hk := iterAt_heap wr _ s i (i + D.2) HI.out
          have : w0.iterPos w.heap.size = i + D.2 := by simp [World.iterPos, (HB0.out.block _ (Array.getElem?_eq_some_iff.1 hk).1).trans hk]
          rw [this, hpos]; omega
    · have hnx := fun ty => run_next_end_at (P := Tryz.prog) wr w.heap.size s i ty hit hz
      clear hit
      go_wp2_with fail
      go_ret
      refine ⟨?_, HB.out⟩
      rw [Lib.indexAny_none (by rw [← Lib.size_eq]; have : i = s.size := by omega
                                exact this ▸ HN.out)]
      rfl

theorem set258 : (Tryz.prog.info? (lays153_ren.t 116)).map (fun i => (i.zero, i.size)) = some (some (.agg (Array.replicate 256 (.bool false))), 256) := by kernel_rfl
theorem ch_ascii : ∀ (j : Nat) b, ch.data.toList[j]? = some b → b.toNat < 128 := fun j b h => by
  match j, h with
  | 0, h => simp at h; subst h; decide
  | 1, h => simp at h; subst h; decide
  | (j + 2), h => simp at h
theorem idxAny_long (s : ByteArray) (w : World) (h8 : 8 < s.size) (hs : s.size < 4294967281) : Calls Tryz.prog 143 #[.string s, .string ch] w fun e w' => e = .returned (.int .i64 (Lib.indexAny s.data.toList [0, 47])) ∧ Below w.heap.size w w' := by
  obtain ⟨i, hi, e⟩ := Option.map_eq_some_iff.1 set258
  injection e with e1 e2
  have hz : ∀ w, (zeroValue (lays153_ren.t 116)).run Tryz.prog w = .ok (.agg (Array.replicate 256 (.bool false))) w := fun w => by
    simp only [zeroValue, typeInfo, Sem.run_bind, run_program, Result.andThen_ok, hi, Sem.run_pure, e1]
  refine (Any.strings_IndexAny_long (ρ := lays153_ren) lays153 hz (by rw [hi]; simp [e2]) s ch w (by decide) h8 hs (by decide) ch_ascii).mono ?_
  rintro e w' ⟨rfl, rfl⟩
  exact ⟨rfl, below_tr (below_al w _) (below_al _ _)⟩

theorem idxAny_any (s : ByteArray) (w : World) (hs : s.size < 4294967281) : Calls Tryz.prog 143 #[.string s, .string ch] w fun e w' => e = .returned (.int .i64 (Lib.indexAny s.data.toList [0, 47])) ∧ Below w.heap.size w w' := by
  by_cases h : 8 < s.size
  · exact idxAny_long s w h hs
  · exact idxAny_short s w (by omega)

set_option maxRecDepth 20000 in
theorem containsAny_any (s : ByteArray) (w : World) (hs : s.size < 4294967281) : Calls Tryz.prog 118 #[.string s, .string ch] w fun e w' => e = .returned (.bool (decide (0 ≤ Lib.indexAny s.data.toList [0, 47]))) ∧ Below w.heap.size w w' := by
  go_enter Tryz.func118, Tryz.ntmps118
  go_wp2_with fail
  refine (idxAny_any s w hs).mono ?_
  rintro e w' ⟨rfl, hb⟩
  go_wp2
  all_goals
    go_ret
    exact ⟨by simp, hb⟩

/-- Is it a name? -/
def nameOk (s : ByteArray) : Bool := !(s.toList == []) && decide (s.size ≤ 64) && !(s.toList == [46]) && !(s.toList == [46, 46]) && !decide (0 ≤ Lib.indexAny s.data.toList [0, 47])

theorem nameNo {s : ByteArray} (h : s.toList = [] ∨ 64 < s.size ∨ s.toList = [46] ∨ s.toList = [46, 46]) : nameOk s = false := by
  unfold nameOk
  rcases h with h | h | h | h
  · rw [h]; rfl
  · simp [show ¬ s.size ≤ 64 by omega]
  · rw [h]; simp
  · rw [h]; simp
theorem nameYes {s : ByteArray} (h1 : ¬ s.toList = []) (h2 : s.size ≤ 64) (h3 : ¬ s.toList = [46]) (h4 : ¬ s.toList = [46, 46]) : nameOk s = !decide (0 ≤ Lib.indexAny s.data.toList [0, 47]) := by
  unfold nameOk
  rw [beq_eq_false_iff_ne.2 h1, beq_eq_false_iff_ne.2 h3, beq_eq_false_iff_ne.2 h4, decide_eq_true h2]
  simp

set_option maxRecDepth 20000 in
set_option maxHeartbeats 1000000 in
theorem isName_any (s : ByteArray) (w : World) : Calls Tryz.prog 99 #[.string s] w fun e w' => e = .returned (.bool (nameOk s)) ∧ Below w.heap.size w w' := by
  go_enter Tryz.func99, Tryz.ntmps99
  go_wp2_with fail
  · next h => go_ret; exact ⟨by rw [nameNo (.inl h)]; rfl, Below.refl _ _⟩
  · next h => go_ret; exact ⟨by rw [nameNo (.inr (.inr (.inl h)))]; rfl, Below.refl _ _⟩
  · next h1 h2 h3 h =>
    go_ret
    refine ⟨?_, Below.refl _ _⟩
    rcases h with ((h | h) | h) | h
    · exact absurd (List.isEmpty_iff.1 h) h1
    · omega
    · exact absurd (beq_iff_eq.1 h) h3
    · rw [nameNo (.inr (.inr (.inr (beq_iff_eq.1 h))))]; rfl
  · next h1 h2 h3 h _ _ _ _ =>
    have h4 := beq_eq_false_iff_ne.1 h.2
    refine (containsAny_any s w (by omega)).mono ?_
    rintro e w' ⟨rfl, hb⟩
    go_wp2
    go_ret
    exact ⟨by rw [nameYes h1 (by omega) h3 h4]; rfl, hb⟩
  · next h => go_ret; exact ⟨by rw [nameNo (.inr (.inl (by omega)))]; rfl, Below.refl _ _⟩
end Go.Proofs.YtbnaegoahdcejaaGreatDoor

namespace Go.Proofs.YtbnaegoahdcejaaGreatDoor
open Go.RowKit

/-- The directories from v up. -/
def Up (w : World) : Value → List Nat → Prop
  | v, [] => v = .pointer none
  | v, d :: l => v = Pt d ∧ ∃ a u m, w.heap[d]? = some (.cells #[a, u, m] 95 (0, 0)) ∧ Up w u l
theorem Up.nil {w : World} : Up w (.pointer none) [] := rfl
theorem Up.dir {w : World} {nb db mb : Nat} {up : Value} {L : List KV} {l : List Nat} (h : Dr w nb db mb up L) (k : Up w up l) : Up w (Pt db) (db :: l) := ⟨rfl, _, up, _, h.dir, k⟩
theorem Up.keep {w w' : World} : ∀ {l : List Nat} {v : Value}, Up w v l → (∀ d ∈ l, w'.heap[d]? = w.heap[d]?) → Up w' v l
  | [], _, h, _ => h
  | d :: l, v, ⟨h1, a, u, m, h2, h3⟩, hk => ⟨h1, a, u, m, (hk d (by simp)).trans h2, Up.keep h3 (fun x hx => hk x (by simp [hx]))⟩
theorem Up.lt {w : World} : ∀ {l : List Nat} {v : Value}, Up w v l → ∀ d ∈ l, d < w.heap.size
  | [], _, _, d, hd => by simp at hd
  | x :: l, v, ⟨h1, a, u, m, h2, h3⟩, d, hd => by
    rcases List.mem_cons.1 hd with rfl | hd
    · exact (Array.getElem?_eq_some_iff.1 h2).1
    · exact Up.lt h3 d hd
theorem Up.below {w w' : World} {l : List Nat} {v : Value} (h : Up w v l) (hb : Below w.heap.size w w') : Up w' v l := h.keep fun d hd => hb.block d (h.lt d hd)
theorem Up.upd {w w' : World} {l : List Nat} {v : Value} {F : Nat → Prop} (h : Up w v l) (u : Upd F w w') (hF : ∀ d ∈ l, ¬ F d) : Up w' v l := h.keep fun d hd => u.block d (h.lt d hd) (hF d hd)

set_option maxRecDepth 20000 in
set_option maxHeartbeats 1000000 in
theorem within_any (v : Value) (l : List Nat) (top : Nat) (w : World) {ct : Array Value} {tt : TypeId} (ht : w.heap[top]? = some (.cells ct tt (0, 0))) (h : Up w v l) : Calls Tryz.prog 100 #[v, Pt top] w fun e w' => e = .returned (.bool (decide (top ∈ l))) ∧ w' = w := by
  have HU := aside h
  clear h
  go_enter Tryz.func100, Tryz.ntmps100
  go_wp2_with fail
  go_loopg [0] l.length (fun g s0 wx => ∃ l', l'.length = g ∧ Up w s0 l' ∧ wx = w ∧ (top ∈ l ↔ top ∈ l'))
  case atStart => exact ⟨l, rfl, HU.out, rfl, Iff.rfl⟩
  case round =>
    obtain ⟨l', hl, hu, rfl, hm⟩ := hrel
    cases l' with
    | nil =>
      obtain rfl : _ = Value.pointer none := hu
      go_wp2_with fail
      go_ret
      exact ⟨by rw [decide_eq_false (by rw [hm]; simp)]; rfl, rfl⟩
    | cons d l2 =>
      obtain ⟨rfl, a, u, m, hd, hu2⟩ := hu
      have hc : wr.cell? ⟨d, 1, none⟩ = some u := by rw [cell_of_row wr d 1 _ _ _ hd]; rfl
      have heq := eq_dir hd ht
      have HU2 := aside hu2
      have HM := aside hm
      clear hu2 hm hd
      by_cases hd : d = top
      · subst hd
        rw [decide_eq_true rfl] at heq
        go_wp2_with fail
        go_ret
        exact ⟨by rw [decide_eq_true (by rw [HM.out]; simp)]; rfl, rfl⟩
      · rw [decide_eq_false hd] at heq
        go_wp2_with fail
        go_roundg l2.length
        case measure => simp at hl; omega
        case rel => exact ⟨l2, rfl, HU2.out, rfl, by rw [HM.out, List.mem_cons]; exact ⟨fun h => h.resolve_left (fun e => hd e.symm), .inr⟩⟩

set_option maxRecDepth 20000 in
set_option maxHeartbeats 1000000 in
theorem depth_any (d : Nat) (l : List Nat) (w : World) (h : Up w (Pt d) (d :: l)) (hl : l.length ≤ 1000000) : Calls Tryz.prog 101 #[Pt d] w fun e w' => e = .returned (.int .i64 (l.length : Int)) ∧ w' = w := by
  obtain ⟨-, a, u, m, hd, hu⟩ := h
  have hc : w.cell? ⟨d, 1, none⟩ = some u := by rw [cell_of_row w d 1 _ _ _ hd]; rfl
  clear hd
  have HU := aside hu
  clear hu
  go_enter Tryz.func101, Tryz.ntmps101
  go_wp2_with fail
  go_loopg [3, 4] l.length (fun g s3 s4 wx => ∃ (l' : List Nat) (k : Nat), l'.length = g ∧ k + g = l.length ∧ s3 = .int .i64 (k : Int) ∧ Up w s4 l' ∧ wx = w)
  case atStart => exact ⟨l, 0, rfl, by omega, rfl, HU.out, rfl⟩
  case round =>
    obtain ⟨l', k, hg, hk, rfl, hu, rfl⟩ := hrel
    cases l' with
    | nil =>
      obtain rfl : _ = Value.pointer none := hu
      simp at hg
      subst hg
      obtain rfl : k = l.length := by omega
      go_wp2_with fail
      go_ret
      exact ⟨rfl, rfl⟩
    | cons d2 l2 =>
      obtain ⟨rfl, a2, u2, m2, hd2, hu2⟩ := hu
      have hc2 : wr.cell? ⟨d2, 1, none⟩ = some u2 := by rw [cell_of_row wr d2 1 _ _ _ hd2]; rfl
      clear hd2
      have HU2 := aside hu2
      simp at hg
      have hw : IntKind.i64.wrap ((k : Int) + 1) = ((k + 1 : Nat) : Int) := by rw [wrap_small _ (by omega) (by omega)]; simp
      clear hu2
      go_wp2_with fail
      go_roundg l2.length
      case measure => omega
      case rel => exact ⟨l2, k + 1, rfl, by omega, by first | rfl | simp, HU2.out, rfl⟩
end Go.Proofs.YtbnaegoahdcejaaGreatDoor

namespace Go.Proofs.YtbnaegoahdcejaaGreatDoor
open Go.RowKit Go.ChangeMaps

/-- How high v is, whatever else has come. -/
def Ht (w : World) (v : Value) (k : Nat) : Prop := ∀ W, Below w.heap.size w W → Calls Tryz.prog 102 #[v] W fun e W' => e = .returned (.int .i64 (k : Int)) ∧ Below W.heap.size W W'
theorem Ht.below {w w' : World} {v : Value} {k : Nat} (h : Ht w v k) (hb : Below w.heap.size w w') : Ht w' v k := fun W hW => h W (below_tr hb hW)

set_option maxRecDepth 20000 in
set_option maxHeartbeats 1000000 in
theorem ht_other (nb k : Nat) (t : TypeId) (w : World) (h : Nd w nb t k) (ht : t = 109 ∨ t = 85 ∨ t = 111 ∨ t = 110) : Ht w (Pt nb) 0 := fun W hW => by
  have h2 := h.below hW
  go_enter Tryz.func102, Tryz.ntmps102
  go_wp2_with fail
  refine (directory_other nb k t W h2 ht).mono ?_
  rintro e w' ⟨rfl, rfl⟩
  go_wp2
  go_ret
  exact ⟨rfl, Below.refl _ _⟩

def top (f : Value → Nat) (L : List KV) : Nat := L.foldr (fun p a => max (f p.2 + 1) a) 0
theorem top_le {f : Value → Nat} {n : Nat} : ∀ {L : List KV}, (∀ p ∈ L, f p.2 + 1 ≤ n) → top f L ≤ n
  | [], _ => Nat.zero_le _
  | p :: L, h => by
    have h1 := h p (by simp)
    have h2 := top_le (L := L) (fun q hq => h q (by simp [hq]))
    show max (f p.2 + 1) (top f L) ≤ n
    omega
theorem le_top {f : Value → Nat} : ∀ {L : List KV} {p : KV}, p ∈ L → f p.2 + 1 ≤ top f L
  | q :: L, p, h => by
    show _ ≤ max (f q.2 + 1) (top f L)
    rcases List.mem_cons.1 h with rfl | h
    · omega
    · have := le_top (f := f) h; omega

theorem Ents.mem {es : Array MapEntry} {clock : Nat} {L : List KV} (h : Ents es clock L) {x : MapEntry} (hx : x ∈ es.toList) : ∃ p ∈ L, x.val = p.2 := by
  have : (x.key, x.val) ∈ L.map (fun p => (Value.string p.1, p.2)) := by rw [← h.kv]; exact List.mem_map.2 ⟨x, hx, rfl⟩
  obtain ⟨p, hp, e⟩ := List.mem_map.1 this
  simp only [Prod.mk.injEq] at e
  exact ⟨p, hp, e.2.symm⟩
theorem Ents.has {es : Array MapEntry} {clock : Nat} {L : List KV} (h : Ents es clock L) {p : KV} (hp : p ∈ L) : ∃ x ∈ es.toList, x.val = p.2 := by
  have : (Value.string p.1, p.2) ∈ es.toList.map (fun e => (e.key, e.val)) := by rw [h.kv]; exact List.mem_map.2 ⟨p, hp, rfl⟩
  obtain ⟨x, hx, e⟩ := List.mem_map.1 this
  simp only [Prod.mk.injEq] at e
  exact ⟨x, hx, e.2⟩

set_option maxRecDepth 20000 in
set_option maxHeartbeats 2000000 in
theorem ht_dir (nb db mb : Nat) (up : Value) (L : List KV) (f : Value → Nat) (w : World) (h : Dr w nb db mb up L) (hf : ∀ p ∈ L, Ht w p.2 (f p.2) ∧ f p.2 ≤ 1000000) : Ht w (Pt nb) (top f L) := fun W hW => by
  have hD := h.below hW
  have hc2 := hD.c2
  obtain ⟨es, clock, hm, hE⟩ := hD.map
  have hrg := run_range_map (P := Tryz.prog) W 93 _ _ mb es clock Tryz.underlying93 hm
  have hlm := hD.lm
  have HH : ∀ x ∈ es.toList, ∀ V, Below W.heap.size W V → Calls Tryz.prog 102 #[x.val] V fun e V' => e = .returned (.int .i64 (f x.val : Int)) ∧ Below V.heap.size V V' := fun x hx V hV => by
    obtain ⟨p, hp, e⟩ := hE.mem hx
    rw [e]
    exact (hf p hp).1 V (below_tr hW hV)
  have HF : ∀ x ∈ es.toList, f x.val ≤ 1000000 := fun x hx => by
    obtain ⟨p, hp, e⟩ := hE.mem hx
    rw [e]
    exact (hf p hp).2
  have HT : ∀ (high : Nat), (∀ x ∈ es.toList, f x.val + 1 ≤ high) → (high = 0 ∨ ∃ x ∈ es.toList, high = f x.val + 1) → high = top f L := fun high h1 h2 => by
    apply Nat.le_antisymm
    · rcases h2 with rfl | ⟨x, hx, rfl⟩
      · exact Nat.zero_le _
      · obtain ⟨p, hp, e⟩ := hE.mem hx
        rw [e]; exact le_top hp
    · exact top_le fun p hp => by
        obtain ⟨x, hx, e⟩ := hE.has hp
        rw [← e]; exact h1 x hx
  have HNd := hD.nod
  have AH := aside HH
  have AF := aside HF
  have AT := aside HT
  have AE := aside hE
  have AM := aside hm
  clear hf HH HF HT hE hm hD h
  go_enter Tryz.func102, Tryz.ntmps102
  go_wp2_with fail
  refine (directory_dir nb db W HNd).mono ?_
  rintro e w' ⟨rfl, rfl⟩
  go_wp2_with fail
  go_loopw [5, 7] (fun s5 _ wx => ∃ (high : Nat) (seen : Array Nat) (c0 : Nat), s5 = .int .i64 (high : Int) ∧ wx.heap[w'.heap.size]? = some (.mapIter (some mb) clock seen c0) ∧ clock ≤ c0 ∧ Below w'.heap.size w' wx ∧ high ≤ 1000001 ∧ (∀ x ∈ es.toList, seen.contains x.born = true → f x.val + 1 ≤ high) ∧ (high = 0 ∨ ∃ x ∈ es.toList, high = f x.val + 1)) (fun _ _ wx => wx.rangeLeft mb w'.heap.size)
  case atStart => exact ⟨0, #[], clock, rfl, heap_alloc_new w' _, Nat.le_refl _, below_al w' _, by omega, fun x _ hx => by simp at hx, .inl rfl⟩
  case round =>
    obtain ⟨high, seen, c0, rfl, hit, hcc, hbl, hle, hs1, hs2⟩ := hrel
    have hmr : wr.heap[mb]? = some (.map es clock) := (hbl.block mb hlm).trans AM.out
    have hleft : wr.rangeLeft mb w'.heap.size = (leftOf es seen).size := by simp [World.rangeLeft, hmr, hit]
    have AB := aside hbl
    have AS1 := aside hs1
    have AS2 := aside hs2
    have AI := aside hit
    have AMR := aside hmr
    rcases run_next_at (P := Tryz.prog) wr 0 w'.heap.size mb clock c0 seen es clock hit hmr AE.out.old hcc with ⟨h0, hrun⟩ | ⟨x, hx, w1, hal, hrun⟩
    · clear hs1 hs2 hbl hit hmr
      go_wp2_with fail
      go_ret
      have hT := AT.out high (fun x hx => AS1.out x hx (all_seen es seen h0 x hx)) AS2.out
      exact ⟨by rw [← hT]; rfl, AB.out⟩
    · obtain ⟨hxm, hxs⟩ := mem_left hx
      have hit1 : w1.heap[w'.heap.size]? = some (.mapIter (some mb) clock seen c0) := by rcases hal with rfl | rfl <;> exact hit
      have hm1 : w1.heap[mb]? = some (.map es clock) := by rcases hal with rfl | rfl <;> exact hmr
      have hb1 : Below w'.heap.size w' w1 := by rcases hal with rfl | rfl
                                                · exact hbl
                                                · exact hbl.drew
      obtain ⟨w2, hw2⟩ : ∃ w2, w2 = setBlock w1 w'.heap.size (.mapIter (some mb) clock (seen.push x.born) clock) := ⟨_, rfl⟩
      rw [← hw2] at hrun
      have hit2 : w2.heap[w'.heap.size]? = some (.mapIter (some mb) clock (seen.push x.born) clock) := by rw [hw2]; exact heap_set_same hit1
      have hm2 : w2.heap[mb]? = some (.map es clock) := by rw [hw2]; exact heap_set_far hm1 (by omega)
      have hb2 : Below w'.heap.size w' w2 := by rw [hw2]; exact hb1.trans ((Upd.setBlock (F := fun k => k = w'.heap.size) _ _ _ rfl).below hb1.size (fun k hk => by omega))
      have hen := run_entry_at (P := Tryz.prog) w2 w'.heap.size mb clock seen es clock x hit2 hm2 hxm AE.out.nod
      have hfx := AF.out x hxm
      have hsh := left_shrinks es seen x hx
      have AB2 := aside hb2
      have AI2 := aside hit2
      have AX := aside hxm
      have hwr : IntKind.i64.wrap ((f x.val : Int) + 1) = ((f x.val + 1 : Nat) : Int) := by rw [wrap_small _ (by omega) (by omega)]; simp
      clear hs1 hs2 hbl hit hmr hit1 hm1 hb1 hw2 hit2 hm2 hb2 hx hxm hal
      go_wp2_with fail
      refine (AH.out x AX.out _ AB2.out).mono ?_
      rintro e w3 ⟨rfl, hb3⟩
      have AB3 := aside hb3
      clear hb3
      go_wp2_with fail
      have hlt2 := (Array.getElem?_eq_some_iff.1 AI2.out).1
      have hit3 := (AB3.out.block _ hlt2).trans AI2.out
      have hb3 := AB2.out.trans (AB3.out.mono AB2.out.size)
      have hm3 : w3.heap[mb]? = some (.map es clock) := (hb3.block mb hlm).trans AM.out
      refine ⟨⟨max high (f x.val + 1), seen.push x.born, clock, by congr 1; omega, hit3, Nat.le_refl _, hb3, by omega, fun y hy hc => ?_, ?_⟩, ?_⟩
      · rw [contains_push] at hc
        cases hq : seen.contains y.born
        · rw [hq, Bool.false_or] at hc
          have he : y = x := born_inj AE.out.nod hy AX.out (beq_iff_eq.1 hc)
          subst he
          omega
        · have := AS1.out y hy hq
          omega
      · by_cases hm : high ≤ f x.val + 1
        · exact .inr ⟨x, AX.out, by omega⟩
        · rw [show max high (f x.val + 1) = high by omega]
          exact AS2.out
      · rw [hleft]
        have : w3.rangeLeft mb w'.heap.size = (leftOf es (seen.push x.born)).size := by simp [World.rangeLeft, hm3, hit3]
        rw [this]
        exact hsh
end Go.Proofs.YtbnaegoahdcejaaGreatDoor

namespace Go.Proofs.YtbnaegoahdcejaaGreatDoor
open Go.RowKit Go.ChangeMaps

/-- What m is to Add: a directory (its own block, whether it stands somewhere), or something else. -/
def Mk (w : World) (m : Nat) (x : Option (Nat × Bool)) : Prop :=
  (∃ (t : TypeId) (k : Nat), x = none ∧ Nd w m t k ∧ (t = 109 ∨ t = 85 ∨ t = 111 ∨ t = 110)) ∨ (∃ (d b : Nat) (L : List KV), x = some (d, false) ∧ Dr w m d b (.pointer none) L) ∨ (∃ (d b u : Nat) (L : List KV), x = some (d, true) ∧ Dr w m d b (Pt u) L)
theorem Mk.other {w : World} {m : Nat} (t : TypeId) (k : Nat) (h : Nd w m t k) (ht : t = 109 ∨ t = 85 ∨ t = 111 ∨ t = 110) : Mk w m none := .inl ⟨t, k, rfl, h, ht⟩
theorem Mk.free {w : World} {m : Nat} (d b : Nat) (L : List KV) (h : Dr w m d b (.pointer none) L) : Mk w m (some (d, false)) := .inr (.inl ⟨d, b, L, rfl, h⟩)
theorem Mk.held {w : World} {m : Nat} (d b u : Nat) (L : List KV) (h : Dr w m d b (Pt u) L) : Mk w m (some (d, true)) := .inr (.inr ⟨d, b, u, L, rfl, h⟩)
theorem Mk.below {w w' : World} {m : Nat} {x : Option (Nat × Bool)} (h : Mk w m x) (hb : Below w.heap.size w w') : Mk w' m x := by
  rcases h with ⟨t, k, rfl, h1, h2⟩ | ⟨d, b, L, rfl, h1⟩ | ⟨d, b, u, L, rfl, h1⟩
  · exact .other t k (h1.below hb) h2
  · exact .free d b L (h1.below hb)
  · exact .held d b u L (h1.below hb)

def tcode (n hh : Nat) : Int := if 64 < n + hh + 1 then 3 else 0
def xcode (x : Option (Nat × Bool)) (l : List Nat) (hh : Nat) : Int :=
  match x with
  | none => tcode (l.length - 1) hh
  | some (d, s) => if d ∈ l then 200 else if s = true then 191 else tcode (l.length - 1) hh
def rcode (name : ByteArray) (L : List KV) (x : Option (Nat × Bool)) (l : List Nat) (hh : Nat) : Int :=
  if nameOk name = false then 190 else if (lk L name).isSome = true then 191 else if 4096 ≤ L.length then 4 else xcode x l hh

set_option maxRecDepth 20000 in
set_option maxHeartbeats 4000000 in
theorem refuses_any (nb db mb : Nat) (up : Value) (L : List KV) (l : List Nat) (name : ByteArray) (m : Nat) (x : Option (Nat × Bool)) (hh : Nat) (w : World) (h : Dr w nb db mb up L) (hU : Up w up l) (hl : l.length ≤ 1000000) (hx : Mk w m x) (hH : Ht w (Pt m) hh) (hh2 : hh ≤ 1000000) (hlen : L.length ≤ 1000000) :
    Calls Tryz.prog 82 #[Pt db, .string name, Pt m] w fun e w' => e = .returned (.int .i64 (rcode name L x (db :: l) hh)) ∧ Below w.heap.size w w' := by
  have AH := aside h
  have AU := aside hU
  have AX := aside hx
  have AHt := aside hH
  clear h hU hx hH
  go_enter Tryz.func82, Tryz.ntmps82
  go_wp2_with fail
  refine (isName_any name w).mono ?_
  rintro e w1 ⟨rfl, hb1⟩
  have AB1 := aside hb1
  have hD1 := AH.out.below hb1
  have c2 := hD1.c2
  obtain ⟨es, clock, hm, hE⟩ := hD1.map
  have hlen1 := fun ty => len_map hm hE ty
  have AD1 := aside hD1
  clear hb1 hD1
  by_cases hn : nameOk name = true
  · rw [hn]
    by_cases hlk : (lk L name).isSome = true
    · obtain ⟨v, hv⟩ := Option.isSome_iff_exists.1 hlk
      have hlo := look_yes hm hE hv true
      simp only [↓reduceIte] at hlo
      clear hE hm
      go_wp2_with fail
      go_ret
      exact ⟨by unfold rcode; rw [if_neg (by rw [hn]; decide), if_pos hlk]; rfl, AB1.out⟩
    · have hlk0 : lk L name = none := by simpa using hlk
      have hlo := look_no hm hE hlk0 true
      simp only [↓reduceIte] at hlo
      clear hE hm
      by_cases hfu : 4096 ≤ L.length
      · have hfu2 : (4096 : Int) ≤ (L.length : Int) := by omega
        go_wp2_with fail
        go_ret
        exact ⟨by unfold rcode; rw [if_neg (by rw [hn]; decide), if_neg hlk, if_pos hfu]; rfl, AB1.out⟩
      · have hfu2 : ¬ (4096 : Int) ≤ (L.length : Int) := by omega
        have hrc0 : rcode name L x (db :: l) hh = xcode x (db :: l) hh := by unfold rcode; rw [if_neg (by rw [hn]; decide), if_neg hlk, if_neg hfu]
        have AUp : Aside (Up w1 (Pt db) (db :: l)) := Up.dir AD1.out (AU.out.below AB1.out)
        have hw1 : IntKind.i64.wrap ((l.length : Int) + (hh : Int)) = (l.length : Int) + (hh : Int) := wrap_small _ (by omega) (by omega)
        have hw2 : IntKind.i64.wrap ((l.length : Int) + (hh : Int) + 1) = (l.length : Int) + (hh : Int) + 1 := wrap_small _ (by omega) (by omega)
        have hx1 := AX.out.below AB1.out
        clear AX AH
        rcases hx1 with ⟨t, k, rfl, h1, h2⟩ | ⟨d, b, XL, rfl, h1⟩ | ⟨d, b, u, XL, rfl, h1⟩
        · skip
          have hrc : xcode none (db :: l) hh = tcode l.length hh := rfl
          go_wp2_with fail
          refine (directory_other m k t w1 h1 h2).mono ?_
          rintro e w2 ⟨rfl, rfl⟩
          go_wp2_with fail
          refine (depth_any db l _ AUp.out hl).mono ?_
          rintro e w2 ⟨rfl, rfl⟩
          go_wp2_with fail
          refine (AHt.out _ AB1.out).mono ?_
          rintro e w3 ⟨rfl, hb3⟩
          have AB3 := aside hb3
          clear hb3
          by_cases hz : 64 < l.length + hh + 1
          · have hz2 : (64 : Int) < (l.length : Int) + (hh : Int) + 1 := by omega
            go_wp2_with fail
            go_ret
            exact ⟨by rw [hrc0, hrc]; unfold tcode; rw [if_pos hz]; rfl, below_tr AB1.out AB3.out⟩
          · have hz2 : ¬ (64 : Int) < (l.length : Int) + (hh : Int) + 1 := by omega
            go_wp2_with fail
            go_ret
            exact ⟨by rw [hrc0, hrc]; unfold tcode; rw [if_neg hz]; rfl, below_tr AB1.out AB3.out⟩
        · skip
          have xc1 := h1.c1
          go_wp2_with fail
          refine (directory_dir m d w1 h1.nod).mono ?_
          rintro e w2 ⟨rfl, rfl⟩
          go_wp2_with fail
          refine (within_any (Pt db) (db :: l) d _ h1.dir AUp.out).mono ?_
          rintro e w2 ⟨rfl, rfl⟩
          by_cases hin : d ∈ db :: l
          · have hrc : xcode (some (d, false)) (db :: l) hh = 200 := if_pos hin
            rw [decide_eq_true hin]
            go_wp2_with fail
            go_ret
            exact ⟨by rw [hrc0, hrc]; rfl, AB1.out⟩
          · have hrc : xcode (some (d, false)) (db :: l) hh = tcode l.length hh := (if_neg hin).trans (if_neg Bool.false_ne_true)
            rw [decide_eq_false hin]
            go_wp2_with fail
            refine (depth_any db l _ AUp.out hl).mono ?_
            rintro e w2 ⟨rfl, rfl⟩
            go_wp2_with fail
            refine (AHt.out _ AB1.out).mono ?_
            rintro e w3 ⟨rfl, hb3⟩
            have AB3 := aside hb3
            clear hb3
            by_cases hz : 64 < l.length + hh + 1
            · have hz2 : (64 : Int) < (l.length : Int) + (hh : Int) + 1 := by omega
              go_wp2_with fail
              go_ret
              exact ⟨by rw [hrc0, hrc]; unfold tcode; rw [if_pos hz]; rfl, below_tr AB1.out AB3.out⟩
            · have hz2 : ¬ (64 : Int) < (l.length : Int) + (hh : Int) + 1 := by omega
              go_wp2_with fail
              go_ret
              exact ⟨by rw [hrc0, hrc]; unfold tcode; rw [if_neg hz]; rfl, below_tr AB1.out AB3.out⟩
        · skip
          have xc1 := h1.c1
          go_wp2_with fail
          refine (directory_dir m d w1 h1.nod).mono ?_
          rintro e w2 ⟨rfl, rfl⟩
          go_wp2_with fail
          refine (within_any (Pt db) (db :: l) d _ h1.dir AUp.out).mono ?_
          rintro e w2 ⟨rfl, rfl⟩
          by_cases hin : d ∈ db :: l
          · have hrc : xcode (some (d, true)) (db :: l) hh = 200 := if_pos hin
            rw [decide_eq_true hin]
            go_wp2_with fail
            go_ret
            exact ⟨by rw [hrc0, hrc]; rfl, AB1.out⟩
          · have hrc : xcode (some (d, true)) (db :: l) hh = 191 := (if_neg hin).trans (if_pos rfl)
            rw [decide_eq_false hin]
            go_wp2_with fail
            go_ret
            exact ⟨by rw [hrc0, hrc]; rfl, AB1.out⟩
  · have hn : nameOk name = false := by simpa using hn
    rw [hn]
    clear hE hm
    go_wp2_with fail
    go_ret
    exact ⟨by unfold rcode; rw [if_pos hn]; rfl, AB1.out⟩
end Go.Proofs.YtbnaegoahdcejaaGreatDoor

namespace Go.Proofs.YtbnaegoahdcejaaGreatDoor
open Go.RowKit Go.ChangeMaps

theorem Mk.nd {w : World} {m : Nat} {x : Option (Nat × Bool)} (h : Mk w m x) : ∃ t k, Nd w m t k := by
  rcases h with ⟨t, k, rfl, h1, h2⟩ | ⟨d, b, L, rfl, h1⟩ | ⟨d, b, u, L, rfl, h1⟩
  · exact ⟨t, k, h1⟩
  · exact ⟨_, d, h1.nod⟩
  · exact ⟨_, d, h1.nod⟩

set_option maxRecDepth 20000 in
set_option maxHeartbeats 400000 in
theorem add_nilm (n : Value) (name : ByteArray) (w : World) : Calls Tryz.prog 47 #[n, .string name, .pointer none] w fun e w' => e = .returned (.int .i64 1) ∧ w' = w := by
  go_enter Tryz.func47, Tryz.ntmps47
  go_wp2_with fail
  refine (what_nil w).mono ?_
  rintro e w' ⟨rfl, rfl⟩
  go_wp2
  go_ret
  exact ⟨rfl, rfl⟩
set_option maxRecDepth 20000 in
set_option maxHeartbeats 400000 in
theorem add_niln (name : ByteArray) (m k : Nat) (t : TypeId) (w : World) (h : Nd w m t k) : Calls Tryz.prog 47 #[.pointer none, .string name, Pt m] w fun e w' => e = .returned (.int .i64 1) ∧ w' = w := by
  go_enter Tryz.func47, Tryz.ntmps47
  go_wp2_with fail
  refine (what_node m k t w h).mono ?_
  rintro e w' ⟨rfl, rfl⟩
  go_wp2_with fail
  refine (directory_nil _).mono ?_
  rintro e w' ⟨rfl, rfl⟩
  go_wp2
  go_ret
  exact ⟨rfl, rfl⟩
set_option maxRecDepth 20000 in
set_option maxHeartbeats 400000 in
theorem add_notdir (name : ByteArray) (nb m k k2 : Nat) (t t2 : TypeId) (w : World) (h : Nd w m t k) (h2 : Nd w nb t2 k2) (ht : t2 = 109 ∨ t2 = 85 ∨ t2 = 111 ∨ t2 = 110) : Calls Tryz.prog 47 #[Pt nb, .string name, Pt m] w fun e w' => e = .returned (.int .i64 193) ∧ w' = w := by
  go_enter Tryz.func47, Tryz.ntmps47
  go_wp2_with fail
  refine (what_node m k t w h).mono ?_
  rintro e w' ⟨rfl, rfl⟩
  go_wp2_with fail
  refine (directory_other nb k2 t2 _ h2 ht).mono ?_
  rintro e w' ⟨rfl, rfl⟩
  go_wp2
  go_ret
  exact ⟨rfl, rfl⟩

set_option maxRecDepth 20000 in
set_option maxHeartbeats 1000000 in
theorem add_no (nb db mb : Nat) (up : Value) (L : List KV) (l : List Nat) (name : ByteArray) (m : Nat) (x : Option (Nat × Bool)) (hh : Nat) (c : Int) (w : World) (h : Dr w nb db mb up L) (hU : Up w up l) (hl : l.length ≤ 1000000) (hx : Mk w m x) (hH : Ht w (Pt m) hh) (hh2 : hh ≤ 1000000) (hlen : L.length ≤ 1000000)
    (hc : rcode name L x (db :: l) hh = c) (h0 : c ≠ 0) : Calls Tryz.prog 47 #[Pt nb, .string name, Pt m] w fun e w' => e = .returned (.int .i64 c) ∧ Below w.heap.size w w' := by
  obtain ⟨t, k, hnd⟩ := hx.nd
  have hR := fun W (hW : Below w.heap.size w W) => refuses_any nb db mb up L l name m x hh W (h.below hW) (hU.below hW) hl (hx.below hW) (hH.below hW) hh2 hlen
  rw [hc] at hR
  have AR := aside hR
  have hnn := h.nod
  have hc0 : (c == 0) = false := beq_eq_false_iff_ne.2 h0
  clear hR h hU hx hH hc
  go_enter Tryz.func47, Tryz.ntmps47
  go_wp2_with fail
  refine (what_node m k t w hnd).mono ?_
  rintro e w' ⟨rfl, rfl⟩
  go_wp2_with fail
  refine (directory_dir nb db _ hnn).mono ?_
  rintro e w' ⟨rfl, rfl⟩
  go_wp2_with fail
  refine (AR.out _ (Below.refl _ _)).mono ?_
  rintro e w1 ⟨rfl, hb1⟩
  go_wp2_with fail
  go_ret
  exact ⟨rfl, hb1⟩

set_option maxRecDepth 20000 in
set_option maxHeartbeats 1000000 in
theorem add_other (nb db mb : Nat) (up : Value) (L : List KV) (l : List Nat) (name : ByteArray) (m k : Nat) (t : TypeId) (w : World) (h : Dr w nb db mb up L) (hU : Up w up l) (hl : l.length ≤ 1000000) (hm : Nd w m t k) (ht : t = 109 ∨ t = 85 ∨ t = 111 ∨ t = 110) (hlen : L.length ≤ 1000000)
    (hc : rcode name L none (db :: l) 0 = 0) : Calls Tryz.prog 47 #[Pt nb, .string name, Pt m] w fun e w' => e = .returned (.int .i64 0) ∧ Dr w' nb db mb up (L ++ [(name, Pt m)]) ∧ Upd (fun k => k = mb) w w' := by
  have hR := refuses_any nb db mb up L l name m none 0 w h hU hl (.other t k hm ht) (ht_other m k t w hm ht) (by omega) hlen
  rw [hc] at hR
  have hname : nameOk name = true ∧ lk L name = none := by
    unfold rcode at hc
    by_cases h1 : nameOk name = false
    · rw [if_pos h1] at hc; omega
    · rw [if_neg h1] at hc
      by_cases h2 : (lk L name).isSome = true
      · rw [if_pos h2] at hc; omega
      · exact ⟨by simpa using h1, by simpa using h2⟩
  have hsz : name.size ≤ maxLen := by
    have := hname.1
    unfold nameOk at this
    simp only [Bool.and_eq_true, decide_eq_true_eq] at this
    have := this.1.1.1.2
    unfold maxLen; omega
  have AR := aside hR
  have AD := aside h
  have hnn := h.nod
  clear hR hU hc h
  go_enter Tryz.func47, Tryz.ntmps47
  go_wp2_with fail
  refine (what_node m k t w hm).mono ?_
  rintro e w' ⟨rfl, rfl⟩
  go_wp2_with fail
  refine (directory_dir nb db _ hnn).mono ?_
  rintro e w' ⟨rfl, rfl⟩
  go_wp2_with fail
  refine AR.out.mono ?_
  rintro e w1 ⟨rfl, hb1⟩
  have hD1 := AD.out.below hb1
  have c2 := hD1.c2
  have hnm1 := hm.below hb1
  obtain ⟨es, clock, hmp, hE⟩ := hD1.map
  obtain ⟨es', hrun, hE'⟩ := put_new hmp hE (Pt m) hsz hname.2
  obtain ⟨U, hU⟩ : ∃ U, U = setBlock w1 mb (.map es' (clock + 1)) := ⟨_, rfl⟩
  rw [← hU] at hrun
  have hUp : Upd (fun k => k = mb) w1 U := by rw [hU]; exact Upd.setBlock _ _ _ rfl
  have hnmb : m ≠ mb := fun e => by unfold Nd at hnm1; rw [e, hmp] at hnm1; simp at hnm1
  have hnmU := hnm1.upd hUp hnmb
  have AD' : Aside (Dr U nb db mb up (L ++ [(name, Pt m)])) := ⟨hD1.nod.upd hUp hD1.n1.symm, (hUp.block _ hD1.ld hD1.n2.symm).trans hD1.dir, es', clock + 1, by rw [hU]; exact heap_set_same hmp, hE'⟩
  have AU := aside hUp
  have AB := aside hb1
  clear hE hE' hmp hD1 hU hUp hb1 AR AD
  go_wp2_with fail
  refine (directory_other m k t _ hnmU ht).mono ?_
  rintro e w2 ⟨rfl, rfl⟩
  go_wp2_with fail
  go_ret
  exact ⟨rfl, AD'.out, (Upd.of_below AB.out).trans AU.out (fun _ _ h => h)⟩
end Go.Proofs.YtbnaegoahdcejaaGreatDoor

namespace Go.Proofs.YtbnaegoahdcejaaGreatDoor
open Go.RowKit Go.ChangeMaps

theorem rc_name {name : ByteArray} {L : List KV} {x : Option (Nat × Bool)} {l : List Nat} {hh : Nat} (hc : rcode name L x l hh = 0) : nameOk name = true ∧ lk L name = none := by
  unfold rcode at hc
  by_cases h1 : nameOk name = false
  · rw [if_pos h1] at hc; omega
  · rw [if_neg h1] at hc
    by_cases h2 : (lk L name).isSome = true
    · rw [if_pos h2] at hc; omega
    · exact ⟨by simpa using h1, by simpa using h2⟩
theorem name_size {name : ByteArray} (h : nameOk name = true) : name.size ≤ maxLen := by
  unfold nameOk at h
  simp only [Bool.and_eq_true, decide_eq_true_eq] at h
  have := h.1.1.1.2
  unfold maxLen; omega

theorem Dr.set {w : World} {nb db mb : Nat} {up : Value} {L : List KV} (h : Dr w nb db mb up L) (v : Value) : Dr (w.setCell ⟨db, 1, none⟩ v) nb db mb v L := by
  obtain ⟨es, c, m1, m2⟩ := h.map
  refine ⟨set_far h.nod h.n3.symm, ?_, es, c, set_far m1 h.n2, m2⟩
  have := set_same (i := 1) (v := v) h.dir
  simpa using this

set_option maxRecDepth 20000 in
set_option maxHeartbeats 1000000 in
theorem add_dir (nb db mb : Nat) (up : Value) (L : List KV) (l : List Nat) (name : ByteArray) (m d b : Nat) (XL : List KV) (hh : Nat) (w : World) (h : Dr w nb db mb up L) (hU : Up w up l) (hl : l.length ≤ 1000000) (hm : Dr w m d b (.pointer none) XL) (hH : Ht w (Pt m) hh) (hh2 : hh ≤ 1000000) (hlen : L.length ≤ 1000000)
    (hbm : b ≠ mb) (hc : rcode name L (some (d, false)) (db :: l) hh = 0) : Calls Tryz.prog 47 #[Pt nb, .string name, Pt m] w fun e w' => e = .returned (.int .i64 0) ∧ Dr w' nb db mb up (L ++ [(name, Pt m)]) ∧ Dr w' m d b (Pt db) XL ∧ Upd (fun k => k = mb ∨ k = d) w w' := by
  have hR := refuses_any nb db mb up L l name m (some (d, false)) hh w h hU hl (.free d b XL hm) hH hh2 hlen
  rw [hc] at hR
  have hname := rc_name hc
  have hsz := name_size hname.1
  have hdd : d ≠ db := fun e => by
    unfold rcode at hc
    rw [if_neg (by rw [hname.1]; decide), if_neg (by rw [hname.2]; decide)] at hc
    by_cases h4 : 4096 ≤ L.length
    · rw [if_pos h4] at hc; omega
    · rw [if_neg h4] at hc
      unfold xcode at hc
      simp only at hc
      rw [if_pos (by rw [e]; simp)] at hc
      omega
  have AR := aside hR
  have AD := aside h
  have AM := aside hm
  have hnn := h.nod
  have hmn := hm.nod
  clear hR hU hc h hH hm
  go_enter Tryz.func47, Tryz.ntmps47
  go_wp2_with fail
  refine (what_node m d _ w hmn).mono ?_
  rintro e w' ⟨rfl, rfl⟩
  go_wp2_with fail
  refine (directory_dir nb db _ hnn).mono ?_
  rintro e w' ⟨rfl, rfl⟩
  go_wp2_with fail
  refine AR.out.mono ?_
  rintro e w1 ⟨rfl, hb1⟩
  have hD1 := AD.out.below hb1
  have hM1 := AM.out.below hb1
  have c2 := hD1.c2
  obtain ⟨es, clock, hmp, hE⟩ := hD1.map
  obtain ⟨es', hrun, hE'⟩ := put_new hmp hE (Pt m) hsz hname.2
  obtain ⟨U, hU⟩ : ∃ U, U = setBlock w1 mb (.map es' (clock + 1)) := ⟨_, rfl⟩
  rw [← hU] at hrun
  have hUp : Upd (fun k => k = mb) w1 U := by rw [hU]; exact Upd.setBlock _ _ _ rfl
  have hnmb : m ≠ mb := fun e => by have := hM1.nod; unfold Nd at this; rw [e, hmp] at this; simp at this
  have hdmb : d ≠ mb := fun e => by have := hM1.dir; rw [e, hmp] at this; simp at this
  have hMU := hM1.upd hUp hnmb hdmb hbm
  have hnmU := hMU.nod
  have hDU : Dr U nb db mb up (L ++ [(name, Pt m)]) := ⟨hD1.nod.upd hUp hD1.n1.symm, (hUp.block _ hD1.ld hD1.n2.symm).trans hD1.dir, es', clock + 1, by rw [hU]; exact heap_set_same hmp, hE'⟩
  have hdnb : d ≠ nb := fun e => by have h1 := hM1.dir; have h2 := hD1.nod; unfold Nd at h2; rw [e, h2] at h1; simp at h1
  have f1 := hMU.fz 1
  have c1 := hMU.c1
  have AD' : Aside (Dr (U.setCell ⟨d, 1, none⟩ (Pt db)) nb db mb up (L ++ [(name, Pt m)])) := hDU.upd (Upd.setCell (F := fun k => k = d) (p := ⟨d, 1, none⟩) rfl _) hdnb.symm hdd.symm hdmb.symm
  have AM' : Aside (Dr (U.setCell ⟨d, 1, none⟩ (Pt db)) m d b (Pt db) XL) := hMU.set (Pt db)
  have AU := aside hUp
  have AB := aside hb1
  clear hE hE' hmp hD1 hU hUp hb1 AR AD hM1 hMU hDU
  go_wp2_with fail
  refine (directory_dir m d _ hnmU).mono ?_
  rintro e w2 ⟨rfl, rfl⟩
  go_wp2_with fail
  go_ret
  exact ⟨rfl, AD'.out, AM'.out, (Upd.of_below AB.out).trans ((AU.out.mono (G := fun k => k = mb ∨ k = d) (fun _ _ h => .inl h)).trans (Upd.setCell (F := fun k => k = d) (p := ⟨d, 1, none⟩) rfl _) (fun _ _ h => .inr h)) (fun _ _ h => h)⟩

set_option maxRecDepth 20000 in
set_option maxHeartbeats 400000 in
theorem get_yes (nb db mb : Nat) (up : Value) (L : List KV) (name : ByteArray) (v : Value) (w : World) (h : Dr w nb db mb up L) (hl : lk L name = some v) : Calls Tryz.prog 28 #[Pt nb, .string name] w fun e w' => e = .returned (.tuple #[v, .int .i64 0]) ∧ w' = w := by
  obtain ⟨es, clock, hm, hE⟩ := h.map
  have hlo := look_yes hm hE hl true
  simp only [↓reduceIte] at hlo
  have c2 := h.c2
  have hn := h.nod
  clear hm hE h
  go_enter Tryz.func28, Tryz.ntmps28
  go_wp2_with fail
  refine (directory_dir nb db _ hn).mono ?_
  rintro e w' ⟨rfl, rfl⟩
  go_wp2
  go_ret2
  exact ⟨rfl, rfl⟩
set_option maxRecDepth 20000 in
set_option maxHeartbeats 400000 in
theorem get_no (nb db mb : Nat) (up : Value) (L : List KV) (name : ByteArray) (w : World) (h : Dr w nb db mb up L) (hl : lk L name = none) : Calls Tryz.prog 28 #[Pt nb, .string name] w fun e w' => e = .returned (.tuple #[.pointer none, .int .i64 192]) ∧ w' = w := by
  obtain ⟨es, clock, hm, hE⟩ := h.map
  have hlo := look_no hm hE hl true
  simp only [↓reduceIte] at hlo
  have c2 := h.c2
  have hn := h.nod
  clear hm hE h
  go_enter Tryz.func28, Tryz.ntmps28
  go_wp2_with fail
  refine (directory_dir nb db _ hn).mono ?_
  rintro e w' ⟨rfl, rfl⟩
  go_wp2
  go_ret2
  exact ⟨rfl, rfl⟩
set_option maxRecDepth 20000 in
set_option maxHeartbeats 400000 in
theorem get_nil (name : ByteArray) (w : World) : Calls Tryz.prog 28 #[.pointer none, .string name] w fun e w' => e = .returned (.tuple #[.pointer none, .int .i64 1]) ∧ w' = w := by
  go_enter Tryz.func28, Tryz.ntmps28
  go_wp2_with fail
  refine (directory_nil w).mono ?_
  rintro e w' ⟨rfl, rfl⟩
  go_wp2
  go_ret2
  exact ⟨rfl, rfl⟩
set_option maxRecDepth 20000 in
set_option maxHeartbeats 400000 in
theorem take_nil (name : ByteArray) (w : World) : Calls Tryz.prog 59 #[.pointer none, .string name] w fun e w' => e = .returned (.tuple #[.pointer none, .int .i64 1]) ∧ w' = w := by
  go_enter Tryz.func59, Tryz.ntmps59
  go_wp2_with fail
  refine (directory_nil w).mono ?_
  rintro e w' ⟨rfl, rfl⟩
  go_wp2
  go_ret2
  exact ⟨rfl, rfl⟩
set_option maxRecDepth 20000 in
set_option maxHeartbeats 400000 in
theorem drop_nil (name : ByteArray) (w : World) : Calls Tryz.prog 49 #[.pointer none, .string name] w fun e w' => e = .returned (.int .i64 1) ∧ w' = w := by
  go_enter Tryz.func49, Tryz.ntmps49
  go_wp2_with fail
  refine (get_nil name w).mono ?_
  rintro e w' ⟨rfl, rfl⟩
  go_wp2
  go_ret
  exact ⟨rfl, rfl⟩
set_option maxRecDepth 20000 in
set_option maxHeartbeats 400000 in
theorem drop_none (nb db mb : Nat) (up : Value) (L : List KV) (name : ByteArray) (w : World) (h : Dr w nb db mb up L) (hl : lk L name = none) : Calls Tryz.prog 49 #[Pt nb, .string name] w fun e w' => e = .returned (.int .i64 192) ∧ w' = w := by
  have AG := aside (get_no nb db mb up L name w h hl)
  clear h
  go_enter Tryz.func49, Tryz.ntmps49
  go_wp2_with fail
  refine AG.out.mono ?_
  rintro e w' ⟨rfl, rfl⟩
  go_wp2
  go_ret
  exact ⟨rfl, rfl⟩

set_option maxRecDepth 20000 in
set_option maxHeartbeats 1000000 in
theorem take_other (nb db mb : Nat) (up : Value) (L : List KV) (name : ByteArray) (m k : Nat) (t : TypeId) (w : World) (h : Dr w nb db mb up L) (hl : lk L name = some (Pt m)) (hm : Nd w m t k) (ht : t = 109 ∨ t = 85 ∨ t = 111 ∨ t = 110) :
    Calls Tryz.prog 59 #[Pt nb, .string name] w fun e w' => e = .returned (.tuple #[Pt m, .int .i64 0]) ∧ Dr w' nb db mb up (del L name) ∧ Upd (fun k => k = mb) w w' := by
  obtain ⟨es, clock, hmp, hE⟩ := h.map
  have hlo := look_yes hmp hE hl true
  simp only [↓reduceIte] at hlo
  obtain ⟨es', hrun, hE'⟩ := take_out hmp hE hl
  obtain ⟨U, hU⟩ : ∃ U, U = setBlock w mb (.map es' clock) := ⟨_, rfl⟩
  rw [← hU] at hrun
  have hUp : Upd (fun k => k = mb) w U := by rw [hU]; exact Upd.setBlock _ _ _ rfl
  have hnmb : m ≠ mb := fun e => by have := hm; unfold Nd at this; rw [e, hmp] at this; simp at this
  have hnmU := hm.upd hUp hnmb
  have AD' : Aside (Dr U nb db mb up (del L name)) := ⟨h.nod.upd hUp h.n1.symm, (hUp.block _ h.ld h.n2.symm).trans h.dir, es', clock, by rw [hU]; exact heap_set_same hmp, hE'⟩
  have AU := aside hUp
  have c2 := h.c2
  have hn := h.nod
  clear hmp hE hE' hU hUp h
  go_enter Tryz.func59, Tryz.ntmps59
  go_wp2_with fail
  refine (directory_dir nb db _ hn).mono ?_
  rintro e w' ⟨rfl, rfl⟩
  go_wp2_with fail
  refine (directory_other m k t _ hnmU ht).mono ?_
  rintro e w2 ⟨rfl, rfl⟩
  go_wp2_with fail
  go_ret2
  exact ⟨rfl, AD'.out, AU.out⟩
set_option maxRecDepth 20000 in
set_option maxHeartbeats 1000000 in
theorem take_dir (nb db mb : Nat) (up : Value) (L : List KV) (name : ByteArray) (m d b : Nat) (xup : Value) (XL : List KV) (w : World) (h : Dr w nb db mb up L) (hl : lk L name = some (Pt m)) (hm : Dr w m d b xup XL) (hbm : b ≠ mb) (hdd : d ≠ db) :
    Calls Tryz.prog 59 #[Pt nb, .string name] w fun e w' => e = .returned (.tuple #[Pt m, .int .i64 0]) ∧ Dr w' nb db mb up (del L name) ∧ Dr w' m d b (.pointer none) XL ∧ Upd (fun k => k = mb ∨ k = d) w w' := by
  obtain ⟨es, clock, hmp, hE⟩ := h.map
  have hlo := look_yes hmp hE hl true
  simp only [↓reduceIte] at hlo
  obtain ⟨es', hrun, hE'⟩ := take_out hmp hE hl
  obtain ⟨U, hU⟩ : ∃ U, U = setBlock w mb (.map es' clock) := ⟨_, rfl⟩
  rw [← hU] at hrun
  have hUp : Upd (fun k => k = mb) w U := by rw [hU]; exact Upd.setBlock _ _ _ rfl
  have hnmb : m ≠ mb := fun e => by have := hm.nod; unfold Nd at this; rw [e, hmp] at this; simp at this
  have hdmb : d ≠ mb := fun e => by have := hm.dir; rw [e, hmp] at this; simp at this
  have hMU := hm.upd hUp hnmb hdmb hbm
  have hnmU := hMU.nod
  have hDU : Dr U nb db mb up (del L name) := ⟨h.nod.upd hUp h.n1.symm, (hUp.block _ h.ld h.n2.symm).trans h.dir, es', clock, by rw [hU]; exact heap_set_same hmp, hE'⟩
  have hdnb : d ≠ nb := fun e => by have h1 := hm.dir; have h2 := h.nod; unfold Nd at h2; rw [e, h2] at h1; simp at h1
  have f1 := hMU.fz 1
  have c1 := hMU.c1
  have AD' : Aside (Dr (U.setCell ⟨d, 1, none⟩ (.pointer none)) nb db mb up (del L name)) := hDU.upd (Upd.setCell (F := fun k => k = d) (p := ⟨d, 1, none⟩) rfl _) hdnb.symm hdd.symm hdmb.symm
  have AM' : Aside (Dr (U.setCell ⟨d, 1, none⟩ (.pointer none)) m d b (.pointer none) XL) := hMU.set (.pointer none)
  have AU := aside hUp
  have c2 := h.c2
  have hn := h.nod
  clear hmp hE hE' hU hUp h hMU hDU hm
  go_enter Tryz.func59, Tryz.ntmps59
  go_wp2_with fail
  refine (directory_dir nb db _ hn).mono ?_
  rintro e w' ⟨rfl, rfl⟩
  go_wp2_with fail
  refine (directory_dir m d _ hnmU).mono ?_
  rintro e w2 ⟨rfl, rfl⟩
  go_wp2_with fail
  go_ret2
  exact ⟨rfl, AD'.out, AM'.out, (AU.out.mono (G := fun k => k = mb ∨ k = d) (fun _ _ h => .inl h)).trans (Upd.setCell (F := fun k => k = d) (p := ⟨d, 1, none⟩) rfl _) (fun _ _ h => .inr h)⟩

set_option maxRecDepth 20000 in
set_option maxHeartbeats 1000000 in
theorem drop_other (nb db mb : Nat) (up : Value) (L : List KV) (name : ByteArray) (m k : Nat) (t : TypeId) (w : World) (h : Dr w nb db mb up L) (hl : lk L name = some (Pt m)) (hm : Nd w m t k) (ht : t = 109 ∨ t = 85 ∨ t = 111 ∨ t = 110) :
    Calls Tryz.prog 49 #[Pt nb, .string name] w fun e w' => e = .returned (.int .i64 0) ∧ Dr w' nb db mb up (del L name) ∧ Upd (fun k => k = mb) w w' := by
  have AG := aside (get_yes nb db mb up L name _ w h hl)
  have AT := aside (take_other nb db mb up L name m k t w h hl hm ht)
  clear h
  go_enter Tryz.func49, Tryz.ntmps49
  go_wp2_with fail
  refine AG.out.mono ?_
  rintro e w' ⟨rfl, rfl⟩
  go_wp2_with fail
  refine (directory_other m k t _ hm ht).mono ?_
  rintro e w' ⟨rfl, rfl⟩
  go_wp2_with fail
  refine AT.out.mono ?_
  rintro e w' ⟨rfl, hd, hu⟩
  go_wp2
  go_ret
  exact ⟨rfl, hd, hu⟩
set_option maxRecDepth 20000 in
set_option maxHeartbeats 1000000 in
theorem drop_full (nb db mb : Nat) (up : Value) (L : List KV) (name : ByteArray) (m d b : Nat) (xup : Value) (XL : List KV) (w : World) (h : Dr w nb db mb up L) (hl : lk L name = some (Pt m)) (hm : Dr w m d b xup XL) (hX : 0 < XL.length) :
    Calls Tryz.prog 49 #[Pt nb, .string name] w fun e w' => e = .returned (.int .i64 194) ∧ w' = w := by
  have AG := aside (get_yes nb db mb up L name _ w h hl)
  obtain ⟨es, clock, hmp, hE⟩ := hm.map
  have hlen := fun ty => len_map hmp hE ty
  have hX2 : (0 : Int) < (XL.length : Int) := by omega
  have c2 := hm.c2
  have hn := hm.nod
  clear h hmp hE hm
  go_enter Tryz.func49, Tryz.ntmps49
  go_wp2_with fail
  refine AG.out.mono ?_
  rintro e w' ⟨rfl, rfl⟩
  go_wp2_with fail
  refine (directory_dir m d _ hn).mono ?_
  rintro e w' ⟨rfl, rfl⟩
  go_wp2
  go_ret
  exact ⟨rfl, rfl⟩
end Go.Proofs.YtbnaegoahdcejaaGreatDoor
