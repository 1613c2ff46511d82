/- strings.IndexRune of a rune that is no byte; the short road of strings.IndexAny. -/
import Derived.Test.YtknjclekfmmfeaaDoorNam
import Derived.WalkMore
namespace Go.Proofs.YtknjclekfmmfeaaDoor
open Go.RowKit Go.Shelf Go.Lib

theorem below_drn (w : World) (n : Nat) : Below w.heap.size w (w.drewN n) := ⟨rfl, rfl, rfl, Nat.le_refl _, fun _ _ => rfl⟩
theorem validRune_any (r : Int) (w : World) (h : Utf8.valid r = true) : Calls Tryd.prog 64 #[.int .i32 r] w fun e w' => e = .returned (.bool true) ∧ w' = w := by
  rw [validRune_eq] at h
  have h := of_decide_eq_true h
  rcases h with ⟨h0, h1⟩ | ⟨h0, h1⟩
  · go_enter Tryd.func64, Tryd.ntmps64
    go_wp2
    go_ret
    exact ⟨rfl, rfl⟩
  · have h2 : 0 ≤ r := by omega
    have h3 : ¬ r < 55296 := by omega
    go_enter Tryd.func64, Tryd.ntmps64
    go_wp2
    go_ret
    exact ⟨rfl, rfl⟩

set_option maxRecDepth 100000 in
set_option maxHeartbeats 4000000 in
theorem idxRune_high (r : Int) (w : World) (h128 : 128 ≤ r) (hv : Utf8.valid r = true) (hne : r ≠ 65533) : Calls Tryd.prog 51 #[.string ch, .int .i32 r] w fun e w' => e = .returned (.int .i64 (-1)) ∧ Below w.heap.size w w' := by
  obtain ⟨h2, h4, hlast⟩ := encode_facts r hv h128
  have h0 : 0 ≤ r := by omega
  have h1 : ¬ r < 128 := by omega
  have hE : (r == 65533) = false := beq_eq_false_iff_ne.2 hne
  have HV := aside hv
  clear hv
  generalize hrs : Utf8.encode r = rs at *
  go_enter Tryd.func51, Tryd.ntmps51
  go_wp2_with (go_at_call 64; refine (validRune_any r _ HV.out).mono ?_; rintro e w' ⟨rfl, rfl⟩)
  go_step3
  have hrs2 : ((rs.size : Int) - 1) = ((rs.size - 1 : Nat) : Int) := by omega
  go_wp2_with fail
  go_loopw [9, 10, 11, 12] (fun s9 s10 _ _ wx => s9 = .int .i64 (rs.size - 1 : Nat) ∧ s10 = .int .i64 0 ∧ wx = w') (fun _ _ _ _ _ => 0)
  case atStart => exact ⟨by simp, rfl, rfl⟩
  case round =>
    obtain ⟨rfl, rfl, rfl⟩ := hrel
    by_cases hz : rs.size = 2
    · have hlt : rs.size - 1 < rs.size := by omega
      have hl := hlast hlt
      obtain ⟨c, hc⟩ : ∃ c : UInt8, rs[rs.size - 1]'hlt = c := ⟨_, rfl⟩
      rw [hc] at hl
      have hz1 : ((rs.size - 1 : Nat) : Int) = 1 := by omega
      rw [hz1]
      have hz2 : 1 < rs.size := by omega
      have hz3 : (1 : Int) < (rs.size : Int) := by omega
      have hc1 : rs[1] = c := by have e : rs.size - 1 = 1 := by omega
                                 simpa [e] using hc
      have hcc : ((47 : Int) == (c.toNat : Int)) = false := beq_eq_false_iff_ne.2 (by omega)
      clear hlast hc
      go_wp2_with fail
      go_step3
      go_wp2_with fail
      go_quiet (fail)
      have hne2 : ((ch[1].toNat : Int) != (c.toNat : Int)) = true := by
        show (((47 : Nat) : Int) != (c.toNat : Int)) = true
        simp only [bne_iff_ne]
        omega
      rw [hne2]
      have hw2 : IntKind.i64.wrap 2 = 2 := by decide
      have hsl : ∀ w, (Instr.slice 9 (.string ch) (some (.int .i64 2)) none none).run Tryd.prog w = .ok (.string ⟨#[]⟩) w := fun w => by kernel_rfl
      go_wp2_with fail
      go_region_with (go_at_call 63; refine (idxByte_any _ _ _).mono ?_; rintro e w0 ⟨rfl, rfl⟩)
      have hx1 : Lib.indexByte [] c = -1 := rfl
      rw [hx1]
      go_wp2_with fail
      simp (zetaDelta := true) only [Exit.noGoto_ret, Exit.inBlock, Exit.then]
      go_ret
      exact ⟨rfl, below_drn _ _⟩
    · have hz2 : ¬ ((rs.size - 1 : Nat) : Int) < 2 := by omega
      go_wp2_with fail
      go_ret
      exact ⟨rfl, Below.refl _ _⟩

set_option maxRecDepth 100000 in
set_option maxHeartbeats 4000000 in
/-- The short road: at most eight bytes, of whatever kind. -/
theorem idxAny_short (s : ByteArray) (w : World) (h8 : s.size ≤ 8) : Calls Tryd.prog 37 #[.string s, .string ch] w fun e w' => e = .returned (.int .i64 (Lib.indexAny s.data.toList [0, 47])) ∧ Below w.heap.size w w' := by
  have h8z : decide ((8 : Int) < (s.size : Int)) = false := decide_eq_false (by omega)
  go_enter Tryd.func37, Tryd.ntmps37
  go_wp2_with (go_at_call 52; refine (Any.strings_shouldUseASCIISet (ρ := lays153_ren) { lays153 with } _ _).mono ?_; rintro e w' ⟨rfl, hw⟩; rw [hw, h8z])
  go_loopw [9, 10] (fun _ _ wx => ∃ i : Nat, i ≤ s.size ∧ wx.heap[w.heap.size]? = some (.stringIter s i) ∧ Below w.heap.size w wx ∧ Lib.NoAny s.data.toList [0, 47] i) (fun _ _ wx => s.size - wx.iterPos w.heap.size)
  case atStart => exact ⟨0, by omega, World.iter_heap w s 0, below_al w _, Lib.NoAny.zero _ _⟩
  case round =>
    obtain ⟨i, hi, hit, hbl, hno⟩ := hrel
    have HN := aside hno
    have HB := aside hbl
    have HI := aside hit
    have hpos : wr.iterPos w.heap.size = i := by simp [World.iterPos, hit]
    clear hno hbl
    by_cases hz : i < s.size
    · have hnx := fun ty => run_next_any_at (P := Tryd.prog) wr w.heap.size s i ty hit hz
      clear hit
      by_cases hlo : (s[i]'hz).toNat < 128
      · obtain ⟨x, hx⟩ : ∃ x : UInt8, s[i]'hz = x := ⟨_, rfl⟩
        have hxl : s.data.toList[i]? = some x := by rw [← hx]; exact Lib.data_getElem? s i hz
        have hd := decode_ascii s i hz hlo
        rw [hx] at hlo hd
        rw [hd] at hnx
        have Hx := aside hxl
        have hcon := Lib.contains_iff_indexByte [0, 47] x
        have hback : ((x.toNat : Int)).toNat.toUInt8 = x := by simp
        clear hxl hx
        cases hin : ([0, 47] : List UInt8).contains x
        · rw [hin] at hcon
          have hlt : ¬ ((0 : Int) ≤ Lib.indexByte [0, 47] x) := of_decide_eq_false hcon.symm
          clear hcon
          go_wp2_with (go_at_call 51; refine (idxRune_low _ _ (by omega) (by omega)).mono ?_; rintro e w0 ⟨rfl, hw⟩; rw [hw, hback])
          go_roundw
          case rel => exact ⟨i + 1, by omega, iterAt_heap wr _ s i (i + 1) HI.out, below_iterAt HB.out (Nat.le_refl _) s (i + 1), HN.out.succ Hx.out hin⟩
          case measure =>
            have : (wr.iterAt w.heap.size s (i + 1)).iterPos w.heap.size = i + 1 := by simp [World.iterPos, iterAt_heap wr _ s i (i + 1) HI.out]
            rw [this, hpos]; omega
        · rw [hin] at hcon
          have hge : (0 : Int) ≤ Lib.indexByte [0, 47] x := of_decide_eq_true hcon.symm
          clear hcon
          go_wp2_with (go_at_call 51; refine (idxRune_low _ _ (by omega) (by omega)).mono ?_; rintro e w0 ⟨rfl, hw⟩; rw [hw, hback])
          go_ret
          exact ⟨by rw [Lib.indexAny_hit HN.out Hx.out hin]; rfl, below_iterAt HB.out (Nat.le_refl _) s (i + 1)⟩
      · have hd1 := decode_high s i hz (by omega)
        obtain ⟨hd2, hd3, hd4⟩ := dec_more s i hz (by omega)
        generalize hD : Utf8.decode s i = D at *
        have hC : ∀ W, Calls Tryd.prog 51 #[.string ch, .int .i32 (D.1 : Int)] W fun e w' => e = .returned (.int .i64 (-1)) ∧ Below W.heap.size W w' := fun W => by
          by_cases he : (D.1 : Int) = 65533
          · rw [he]; exact idxRune_err W
          · exact idxRune_high _ W (by omega) hd2 he
        have HC := aside hC
        have HN2 : Aside (Lib.NoAny s.data.toList [0, 47] (i + D.2)) := fun j b hj hb => by
          by_cases hji : j < i
          · exact HN.out j b hji hb
          · have hjs : j < s.size := by omega
            have hb2 : s[j]'hjs = b := by have := Lib.data_getElem? s j hjs; rw [this] at hb; simpa using hb
            have h128 : 128 ≤ b.toNat := by
              by_cases hj0 : j = i
              · subst hj0; rw [hb2] at hlo; omega
              · have := hd4 (j - i) (by omega) (by omega)
                rw [show i + (j - i) = j by omega] at this
                have e : s.get! j = s[j]'hjs := get_at s j hjs
                rw [e, hb2] at this
                exact this
            cases hin : ([0, 47] : List UInt8).contains b
            · rfl
            · simp only [List.contains_cons, List.contains_nil, Bool.or_false, Bool.or_eq_true, beq_iff_eq] at hin
              rcases hin with rfl | rfl <;> simp at h128
        clear hC hd2 hd4 hlo hD
        have hd5 := hd1.2
        clear hd1
        go_wp2_with (go_at_call 51; refine (HC.out _).mono ?_; rintro e w0 ⟨rfl, hb0⟩; have HB0 := aside hb0; clear hb0)
        go_roundw
        case rel =>
          have hk := iterAt_heap wr _ s i (i + D.2) HI.out
          exact ⟨i + D.2, hd3, (HB0.out.block _ (Array.getElem?_eq_some_iff.1 hk).1).trans hk, below_tr (below_iterAt HB.out (Nat.le_refl _) s (i + D.2)) HB0.out, HN2.out⟩
        case measure =>
          have hk := iterAt_heap wr _ s i (i + D.2) HI.out
          have : w0.iterPos w.heap.size = i + D.2 := by simp [World.iterPos, (HB0.out.block _ (Array.getElem?_eq_some_iff.1 hk).1).trans hk]
          rw [this, hpos]; omega
    · have hnx := fun ty => run_next_end_at (P := Tryd.prog) wr w.heap.size s i ty hit hz
      clear hit
      go_wp2_with fail
      go_ret
      refine ⟨?_, HB.out⟩
      rw [Lib.indexAny_none (by rw [← Lib.size_eq]; have : i = s.size := by omega
                                exact this ▸ HN.out)]
      rfl

theorem set258 : (Tryd.prog.info? (lays153_ren.t 116)).map (fun i => (i.zero, i.size)) = some (some (.agg (Array.replicate 256 (.bool false))), 256) := by kernel_rfl
theorem ch_ascii : ∀ (j : Nat) b, ch.data.toList[j]? = some b → b.toNat < 128 := fun j b h => by
  match j, h with
  | 0, h => simp at h; subst h; decide
  | 1, h => simp at h; subst h; decide
  | (j + 2), h => simp at h
theorem idxAny_long (s : ByteArray) (w : World) (h8 : 8 < s.size) (hs : s.size < 4294967281) : Calls Tryd.prog 37 #[.string s, .string ch] w fun e w' => e = .returned (.int .i64 (Lib.indexAny s.data.toList [0, 47])) ∧ Below w.heap.size w w' := by
  obtain ⟨i, hi, e⟩ := Option.map_eq_some_iff.1 set258
  injection e with e1 e2
  have hz : ∀ w, (zeroValue (lays153_ren.t 116)).run Tryd.prog w = .ok (.agg (Array.replicate 256 (.bool false))) w := fun w => by
    simp only [zeroValue, typeInfo, Sem.run_bind, run_program, Result.andThen_ok, hi, Sem.run_pure, e1]
  refine (Any.strings_IndexAny_long (ρ := lays153_ren) lays153 hz (by rw [hi]; simp [e2]) s ch w (by decide) h8 hs (by decide) ch_ascii).mono ?_
  rintro e w' ⟨rfl, rfl⟩
  exact ⟨rfl, below_tr (below_al w _) (below_al _ _)⟩

theorem idxAny_any (s : ByteArray) (w : World) (hs : s.size < 4294967281) : Calls Tryd.prog 37 #[.string s, .string ch] w fun e w' => e = .returned (.int .i64 (Lib.indexAny s.data.toList [0, 47])) ∧ Below w.heap.size w w' := by
  by_cases h : 8 < s.size
  · exact idxAny_long s w h hs
  · exact idxAny_short s w (by omega)

set_option maxRecDepth 20000 in
theorem containsAny_any (s : ByteArray) (w : World) (hs : s.size < 4294967281) : Calls Tryd.prog 20 #[.string s, .string ch] w fun e w' => e = .returned (.bool (decide (0 ≤ Lib.indexAny s.data.toList [0, 47]))) ∧ Below w.heap.size w w' := by
  go_enter Tryd.func20, Tryd.ntmps20
  go_wp2_with fail
  refine (idxAny_any s w hs).mono ?_
  rintro e w' ⟨rfl, hb⟩
  go_wp2
  all_goals
    go_ret
    exact ⟨by simp, hb⟩

/-- Is it a name? -/
def nameOk (s : ByteArray) : Bool := !(s.toList == []) && decide (s.size ≤ 64) && !(s.toList == [46]) && !(s.toList == [46, 46]) && !decide (0 ≤ Lib.indexAny s.data.toList [0, 47])

theorem nameNo {s : ByteArray} (h : s.toList = [] ∨ 64 < s.size ∨ s.toList = [46] ∨ s.toList = [46, 46]) : nameOk s = false := by
  unfold nameOk
  rcases h with h | h | h | h
  · rw [h]; rfl
  · simp [show ¬ s.size ≤ 64 by omega]
  · rw [h]; simp
  · rw [h]; simp
theorem nameYes {s : ByteArray} (h1 : ¬ s.toList = []) (h2 : s.size ≤ 64) (h3 : ¬ s.toList = [46]) (h4 : ¬ s.toList = [46, 46]) : nameOk s = !decide (0 ≤ Lib.indexAny s.data.toList [0, 47]) := by
  unfold nameOk
  rw [beq_eq_false_iff_ne.2 h1, beq_eq_false_iff_ne.2 h3, beq_eq_false_iff_ne.2 h4, decide_eq_true h2]
  simp

set_option maxRecDepth 20000 in
set_option maxHeartbeats 1000000 in
theorem isName_any (s : ByteArray) (w : World) : Calls Tryd.prog 43 #[.string s] w fun e w' => e = .returned (.bool (nameOk s)) ∧ Below w.heap.size w w' := by
  go_enter Tryd.func43, Tryd.ntmps43
  go_wp2_with fail
  · next h => go_ret; exact ⟨by rw [nameNo (.inl h)]; rfl, Below.refl _ _⟩
  · next h => go_ret; exact ⟨by rw [nameNo (.inr (.inr (.inl h)))]; rfl, Below.refl _ _⟩
  · next h1 h2 h3 h =>
    go_ret
    refine ⟨?_, Below.refl _ _⟩
    rcases h with ((h | h) | h) | h
    · exact absurd (List.isEmpty_iff.1 h) h1
    · omega
    · exact absurd (beq_iff_eq.1 h) h3
    · rw [nameNo (.inr (.inr (.inr (beq_iff_eq.1 h))))]; rfl
  · next h1 h2 h3 h _ _ _ _ =>
    have h4 := beq_eq_false_iff_ne.1 h.2
    refine (containsAny_any s w (by omega)).mono ?_
    rintro e w' ⟨rfl, hb⟩
    go_wp2
    go_ret
    exact ⟨by rw [nameYes h1 (by omega) h3 h4]; rfl, hb⟩
  · next h => go_ret; exact ⟨by rw [nameNo (.inr (.inl (by omega)))]; rfl, Below.refl _ _⟩
end Go.Proofs.YtknjclekfmmfeaaDoor
