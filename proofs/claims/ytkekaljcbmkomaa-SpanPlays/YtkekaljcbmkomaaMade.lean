/- made: bytes out of moves. -/
import Derived.Test.YtkekaljcbmkomaaMoves
namespace Go.Proofs.Ytkekaljcbmkomaa
open Go.RowKit
attribute [local simp] lcells_nil readB_length bcells_length

def StepR (m : Mv) (sz : Nat) (L : List Piece) (sz' : Nat) (L' : List Piece) : Prop :=
  if m.d = 0 then ∃ r, PutR sz L m.t m.bs r sz' L' else if m.d = 1 then ∃ r, CutR sz L m.t r sz' L' else if m.d = 2 then ∃ r, PunchR sz L m.t m.n r sz' L' else sz' = sz ∧ L' = L
def MadeR : List Mv → Nat → List Piece → Nat → List Piece → Prop
  | [], sz, L, s, M => s = sz ∧ M = L
  | m :: ms, sz, L, s, M => ∃ s1 L1, StepR m sz L s1 L1 ∧ MadeR ms s1 L1 s M
theorem MadeR.snoc {m : Mv} : ∀ {ms : List Mv} {sz : Nat} {L : List Piece} {s1 : Nat} {L1 : List Piece} {s2 : Nat} {L2 : List Piece}, MadeR ms sz L s1 L1 → StepR m s1 L1 s2 L2 → MadeR (ms ++ [m]) sz L s2 L2 := by
  intro ms
  induction ms with
  | nil => rintro sz L s1 L1 s2 L2 ⟨rfl, rfl⟩ h; exact ⟨s2, L2, h, rfl, rfl⟩
  | cons a ms ih => rintro sz L s1 L1 s2 L2 ⟨s3, L3, h1, h2⟩ h; exact ⟨s3, L3, h1, ih h2 h⟩
theorem step_ct {m : Mv} {sz : Nat} {L M L' M' : List Piece} {s t : Nat} (e : ct L = ct M) (h : StepR m sz L s L') (k : StepR m sz M t M') : s = t ∧ ct L' = ct M' := by
  unfold StepR at h k
  split at h
  · rename_i hd
    rw [if_pos hd] at k
    obtain ⟨r, h⟩ := h
    obtain ⟨q, k⟩ := k
    exact (put_ct e h k).2
  · rename_i hd
    rw [if_neg hd] at k
    split at h
    · rename_i hd
      rw [if_pos hd] at k
      obtain ⟨r, h⟩ := h
      obtain ⟨q, k⟩ := k
      exact (cut_ct e h k).2
    · rename_i hd
      rw [if_neg hd] at k
      split at h
      · rename_i hd
        rw [if_pos hd] at k
        obtain ⟨r, h⟩ := h
        obtain ⟨q, k⟩ := k
        exact (punch_ct e h k).2
      · rename_i hd
        rw [if_neg hd] at k
        obtain ⟨rfl, rfl⟩ := h
        obtain ⟨rfl, rfl⟩ := k
        exact ⟨rfl, e⟩
theorem made_ct : ∀ {ms : List Mv} {sz : Nat} {L M L' M' : List Piece} {s t : Nat}, ct L = ct M → MadeR ms sz L s L' → MadeR ms sz M t M' → s = t ∧ ct L' = ct M' := by
  intro ms
  induction ms with
  | nil => rintro sz L M L' M' s t e ⟨rfl, rfl⟩ ⟨rfl, rfl⟩; exact ⟨rfl, e⟩
  | cons m ms ih =>
    rintro sz L M L' M' s t e ⟨s1, L1, h1, h2⟩ ⟨t1, M1, k1, k2⟩
    obtain ⟨rfl, e1⟩ := step_ct e h1 k1
    exact ih e1 h2 k2
theorem step_len {m : Mv} {sz : Nat} {L L' : List Piece} {s : Nat} (h : StepR m sz L s L') : L'.length ≤ L.length + 1 := by
  unfold StepR PutR CutR PunchR at h
  split at h
  · obtain ⟨r, h⟩ := h
    rcases h with ⟨-, -, -, rfl⟩ | ⟨-, -, -, -, rfl⟩ | ⟨-, -, -, -, -, rfl⟩ | ⟨-, -, -, -, -, -, h⟩
    · omega
    · omega
    · omega
    · exact h.cnt
  · split at h
    · obtain ⟨r, h⟩ := h
      rcases h with ⟨-, -, -, rfl⟩ | ⟨-, -, -, rfl⟩ | ⟨-, -, -, -, h⟩
      · omega
      · omega
      · exact h.cnt
    · split at h
      · obtain ⟨r, h⟩ := h
        rcases h with ⟨-, -, -, rfl⟩ | ⟨-, -, -, -, h⟩
        · omega
        · exact h.cnt
      · rw [h.2]; omega

/-- The content that New makes. -/
def ini (l : List UInt8) : List (Nat × List UInt8) := if l = [] then [] else [(0, l.take 4194304)]
theorem new_all (a : Option Addr) (l : List UInt8) (c : Nat) (w : World) (h : BsAt w a l) (hlc : l.length ≤ c) (hc : c ≤ 4611686018427387904) :
    Calls Try.prog 11 #[.slice a l.length c] w fun e w' => e = .returned (.pointer (some ⟨w.heap.size, 0, none⟩)) ∧ ∃ lv L, Rep w' w.heap.size (min l.length 4194304) lv L ∧ ct L = ini l ∧ L.length ≤ 1 ∧ Below w.heap.size w w' ∧ ∀ k, Foot w.heap.size lv L k → w.heap.size ≤ k := by
  by_cases hn : l = []
  · subst hn
    refine (newNone_any a c w hc).mono ?_
    rintro e w' ⟨rfl, lv, hR, hb, hf⟩
    exact ⟨rfl, lv, [], by simpa using hR, by simp [ini, ct], by simp, hb, hf⟩
  · obtain ⟨ad, rfl, hs⟩ := h hn
    refine (new_any ad l c w (List.length_pos_iff.2 hn) hlc hc hs).mono ?_
    rintro e w' ⟨rfl, lv, g, cap, hR, hb, hf⟩
    refine ⟨rfl, lv, _, ?_, by simp [ini, ct, hn], by simp, hb, hf⟩
    rw [List.length_take, Nat.min_comm] at hR
    exact hR

/-- What stands behind some moves of made. -/
structure Mid (w wr : World) (sz0 : Nat) (L0 : List Piece) (ms : List Mv) (sz : Nat) (lv : Value) (L : List Piece) : Prop where
  rep : Rep wr w.heap.size sz lv L
  made : MadeR ms sz0 L0 sz L
  below : Below w.heap.size w wr
  foot : ∀ k, Foot w.heap.size lv L k → w.heap.size ≤ k
  cnt : L.length ≤ ms.length + 1
theorem Mid.step {w wr w' : World} {sz0 : Nat} {L0 : List Piece} {ms : List Mv} {m : Mv} {k : Nat} {sz : Nat} {lv : Value} {L : List Piece} (h : Mid w wr sz0 L0 (ms.take k) sz lv L) (hk : ms[k]? = some m) {sz' : Nat} {lv' : Value} {L' : List Piece} (hS : StepR m sz L sz' L') (hR : Rep w' w.heap.size sz' lv' L')
    (hG : Grew w.heap.size lv L wr lv' L') (hu : Upd (Foot w.heap.size lv L) wr w') : Mid w w' sz0 L0 (ms.take (k + 1)) sz' lv' L' := by
  have hlt := (List.getElem?_eq_some_iff.1 hk).1
  have e : ms.take (k + 1) = ms.take k ++ [m] := by rw [List.take_add_one, hk]; rfl
  refine ⟨hR, ?_, h.below.trans (hu.below h.below.size h.foot), fun j hj => ?_, ?_⟩
  · rw [e]; exact h.made.snoc hS
  · rcases hG j hj with h1 | h1
    · exact h.foot j h1
    · exact Nat.le_trans h.below.size h1
  · rw [e, List.length_append]
    have := step_len hS
    have := h.cnt
    simp only [List.length_singleton]; omega

set_option maxHeartbeats 4000000 in
theorem made_any (a0 : Option Addr) (l0 : List UInt8) (c0 : Nat) (am : Option Addr) (cm : Nat) (ms : List Mv) (w : World) (h0 : BsAt w a0 l0) (hlc : l0.length ≤ c0) (hc : c0 ≤ 4611686018427387904) (hm : Mvs w am ms) :
    Calls Try.prog 24 #[.slice a0 l0.length c0, .slice am ms.length cm] w fun e w' => e = .returned (.pointer (some ⟨w.heap.size, 0, none⟩)) ∧ ∃ sz lv L L0, ct L0 = ini l0 ∧ Mid w w' (min l0.length 4194304) L0 ms sz lv L := by
  have HM := aside hm
  have hcnt := hm.cnt
  have HN := aside (new_all a0 l0 c0 w h0 hlc hc)
  clear hm h0
  go_enter Try.func24, Try.ntmps24
  go_wp2_with fail
  refine HN.out.mono ?_
  rintro e w1 ⟨rfl, lv0, L0, hR0, hI0, hL0, hb0, hf0⟩
  have H0 : Aside (Mid w w1 (min l0.length 4194304) L0 (ms.take 0) (min l0.length 4194304) lv0 L0) := ⟨hR0, ⟨rfl, rfl⟩, hb0, hf0, by simpa using hL0⟩
  have HI := aside hI0
  clear HN hR0 hb0 hf0 hI0
  generalize hsz0 : min l0.length 4194304 = sz0 at *
  have HSZ := aside hsz0
  clear hsz0
  go_wp2
  go_loopw [6] (fun s6 wr => ∃ (k sz : Nat) (lv : Value) (L : List Piece), k ≤ ms.length ∧ s6 = .int .i64 k ∧ Aside (Mid w wr sz0 L0 (ms.take k) sz lv L)) (fun s6 _ => ms.length - (intOf s6).toNat)
  case atStart => exact ⟨0, _, _, _, Nat.zero_le _, rfl, H0⟩
  case round =>
    obtain ⟨k, sz, lv, L, hk, rfl, hMid⟩ := hrel
    by_cases h1 : k < ms.length
    · have hkm : ms[k]? = some ms[k] := List.getElem?_eq_getElem h1
      have hMM := aside (HM.out.below hMid.out.below)
      have hbs := aside (hMM.out.bs ms[k] (List.getElem_mem h1))
      have hle := HM.out.le ms[k] (List.getElem_mem h1)
      obtain ⟨blk, off, rfl, hrw⟩ := HM.out.rd (by intro h; simp [h] at h1)
      have hblk : blk < w.heap.size := World.block_lt_of_cell? w _ (hrw k _ hkm).1
      obtain ⟨r0, r1, r2, r3⟩ := (hrw.below hMid.out.below) k _ hkm
      have HKM := aside hkm
      clear hrw hkm hMM
      generalize ms[k] = m at *
      have t1 : (k : Int) < (ms.length : Int) := by omega
      have HB := aside hblk
      clear hblk
      have KP : Aside (∀ w', Below w.heap.size w w' → w'.cell? ⟨blk, off + k * 4 + 1, none⟩ = some (.int .i64 m.t) ∧ w'.cell? ⟨blk, off + k * 4 + 2, none⟩ = some (.int .i64 m.n) ∧ w'.cell? ⟨blk, off + k * 4 + 3, none⟩ = some (.slice m.a m.bs.length m.c)) := fun w' hb =>
        ⟨((hb.cell (p := ⟨blk, off + k * 4 + 1, none⟩) HB.out).trans (hMid.out.below.cell (p := ⟨blk, off + k * 4 + 1, none⟩) HB.out).symm).trans r1, ((hb.cell (p := ⟨blk, off + k * 4 + 2, none⟩) HB.out).trans (hMid.out.below.cell (p := ⟨blk, off + k * 4 + 2, none⟩) HB.out).symm).trans r2, ((hb.cell (p := ⟨blk, off + k * 4 + 3, none⟩) HB.out).trans (hMid.out.below.cell (p := ⟨blk, off + k * 4 + 3, none⟩) HB.out).symm).trans r3⟩
      have fin : ∀ (W w' : World) (sz' : Nat) (lv' : Value) (L' : List Piece), Below wr.heap.size wr W → StepR m sz L sz' L' → Rep w' w.heap.size sz' lv' L' → Grew w.heap.size lv L W lv' L' → Upd (Foot w.heap.size lv L) W w' → Mid w w' sz0 L0 (ms.take (k + 1)) sz' lv' L' := fun W w' sz' lv' L' hW hS hR hG hu =>
        hMid.out.step HKM.out hS hR (hG.mono hW.size) ((Upd.of_below hW).trans hu (fun _ _ h => h))
      have PU : Aside (m.d = 0 → ∀ W, Below wr.heap.size wr W → Calls Try.prog 19 #[.pointer (some ⟨w.heap.size, 0, none⟩), .int .i64 m.t, .slice m.a m.bs.length m.c] W fun e w' => ∃ r, e = .returned (.int .i64 r) ∧ (w'.cell? ⟨blk, off + k * 4 + 1, none⟩ = some (.int .i64 m.t) ∧ w'.cell? ⟨blk, off + k * 4 + 3, none⟩ = some (.slice m.a m.bs.length m.c)) ∧ Aside (∃ sz' lv' L', Mid w w' sz0 L0 (ms.take (k + 1)) sz' lv' L')) := fun hd W hW =>
        (put_all w.heap.size sz lv L m.t m.a m.bs m.c W (hMid.out.rep.below hW) (hbs.out.below hW) hle.1 hle.2).mono (by
          rintro e w' ⟨r, sz', lv', L', rfl, hP, hR, hG, hu⟩
          have hM := fin W w' sz' lv' L' hW (by rw [StepR, if_pos hd]; exact ⟨r, hP⟩) hR hG hu
          have := KP.out w' hM.below
          exact ⟨r, rfl, ⟨this.1, this.2.2⟩, sz', lv', L', hM⟩)
      have CU : Aside (m.d = 1 → Calls Try.prog 22 #[.pointer (some ⟨w.heap.size, 0, none⟩), .int .i64 m.t] wr fun e w' => ∃ r, e = .returned (.int .i64 r) ∧ Aside (∃ sz' lv' L', Mid w w' sz0 L0 (ms.take (k + 1)) sz' lv' L')) := fun hd =>
        (cut_all w.heap.size sz lv L m.t wr hMid.out.rep).mono (by
          rintro e w' ⟨r, sz', lv', L', rfl, hP, hR, hG, hu⟩
          exact ⟨r, rfl, sz', lv', L', fin wr w' sz' lv' L' (Below.refl _ _) (by rw [StepR, if_neg (by omega), if_pos hd]; exact ⟨r, hP⟩) hR hG hu⟩)
      have PN : Aside (m.d = 2 → ∀ W, Below wr.heap.size wr W → Calls Try.prog 20 #[.pointer (some ⟨w.heap.size, 0, none⟩), .int .i64 m.t, .int .i64 m.n] W fun e w' => ∃ r, e = .returned (.int .i64 r) ∧ (w'.cell? ⟨blk, off + k * 4 + 1, none⟩ = some (.int .i64 m.t) ∧ w'.cell? ⟨blk, off + k * 4 + 2, none⟩ = some (.int .i64 m.n)) ∧ Aside (∃ sz' lv' L', Mid w w' sz0 L0 (ms.take (k + 1)) sz' lv' L')) := fun hd W hW =>
        (punch_all w.heap.size sz lv L m.t m.n W (hMid.out.rep.below hW)).mono (by
          rintro e w' ⟨r, sz', lv', L', rfl, hP, hR, hG, hu⟩
          have hM := fin W w' sz' lv' L' hW (by rw [StepR, if_neg (by omega), if_neg (by omega), if_pos hd]; exact ⟨r, hP⟩) hR hG hu
          have := KP.out w' hM.below
          exact ⟨r, rfl, ⟨this.1, this.2.1⟩, sz', lv', L', hM⟩)
      have NO : Aside (m.d ≠ 0 → m.d ≠ 1 → m.d ≠ 2 → ∃ sz' lv' L', Mid w wr sz0 L0 (ms.take (k + 1)) sz' lv' L') := fun h0 h1 h2 =>
        ⟨sz, lv, L, fin wr wr sz lv L (Below.refl _ _) (by rw [StepR, if_neg h0, if_neg h1, if_neg h2]; exact ⟨rfl, rfl⟩) hMid.out.rep (fun j hj => .inl hj) (Upd.refl _ _)⟩
      clear fin
      by_cases d0 : m.d = 0
      · have P := aside (PU.out d0)
        rw [d0] at r0
        clear d0 PU CU PN NO
        go_wp2
        go_region_held3 (fun w' => w'.cell? ⟨blk, off + k * 4 + 1, none⟩ = some (.int .i64 m.t) ∧ w'.cell? ⟨blk, off + k * 4 + 3, none⟩ = some (.slice m.a m.bs.length m.c)) (go_keep) ((go_at_call 19; refine (P.out wr.drew (below_dr wr)).mono ?_; rintro e w' ⟨r, rfl, ⟨hc1, hc3⟩, hfin⟩))
        go_wp2
        go_roundw
        case rel =>
          obtain ⟨sz', lv', L', h⟩ := hfin.out
          exact ⟨k + 1, sz', lv', L', by omega, by go_num, h⟩
        case measure => simp [intOf]; omega
      · by_cases d1 : m.d = 1
        · have P := aside (CU.out d1)
          rw [d1] at r0
          clear d0 d1 PU CU PN NO
          go_wp2_with fail
          refine P.out.mono ?_
          rintro e w' ⟨r, rfl, hfin⟩
          go_wp2
          go_roundw
          case rel =>
            obtain ⟨sz', lv', L', h⟩ := hfin.out
            exact ⟨k + 1, sz', lv', L', by omega, by go_num, h⟩
          case measure => simp [intOf]; omega
        · by_cases d2 : m.d = 2
          · have P := aside (PN.out d2)
            rw [d2] at r0
            clear d0 d1 d2 PU CU PN NO
            go_wp2
            go_region_held3 (fun w' => w'.cell? ⟨blk, off + k * 4 + 1, none⟩ = some (.int .i64 m.t) ∧ w'.cell? ⟨blk, off + k * 4 + 2, none⟩ = some (.int .i64 m.n)) (go_keep) ((go_at_call 20; refine (P.out wr.drew (below_dr wr)).mono ?_; rintro e w' ⟨r, rfl, ⟨hc1, hc3⟩, hfin⟩))
            go_wp2
            go_roundw
            case rel =>
              obtain ⟨sz', lv', L', h⟩ := hfin.out
              exact ⟨k + 1, sz', lv', L', by omega, by go_num, h⟩
            case measure => simp [intOf]; omega
          · have P := aside (NO.out d0 d1 d2)
            have e0 : (m.d == 0) = false := by simpa using d0
            have e1 : (m.d == 1) = false := by simpa using d1
            have e2 : (m.d == 2) = false := by simpa using d2
            clear d0 d1 d2 PU CU PN NO
            go_wp2
            go_roundw
            case rel =>
              obtain ⟨sz', lv', L', h⟩ := P.out
              exact ⟨k + 1, sz', lv', L', by omega, by go_num, h⟩
            case measure => simp [intOf]; omega
    · obtain rfl : k = ms.length := by omega
      rw [List.take_length] at hMid
      go_wp2
      go_ret
      exact ⟨rfl, sz, lv, L, L0, HI.out, by rw [HSZ.out]; exact hMid.out⟩
end Go.Proofs.Ytkekaljcbmkomaa
