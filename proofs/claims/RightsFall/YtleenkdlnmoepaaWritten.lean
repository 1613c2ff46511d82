/- How many bytes are written between two places: (*Bytes).written. -/
import Derived.Test.YtleenkdlnmoepaaPlain
namespace Go.Proofs.Ytleenkdlnmoepaa
open Go.RowKit
theorem view_below {w w' : World} {kb : Option Nat} {rv : Value} {M : List Piece} (h : View w kb rv M) (hb : Below w.heap.size w w') : View w' kb rv M := by
  obtain ⟨a, cap, rfl, h⟩ := h
  refine ⟨a, cap, rfl, fun t ht => ?_⟩
  obtain ⟨g, o, rfl, hk, h0, h1⟩ := h t ht
  exact ⟨g, o, rfl, hk, (hb.cell (World.block_lt_of_cell? w _ h0)).trans h0, (hb.cell (World.block_lt_of_cell? w _ h1)).trans h1⟩

theorem ovls_take_succ (x y : Nat) (M : List Piece) (k : Nat) (hk : k < M.length) : ovls x y (M.take (k + 1)) = ovls x y (M.take k) + ovl x y M[k] := by
  rw [List.take_succ_eq_append_getElem hk, ovls_append, ovls_cons]; simp [ovls]

set_option maxHeartbeats 1000000 in
theorem written_any (b : Nat) (lv : Value) (sz : Nat) (L : List Piece) (x y : Nat) (w : World) (hI : Inv sz L) (hxy : x ≤ y) (hy : y ≤ 1073741824)
    (hl : w.cell? ⟨b, 2, none⟩ = some lv) (hrow : w.ownsRow 0 179 2 lv L.length (lcells L)) :
    Calls Try.prog 41 #[.pointer (some ⟨b, 0, none⟩), .int .i64 x, .int .i64 y] w fun e w' => e = .returned (.int .i64 (ovls x y L)) ∧ Below w.heap.size w w' := by
  have hlen := hI.len
  have W1 := aside (within_any b lv L x y w hl hrow (by omega) hI.bd hI.so (hI.ij hxy))
  have HI := aside hI
  have HM := aside (ovls_mid hI hxy)
  have HMM : Aside (∀ d, d ∈ mid x y L → d ∈ L ∧ x < d.fin ∧ d.org < y) := fun d hd => mid_mem hI hd
  have HH := aside (hI.held)
  clear hrow hI
  go_enter Try.func41, Try.ntmps41
  go_wp2_with fail
  refine W1.out.mono ?_
  rintro e w1 ⟨⟨rv, rfl, hvw⟩, hb1⟩
  change View w lv.ownBlock rv (mid x y L) at hvw
  generalize hMid : mid x y L = M at *
  have HV := aside hvw
  obtain ⟨va, vcap, rfl, hvc⟩ := hvw
  have hml : M.length ≤ 4194304 := by
    have := length_le_held (L := M) (fun d hd => HI.out.ne d (HMM.out d hd).1)
    have h2 : heldOf M ≤ heldOf L := by
      obtain ⟨A, B, e, -⟩ := mid_split HI.out hxy
      rw [hMid] at e
      rw [e, heldOf_append, heldOf_append]; omega
    have := HH.out
    omega
  have HMh : heldOf M ≤ 4194304 := by
    have h2 : heldOf M ≤ heldOf L := by
      obtain ⟨A, B, e, -⟩ := mid_split HI.out hxy
      rw [hMid] at e
      rw [e, heldOf_append, heldOf_append]; omega
    have := HH.out
    omega
  clear hvc hMid
  go_wp2
  go_loopw [7, 15] (fun s i wr => ∃ k : Nat, k ≤ M.length ∧ i = .int .i64 k ∧ s = .int .i64 (ovls x y (M.take k)) ∧ Aside (Below w1.heap.size w1 wr)) (fun _ i _ => M.length - (intOf i).toNat)
  case atStart => exact ⟨0, Nat.zero_le _, rfl, rfl, Below.refl _ _⟩
  case round =>
    obtain ⟨k, hk, rfl, rfl, hbr⟩ := hrel
    by_cases hlt : k < M.length
    · obtain ⟨a, cap, he, hvw⟩ := view_below HV.out (below_tr hb1 hbr.out)
      obtain ⟨g, o, ha, -, h0, h1⟩ := hvw k hlt
      simp only [Value.slice.injEq, true_and] at he
      obtain ⟨rfl, rfl⟩ := he
      subst ha
      clear hvw
      unfold Piece.dv at h1
      have hltz : (k : Int) < (M.length : Int) := by omega
      have hmm := HMM.out M[k] (List.getElem_mem hlt)
      have hs1 := aside (ovls_take_succ x y M k hlt)
      have hs2 : ovls x y (M.take k) ≤ 4194304 := by
        have h1 := ovls_le x y (M.take k)
        have h2 : heldOf (M.take k) ≤ heldOf M := by
          have : heldOf M = heldOf (M.take k ++ M.drop k) := by rw [List.take_append_drop]
          rw [this, heldOf_append]; omega
        have h3 : heldOf M ≤ 4194304 := HMh
        omega
      have hbd := HI.out.bd M[k] hmm.1
      have hfi := HI.out.fin M[k] hmm.1
      have hsz := HI.out.size
      obtain ⟨-, hm1, hm2⟩ := hmm
      unfold ovl at hs1
      unfold Piece.fin at hs1 hm1 hfi
      generalize M[k].org = f at *
      generalize M[k].bs.length = n at *
      generalize M[k].blk = gb at *
      generalize M[k].cap = gc at *
      generalize ovls x y (M.take k) = S at *
      have hA := aside (below_al wr (Obj.cells #[Value.int IntKind.i64 f, Value.slice (some ⟨gb, 0, none⟩) n gc] 179))
      have hr0 : ∀ d os, (ext (wr.alloc (Obj.cells #[Value.int IntKind.i64 f, Value.slice (some ⟨gb, 0, none⟩) n gc] 179)) d os).cell? ⟨wr.heap.size, 0, none⟩ = some (.int .i64 f) := fun d os => ext_cell (by go_simp) d os
      have hr1 : ∀ d os, (ext (wr.alloc (Obj.cells #[Value.int IntKind.i64 f, Value.slice (some ⟨gb, 0, none⟩) n gc] 179)) d os).cell? ⟨wr.heap.size, 1, none⟩ = some (.slice (some ⟨gb, 0, none⟩) n gc) := fun d os => ext_cell (by go_simp) d os
      go_wp2
      refine region_ext (by kernel_rfl) (by kernel_rfl) ?_
      repeat (any_goals (first | go_big_quiet_step ((go_at_call 46; exact calls_ext (to_any _ _ _ _ _ (by omega) (by omega) (by omega)))) | quiet_step ((go_at_call 46; exact calls_ext (to_any _ _ _ _ _ (by omega) (by omega) (by omega))))))
      refine wpQuiet_nil ?_
      intro wq hq
      go_wp2
      go_roundw
      case rel =>
        exact ⟨k + 1, by omega, by go_num, congrArg (Value.int .i64) (by rw [hs1.out]; split <;> split <;> omega), below_tr hbr.out (below_tr hA.out hq)⟩
      case measure => simp [intOf]; omega
    · obtain rfl : k = M.length := by omega
      go_wp2
      go_ret
      rw [List.take_length]
      exact ⟨by rw [← HM.out]; rfl, below_tr hb1 hbr.out⟩
end Go.Proofs.Ytleenkdlnmoepaa
