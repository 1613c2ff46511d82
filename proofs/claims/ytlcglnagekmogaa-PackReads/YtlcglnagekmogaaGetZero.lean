/- Get of no bytes at a place inside. -/
import Derived.Test.YtlcglnagekmogaaGet
namespace Go.Proofs.Ytlcglnagekmogaa
open Go.RowKit
attribute [local simp] lcells_nil readB_length bcells_length

theorem copy_none (W : World) (ty : TypeId) (c1 c2 g : Nat) (d : Piece) (lo2 : Nat) (hout : W.heap[g]? = some (.cells #[] 5 (0, 0))) :
    (Builtin.copy_ #[22, 22] ty #[.slice (some ⟨g, 0, none⟩) 0 c1, .slice (some ⟨d.blk, lo2, none⟩) (d.bs.length - lo2) c2]).run Try.prog W = .ok (goInt 0) (W.setRow g #[]) := by
  have := run_copy_bytes W ty (some ⟨g, 0, none⟩) (some ⟨d.blk, lo2, none⟩) 0 c1 (d.bs.length - lo2) c2 g 0 [] hout [] (by simp) (fun h => by simp at h) (by simp) (by simp)
  simpa [splice] using this

set_option maxHeartbeats 1000000 in
theorem get_zero (b : Nat) (lv : Value) (sz : Nat) (L : List Piece) (x : Nat) (w : World) (hI : Inv sz L) (hx : x < sz)
    (hs : w.cell? ⟨b, 0, none⟩ = some (.int .i64 sz)) (hl : w.cell? ⟨b, 2, none⟩ = some lv) (hrow : w.ownsRow 0 180 2 lv L.length (lcells L))
    (hdat : ∀ d, d ∈ L → w.ownsRow 0 5 1 d.dv d.bs.length (bcells d.bs)) :
    Calls Try.prog 122 #[.pointer (some ⟨b, 0, none⟩), .int .i64 x, .int .i64 0] w fun e w' => e = .returned (.slice (some ⟨w.heap.size, 0, none⟩) 0 0) ∧
      w'.heap[w.heap.size]? = some (.cells #[] 5 (0, 0)) ∧ Below w.heap.size w w' := by
  have hsz := hI.size
  have hxz : (x : Int) < (sz : Int) := by omega
  have g1 : decide ((x : Int) < 0) = false := by simp
  have g3 : decide (sz ≤ x) = false := by simp; omega
  have hmk := fun w => make_bytes w 0 (by omega)
  simp only [List.replicate_zero, bcells, List.map_nil, Int.natCast_zero] at hmk
  have hmk : ∀ w : World, (Instr.makeSlice 22 (.int .i64 0) (.int .i64 0)).run Try.prog w = .ok (.slice (some ⟨w.heap.size, 0, none⟩) 0 0) (w.alloc (.cells #[] 5)) := hmk
  have hmin : (if (sz : Int) - x < (if (65536 : Int) < 0 then 65536 else (0 : Int)) then (sz : Int) - x else (if (65536 : Int) < 0 then 65536 else (0 : Int))) = 0 := by split <;> omega
  have HMIN := aside hmin
  clear hmin
  have hA := below_al w (.cells #[] 5)
  have hbl : b < w.heap.size := World.block_lt_of_cell? w _ hl
  have hlen := hI.len
  have W1 := aside (within_any b lv L x ((x : Nat) : Int) (w.alloc (.cells #[] 5)) ((hA.cell hbl).trans hl) (row_below hrow hA) (by omega) hI.bd hI.so (hI.ij (x := x) (y := x) (by omega)))
  have HA := aside hA
  have HI := aside hI
  have HD := aside hdat
  have hlb : ∀ g, lv.ownBlock = some g → g < w.heap.size := fun g hg => (hrow.lt g hg).2
  have HLB := aside hlb
  have HMM : Aside (∀ d, d ∈ mid x x L → d ∈ L ∧ x < d.fin ∧ d.org < x) := fun d hd => mid_mem hI hd
  clear hrow hI hA hdat hlb
  go_enter Try.func122, Try.ntmps122
  go_wp2_with ((with_reducible refine wpList_min3 _ rfl _ _ _ _ rfl (0 : Int) 65536 ((sz : Int) - x) (0 : Int) ?_ ?_ ?_ HMIN.out ?_); rfl; rfl; rfl)
  refine W1.out.mono ?_
  rintro e w1 ⟨⟨rv, rfl, hvw⟩, hb1⟩
  change View _ lv.ownBlock rv (mid x x L) at hvw
  have HV := aside hvw
  obtain ⟨va, vcap, rfl, hvc⟩ := hvw
  generalize hMid : mid x x L = M at *
  have hml : M.length ≤ 4194304 := by
    obtain ⟨A, B, e, -⟩ := mid_split HI.out (x := x) (y := x) (by omega)
    rw [hMid] at e
    have := congrArg List.length e
    simp at this; omega
  clear hvc
  go_wp2
  go_loopw [46] (fun i wr => ∃ k : Nat, k ≤ M.length ∧ i = .int .i64 k ∧ wr.heap[w.heap.size]? = some (.cells #[] 5 (0, 0)) ∧ Aside (Below w.heap.size w wr)) (fun i _ => M.length - (intOf i).toNat)
  case atStart =>
    refine ⟨0, Nat.zero_le _, rfl, ?_, HA.out.trans (hb1.mono (by simp))⟩
    rw [hb1.block w.heap.size (by simp)]
    exact heap_alloc_new w _
  case round =>
    obtain ⟨k, hk, rfl, hout, hbr⟩ := hrel
    by_cases hlt : k < M.length
    · obtain ⟨a, cap, he, hvw⟩ := view_same (w' := wr) HV.out HLB.out (fun g hg => (hbr.out.block g hg).trans (HA.out.block g hg).symm)
      obtain ⟨g, o, ha, -, h0, h1⟩ := hvw k hlt
      simp only [Value.slice.injEq, true_and] at he
      obtain ⟨rfl, rfl⟩ := he
      subst ha
      clear hvw
      unfold Piece.dv at h1
      have hltz : (k : Int) < (M.length : Int) := by omega
      have hmm := HMM.out M[k] (List.getElem_mem hlt)
      have hfi := HI.out.fin M[k] hmm.1
      have hne := HI.out.ne M[k] hmm.1
      have hdk := aside (row_below (HD.out M[k] hmm.1) hbr.out)
      obtain ⟨-, hm1, hm2⟩ := hmm
      unfold Piece.fin at hm1 hfi
      unfold Piece.dv at hdk
      have hmx : max (x : Int) (M[k].org : Int) = (x : Int) := by omega
      have HMX := aside hmx
      have hlo2 : (x : Int) - (M[k].org : Int) = ((x - M[k].org : Nat) : Int) := by omega
      have hc2 : x - M[k].org < M[k].bs.length := by omega
      obtain ⟨_, cp, hcp, hcpl, -⟩ := row_form hdk.out
      simp only [Value.slice.injEq, true_and] at hcp
      have hc3 : M[k].bs.length ≤ M[k].cap := by omega
      clear hcp hcpl hmx
      generalize hlo2_ : x - M[k].org = lo2 at *
      have HL2 := aside hlo2_
      clear hlo2_
      go_wp2_with ((with_reducible refine wpList_max2 _ rfl _ _ _ rfl (x : Int) (M[k].org : Int) (x : Int) ?_ ?_ HMX.out ?_); rfl; rfl)
      have hw1 : IntKind.i64.wrap (0 : Int) = 0 := by rw [IntKind.wrap_i64]; omega
      have hw2 : IntKind.i64.wrap (lo2 : Int) = (lo2 : Int) := by rw [IntKind.wrap_i64]; omega
      have hxx : (x : Int) - (x : Int) = 0 := by omega
      have hc4 : ¬ (M[k].cap = lo2) := by omega
      have hc5 : lo2 ≤ M[k].bs.length := by omega
      have hbg : w.heap.size < wr.heap.size := (Array.getElem?_eq_some_iff.1 hout).1
      have hcp : ∀ ty W, Below wr.heap.size wr W → ∀ c1 c2, (Builtin.copy_ #[22, 22] ty #[.slice (some ⟨w.heap.size, 0, none⟩) 0 c1, .slice (some ⟨M[k].blk, lo2, none⟩) (M[k].bs.length - lo2) c2]).run Try.prog W = .ok (goInt 0) (W.setRow w.heap.size #[]) := by
        intro ty W hW c1 c2
        exact copy_none W ty c1 c2 w.heap.size M[k] lo2 ((hW.block _ hbg).trans hout)
      have HCP := aside hcp
      clear hcp
      have hB1 : Below wr.heap.size wr (wr.alloc (Obj.cells #[Value.int IntKind.i64 ↑M[k].org, Value.slice (some ⟨M[k].blk, 0, none⟩) M[k].bs.length M[k].cap] 180)).drew := (below_al _ _).drew
      have HB1 := aside hB1
      clear hB1
      go_region_law (refine step_copy_to rfl _ _ 22 22 rfl _ _ (by simp [Act.eval, Act.put]; rfl) (by simp [Act.eval, Act.put]; rfl) (HCP.out _ _ HB1.out _ _) ?_)
      all_goals
        go_wp2
        go_roundw
        case rel => exact ⟨k + 1, by omega, by go_num, setRow_heap _ _ _ _ _ _ ((HB1.out.block _ hbg).trans hout), below_setRow_new (hbr.out.trans (HB1.out.mono hbr.out.size)) (Nat.le_refl _) _⟩
        case measure => simp [intOf]; omega
    · obtain rfl : k = M.length := by omega
      go_wp2
      go_ret
      exact ⟨rfl, hout, hbr.out⟩
end Go.Proofs.Ytlcglnagekmogaa
