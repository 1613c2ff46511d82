/- sums.Table over a file of memory. -/
import Derived.Test.YtoagjgcpgpjjeaaRead
import Derived.Test.YtoagjgcpgpjjeaaFaceT
namespace Go.Proofs.Ytoagjgcpgpjjeaa
open Go.RowKit
attribute [local simp] lcells_nil readB_length bcells_length

/-- How a handle's file comes to the file of memory. -/
structure Way (w : World) (hb t fb m : Nat) : Prop where
  c5 : w.cell? ⟨hb, 5, none⟩ = some (.iface t (.pointer (some ⟨fb, 0, none⟩)))
  size : ∀ W, Below w.heap.size w W → (method 312 t (.pointer (some ⟨fb, 0, none⟩)) "Size").run Try.prog W = .ok (118, .pointer (some ⟨m, 0, none⟩)) W
  read : ∀ W, Below w.heap.size w W → (method 312 t (.pointer (some ⟨fb, 0, none⟩)) "ReadAt").run Try.prog W = .ok (117, .pointer (some ⟨m, 0, none⟩)) W
theorem Way.below {w w' : World} {hb t fb m : Nat} (h : Way w hb t fb m) (k : Below w.heap.size w w') : Way w' hb t fb m :=
  ⟨(k.cell (World.block_lt_of_cell? w _ h.c5)).trans h.c5, fun W hW => h.size W (k.trans (hW.mono k.size)), fun W hW => h.read W (k.trans (hW.mono k.size))⟩
theorem hmf (fn : Fn) (first cap : Array Value) (w : World) : (Instr.makeFunc fn first cap).run Try.prog w = .ok (.func fn first cap) w := rfl

/-- The table of the first k blocks. -/
def tabk (L : List Piece) (sz k : Nat) : List UInt8 := (List.range k).flatMap fun i => le8 (fnv0 (getL L sz (i * 64 : Nat) (64 : Nat)))
theorem tabk_succ (L : List Piece) (sz k : Nat) : tabk L sz (k + 1) = tabk L sz k ++ le8 (fnv0 (getL L sz (k * 64 : Nat) (64 : Nat))) := by
  unfold tabk; rw [List.range_succ, List.flatMap_append]; simp
theorem tabk_length (L : List Piece) (sz k : Nat) : (tabk L sz k).length = 8 * k := by
  induction k with
  | zero => rfl
  | succ k ih => rw [tabk_succ, List.length_append, ih, le8_length]; omega
/-- .. of all. -/
def tab (L : List Piece) (sz : Nat) : List UInt8 := tabk L sz ((sz + 63) / 64)

/-- The pieces that Table reads by. -/
abbrev Pcs (t fb n : Nat) : Array Value := #[.func (.method "ReadAt") #[.iface t (.pointer (some ⟨fb, 0, none⟩))] #[], .int .i64 n]

set_option maxRecDepth 20000 in
set_option maxHeartbeats 4000000 in
theorem table_any (hb t fb m b sz : Nat) (lv : Value) (L : List Piece) (w : World) (hY : Way w hb t fb m) (hF : Fil w m b) (hR : Rep w b sz lv L) (hsz : sz ≤ 4194304) :
    Calls Try.prog 11 #[.pointer (some ⟨hb, 0, none⟩)] w fun e w' => ∃ v, e = .returned (.tuple #[v, .int .i64 0]) ∧ w'.ownsRow 0 5 1 v (tab L sz).length (bcells (tab L sz)) ∧ Below w.heap.size w w' := by
  have hm1 := hY.size w (Below.refl _ _)
  have F1 := aside (file_any hb _ w hY.c5)
  have F2 := aside (fSize_any m b sz lv L w hF hR)
  have hk := hmf
  have HR := aside hR
  have HF := aside hF
  have HY := aside hY
  have h4 : ¬ ((4194304 : Int) < (sz : Int)) := by omega
  clear hY hF hR
  go_enter Try.func11, Try.ntmps11
  go_wp2_with fail
  refine F1.out.mono ?_
  rintro e w' ⟨rfl, rfl⟩
  go_wp2_with fail
  refine F2.out.mono ?_
  rintro e w' ⟨rfl, rfl⟩
  have HT := aside (heap_alloc_new w' (.cells #[.nilFunc, .int .i64 0] 70))
  go_wp2_with ((with_reducible refine wpList_store_row rfl 70 _ _ rfl w'.heap.size (Pcs t fb 64) ?_ ?_ 70 _ HT.out ?_ ?_ ?_ ?_); kernel_rfl; kernel_rfl; kernel_rfl; kernel_rfl; kernel_rfl)
  have HT1 : Aside (((w'.alloc (.cells #[.nilFunc, .int .i64 0] 70)).setRow w'.heap.size (Pcs t fb 64)).heap[w'.heap.size]? = some (.cells (Pcs t fb 64) 70 (0, 0))) := setRow_heap _ _ _ _ _ _ HT.out
  have HB1 : Aside (Below w'.heap.size w' ((w'.alloc (.cells #[.nilFunc, .int .i64 0] 70)).setRow w'.heap.size (Pcs t fb 64))) := below_setRow (below_al w' _) (Nat.le_refl _) _
  go_loopw [6, 8] (fun s6 s8 wr => ∃ (k : Nat) (v : Value), k ≤ (sz + 63) / 64 ∧ s6 = v ∧ s8 = .int .i64 k ∧ Aside (wr.ownsRow 0 5 1 v (8 * k) (bcells (tabk L sz k))) ∧ Aside (∀ j, v.ownBlock = some j → w'.heap.size < j) ∧ Aside (wr.heap[w'.heap.size]? = some (.cells (Pcs t fb 64) 70 (0, 0))) ∧ Aside (Below w'.heap.size w' wr)) (fun _ s8 _ => (sz + 63) / 64 - (intOf s8).toNat)
  case atStart => exact ⟨0, _, Nat.zero_le _, rfl, rfl, aside ⟨rfl, .inl ⟨rfl, rfl⟩⟩, aside (fun j hj => by simp [Value.ownBlock] at hj), HT1, HB1⟩
  case round =>
    obtain ⟨k, v, hk, hv6, rfl, hO, hV, hP, hB⟩ := hrel
    subst hv6
    have c0 : wr.cell? ⟨w'.heap.size, 0, none⟩ = some (.func (.method "ReadAt") #[.iface t (.pointer (some ⟨fb, 0, none⟩))] #[]) := by rw [cell_of_row wr w'.heap.size 0 _ _ _ hP.out]; rfl
    have c1 : wr.cell? ⟨w'.heap.size, 1, none⟩ = some (.int .i64 64) := by rw [cell_of_row wr w'.heap.size 1 _ _ _ hP.out]; rfl
    by_cases h1 : k * 64 < sz
    · have t1 : (k : Int) * 64 < (sz : Int) := by omega
      have G1 := aside (read_any t fb m b sz 64 lv L k wr (fun W hW => HY.out.read W (hB.out.trans (hW.mono hB.out.size))) (HF.out.below hB.out) (HR.out.below hB.out) (by decide) (by decide) (by omega))
      clear F1 F2 HT HT1 HB1 hm1
      go_wp2_with fail
      refine G1.out.mono ?_
      rintro e w1 ⟨a, c, rfl, hT, hb1⟩
      have HG := aside (tabk_succ L sz k)
      have hgl := getL_le L sz (k * 64) 64
      generalize getL L sz ((k * 64 : Nat) : Int) ((64 : Nat) : Int) = g at *
      have F3 := aside (sum_any a g c w1 hT.bs (by omega))
      have F4 := aside (entry_any (fnv0 g) w1)
      have HB1 := aside hb1
      clear hT hb1 G1 c0 c1
      go_wp2_with fail
      refine F3.out.mono ?_
      rintro e w2 ⟨rfl, rfl⟩
      go_wp2_with fail
      refine F4.out.mono ?_
      rintro e w3 ⟨rfl, hrow3, hb3⟩
      have HB3 := aside (below_tr HB1.out hb3)
      have hs1 := HB1.out.size
      have HO3 := aside (row_below hO.out HB3.out)
      have HS := aside (cells_lit hrow3)
      have h63 : 8 * k + 8 ≤ maxLen := by unfold maxLen; omega
      have hby : (8 * k + 8) * 1 ≤ 140737488355328 := by omega
      have H63 := aside h63
      have HLL := aside (show (bcells (le8 (fnv0 g))).length = 8 * 1 by rw [bcells_length, le8_length])
      clear hrow3 hb3 h63 F3 F4
      go_wp2_with (at_builtin; refine wpList_append_where _ rfl _ _ 22 rfl 5 (.int .u8 0) 1 1 Try.underlying22 info5 rfl (by decide) u6 (8 * k) (bcells (tabk L sz k)) rfl HO3.out _ 8 _ (bcells (le8 (fnv0 g))) rfl HLL.out HS.out (bcells_one _) H63.out hby (by decide) ?_; intro v' w4 ho hg hwh)
      have HB4 : Below w'.heap.size w' w4 := (hB.out.trans (HB3.out.mono hB.out.size)).grown hg (Nat.le_trans hB.out.size HB3.out.size) (fun j hj => Nat.le_of_lt (hV.out j hj))
      have hrowb : bcells (tabk L sz k) ++ bcells (le8 (fnv0 g)) = bcells (tabk L sz (k + 1)) := by rw [HG.out]; simp [bcells]
      rw [hrowb] at ho
      go_roundw
      case rel =>
        refine ⟨k + 1, v', by omega, rfl, by go_num, aside ho, aside (fun j hj => ?_), aside ?_, aside HB4⟩
        · rcases hwh with ⟨e1, -⟩ | ⟨e1, -⟩
          · rw [e1] at hj; exact hV.out j hj
          · rw [e1] at hj
            have := HB3.out.size
            have := (Array.getElem?_eq_some_iff.1 hP.out).1
            simp only [Option.some.injEq] at hj
            omega
        · have h5 := (HB3.out.block _ (Array.getElem?_eq_some_iff.1 hP.out).1).trans hP.out
          exact ((Upd.of_grown (F := fun j => u6.ownBlock = some j) hg (fun j hj => hj)).block _ (Array.getElem?_eq_some_iff.1 h5).1 (fun e => by have := hV.out _ e; omega)).trans h5
      case measure => simp [intOf]; omega
    · have t1 : ¬ ((k : Int) * 64 < (sz : Int)) := by omega
      obtain rfl : k = (sz + 63) / 64 := by omega
      go_wp2_with fail
      go_ret2
      refine ⟨_, rfl, ?_, hB.out⟩
      have := hO.out
      unfold tab
      rw [tabk_length]
      exact this
end Go.Proofs.Ytoagjgcpgpjjeaa
