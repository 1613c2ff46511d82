/- Split, DeleteFunc, Join, HasPrefix: what the shelf says of them here; the parts of a path. -/
import Derived.Test.YtknjclekfmmfeabGreatDoorGD
import Derived.Test.YtknjclekfmmfeabGreatDoorQLay2
import Derived.Lib.SplitLaws
import Derived.Shelf.Strings.Split
import Derived.Shelf.Strings.OnBuilder
import Derived.Shelf.Strings.Prefix
import Derived.Shelf.SlicesE.DeleteFunc
namespace Go.Proofs.YtknjclekfmmfeabGreatDoor
open Go.RowKit Go.ChangeMaps Go.Shelf Go.Sort

theorem index_hd (s : B) : Lib.index (47 :: s) [47] = 0 := by simp [Lib.index]
theorem index_tl {c : UInt8} (s : B) (h : c ≠ 47) : Lib.index (c :: s) [47] = if Lib.index s [47] == -1 then -1 else Lib.index s [47] + 1 := by
  have : (List.isPrefixOf [47] (c :: s)) = false := by simp [List.isPrefixOf]; exact fun e => h e.symm
  rw [Lib.index, this]
  rfl
theorem index_in {s : B} (h : 0 < s.count 47) : 0 ≤ Lib.index s [47] := by
  induction s with
  | nil => simp at h
  | cons c s ih =>
    by_cases hc : c = 47
    · subst hc; rw [index_hd]; decide
    · rw [index_tl s hc]
      rw [List.count_cons_of_ne hc] at h
      have := ih h
      have hn : (Lib.index s [47] == -1) = false := beq_eq_false_iff_ne.2 (by omega)
      rw [hn]
      simp only [Bool.false_eq_true, ↓reduceIte]
      omega
theorem splitK_spl (s : B) : Lib.splitK [47] 0 (s.count 47) s = spl s := by
  induction s with
  | nil => rfl
  | cons c s ih =>
    by_cases hc : c = 47
    · subst hc
      rw [List.count_cons_self]
      unfold Lib.splitK
      rw [index_hd]
      simp only [show ((0 : Int) == -1) = false from rfl, Bool.false_eq_true, ↓reduceIte]
      conv => rhs; unfold spl
      rw [if_pos rfl, ← ih]
      rfl
    · rw [List.count_cons_of_ne hc]
      conv => rhs; unfold spl
      rw [if_neg hc, ← ih]
      cases hk : s.count 47 with
      | zero => rfl
      | succ k =>
        have hi := index_in (s := s) (by omega)
        unfold Lib.splitK
        rw [index_tl s hc]
        have hn : (Lib.index s [47] == -1) = false := beq_eq_false_iff_ne.2 (by omega)
        have hn2 : (Lib.index s [47] + 1 == -1) = false := beq_eq_false_iff_ne.2 (by omega)
        rw [hn]
        simp only [Bool.false_eq_true, ↓reduceIte, hn2]
        have e : (Lib.index s [47] + 1).toNat = (Lib.index s [47]).toNat + 1 := by omega
        rw [e]
        simp only [Nat.add_zero, List.take_succ_cons, List.length_cons, List.length_nil]
        rfl
theorem splitB_spl (s : B) : Lib.splitB ⟨#[47]⟩ 0 (s.count 47) (ba s) = (spl s).map ba := by
  have h := Lib.splitB_data ⟨#[47]⟩ 0 (s.count 47) (ba s)
  rw [ba_list] at h
  have h2 : Lib.splitK (⟨#[47]⟩ : ByteArray).data.toList 0 (s.count 47) s = spl s := splitK_spl s
  rw [h2] at h
  rw [← h, List.map_map]
  have : (ba ∘ fun x : ByteArray => x.data.toList) = id := by funext x; exact ba_of x
  rw [this, List.map_id]
/-- Where the shelf looks for the greatest length of a needle. -/
def Mxl (w : World) : Prop := ∃ m : Int, w.cell? ⟨lays146_ren.g 1, 0, none⟩ = some (.int .i64 m)
theorem Mxl.lt {w : World} (h : Mxl w) : lays146_ren.g 1 < w.heap.size := by obtain ⟨m, h⟩ := h; exact World.block_lt_of_cell? w _ h
theorem Mxl.below {w w' : World} (h : Mxl w) {n : Nat} (b : Below n w w') (hn : lays146_ren.g 1 < n) : Mxl w' := by
  obtain ⟨m, h⟩ := h
  exact ⟨m, (World.cell?_of_block (b.block _ hn)).trans h⟩
theorem infoS : (Tryz.prog.info? 9).map (fun i => (i.zero, i.size, i.bytes)) = some (some (.string ByteArray.empty), 1, 16) := by kernel_rfl
theorem split_any (s : B) (w : World) (hM : Mxl w) (hs : s.length ≤ 4096) :
    Calls Tryz.prog 41 #[.string (ba s), .string ⟨#[47]⟩] w fun e w' => e = .returned (.slice (some ⟨w.heap.size, 0, none⟩) (spl s).length (spl s).length) ∧ w' = w.alloc (.cells ((spl s).map fun n => Value.string (ba n)).toArray 9) := by
  obtain ⟨m, hm⟩ := hM
  have h := Any.strings_Split (ρ := lays146_ren) lays146 infoS (ba s) ⟨#[47]⟩ m w (by rw [ba_size]; omega) hm (by decide)
  have hc : Lib.countB (ba s) ⟨#[47]⟩ = s.count 47 := by
    show Lib.count (ba s).data.toList [47] = _
    rw [ba_list]; exact Lib.count_one 47 s
  rw [hc, splitB_spl, List.map_map, ← spl_len] at h
  exact h

abbrev enS (x : B) : Value := .string (ba x)
theorem onS : OneCell enS := fun _ => rfl
set_option maxHeartbeats 1000000 in
theorem part1_any (x : B) (W : World) : FnGives Tryz.prog 42 #[] #[enS x] (.bool (drp x)) W := by
  show Calls Tryz.prog 42 #[.string (ba x)] W _
  have hx : (ba x).toList = x := by rw [Lib.toList_data, ba_list]
  obtain ⟨X, hX⟩ : ∃ X, X = ba x := ⟨_, rfl⟩
  have AX := aside hX
  rw [← hX] at hx ⊢
  clear hX
  go_enter Tryz.func42, Tryz.ntmps42
  go_wp2
  all_goals go_ret
  all_goals (refine ⟨?_, 0, rfl⟩; congr 1; unfold drp; simp_all)
theorem row_put (w : World) (q : Nat) (l : List B) (d : Array B) (hd : d.size = l.length) :
    (putRow enS (Sort.ahead (w.alloc (.cells (l.map enS).toArray 9)) q) w.heap.size 0 d).heap[w.heap.size]? = some (.cells (d.toList.map enS).toArray 9 (0, 0)) := by
  have h0 : (Sort.ahead (w.alloc (.cells (l.map enS).toArray 9)) q).heap[w.heap.size]? = some (.cells (l.map enS).toArray 9 (0, 0)) := heap_alloc_new w _
  unfold putRow mapBlock
  simp only [Array.getElem?_modify, ↓reduceIte]
  rw [h0]
  simp only [Option.map_some, onCells]
  congr 2
  unfold putCells
  apply Array.ext_getElem?
  intro k
  rw [Array.getElem?_mapIdx]
  simp only [List.getElem?_toArray, List.getElem?_map, Nat.zero_le, true_and, Nat.zero_add, Nat.sub_zero]
  by_cases hk : k < d.size
  · rw [List.getElem?_eq_getElem (by omega : k < l.length), List.getElem?_eq_getElem (by simpa using hk)]
    simp [hk]
  · rw [List.getElem?_eq_none (by omega), List.getElem?_eq_none (by simpa using hk)]
    rfl
theorem put_below (w : World) (q : Nat) (o : Obj) (d : Array B) : Below w.heap.size w (putRow enS (Sort.ahead (w.alloc o) q) w.heap.size 0 d) := by
  refine ⟨rfl, rfl, rfl, by simp, fun k hk => ?_⟩
  unfold putRow mapBlock
  simp only [Array.getElem?_modify]
  rw [if_neg (by omega)]
  exact (below_al w o).block k hk
set_option maxRecDepth 20000 in
set_option maxHeartbeats 2000000 in
theorem parts_any (s : B) (w : World) (hM : Mxl w) (hs : s.length ≤ 4096) :
    Calls Tryz.prog 21 #[.string (ba s)] w fun e w' => ∃ c, e = .returned (.slice (some ⟨w.heap.size, 0, none⟩) (prt s).length c) ∧ Below w.heap.size w w' ∧ w'.ownsRow 0 9 1 (.slice (some ⟨w.heap.size, 0, none⟩) (prt s).length c) (prt s).length ((prt s).map enS) := by
  have AS := aside (split_any s w hM hs)
  obtain ⟨l, hl⟩ : ∃ l, l = spl s := ⟨_, rfl⟩
  have hp : prt s = l.filter fun x => !drp x := by rw [hl]; rfl
  have hll : l.length ≤ 4097 := by
    rw [hl, spl_len]
    have := List.count_le_length (a := (47 : UInt8)) (l := s)
    omega
  rw [← hl] at AS
  rw [hp]
  clear hl hp
  obtain ⟨W, hW⟩ : ∃ W, W = w.alloc (.cells (l.map enS).toArray 9) := ⟨_, rfl⟩
  have AW := aside hW
  have hrow : W.heap[w.heap.size]? = some (.cells (l.map enS).toArray 9 (0, 0)) := by rw [hW]; exact heap_alloc_new w _
  have hH : Holds enS W w.heap.size 0 l.toArray := fun j hj => by
    refine ⟨?_, frozen_of_row W _ _ _ _ hrow⟩
    rw [cell_of_row W _ _ _ _ _ hrow]
    have hj' : j < l.length := by simpa using hj
    simp [hj']
  have eg : ∀ args w, (callFunc 42 args).run Tryz.prog w = .ok (.enter 42 args) w := enters_of Tryz.func42 (by kernel_rfl) rfl
  have AD := aside (AnyE.slices_DeleteFunc laysDel enS onS drp 42 #[] eg ([] : B) Tryz.zeroValue9 w.heap.size 0 l.length l.toArray W (fun W' x _ => part1_any x W') (fun n os dk x _ => part1_any x _) hH (by simp; omega) (by simp))
  rw [show l.toArray.toList = l from rfl, show l.toArray.size = l.length from rfl] at AD
  obtain ⟨f, hf⟩ : ∃ f, f = l.filter fun x => !drp x := ⟨_, rfl⟩
  have hfl : f.length ≤ l.length := by rw [hf]; exact List.length_filter_le _ _
  rw [← hf] at AD ⊢
  have AS2 : Aside (Calls Tryz.prog 41 #[.string (ba s), .string ⟨#[47]⟩] w fun e w' => e = .returned (.slice (some ⟨w.heap.size, 0, none⟩) l.length l.length) ∧ w' = W) := by rw [hW]; exact AS.out
  clear hf hH hrow AS hW hM
  obtain ⟨S, hS⟩ : ∃ S, S = ba s := ⟨_, rfl⟩
  rw [← hS] at AS2 ⊢
  clear hS
  go_enter Tryz.func21, Tryz.ntmps21
  go_wp2_with fail
  refine AS2.out.mono ?_
  rintro e w1 ⟨rfl, rfl⟩
  go_wp2_with fail
  refine AD.out.mono ?_
  rintro e w2 ⟨rfl, q, rfl⟩
  go_wp2_with fail
  go_ret
  have hsz : (f ++ List.replicate (l.length - f.length) ([] : B)).toArray.size = l.length := by simp; omega
  refine ⟨l.length, rfl, ?_, by simp, .inr ⟨w.heap.size, l.length, ((f ++ List.replicate (l.length - f.length) ([] : B)).map enS).toArray, rfl, Nat.zero_le _, ?_, hfl, by unfold maxLen; omega, ?_, ?_⟩⟩
  · rw [AW.out]; exact put_below w q _ _
  · rw [AW.out]; exact row_put w q l _ hsz
  · simp; omega
  · simp
end Go.Proofs.YtknjclekfmmfeabGreatDoor
