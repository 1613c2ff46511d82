/- The mathematics of TreeMany: as many items as may be, paths as deep as may be. TreeMany's walk. -/
import Derived.Test.YtbnaegoahdcejaaGreatDoorGI
import Derived.Test.YtbnaegoahdcejaaGreatDoorGJ
namespace Go.Proofs.YtbnaegoahdcejaaGreatDoor
open Go.RowKit Go.ChangeMaps

theorem sum_zero : ∀ {l : List Nat}, (∀ n ∈ l, n = 0) → l.sum = 0
  | [], _ => rfl
  | n :: l, h => by
    rw [List.sum_cons, h n (by simp), sum_zero (fun m hm => h m (by simp [hm]))]
/-- The name of the i-th of many. -/
def b3 (i : Nat) : B := [UInt8.ofNat (97 + i / 676), UInt8.ofNat (97 + i / 26 % 26), UInt8.ofNat (97 + i % 26)]
theorem u8_inj {a b : Nat} (ha : a < 256) (hb : b < 256) (h : UInt8.ofNat a = UInt8.ofNat b) : a = b := by
  have := congrArg UInt8.toNat h
  simp only [UInt8.toNat_ofNat'] at this
  omega
theorem b3_inj {i j : Nat} (hi : i < 4096) (hj : j < 4096) (h2 : b3 i = b3 j) : i = j := by
  unfold b3 at h2
  simp only [List.cons.injEq, and_true] at h2
  have e1 := u8_inj (by omega) (by omega) h2.1
  have e2 := u8_inj (by omega) (by omega) h2.2.1
  have e3 := u8_inj (by omega) (by omega) h2.2.2
  omega
theorem u8_far {a : Nat} (h1 : 97 ≤ a) (h2 : a < 256) : ([0, 47] : List UInt8).contains (UInt8.ofNat a) = false := by
  have h0 : UInt8.ofNat a ≠ 0 := fun e => by
    have := congrArg UInt8.toNat e
    simp only [UInt8.toNat_ofNat'] at this
    have h3 : (0 : UInt8).toNat = 0 := rfl
    omega
  have h47 : UInt8.ofNat a ≠ 47 := fun e => by
    have := congrArg UInt8.toNat e
    simp only [UInt8.toNat_ofNat'] at this
    have h3 : (47 : UInt8).toNat = 47 := rfl
    omega
  simp [h0, h47]
theorem b3_ok {i : Nat} (hi : i < 4096) : nameOk (ba (b3 i)) = true := by
  have hl : (ba (b3 i)).toList = b3 i := by rw [Lib.toList_data, ba_list]
  have hz : (ba (b3 i)).size = 3 := by rw [ba_size]; rfl
  have hx : Lib.indexAny (b3 i) [0, 47] = -1 := by
    unfold b3
    simp only [Lib.indexAny, u8_far (a := 97 + i % 26) (by omega) (by omega), u8_far (a := 97 + i / 26 % 26) (by omega) (by omega), u8_far (a := 97 + i / 676) (by omega) (by omega), Bool.false_eq_true, ↓reduceIte]
    rfl
  unfold nameOk
  rw [hl, ba_list, hz, hx]
  simp [b3]
theorem b3_plain {i : Nat} (hi : i < 4096) : (47 : UInt8) ∉ b3 i := (nok (b3_ok hi)).2.2
/-- The i-th item. -/
def im3 (i : Nat) : Im := ⟨ba (b3 i), 0, [], none, 0⟩
def many (n : Nat) : List Im := (List.range n).map im3
theorem many_length (n : Nat) : (many n).length = n := by simp [many]
theorem many_succ (n : Nat) : many (n + 1) = many n ++ [im3 n] := by unfold many; rw [List.range_succ, List.map_append]; rfl
theorem mem_many {n : Nat} {i : It} (h : i ∈ (many n).map Im.it) : ∃ k, k < n ∧ i = (ba (b3 k), 0, []) := by
  obtain ⟨m, hm, rfl⟩ := List.mem_map.1 h
  unfold many at hm
  obtain ⟨k, hk, rfl⟩ := List.mem_map.1 hm
  exact ⟨k, List.mem_range.1 hk, rfl⟩
theorem cond_many : Cond ((many 4096).map Im.it) := by
  refine ⟨fun i hi => ?_, ?_, by rw [List.length_map, many_length]; exact Nat.le_refl _, ?_, fun k i hk => ?_⟩
  · obtain ⟨k, hk, rfl⟩ := mem_many hi
    refine ⟨by rw [ba_size]; exact (by decide : 3 ≤ 4096), ?_, .inl rfl, fun h => absurd h (show ¬ (0 : Int) = 1 by decide), rfl, fun m hm => ?_⟩
    · rw [ba_list, List.count_eq_zero_of_not_mem (b3_plain hk)]; decide
    · rw [ba_list, spl_plain (b3_plain hk)] at hm
      rw [List.mem_singleton.1 hm]; exact b3_ok hk
  · unfold many
    rw [List.map_map, List.map_map]
    refine List.pairwise_map.2 ((List.pairwise_lt_range).imp_of_mem fun {a b} ha hb hab e => ?_)
    have : b3 a = b3 b := by
      have := e
      simp only [Function.comp, ikey, im3, Im.it, ba_list] at this
      exact this
    have := b3_inj (List.mem_range.1 ha) (List.mem_range.1 hb) this
    omega
  · have : ∀ l : List It, (∀ i ∈ l, i.2.2 = []) → ibyt l = 0 := by
      intro l hl
      unfold ibyt
      refine sum_zero ?_
      intro n hn
      obtain ⟨i, hi, rfl⟩ := List.mem_map.1 hn
      simp [hl i hi]
    rw [this]
    · omega
    · intro i hi
      obtain ⟨k, -, rfl⟩ := mem_many hi
      rfl
  · obtain ⟨j, hj, rfl⟩ := mem_many (List.mem_of_getElem? hk)
    left
    show (spl (ba (b3 j)).data.toList).dropLast = []
    rw [ba_list, spl_plain (b3_plain hj)]
    rfl
theorem mkT_then : ∀ (l r : List It) (T T' : List En) (n : Nat), mkT T l n = (0, 0, T') → mkT T (l ++ r) n = mkT T' r (n + l.length)
  | [], r, T, T', n, h => by
    simp only [mkT, Prod.mk.injEq, true_and] at h
    rw [h]; rfl
  | i :: l, r, T, T', n, h => by
    unfold mkT at h
    by_cases hc : mcode T i = 0
    · rw [if_pos hc] at h
      have := mkT_then l r _ _ _ h
      rw [List.cons_append]
      conv => lhs; unfold mkT
      rw [if_pos hc, this, List.length_cons, show n + 1 + l.length = n + (l.length + 1) by omega]
    · rw [if_neg hc] at h
      simp only [Prod.mk.injEq] at h
      exact absurd h.1 hc
def imZ : Im := ⟨⟨#[122]⟩, 0, [], none, 0⟩
theorem many_full : ∃ T, mkT [root0] ((many 4096 ++ [imZ]).map Im.it) 0 = (4, 4096, T) := by
  obtain ⟨T, hT⟩ := mkT_all ((many 4096).map Im.it) [] 0 (by simpa using cond_many)
  have hT2 : mkT [root0] ((many 4096).map Im.it) 0 = (0, 0, T) := hT
  obtain ⟨h1, -, -⟩ := mkT_ok _ _ _ _ _ hT2
  refine ⟨T, ?_⟩
  rw [List.map_append, mkT_then _ _ _ _ _ hT2, List.length_map, many_length, Nat.zero_add]
  have hmem : ∀ e ∈ T, e = root0 ∨ ∃ k, k < 4096 ∧ e = peE (ba (b3 k), 0, []) := fun e he => by
    rw [h1] at he
    rcases List.mem_append.1 he with he | he
    · exact .inl (List.mem_singleton.1 he)
    · obtain ⟨i, hi, rfl⟩ := List.mem_map.1 he
      obtain ⟨k, hk, rfl⟩ := mem_many hi
      exact .inr ⟨k, hk, rfl⟩
  have hroot : root0 ∈ T := by rw [h1]; simp
  have hc : mcode T imZ.it = 4 := by
    unfold mcode
    have hb : byt T = 0 := by
      unfold byt
      refine sum_zero ?_
      intro n hn
      obtain ⟨e, he, rfl⟩ := List.mem_map.1 hn
      rcases hmem e he with rfl | ⟨k, -, rfl⟩ <;> rfl
    have hr : rfc (byt T) imZ.it = 0 := by rw [hb]; decide
    have hp : pcode T (spl imZ.it.1.data.toList) = 0 := by
      have hsp : spl imZ.it.1.data.toList = [[122]] := by decide
      rw [hsp]
      unfold pcode
      rw [if_neg, if_neg, if_neg, if_neg]
      · rw [Bool.not_eq_true]
        refine List.any_eq_false.2 fun e he hc => ?_
        have hc := of_decide_eq_true hc
        rcases hmem e he with rfl | ⟨k, hk, rfl⟩
        · cases hc
        · have : spl (b3 k) = [[122]] := by
            have h2 : (peE (ba (b3 k), 0, [])).p = spl (ba (b3 k)).data.toList := rfl
            rw [h2, ba_list] at hc
            exact hc
          rw [spl_plain (b3_plain hk)] at this
          simp [b3] at this
      · rw [Bool.not_eq_false]
        exact List.any_eq_true.2 ⟨root0, hroot, by decide⟩
      · rw [Bool.not_eq_false]
        exact List.any_eq_true.2 ⟨root0, hroot, by decide⟩
      · rw [Bool.not_eq_false]
        kernel_rfl
    have hl : T.length = 4097 := by rw [h1]; simp [many_length]
    rw [if_neg (fun e => e hr), if_neg (fun e => e hp), if_pos hl]
  show mkT T [imZ.it] 4096 = (4, 4096, T)
  unfold mkT
  rw [if_neg (by rw [hc]; decide), hc]
/-- The j-th path. -/
def dp (j : Nat) : B := pth (List.replicate (j + 1) [97])
def imD (j : Nat) : Im := ⟨ba (dp j), 1, [], none, 0⟩
def deep (n : Nat) : List Im := (List.range n).map imD
theorem deep_length (n : Nat) : (deep n).length = n := by simp [deep]
theorem deep_succ (n : Nat) : deep (n + 1) = deep n ++ [imD n] := by unfold deep; rw [List.range_succ, List.map_append]; rfl
theorem dp_succ (j : Nat) : dp (j + 1) = dp j ++ [47, 97] := by
  unfold dp
  rw [List.replicate_succ' (n := j + 1), pth_snoc, ahd_pth (by simp)]
  simp
theorem dp_len (j : Nat) : (dp j).length = 2 * j + 1 := by
  induction j with
  | zero => rfl
  | succ j ih => rw [dp_succ, List.length_append, ih]; simp; omega
theorem dp_spl (j : Nat) : spl (dp j) = List.replicate (j + 1) [97] := spl_pth (fun n hn => by rw [(List.mem_replicate.1 hn).2]; decide) (by simp)
theorem dp_count (j : Nat) : (dp j).count 47 = j := by
  have := spl_len (dp j)
  rw [dp_spl, List.length_replicate] at this
  omega
theorem okA : nameOk (ba [97]) = true := by kernel_rfl
theorem cond_deep : Cond ((deep 64).map Im.it) := by
  have hmem : ∀ k i, ((deep 64).map Im.it)[k]? = some i → k < 64 ∧ i = (ba (dp k), 1, []) := fun k i hk => by
    unfold deep at hk
    rw [List.map_map, List.getElem?_map, Option.map_eq_some_iff] at hk
    obtain ⟨j, hj, rfl⟩ := hk
    obtain ⟨hl, e⟩ := List.getElem?_eq_some_iff.1 hj
    rw [List.getElem_range] at e
    subst e
    exact ⟨by simpa using hl, rfl⟩
  refine ⟨fun i hi => ?_, ?_, by rw [List.length_map, deep_length]; decide, ?_, fun k i hk => ?_⟩
  · obtain ⟨k, hk⟩ := List.getElem?_of_mem hi
    obtain ⟨hk2, rfl⟩ := hmem k i hk
    refine ⟨by rw [ba_size, dp_len]; omega, by rw [ba_list, dp_count]; exact hk2, .inr (.inl rfl), fun _ => rfl, rfl, fun m hm => ?_⟩
    rw [ba_list, dp_spl] at hm
    rw [(List.mem_replicate.1 hm).2]; exact okA
  · unfold deep
    rw [List.map_map, List.map_map]
    refine List.pairwise_map.2 ((List.pairwise_lt_range).imp fun {a b} hab e => ?_)
    have h2 := congrArg List.length (show dp a = dp b by simpa only [Function.comp, ikey, imD, Im.it, ba_list] using e)
    rw [dp_len, dp_len] at h2
    omega
  · have : ibyt ((deep 64).map Im.it) = 0 := by
      unfold ibyt
      refine sum_zero ?_
      intro n hn
      obtain ⟨i, hi, rfl⟩ := List.mem_map.1 hn
      obtain ⟨k, hk⟩ := List.getElem?_of_mem hi
      obtain ⟨-, rfl⟩ := hmem k i hk
      rfl
    rw [this]
    omega
  · obtain ⟨hk2, rfl⟩ := hmem k i hk
    show (spl (ba (dp k)).data.toList).dropLast = [] ∨ _
    cases k with
    | zero => left; rw [ba_list, dp_spl]; rfl
    | succ k =>
      right
      refine ⟨k, (ba (dp k), 1, []), by omega, ?_, ?_, rfl⟩
      · unfold deep
        rw [List.map_map, List.getElem?_map, List.getElem?_eq_getElem (by simp; omega), List.getElem_range]
        rfl
      · show spl (ba (dp k)).data.toList = (spl (ba (dp (k + 1))).data.toList).dropLast
        rw [ba_list, ba_list, dp_spl, dp_spl, List.replicate_succ' (n := k + 1), List.dropLast_concat]
def imL : Im := ⟨ba (dp 64), 0, [], none, 0⟩
theorem deep_long : ∃ T, mkT [root0] ((deep 64 ++ [imL]).map Im.it) 0 = (3, 64, T) := by
  obtain ⟨T, hT⟩ := mkT_all ((deep 64).map Im.it) [] 0 (by simpa using cond_deep)
  have hT2 : mkT [root0] ((deep 64).map Im.it) 0 = (0, 0, T) := hT
  refine ⟨T, ?_⟩
  rw [List.map_append, mkT_then _ _ _ _ _ hT2, List.length_map, deep_length, Nat.zero_add]
  have hr : rfc (byt T) imL.it = 3 := by
    unfold rfc
    rw [if_pos]
    right
    show 64 ≤ (ba (dp 64)).data.toList.count 47
    rw [ba_list, dp_count]
    exact Nat.le_refl _
  have hc : mcode T imL.it = 3 := by
    unfold mcode
    rw [if_pos (by rw [hr]; decide), hr]
  show mkT T [imL.it] 64 = (3, 64, T)
  unfold mkT
  rw [if_neg (by rw [hc]; decide), hc]
end Go.Proofs.YtbnaegoahdcejaaGreatDoor

namespace Go.Proofs.YtbnaegoahdcejaaGreatDoor
open Go.RowKit Go.ChangeMaps

theorem u8_cell (a : Nat) (h : a < 256) : (((UInt8.ofNat a).toNat : Nat) : Int) = (a : Int) := by
  simp only [UInt8.toNat_ofNat']
  omega
abbrev c3 (i : Nat) : Array Value := #[.int .u8 (97 + (i : Int) / 676), .int .u8 (97 + (i : Int) / 26 % 26), .int .u8 (97 + (i : Int) % 26)]
theorem b3_string (i : Nat) (w : World) (hi : i < 4096) : (convert 48 9 (.slice (some ⟨w.heap.size, 0, none⟩) 3 3)).run Tryz.prog (w.alloc (.cells #[.int .u8 (97 + (i : Int) / 676), .int .u8 (97 + (i : Int) / 26 % 26), .int .u8 (97 + (i : Int) % 26)] 5)) = .ok (.string (ba (b3 i))) (w.alloc (.cells #[.int .u8 (97 + (i : Int) / 676), .int .u8 (97 + (i : Int) / 26 % 26), .int .u8 (97 + (i : Int) % 26)] 5)) :=
  str_of_bytes _ ⟨w.heap.size, 0, none⟩ (b3 i) 3 3 rfl (fun j v hj => by
    rw [Addr.add_lit, Nat.zero_add, cell_of_row _ w.heap.size j _ _ _ (heap_alloc_new w _)]
    rw [← hj]
    have e1 : (((UInt8.ofNat (97 + i % 26)).toNat : Nat) : Int) = 97 + (i : Int) % 26 := by rw [u8_cell _ (by omega)]; omega
    have e2 : (((UInt8.ofNat (97 + i / 26 % 26)).toNat : Nat) : Int) = 97 + (i : Int) / 26 % 26 := by rw [u8_cell _ (by omega)]; omega
    have e3 : (((UInt8.ofNat (97 + i / 676)).toNat : Nat) : Int) = 97 + (i : Int) / 676 := by rw [u8_cell _ (by omega)]; omega
    unfold b3 bcells
    simp only [List.map_cons, List.map_nil, e1, e2, e3]
    simp)
/-- A list that grows, of items without bytes. -/
structure Gl (W wx : World) (ms : List Im) (v : Value) : Prop where
  bel : Below W.heap.size W wx
  row : wx.ownsRow 0 51 3 v ms.length (ims ms)
  rb : ∀ b, v.ownBlock = some b → W.heap.size ≤ b
theorem gl_app {W wx w7 : World} {zs : List Im} {x : Im} {v v' : Value} {o : Obj} (h : Gl W wx zs v) (ho : w7.ownsRow 0 51 3 v' (zs.length + 1) (ims zs ++ x.cs)) (hg : (wx.alloc o).grownBy w7 v.ownBlock)
    (hwh : (v'.ownBlock = v.ownBlock ∧ ∃ g, v.ownBlock = some g) ∨ (v'.ownBlock = some (wx.alloc o).heap.size ∧ Below (wx.alloc o).heap.size (wx.alloc o) w7)) : Gl W w7 (zs ++ [x]) v' := by
  obtain ⟨h1, h2, h3⟩ := mg_app h.bel h.rb ho hg hwh
  exact ⟨h1, h2, h3⟩
theorem Gl.inp {W wx : World} {ms : List Im} {a : Option Addr} {c : Nat} (h : Gl W wx ms (.slice a ms.length c)) (hd : ∀ m ∈ ms, m.x = []) (hc : ∀ m ∈ ms, m.c = 0) : Inp wx a ms :=
  inp_row h.row fun m hm => ⟨by rw [hd m hm]; exact fun h => absurd rfl h, by rw [hd m hm]; simp, by rw [hc m hm]; simp⟩
theorem Gl.below {W wx wy : World} {ms : List Im} {v : Value} (h : Gl W wx ms v) (b : Below wx.heap.size wx wy) : Gl W wy ms v := ⟨h.bel.trans (b.mono h.bel.size), row_below h.row b, h.rb⟩
set_option maxRecDepth 20000 in
set_option maxHeartbeats 8000000 in
theorem treeMany_walk (w : World) (hM : Mxl w) : Calls Tryz.prog 6 #[] w fun e w' => e = .returned (.bool true) ∧ Below w.heap.size w w' := by
  have AM := aside hM
  clear hM
  go_enter Tryz.func6, Tryz.ntmps6
  go_wp2_with fail
  go_loopg [1, 2] 4096 (fun g s1 s2 wx => ∃ (i : Nat) (a : Option Addr) (c : Nat), i + g = 4096 ∧ s2 = .int .i64 (i : Int) ∧ s1 = .slice a i c ∧ Gl w wx (many i) (.slice a i c))
  case atStart => exact ⟨0, none, 0, by omega, rfl, rfl, Below.refl _ _, World.ownsRow_nil _ _ _ _, fun b hb => by simp [Value.ownBlock] at hb⟩
  case round =>
    obtain ⟨i, a, c, hig, rfl, rfl, hGl⟩ := hrel
    have AG := aside hGl
    clear hGl
    cases gk with
    | succ gk =>
      have hi : ((i : Int) < 4096) := by omega
      have hwi : IntKind.i64.wrap ((i : Int) + 1) = ((i + 1 : Nat) : Int) := by rw [wrap_small _ (by omega) (by omega)]; simp
      have hls := b3_string i wr (by omega)
      have AGb : Aside (∀ o, Gl w (wr.alloc o) (many i) (.slice a i c)) := fun o => AG.out.below (below_al wr o)
      have ARb : Aside (∀ o1 o2, ((wr.alloc o1).alloc o2).ownsRow 0 51 3 (.slice a i c) i (ims (many i))) := fun o1 o2 => by
        have := row_below (AGb.out o1).row (below_al _ o2)
        rwa [many_length] at this
      have H63 : Aside (i + 1 ≤ maxLen) := by show i + 1 ≤ maxLen; unfold maxLen; omega
      have hby : (i + 1) * 48 ≤ 140737488355328 := by omega
      go_wp2_with (at_builtin; refine M.wpList_append_where _ rfl _ _ 22 rfl 51 (.agg #[.string ⟨#[]⟩, .int .i8 0, .slice none 0 0]) 3 48 Tryz.underlying22 infoI rfl (by decide) (.slice a i c) i (ims (many i)) rfl (ARb.out _ _) _ 1 _ (Im.cs (im3 i)) rfl rfl (im_cells wr _ (im3 i)) (im_one _) H63.out hby (by decide) ?_; intro v' w7 ho hg hwh; obtain ⟨a9, c9, rfl, -⟩ := own_slice ho; have A1 := aside (gl_app (x := im3 i) (AGb.out _) (by rw [many_length]; exact ho) hg hwh); clear ho hg hwh)
      go_roundg gk
      case measure => omega
      case rel => exact ⟨i + 1, a9, c9, by omega, by first | rfl | simp, rfl, by rw [many_succ]; exact A1.out⟩
    | zero =>
      obtain rfl : i = 4096 := by omega
      have hi : ¬ ((4096 : Nat) : Int) < 4096 := by omega
      have hIn : Inp wr a (many 4096) := by
        have h1 := AG.out
        have h2 : Gl w wr (many 4096) (.slice a (many 4096).length c) := by rw [many_length]; exact h1
        refine h2.inp (fun m hm => ?_) (fun m hm => ?_)
        · obtain ⟨k, -, rfl⟩ := List.mem_map.1 hm; rfl
        · obtain ⟨k, -, rfl⟩ := List.mem_map.1 hm; rfl
      have hMr := AM.out.below AG.out.bel AM.out.lt
      obtain ⟨MS, hMS⟩ : ∃ MS, MS = many 4096 := ⟨_, rfl⟩
      have hml : MS.length = 4096 := by rw [hMS, many_length]
      have hCo : Cond (MS.map Im.it) := by rw [hMS]; exact cond_many
      have hFu : ∃ T, mkT [root0] ((MS ++ [imZ]).map Im.it) 0 = (4, 4096, T) := by rw [hMS]; exact many_full
      have hMx : ∀ m ∈ MS ++ [imZ], m.x = [] ∧ m.c = 0 := by
        intro m hm
        rcases List.mem_append.1 hm with hm | hm
        · rw [hMS] at hm
          obtain ⟨k, -, rfl⟩ := List.mem_map.1 hm
          exact ⟨rfl, rfl⟩
        · rw [List.mem_singleton.1 hm]
          exact ⟨rfl, rfl⟩
      have AMx := aside hMx
      clear hMx
      rw [← hMS] at hIn AG
      have AK := aside (tmake_any a MS 4096 c wr hml.symm (by omega) hIn hMr)
      have AMr := aside hMr
      have AIn := aside hIn
      have Aml := aside hml
      have ACo := aside hCo
      have AFu := aside hFu
      clear hIn hMr hml hCo hFu hMS
      go_wp2_with fail
      refine AK.out.mono ?_
      rintro e w1 hP
      obtain ⟨c1, i1, T1, hmk, hb1, h3⟩ := MakeP.told hP
      obtain ⟨T2, hT2⟩ := mkT_all (MS.map Im.it) [] 0 (by simpa using ACo.out)
      have hc1 : c1 = 0 := by
        have := hmk.symm.trans hT2
        simp only [Prod.mk.injEq] at this
        exact this.1
      rcases h3 with ⟨h3, -⟩ | ⟨-, S, r, hT, hTo, rfl⟩
      · exact absurd hc1 h3
      obtain ⟨t1, t2, t3, t4⟩ := hTo.items hT
      have ACn := aside (tcount_any hT r hTo.rin hTo.rk)
      obtain ⟨y, hcn⟩ : ∃ y : Int, cnt S r = .tuple #[.int .i64 4096, .int .i64 y, .int .i64 0] := by
        have hlen : (itm S r).length = 4096 := by rw [t2, (srt_perm ikey _).length_eq, List.length_map, Aml.out]
        refine ⟨(ibyt (itm S r) : Int), ?_⟩
        unfold cnt
        rw [if_pos t1, hlen]
        rfl
      rw [hcn] at ACn
      have AB1 := aside (below_tr AG.out.bel hb1)
      have AG1 := aside (AG.out.below hb1)
      have AM1 := aside (AMr.out.below hb1 AMr.out.lt)
      obtain ⟨nb, hnb⟩ : ∃ nb, nb = r.nb := ⟨_, rfl⟩
      rw [← hnb] at ACn ⊢
      clear AK hP hmk hT2 hc1 hT hTo t1 t2 t3 t4 hcn hnb hb1
      go_wp2_with fail
      refine ACn.out.mono ?_
      rintro e w2 ⟨rfl, hb2⟩
      have AG2 := aside (AG1.out.below hb2)
      have AM2 := aside (AM1.out.below hb2 AM1.out.lt)
      clear hb2 ACn AG1 AM1
      have ARb : Aside (∀ o, (w2.alloc o).ownsRow 0 51 3 (.slice a 4096 c) 4096 (ims MS)) := fun o => by
        have := row_below AG2.out.row (below_al w2 o)
        rwa [Aml.out] at this
      have H63 : Aside (4096 + 1 ≤ maxLen) := by show 4096 + 1 ≤ maxLen; unfold maxLen; omega
      have hby : (4096 + 1) * 48 ≤ 140737488355328 := by omega
      go_wp2_with (at_builtin; refine M.wpList_append_where _ rfl _ _ 22 rfl 51 (.agg #[.string ⟨#[]⟩, .int .i8 0, .slice none 0 0]) 3 48 Tryz.underlying22 infoI rfl (by decide) (.slice a 4096 c) 4096 (ims MS) rfl (ARb.out _) _ 1 _ (Im.cs imZ) rfl rfl (im_cells1 w2 imZ) (im_one _) H63.out hby (by decide) ?_; intro v' w7 ho hg hwh; obtain ⟨a9, c9, rfl, -⟩ := own_slice ho; have A1 := aside (gl_app (x := imZ) AG2.out (by rw [Aml.out]; exact ho) hg hwh); clear ho hg hwh)
      clear ARb H63 AG2 AM2
      have hG7 : Gl w w7 (MS ++ [imZ]) (.slice a9 (MS ++ [imZ]).length c9) := by rw [List.length_append, Aml.out]; exact A1.out
      have AM7 := aside (AM.out.below A1.out.bel AM.out.lt)
      have AK7 := aside (tmake_any a9 (MS ++ [imZ]) 4097 c9 w7 (by rw [List.length_append, Aml.out]; rfl) (by omega) (hG7.inp (fun m hm => (AMx.out m hm).1) (fun m hm => (AMx.out m hm).2)) AM7.out)
      clear hG7
      go_wp2_with fail
      refine AK7.out.mono ?_
      rintro e w8 hP
      obtain ⟨c8, i8, T8, hmk, hb8, h3⟩ := MakeP.told hP
      obtain ⟨T9, hT9⟩ := AFu.out
      have h49 : c8 = 4 ∧ i8 = 4096 := by
        have := hmk.symm.trans hT9
        simp only [Prod.mk.injEq] at this
        exact ⟨this.1, this.2.1⟩
      obtain ⟨rfl, rfl⟩ := h49
      rcases h3 with ⟨-, rfl⟩ | ⟨h3, -⟩
      rotate_left
      · exact absurd h3 (by decide)
      have AB8 := aside (below_tr A1.out.bel hb8)
      clear hP hmk hT9 hb8 AK7 A1 AM7 AMx AFu ACo Aml AIn AMr AG AB1
      go_wp2_with fail
      go_loopg [12, 13, 14] 64 (fun g s12 s13 s14 wx => ∃ (i : Nat) (a : Option Addr) (c : Nat), i + g = 64 ∧ s14 = .int .i64 (i : Int) ∧ s13 = .string (ba (dp i)) ∧ s12 = .slice a i c ∧ Gl w wx (deep i) (.slice a i c))
      case atStart => exact ⟨0, none, 0, by omega, rfl, rfl, rfl, AB8.out, World.ownsRow_nil _ _ _ _, fun b hb => by simp [Value.ownBlock] at hb⟩
      case round =>
        obtain ⟨i, a, c, hig, rfl, rfl, rfl, hGl⟩ := hrel
        have AG := aside hGl
        clear hGl AB8
        obtain ⟨P, hP⟩ : ∃ P, P = ba (dp i) := ⟨_, rfl⟩
        have AHP := aside hP
        have hPs : P.size ≤ 200 := by rw [hP, ba_size, dp_len]; omega
        rw [← hP]
        clear hP
        cases gk with
        | succ gk =>
          have hi : ((i : Int) < 64) := by omega
          have hwi : IntKind.i64.wrap ((i : Int) + 1) = ((i + 1 : Nat) : Int) := by rw [wrap_small _ (by omega) (by omega)]; simp
          have ARb : Aside (∀ o1, (wr.alloc o1).ownsRow 0 51 3 (.slice a i c) i (ims (deep i))) := fun o1 => by
            have := row_below AG.out.row (below_al _ o1)
            rwa [deep_length] at this
          have H63 : Aside (i + 1 ≤ maxLen) := by show i + 1 ≤ maxLen; unfold maxLen; omega
          have hby : (i + 1) * 48 ≤ 140737488355328 := by omega
          go_wp2_with (at_builtin; refine M.wpList_append_where _ rfl _ _ 22 rfl 51 (.agg #[.string ⟨#[]⟩, .int .i8 0, .slice none 0 0]) 3 48 Tryz.underlying22 infoI rfl (by decide) (.slice a i c) i (ims (deep i)) rfl (ARb.out _) _ 1 _ (Im.cs ⟨P, 1, [], none, 0⟩) rfl rfl (im_cells1 wr ⟨P, 1, [], none, 0⟩) (im_one _) H63.out hby (by decide) ?_; intro v' w7 ho hg hwh; obtain ⟨a9, c9, rfl, -⟩ := own_slice ho; have A1 := aside (gl_app (x := ⟨P, 1, [], none, 0⟩) AG.out (by rw [deep_length]; exact ho) hg hwh); clear ho hg hwh)
          go_roundg gk
          case measure => omega
          case rel => exact ⟨i + 1, a9, c9, by omega, by first | rfl | simp, by rw [AHP.out, dp_succ]; exact congrArg Value.string (ba_append (dp i) [47, 97]), rfl, by rw [deep_succ]; have := A1.out; rwa [AHP.out] at this⟩
        | zero =>
          obtain rfl : i = 64 := by omega
          have hi : ¬ ((64 : Nat) : Int) < 64 := by omega
          obtain ⟨DS, hDS⟩ : ∃ DS, DS = deep 64 := ⟨_, rfl⟩
          have hml : DS.length = 64 := by rw [hDS, deep_length]
          have hCo : Cond (DS.map Im.it) := by rw [hDS]; exact cond_deep
          have hFu : ∃ T, mkT [root0] ((DS ++ [(⟨P, 0, [], none, 0⟩ : Im)]).map Im.it) 0 = (3, 64, T) := by rw [hDS, AHP.out]; exact deep_long
          have hDx : ∀ m ∈ DS ++ [(⟨P, 0, [], none, 0⟩ : Im)], m.x = [] ∧ m.c = 0 := by
            intro m hm
            rcases List.mem_append.1 hm with hm | hm
            · rw [hDS] at hm
              obtain ⟨k, -, rfl⟩ := List.mem_map.1 hm
              exact ⟨rfl, rfl⟩
            · rw [List.mem_singleton.1 hm]
              exact ⟨rfl, rfl⟩
          rw [← hDS] at AG
          have hMr := AM.out.below AG.out.bel AM.out.lt
          have hG : Gl w wr DS (.slice a DS.length c) := by rw [hml]; exact AG.out
          have AK := aside (tmake_any a DS 64 c wr hml.symm (by omega) (hG.inp (fun m hm => (hDx m (List.mem_append_left _ hm)).1) (fun m hm => (hDx m (List.mem_append_left _ hm)).2)) hMr)
          have Aml := aside hml
          have ACo := aside hCo
          have AFu := aside hFu
          have ADx := aside hDx
          clear hMr hml hCo hFu hDx hDS hG
          go_wp2_with fail
          refine AK.out.mono ?_
          rintro e w1 hP
          obtain ⟨c1, i1, T1, hmk, hb1, h3⟩ := MakeP.told hP
          obtain ⟨T2, hT2⟩ := mkT_all (DS.map Im.it) [] 0 (by simpa using ACo.out)
          have hc1 : c1 = 0 := by
            have := hmk.symm.trans hT2
            simp only [Prod.mk.injEq] at this
            exact this.1
          rcases h3 with ⟨h3, -⟩ | ⟨-, S, r, hT, hTo, rfl⟩
          · exact absurd hc1 h3
          have AG1 := aside (AG.out.below hb1)
          obtain ⟨nd, hnd⟩ : ∃ nd, nd = r.nb := ⟨_, rfl⟩
          rw [← hnd]
          clear AK hP hmk hT2 hc1 hT hTo hnd hb1 AG
          have ARb : Aside (∀ o1, (w1.alloc o1).ownsRow 0 51 3 (.slice a 64 c) 64 (ims DS)) := fun o1 => by
            have := row_below AG1.out.row (below_al _ o1)
            rwa [Aml.out] at this
          have H63 : Aside (64 + 1 ≤ maxLen) := by show 64 + 1 ≤ maxLen; unfold maxLen; omega
          have hby : (64 + 1) * 48 ≤ 140737488355328 := by omega
          go_wp2_with (at_builtin; refine M.wpList_append_where _ rfl _ _ 22 rfl 51 (.agg #[.string ⟨#[]⟩, .int .i8 0, .slice none 0 0]) 3 48 Tryz.underlying22 infoI rfl (by decide) (.slice a 64 c) 64 (ims DS) rfl (ARb.out _) _ 1 _ (Im.cs ⟨P, 0, [], none, 0⟩) rfl rfl (im_cells1 w1 ⟨P, 0, [], none, 0⟩) (im_one _) H63.out hby (by decide) ?_; intro v' w7 ho hg hwh; obtain ⟨a9, c9, rfl, -⟩ := own_slice ho; have A1 := aside (gl_app (x := ⟨P, 0, [], none, 0⟩) AG1.out (by rw [Aml.out]; exact ho) hg hwh); clear ho hg hwh)
          clear ARb H63 AG1
          have hG7 : Gl w w7 (DS ++ [(⟨P, 0, [], none, 0⟩ : Im)]) (.slice a9 (DS ++ [(⟨P, 0, [], none, 0⟩ : Im)]).length c9) := by rw [List.length_append, Aml.out]; exact A1.out
          have AM7 := aside (AM.out.below A1.out.bel AM.out.lt)
          have AK7 := aside (tmake_any a9 (DS ++ [(⟨P, 0, [], none, 0⟩ : Im)]) 65 c9 w7 (by rw [List.length_append, Aml.out]; rfl) (by omega) (hG7.inp (fun m hm => (ADx.out m hm).1) (fun m hm => (ADx.out m hm).2)) AM7.out)
          clear hG7
          go_wp2_with fail
          refine AK7.out.mono ?_
          rintro e w8 hP
          obtain ⟨c8, i8, T8, hmk, hb8, h3⟩ := MakeP.told hP
          obtain ⟨T9, hT9⟩ := AFu.out
          have h49 : c8 = 3 ∧ i8 = 64 := by
            have := hmk.symm.trans hT9
            simp only [Prod.mk.injEq] at this
            exact ⟨this.1, this.2.1⟩
          obtain ⟨rfl, rfl⟩ := h49
          rcases h3 with ⟨-, rfl⟩ | ⟨h3, -⟩
          rotate_left
          · exact absurd h3 (by decide)
          have AB8 := aside (below_tr A1.out.bel hb8)
          have AM8 := aside (AM7.out.below hb8 AM7.out.lt)
          clear hP hmk hT9 hb8 AK7 A1 AM7 ADx AFu ACo Aml
          go_wp2_with fail
          refine (wakes19_any _ AM8.out).mono ?_
          rintro e w9 ⟨rfl, hb9⟩
          have AB9 := aside (below_tr AB8.out hb9)
          clear hb9
          go_wp2_with fail
          go_ret
          exact ⟨rfl, AB9.out⟩
end Go.Proofs.YtbnaegoahdcejaaGreatDoor
