/- How two items are compared, by their paths. sortBy: items in the order of their paths. Items: what stands below a directory, in the order of paths. -/
import Derived.Test.YtbnaegoahdcejaaGreatDoorGD
import Derived.Shelf.SlSortCmp.QuietGrown
import Derived.Lib.Bytealg
import Derived.Test.YtbnaegoahdcejaaGreatDoorGE
import Derived.Test.YtbnaegoahdcejaaGreatDoorLay2
namespace Go.Proofs.YtbnaegoahdcejaaGreatDoor
open Go.RowKit Go.ChangeMaps Go.Sort

abbrev txtF : Value := .func (.func 56) #[] #[]
abbrev agI (p : ByteArray) (k : Int) (s : Value) : Value := .agg #[.string p, .int .i8 k, s]
set_option maxRecDepth 20000 in
theorem path_of (p : ByteArray) (k : Int) (a : Option Addr) (n c : Nat) (W : World) : Calls Tryz.prog 56 #[agI p k (.slice a n c)] W fun e w' => e = .returned (.string p) ∧ ∃ q os', w' = grow (W.drewN q) os' := by
  go_enter Tryz.func56, Tryz.ntmps56
  go_wp2
  go_ret
  exact ⟨rfl, 0, _, alloc_eq_grow W _⟩
theorem alloc2_grow (W : World) (o o' : Obj) (q : Nat) (os : Array Obj) : grow (((W.alloc o).alloc o').drewN q) os = grow (W.drewN q) (#[o, o'] ++ os) := by
  rw [alloc_eq_grow, alloc_eq_grow]
  show grow (grow (grow (W.drewN q) _) _) os = _
  rw [grow_grow, grow_grow, ← Array.append_assoc]
  rfl
set_option maxRecDepth 20000 in
set_option maxHeartbeats 1000000 in
theorem cmp_any (HC : ∀ a b W, Calls Tryz.prog 89 #[.string a, .string b] W fun e w' => e = .returned (.int .i64 (Lib.compareBytes a.data.toList b.data.toList)) ∧ w' = W)
    (p1 p2 : ByteArray) (k1 k2 : Int) (a1 a2 : Option Addr) (n1 n2 c1 c2 : Nat) (tb : Nat) (W : World) (h : W.heap[tb]? = some (.cells #[txtF] 100 (0, 0))) :
    Calls Tryz.prog 88 #[agI p1 k1 (.slice a1 n1 c1), agI p2 k2 (.slice a2 n2 c2), Pt tb] W fun e w' => e = .returned (.int .i64 (Lib.compareBytes p1.data.toList p2.data.toList)) ∧ ∃ q os', w' = grow (W.drewN q) os' := by
  obtain ⟨W1, hW1⟩ : ∃ W1, W1 = (W.alloc (.cells #[.string p1, .int .i8 k1, .slice a1 n1 c1] 51)).alloc (.cells #[.string p2, .int .i8 k2, .slice a2 n2 c2] 51) := ⟨_, rfl⟩
  have hb0 : Below W.heap.size W W1 := by rw [hW1]; exact below_tr (below_al W _) (below_al _ _)
  have hs : W1.heap.size = W.heap.size + 2 := by rw [hW1]; simp
  have htl := (Array.getElem?_eq_some_iff.1 h).1
  have ht : W1.heap[tb]? = some (.cells #[txtF] 100 (0, 0)) := (hb0.block _ htl).trans h
  have hx : W1.heap[W.heap.size]? = some (.cells #[.string p1, .int .i8 k1, .slice a1 n1 c1] 51 (0, 0)) := by rw [hW1, (below_al (W.alloc _) _).block _ (by simp)]; exact heap_alloc_new W _
  have hy : W1.heap[W.heap.size + 1]? = some (.cells #[.string p2, .int .i8 k2, .slice a2 n2 c2] 51 (0, 0)) := by rw [hW1]; exact heap_alloc2_new W _ _
  have ct : ∀ n os, (grow (W1.drewN n) os).cell? ⟨tb, 0, none⟩ = some txtF := cell_grown (by show tb < _; omega) (by rw [cell_of_row W1 tb 0 _ _ _ ht]; rfl)
  have x0 : ∀ n os, (grow (W1.drewN n) os).cell? ⟨W.heap.size, 0, none⟩ = some (.string p1) := cell_grown (by show W.heap.size < _; omega) (by rw [cell_of_row W1 _ 0 _ _ _ hx]; rfl)
  have x1 : ∀ n os, (grow (W1.drewN n) os).cell? ⟨W.heap.size, 1, none⟩ = some (.int .i8 k1) := cell_grown (by show W.heap.size < _; omega) (by rw [cell_of_row W1 _ 1 _ _ _ hx]; rfl)
  have x2 : ∀ n os, (grow (W1.drewN n) os).cell? ⟨W.heap.size, 2, none⟩ = some (.slice a1 n1 c1) := cell_grown (by show W.heap.size < _; omega) (by rw [cell_of_row W1 _ 2 _ _ _ hx]; rfl)
  have y0 : ∀ n os, (grow (W1.drewN n) os).cell? ⟨W.heap.size + 1, 0, none⟩ = some (.string p2) := cell_grown (by show W.heap.size + 1 < _; omega) (by rw [cell_of_row W1 _ 0 _ _ _ hy]; rfl)
  have y1 : ∀ n os, (grow (W1.drewN n) os).cell? ⟨W.heap.size + 1, 1, none⟩ = some (.int .i8 k2) := cell_grown (by show W.heap.size + 1 < _; omega) (by rw [cell_of_row W1 _ 1 _ _ _ hy]; rfl)
  have y2 : ∀ n os, (grow (W1.drewN n) os).cell? ⟨W.heap.size + 1, 2, none⟩ = some (.slice a2 n2 c2) := cell_grown (by show W.heap.size + 1 < _; omega) (by rw [cell_of_row W1 _ 2 _ _ _ hy]; rfl)
  have mixed : Tryz.prog.follows .mixedOrders = true := by kernel_rfl
  have AW := aside hW1
  clear hb0 hs htl ht hx hy h
  go_enter Tryz.func88, Tryz.ntmps88
  go_wp2_with fail
  rw [← hW1]
  clear hW1
  go_quiet_grown (first
    | exact Calls.grown_of (path_of p1 k1 a1 n1 c1 _)
    | exact Calls.grown_of (path_of p2 k2 a2 n2 c2 _)
    | exact Calls.grown_of ((HC p1 p2 _).mono fun _ _ ⟨h1, h2⟩ => ⟨h1, 0, #[], by rw [h2, grow_empty]; rfl⟩))
  go_wp2_with fail
  go_ret
  exact ⟨rfl, nq, _, by rw [AW.out]; exact alloc2_grow W _ _ nq osq⟩
end Go.Proofs.YtbnaegoahdcejaaGreatDoor

namespace Go.Proofs.YtbnaegoahdcejaaGreatDoor
open Go.RowKit Go.ChangeMaps Go.Sort Go.Shelf

theorem cmpB_neg : ∀ a b : B, Lib.compareBytes a b < 0 ↔ a < b
  | [], [] => by simp [Lib.compareBytes]
  | [], _ :: _ => by simp [Lib.compareBytes]
  | _ :: _, [] => by simp [Lib.compareBytes]
  | x :: a, y :: b => by
    have ih := cmpB_neg a b
    unfold Lib.compareBytes
    rw [List.cons_lt_cons_iff]
    by_cases h1 : x < y
    · simp [h1]
    · by_cases h2 : y < x
      · have : x ≠ y := fun e => by subst e; exact h1 h2
        simp [h1, h2, this]
      · have : x = y := by
          have h1' := UInt8.not_lt.1 h1
          have h2' := UInt8.not_lt.1 h2
          exact UInt8.le_antisymm h2' h1'
        simp [this, ih]
abbrev Tu := ByteArray × Int × B × Option Addr × Nat
def Im.tu (m : Im) : Tu := (m.p, m.k, m.x, m.a, m.c)
def tuI (t : Tu) : Im := ⟨t.1, t.2.1, t.2.2.1, t.2.2.2.1, t.2.2.2.2⟩
def encT (t : Tu) : List Value := (tuI t).cs
def cfT (x y : Tu) : Int := Lib.compareBytes x.1.data.toList y.1.data.toList
theorem lt_cfT (x y : Tu) : ltOf cfT x y = decide (x.1.data.toList < y.1.data.toList) := by
  unfold ltOf cfT
  exact decide_eq_decide.2 (cmpB_neg _ _)
theorem swoT : SWO (ltOf cfT) := by
  refine ⟨fun x => ?_, fun x y z h1 h2 => ?_, fun x y z h1 h2 => ?_⟩
  · rw [lt_cfT]; exact decide_eq_false (List.lt_irrefl _)
  · rw [lt_cfT] at *
    simp only [decide_eq_true_eq] at *
    exact List.lt_trans h1 h2
  · rw [lt_cfT] at *
    simp only [decide_eq_false_iff_not, List.not_lt] at *
    exact List.le_trans h2 h1
theorem ims_get (ms : List Im) (i : Nat) (h : i < ms.length * 3) : (ims ms)[i]? = some ((encT (ms.map Im.tu).toArray[i / 3]!)[i % 3]!) := by
  have hq : i / 3 < ms.length := by omega
  obtain ⟨m, hm⟩ : ∃ m, ms[i / 3]? = some m := ⟨_, List.getElem?_eq_getElem hq⟩
  obtain ⟨h0, h1, h2⟩ := ims_at hm
  have e : (ms.map Im.tu).toArray[i / 3]! = m.tu := by
    rw [Array.getElem!_eq_getD, Array.getD_eq_getD_getElem?]
    simp [hm]
  rw [e]
  have hr : i % 3 = 0 ∨ i % 3 = 1 ∨ i % 3 = 2 := by omega
  rcases hr with hr | hr | hr
  · rw [hr, show (ims ms)[i]? = (ims ms)[i / 3 * 3]? by congr 1; omega, h0]; rfl
  · rw [hr, show (ims ms)[i]? = (ims ms)[i / 3 * 3 + 1]? by congr 1; omega, h1]; rfl
  · rw [hr, show (ims ms)[i]? = (ims ms)[i / 3 * 3 + 2]? by congr 1; omega, h2]; rfl
theorem flat_ims (ms : List Im) : flatK encT 3 (ms.map Im.tu).toArray = (ims ms).toArray := by
  apply Array.ext_getElem?
  intro i
  by_cases h : i < ms.length * 3
  · have e : (ims ms).toArray[i]? = (ims ms)[i]? := by simp
    rw [e, ims_get ms i h, Array.getElem?_eq_getElem (by simpa using h)]
    congr 1
    have := get_flatK encT 3 (ms.map Im.tu).toArray i (by simpa using h)
    rw [← this, getElem!_pos _ i (by simpa using h)]
  · have e : (ims ms).toArray[i]? = (ims ms)[i]? := by simp
    rw [e, Array.getElem?_eq_none (by simpa using Nat.le_of_not_lt h), List.getElem?_eq_none (by rw [ims_length]; omega)]
theorem holds_ims {w : World} {g : Nat} {cur : Array Value} {e : TypeId} {ms : List Im} (hb : w.heap[g]? = some (.cells cur e (0, 0))) (ht : cur.toList.take (ms.length * 3) = ims ms) : HoldsK encT 3 w g 0 (ms.map Im.tu).toArray := by
  unfold HoldsK
  rw [flat_ims]
  intro j hj
  have hj' : j < ms.length * 3 := by simpa [ims_length] using hj
  refine ⟨?_, frozen_of_row w g _ _ _ hb⟩
  rw [Nat.zero_add, cell_of_row w g j _ _ _ hb, ← Array.getElem?_toList, ← List.getElem?_take_of_lt hj', ht, getElem!_pos _ j hj]
  simp [List.getElem?_eq_getElem (show j < (ims ms).length by rw [ims_length]; exact hj')]
theorem heap_sortedK {w : World} {g n : Nat} {os : Array Obj} {cur : Array Value} {e : TypeId} {fr : Nat × Nat} (d : Array Value) (hb : w.heap[g]? = some (.cells cur e fr)) :
    (grow (putRow id (Sort.ahead w n) g 0 d) os).heap[g]? = some (.cells (putCells id 0 d cur) e fr) := by
  have hg : g < w.heap.size := (Array.getElem?_eq_some_iff.1 hb).1
  rw [heap_grow_old _ _ (by simpa using hg)]
  simp [putRow, mapBlock, Sort.ahead, Array.getElem?_modify, hb, onCells]
theorem grown_sortedK {w : World} {g n : Nat} {os : Array Obj} (d : Array Value) : w.grownBy (grow (putRow id (Sort.ahead w n) g 0 d) os) (some g) := by
  refine ⟨rfl, rfl, rfl, by simp, fun k hk hne => ?_⟩
  rw [heap_grow_old _ _ (by simpa using hk)]
  have : g ≠ k := fun e => hne (by rw [e])
  simp [putRow, mapBlock, Sort.ahead, Array.getElem?_modify, this]
theorem take_putK (cur : Array Value) (ts : List Value) (h : ts.length ≤ cur.size) : (putCells id 0 ts.toArray cur).toList.take ts.length = ts := by
  apply List.ext_getElem?
  intro j
  by_cases hj : j < ts.length
  · rw [List.getElem?_take_of_lt hj, Array.getElem?_toList]
    simp [putCells, hj, show j < cur.size by omega]
  · rw [List.getElem?_take_eq_none (by omega), List.getElem?_eq_none (by omega)]
theorem compare_any (a b : ByteArray) (W : World) : Calls Tryz.prog 89 #[.string a, .string b] W fun e w' => e = .returned (.int .i64 (Lib.compareBytes a.data.toList b.data.toList)) ∧ w' = W := Any.strings_Compare (ρ := lays106_ren) lays106 a b W
theorem aggI : ∀ w, (isAgg 51).run Tryz.prog w = .ok true w := fun w => by kernel_rfl
theorem sizI : ∀ w, (Go.sizeOf 51).run Tryz.prog w = .ok 3 w := fun w => by kernel_rfl
theorem sort_cmps {W : World} {g tb : Nat} {n : Nat} (hne : tb ≠ g) (h : W.heap[tb]? = some (.cells #[txtF] 100 (0, 0))) : CmpLays Tryz.prog 88 #[Pt tb] encT 3 cfT g 0 n W := by
  intro m os dk _ x y
  have hb : tb < W.heap.size := (Array.getElem?_eq_some_iff.1 h).1
  have h2 : (sortWorldK encT 3 W g 0 m dk os).heap[tb]? = some (.cells #[txtF] 100 (0, 0)) := by
    have := (grown_sortedK (w := W) (g := g) (n := m) (os := os) (flatK encT 3 dk)).block tb hb (fun e => by injection e with e; exact hne e)
    exact this.trans h
  exact cmp_any compare_any x.1 y.1 x.2.1 y.2.1 x.2.2.2.1 y.2.2.2.1 x.2.2.1.length y.2.2.1.length x.2.2.2.2 y.2.2.2.2 tb _ h2
/-- The order of paths. -/
def Ris (ms : List Im) : Prop := ms.Pairwise fun a b => a.p.data.toList ≤ b.p.data.toList
set_option maxRecDepth 20000 in
set_option maxHeartbeats 1000000 in
theorem sortFunc_any (ms : List Im) (v : Value) (tb : Nat) (W : World) (hr : W.ownsRow 0 51 3 v ms.length (ims ms)) (ht : W.heap[tb]? = some (.cells #[txtF] 100 (0, 0))) (hl : ms.length ≤ 1000000) :
    Calls Tryz.prog 87 #[v, .func (.func 88) #[] #[Pt tb]] W fun e w' => e = .returned (.tuple #[]) ∧ ∃ ms', ms'.Perm ms ∧ Ris ms' ∧ w'.ownsRow 0 51 3 v ms.length (ims ms') ∧ Upd (fun k => v.ownBlock = some k) W w' := by
  rcases hr.2 with ⟨rfl, h0⟩ | ⟨g, cap, cur, rfl, hg0, hh, h1, h2, h3, h4⟩
  · have := List.eq_nil_of_length_eq_zero h0
    subst this
    refine (AnyF.slices_SortFunc_none (ρ := laysSortF_ren) laysSortF none 0 _ W).mono ?_
    rintro e w' ⟨rfl, rfl⟩
    exact ⟨rfl, [], List.Perm.refl _, List.Pairwise.nil, hr, Upd.refl _ _⟩
  · have hne : tb ≠ g := fun e => by
      rw [e, hh] at ht
      injection ht with ht
      injection ht with _ ht _
      exact absurd ht (by decide)
    have hS := AnyQ.slices_SortFunc (ρ := laysSortF_ren) laysSortF 3 aggI sizI encT (fun x => rfl) (fun x => im_one (tuI x)) cfT swoT 88 #[Pt tb] g 0 cap (ms.map Im.tu).toArray W (fun args w => by rfl) (sort_cmps hne ht) (holds_ims hh h4) (Array.getElem?_eq_some_iff.1 hh).1 (by simp; omega)
    rw [show (ms.map Im.tu).toArray.size = ms.length by simp] at hS
    refine hS.mono ?_
    rintro e w' ⟨rfl, d', n, os, ⟨hsz, -, hp⟩, hs, rfl⟩
    have hsz' : d'.size = ms.length := by rw [hsz]; simp
    have hp' : d'.toList.Perm (ms.map Im.tu) := by
      have e1 : d'.extract 0 ms.length = d' := by rw [← hsz']; simp
      have e2 : (ms.map Im.tu).toArray.extract 0 ms.length = (ms.map Im.tu).toArray := by
        have : (ms.map Im.tu).toArray.size = ms.length := by simp
        rw [← this]; exact Array.extract_size
      rw [e1, e2] at hp
      simpa using hp
    obtain ⟨ms', hms⟩ : ∃ ms', ms' = d'.toList.map tuI := ⟨_, rfl⟩
    have hd : d' = (ms'.map Im.tu).toArray := by
      rw [hms, List.map_map]
      have : (Im.tu ∘ tuI) = id := rfl
      rw [this, List.map_id]
    have hln : ms'.length = ms.length := by rw [hms, List.length_map, Array.length_toList, hsz']
    refine ⟨rfl, ms', ?_, ?_, ?_, ?_⟩
    · have := hp'.map tuI
      rw [← hms, List.map_map] at this
      have e : (tuI ∘ Im.tu) = id := rfl
      rw [e, List.map_id] at this
      exact this
    · refine List.pairwise_iff_getElem.2 fun i j hi hj hij => ?_
      have h5 := hs i j (Nat.zero_le _) hij (by omega)
      rw [lt_cfT] at h5
      have h6 := of_decide_eq_false h5
      rw [hd, getElem!_pos _ i (by simpa using hi), getElem!_pos _ j (by simpa using hj)] at h6
      simp only [List.getElem_toArray, List.getElem_map, Im.tu] at h6
      exact List.not_lt.1 h6
    · unfold sortWorldK putRowK
      rw [hd, flat_ims]
      refine ⟨by rw [ims_length, hln], .inr ⟨g, cap, _, rfl, Nat.zero_le _, heap_sortedK _ hh, h1, h2, by simp [putCells, h3], ?_⟩⟩
      have := take_putK cur (ims ms') (by rw [ims_length, hln, h3]; omega)
      rw [ims_length, hln] at this
      exact this
    · exact Upd.of_grown (grown_sortedK (flatK encT 3 d')) (fun k hk => by injection hk with hk; subst hk; rfl)
set_option maxRecDepth 20000 in
set_option maxHeartbeats 1000000 in
theorem sortBy_any (ms : List Im) (v : Value) (W : World) (hr : W.ownsRow 0 51 3 v ms.length (ims ms)) (hl : ms.length ≤ 1000000) :
    Calls Tryz.prog 55 #[v, txtF] W fun e w' => e = .returned (.tuple #[]) ∧ ∃ ms', ms'.Perm ms ∧ Ris ms' ∧ w'.ownsRow 0 51 3 v ms.length (ims ms') ∧ Upd (fun k => v.ownBlock = some k) W w' := by
  have hB := below_al W (.cells #[txtF] 100)
  have AS := aside (sortFunc_any ms v W.heap.size (W.alloc (.cells #[txtF] 100)) (row_below hr hB) (heap_alloc_new W _) hl)
  have AB := aside hB
  clear hr hB
  go_enter Tryz.func55, Tryz.ntmps55
  go_wp2_with fail
  refine AS.out.mono ?_
  rintro e w' ⟨rfl, ms', h1, h2, h3, h4⟩
  have A3 := aside h3
  have A4 := aside h4
  clear h3 h4
  go_wp2_with fail
  refine bodyPost_end (results_none rfl _ _ _) rfl ?_
  exact ⟨rfl, ms', h1, h2, A3.out, (Upd.of_below AB.out).trans A4.out (fun _ _ h => h)⟩
end Go.Proofs.YtbnaegoahdcejaaGreatDoor

namespace Go.Proofs.YtbnaegoahdcejaaGreatDoor
open Go.RowKit Go.ChangeMaps

theorem srt_uniq {α : Type} (key : α → B) {l l' : List α} (hp : l'.Perm l) (hs : l'.Pairwise (fun a b => key a ≤ key b)) (hn : (l.map key).Nodup) : l' = srt key l :=
  sorted_uniq (R := fun a b => key a < key b) (fun _ _ h => b_asym _ _ h) _ _ (pw_lt key hs (((hp.map key).nodup_iff).2 hn)) (srt_pw key hn) (fun a => (hp.mem_iff).trans (srt_mem key l a).symm)
/-- An item's path. -/
def ikey (i : It) : B := i.1.data.toList
theorem Tr.keys {lo : Nat} {w : World} {S : List En} (h : Tr lo w S) {d : En} (f : Nat) : (((dsc S f d.p).map (itOf d.p.length)).map ikey).Nodup := by
  have h1 : (dsc S f d.p).Pairwise (fun a b => a.p ≠ b.p) := List.pairwise_map.1 (dsc_nodup h.one f d.p)
  rw [List.map_map]
  refine List.pairwise_map.2 (h1.imp_of_mem fun {a b} ha hb hab e => hab ?_)
  obtain ⟨haS, ra, ra0, -, ea⟩ := dsc_mem ha
  obtain ⟨hbS, rb, rb0, -, eb⟩ := dsc_mem hb
  simp only [Function.comp, ikey, itOf, ba_list] at e
  rw [ea, eb, List.drop_left, List.drop_left] at e
  have := pth_inj (fun n hn => h.nostroke haS n (by rw [ea]; simp [hn])) (fun n hn => h.nostroke hbS n (by rw [eb]; simp [hn])) ra0 rb0 e
  rw [ea, eb, this]
/-- What Items tells, and its answer. -/
def itm (S : List En) (d : En) : List It := srt ikey ((dsc S 65 d.p).map (itOf d.p.length))
def icd (S : List En) (d : En) : Int := icode d.p.length (dsc S 65 d.p) 0 4194304
/-- A list of items in new memory. -/
structure Lms (lo : Nat) (W : World) (v : Value) (ms : List Im) : Prop where
  row : W.ownsRow 0 51 3 v ms.length (ims ms)
  rb : ∀ b, v.ownBlock = some b → lo ≤ b
  dat : ∀ m ∈ ms, Dat lo W m.a m.c m.x
  few : ms.length ≤ 4096
theorem Lms.below {lo : Nat} {W W' : World} {v : Value} {ms : List Im} (h : Lms lo W v ms) (b : Below W.heap.size W W') : Lms lo W' v ms :=
  ⟨row_below h.row b, h.rb, fun m hm => (h.dat m hm).below b, h.few⟩
/-- What Items answers. -/
def ItemsP (S : List En) (d : En) (w : World) (e : Ending) (w' : World) : Prop :=
  Below w.heap.size w w' ∧ ((icd S d ≠ 0 ∧ e = .returned (.tuple #[.slice none 0 0, .int .i64 (icd S d)])) ∨ (icd S d = 0 ∧ ∃ a c ms, e = .returned (.tuple #[.slice a ms.length c, .int .i64 0]) ∧ Lms w.heap.size w' (.slice a ms.length c) ms ∧ ms.map Im.it = itm S d))
set_option maxRecDepth 20000 in
theorem visits {lo : Nat} {S D : List En} {q : Nat} {w0 : World} {cl cr : Nat} (hcl : w0.heap.size ≤ cl) (hcr : w0.heap.size ≤ cr) (hDS : ∀ x ∈ D, x ∈ S) :
    Visit lo S D q IP 52 #[Pt cl, Pt cr] (fun k W => Iv lo S D q w0 cl cr k W) (fun _ c W => c = icode q D 0 4194304 ∧ Below w0.heap.size w0 W) :=
  ⟨vis_IP, fun args w => by rfl, fun k W W' h b => h.below b, fun k W h => by obtain ⟨v, r, ms, h1, -⟩ := h.st; exact h1.tr, fun k x W hx hI => visit_any hcl hcr hDS k x W hx hI⟩
set_option maxRecDepth 20000 in
set_option maxHeartbeats 2000000 in
theorem items_any {lo : Nat} {S : List En} {w : World} (h : Tr lo w S) (d : En) (hd : d ∈ S) (hk : d.k = 1) : Calls Tryz.prog 19 #[Pt d.nb] w fun e w' => ItemsP S d w e w' := by
  obtain ⟨w1, hw1⟩ : ∃ w1, w1 = (w.alloc (.cells #[.slice none 0 0] 22)).alloc (.cells #[.int .i64 4194304] 3) := ⟨_, rfl⟩
  have hB : Below w.heap.size w w1 := by rw [hw1]; exact below_tr (below_al w _) (below_al _ _)
  have hl : w1.heap[w.heap.size]? = some (.cells #[.slice none 0 0] 22 (0, 0)) := by rw [hw1, (below_al (w.alloc _) _).block _ (by simp)]; exact heap_alloc_new w _
  have hr : w1.heap[w.heap.size + 1]? = some (.cells #[.int .i64 4194304] 3 (0, 0)) := by rw [hw1]; exact heap_alloc2_new w _ _
  obtain ⟨D, hDe⟩ : ∃ D, D = dsc S 65 d.p := ⟨_, rfl⟩
  have hI : Iv lo S D d.p.length w w.heap.size (w.heap.size + 1) 0 w1 :=
    ⟨.slice none 0 0, 4194304, [], ⟨h.below hB, hB, hl, hr, World.ownsRow_nil _ _ _ _, fun b hb => by simp [Value.ownBlock] at hb, fun m hm => by simp at hm⟩, by simp, Nat.le_refl _, Nat.zero_le _, by simp⟩
  have hV := visits (lo := lo) (S := S) (D := D) (q := d.p.length) (w0 := w) (cl := w.heap.size) (cr := w.heap.size + 1) (Nat.le_refl _) (by omega) (fun x hx => by rw [hDe] at hx; exact (dsc_mem hx).1)
  have AT : Aside (Calls Tryz.prog 51 #[Pt d.nb, visF 52 #[Pt w.heap.size, Pt (w.heap.size + 1)]] w1 fun r W' => Thr IP (fun k W => Iv lo S D d.p.length w w.heap.size (w.heap.size + 1) k W) (fun _ c W => c = icode d.p.length D 0 4194304 ∧ Below w.heap.size w W) D.length w1 r W') := by
    rw [hDe] at hV ⊢
    exact through_any d hd hk hV w1 (hDe ▸ hI)
  have AK : Aside (((D.map (itOf d.p.length)).map ikey).Nodup) := by show _; rw [hDe]; exact h.keys 65
  have AD := aside hDe
  obtain ⟨nb, hnb⟩ : ∃ nb, nb = d.nb := ⟨_, rfl⟩
  rw [← hnb] at AT ⊢
  clear h hB hl hr hI hV hDe hnb
  go_enter Tryz.func19, Tryz.ntmps19
  go_wp2_with fail
  rw [← hw1]
  clear hw1
  refine AT.out.mono ?_
  rintro e w2 ⟨c, rfl, -, hc⟩
  clear AT
  rcases hc with ⟨rfl, hI⟩ | ⟨hc0, k, hce, hb⟩
  · obtain ⟨v, r, ms, hJ, h5, -, hk5, h9⟩ := hI.st
    have hmsl : ms.length = D.length := by have := congrArg List.length h5; simpa using this
    rw [List.take_length] at h5
    have hrow := hJ.row
    rw [← hmsl] at hrow
    have AS := aside (sortBy_any ms v w2 hrow (by omega))
    obtain ⟨va, vc, rfl, -⟩ := own_slice hrow
    have hc1 := hJ.c1
    have AJ := aside hJ
    have A5 := aside h5
    have hic : icode d.p.length D 0 4194304 = 0 := by rw [h9, List.drop_length]; rfl
    have Aic := aside hic
    have hncl : ¬ (Value.slice va ms.length vc).ownBlock = some w.heap.size := fun e => by
      obtain ⟨cur, hh⟩ := row_ty hJ.row e
      have := hJ.hl
      rw [hh] at this
      injection this with this
      injection this with _ this _
      exact absurd this (by decide)
    have hcl2 := (Array.getElem?_eq_some_iff.1 hJ.hl).1
    have AL := aside hmsl
    have hk6 : ms.length ≤ 4096 := by omega
    clear hJ h5 hI h9 hrow hic hmsl
    go_wp2_with fail
    refine AS.out.mono ?_
    rintro e w3 ⟨rfl, ms', hp, hs, hrow', hu⟩
    have hc3 : w3.cell? ⟨w.heap.size, 0, none⟩ = some (.slice va ms.length vc) := (World.cell?_of_block (hu.block _ hcl2 hncl)).trans hc1
    have Ap := aside hp
    have As := aside hs
    have Ar := aside hrow'
    have Au := aside hu
    clear hp hs hrow' hu hc1 AS
    go_wp2_with fail
    go_ret2
    have hbl : Below w.heap.size w w3 := AJ.out.bel.trans (Au.out.below AJ.out.bel.size (fun k hk => AJ.out.rb k hk))
    have hle := Ap.out.length_eq
    refine ⟨hbl, .inr ⟨by unfold icd; rw [← AD.out]; exact Aic.out, va, vc, ms', by rw [hle]; rfl, ?_, ?_⟩⟩
    · rw [hle]
      refine ⟨by rw [hle]; exact Ar.out, AJ.out.rb, fun m hm => ?_, by rw [hle]; exact hk6⟩
      have hd0 := AJ.out.dat m (Ap.out.mem_iff.1 hm)
      refine ⟨hd0.cap, hd0.top, fun hn => ?_⟩
      obtain ⟨g, cur, fz, e1, e2, e3, e4⟩ := hd0.mem hn
      refine ⟨g, cur, fz, e1, e2, (Au.out.block g (Array.getElem?_eq_some_iff.1 e3).1 (fun e => ?_)).trans e3, e4⟩
      obtain ⟨cur2, hh2⟩ := row_ty AJ.out.row e
      rw [hh2] at e3
      injection e3 with e3
      injection e3 with _ e3 _
      exact absurd e3 (by decide)
    · unfold itm
      rw [← AD.out]
      refine srt_uniq ikey ?_ ?_ AK.out
      · rw [← A5.out]; exact Ap.out.map _
      · exact List.pairwise_map.2 As.out
  · have hcb : (c == 0) = false := beq_eq_false_iff_ne.2 hc0
    have Ab := aside hb
    have Ace := aside hce
    clear hb hce
    go_wp2_with fail
    go_ret2
    refine ⟨Ab.out, .inl ⟨?_, ?_⟩⟩
    · unfold icd; rw [← AD.out, ← Ace.out]; exact hc0
    · unfold icd; rw [← AD.out, ← Ace.out]; rfl
end Go.Proofs.YtbnaegoahdcejaaGreatDoor
