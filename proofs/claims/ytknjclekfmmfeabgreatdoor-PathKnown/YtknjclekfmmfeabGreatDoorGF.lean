/- A walk in memory: where it stands, what it keeps, how it goes on. A walk in memory: keep, stand, find. A walk in memory: find, lead. A walk in memory: lead. -/
import Derived.Test.YtknjclekfmmfeabGreatDoorQPgr
import Derived.Test.YtknjclekfmmfeabGreatDoorQPsp
namespace Go.Proofs.YtknjclekfmmfeabGreatDoor
open Go.RowKit Go.ChangeMaps Go.Shelf

/-- Parts that can be read. -/
def StAt (w : World) (lv : Value) (l : List B) : Prop :=
  ∃ a c, lv = .slice a l.length c ∧ l.length ≤ c ∧ (l ≠ [] → ∃ g o cs, a = some ⟨g, o, none⟩ ∧ w.heap[g]? = some (.cells cs 9 (0, 0)) ∧ ∀ j x, l[j]? = some x → cs[o + j]? = some (enS x))
theorem StAt.keep {w w' : World} {lv : Value} {l : List B} (h : StAt w lv l) (hk : ∀ (g : Nat) (cs : Array Value), w.heap[g]? = some (Obj.cells cs 9 (0, 0)) → w'.heap[g]? = w.heap[g]?) : StAt w' lv l := by
  obtain ⟨a, c, e, hc, h⟩ := h
  refine ⟨a, c, e, hc, fun hl => ?_⟩
  obtain ⟨g, o, cs, ea, h1, h2⟩ := h hl
  exact ⟨g, o, cs, ea, (hk g cs h1).trans h1, h2⟩
theorem StAt.of_own {w : World} {lv : Value} {l : List B} {b n : Nat} (h : w.ownsRow b 9 1 lv n (l.map enS)) : StAt w lv l := by
  have hn : n = l.length := by have := h.1; simp at this; omega
  subst hn
  rcases h.2 with ⟨rfl, h0⟩ | ⟨g, c, cs, rfl, h1, h2, h3, h4, h5, h6⟩
  · exact ⟨none, 0, by rw [h0], by omega, fun hl => absurd (List.eq_nil_of_length_eq_zero h0) hl⟩
  · refine ⟨_, c, rfl, h3, fun _ => ⟨g, 0, cs, rfl, h2, fun j x hj => ?_⟩⟩
    have hx : (l.map enS)[j]? = some (enS x) := by rw [List.getElem?_map, hj]; rfl
    rw [← h6, List.getElem?_take] at hx
    split at hx
    · rw [Nat.zero_add]; simpa using hx
    · cases hx
/-- The nodes that a row has, each in a block of its own. -/
def MsAt (w : World) (ad : Nat → Nat) (ms : List Nat) (row : Row) : Prop :=
  ms.length = row.length ∧ ∀ (j m : Nat) (p : B × Nat), ms[j]? = some m → row[j]? = some p → w.heap[m]? = some (Obj.cells #[.string (ba p.1), Pt (ad p.2)] 71 (0, 0))
theorem MsAt.keep {w w' : World} {ad : Nat → Nat} {ms : List Nat} {row : Row} (h : MsAt w ad ms row) (hk : ∀ (g : Nat) (cs : Array Value), w.heap[g]? = some (Obj.cells cs 71 (0, 0)) → w'.heap[g]? = w.heap[g]?) : MsAt w' ad ms row :=
  ⟨h.1, fun j m p h1 h2 => (hk m _ (h.2 j m p h1 h2)).trans (h.2 j m p h1 h2)⟩
/-- A walk: its row, what is left, how many links it followed. -/
structure WkAt (w : World) (lo wb : Nat) (ad : Nat → Nat) (row : Row) (l : List B) (n : Nat) : Prop where
  bnd : lo ≤ wb
  cel : ∃ rv lv ms, w.heap[wb]? = some (.cells #[rv, lv, .int .i64 (n : Int)] 74 (0, 0)) ∧ RwAt w lo 69 rv (ms.map Pt) ∧ MsAt w ad ms row ∧ StAt w lv l
theorem WkAt.keep {w w' : World} {lo wb : Nat} {ad : Nat → Nat} {row : Row} {l : List B} {n : Nat} (h : WkAt w lo wb ad row l n) (hk : ∀ (g : Nat) (cs : Array Value) (T : TypeId), (T = 74 ∨ T = 69 ∨ T = 71 ∨ T = 9) → w.heap[g]? = some (Obj.cells cs T (0, 0)) → w'.heap[g]? = w.heap[g]?) : WkAt w' lo wb ad row l n := by
  obtain ⟨rv, lv, ms, h1, h2, h3, h4⟩ := h.cel
  exact ⟨h.bnd, rv, lv, ms, (hk _ _ _ (by simp) h1).trans h1, h2.keep (fun g cs => hk g cs _ (by simp)), h3.keep (fun g cs => hk g cs _ (by simp)), h4.keep (fun g cs => hk g cs _ (by simp))⟩
theorem WkAt.below {w w' : World} {lo wb : Nat} {ad : Nat → Nat} {row : Row} {l : List B} {n : Nat} (h : WkAt w lo wb ad row l n) (b : Below w.heap.size w w') : WkAt w' lo wb ad row l n :=
  h.keep fun g _ _ _ hg => b.block g (Array.getElem?_eq_some_iff.1 hg).1
theorem ms_last {row : Row} {ms : List Nat} (hl : ms.length = row.length) (hr : row ≠ []) : ∃ m p, ms[ms.length - 1]? = some m ∧ row[ms.length - 1]? = some p ∧ lst row = p.2 := by
  have h0 : 0 < row.length := List.length_pos_iff.2 hr
  refine ⟨ms[ms.length - 1]'(by omega), row[ms.length - 1]'(by omega), List.getElem?_eq_getElem _, List.getElem?_eq_getElem _, ?_⟩
  unfold lst
  rw [List.getLast?_eq_getElem?]
  have e : row.length - 1 = ms.length - 1 := by omega
  simp only [e]
  rw [List.getElem?_eq_getElem (by omega)]
  rfl
set_option maxRecDepth 20000 in
set_option maxHeartbeats 2000000 in
theorem at_any {w : World} {lo wb : Nat} {ad : Nat → Nat} {row : Row} {l : List B} {n : Nat} (h : WkAt w lo wb ad row l n) (hr : row ≠ []) (hb : row.length ≤ 1000000) :
    Calls Tryz.prog 16 #[Pt wb] w fun e w' => e = .returned (Pt (ad (lst row))) ∧ Below w.heap.size w w' := by
  obtain ⟨-, rv, lv, ms, h1, h2, h3, h4⟩ := h
  obtain ⟨m, p, hm, hp, hlst⟩ := ms_last h3.1 hr
  have hmet := h3.2 _ m p hm hp
  have hq : w.cell? ⟨m, 1, none⟩ = some (Pt (ad p.2)) := by rw [cell_of_row w m 1 _ _ _ hmet]; rfl
  have c0 : w.cell? ⟨wb, 0, none⟩ = some rv := by rw [cell_of_row w wb 0 _ _ _ h1]; rfl
  obtain ⟨g, c, cs, hrv, -⟩ := id h2
  rw [hrv] at h2 c0
  have hn0 : 0 < ms.length := by rw [h3.1]; exact List.length_pos_iff.2 hr
  have hn1 : ms.length ≤ 1000000 := by rw [h3.1]; exact hb
  have hcl : w.cell? ⟨g, ms.length - 1, none⟩ = some (Pt m) := h2.cell (by rw [List.getElem?_map, hm]; rfl)
  rw [List.length_map] at c0
  rw [hlst]
  obtain ⟨k, hk⟩ : ∃ k, k = ms.length := ⟨_, rfl⟩
  rw [← hk] at c0 hcl hn0 hn1
  have hw : IntKind.i64.wrap ((k : Int) - 1) = ((k - 1 : Nat) : Int) := by rw [wrap_small _ (by omega) (by omega)]; omega
  obtain ⟨q, hq2⟩ : ∃ q, q = k - 1 := ⟨_, rfl⟩
  rw [← hq2] at hcl hw
  have hi0 : (0 : Int) ≤ (q : Int) := by omega
  have hi1 : (q : Int) < (k : Int) := by omega
  have E0 := fun dd os => ext_cell c0 dd os
  have E1 := fun dd os => ext_cell hcl dd os
  have E2 := fun dd os => ext_cell hq dd os
  clear h1 h2 h3 h4 hm hp hmet hlst hrv hk hq2
  go_enter Tryz.func16, Tryz.ntmps16
  go_wp2_with fail
  refine region_ext (by kernel_rfl) (by kernel_rfl) ?_
  repeat (any_goals (first | go_big_quiet_step (fail) | quiet_step (fail)))
  refine wpQuiet_nil ?_
  intro w7 hw7
  have AB := aside hw7
  clear hw7 E0 E1 E2
  go_wp2_with fail
  go_ret
  exact ⟨rfl, AB.out⟩
end Go.Proofs.YtknjclekfmmfeabGreatDoor

namespace Go.Proofs.YtknjclekfmmfeabGreatDoor
open Go.RowKit Go.ChangeMaps Go.Shelf

theorem set_row {w : World} {wb : Nat} {cs : Array Value} {T : TypeId} (h : w.heap[wb]? = some (.cells cs T (0, 0))) (i : Nat) (v : Value) : (w.setCell ⟨wb, i, none⟩ v).heap[wb]? = some (.cells (cs.setIfInBounds i v) T (0, 0)) := by
  have := set_same (i := i) (v := v) h
  simpa using this
theorem other_block {w : World} {a b : Nat} {ca cb : Array Value} {T U : TypeId} (ha : w.heap[a]? = some (.cells ca T (0, 0))) (hb : w.heap[b]? = some (.cells cb U (0, 0))) (h : T ≠ U) : a ≠ b := fun e => by
  rw [e, hb] at ha
  injection ha with ha
  injection ha with h1 h2
  exact h h2.symm
theorem MsAt.take {w : World} {ad : Nat → Nat} {ms : List Nat} {row : Row} (h : MsAt w ad ms row) (k : Nat) : MsAt w ad (ms.take k) (row.take k) := by
  refine ⟨by rw [List.length_take, List.length_take, h.1], fun j m p h1 h2 => ?_⟩
  rw [List.getElem?_take] at h1 h2
  split at h1
  · next hj => rw [if_pos hj] at h2; exact h.2 j m p h1 h2
  · cases h1
theorem MsAt.snoc {w : World} {ad : Nat → Nat} {ms : List Nat} {row : Row} (h : MsAt w ad ms row) {b : Nat} {x : B} {i : Nat} (hb : w.heap[b]? = some (Obj.cells #[.string (ba x), Pt (ad i)] 71 (0, 0))) : MsAt w ad (ms ++ [b]) (row ++ [(x, i)]) := by
  refine ⟨by simp [h.1], fun j m p h1 h2 => ?_⟩
  by_cases hj : j < ms.length
  · rw [List.getElem?_append_left hj] at h1
    rw [List.getElem?_append_left (by rw [← h.1]; exact hj)] at h2
    exact h.2 j m p h1 h2
  · rw [List.getElem?_append_right (by omega)] at h1
    rw [List.getElem?_append_right (by rw [← h.1]; omega), ← h.1] at h2
    cases hz : j - ms.length with
    | zero =>
      rw [hz] at h1 h2
      simp only [List.getElem?_cons_zero, Option.some.injEq] at h1 h2
      subst h1; subst h2
      exact hb
    | succ z => rw [hz] at h1; simp at h1
theorem elemM : Tryz.prog.underlying 72 = some (.slice (Tryz.prog.elem 72)) := by kernel_rfl
theorem sizeM (w : World) : (sizeOf (Tryz.prog.elem 72)).run Tryz.prog w = .ok 1 w := by kernel_rfl
theorem elemS : Tryz.prog.underlying 55 = some (.slice (Tryz.prog.elem 55)) := by kernel_rfl
theorem sizeS (w : World) : (sizeOf (Tryz.prog.elem 55)).run Tryz.prog w = .ok 1 w := by kernel_rfl
theorem infoM : (Tryz.prog.info? 69).map (fun i => (i.zero, i.size, i.bytes)) = some (some (.pointer none), 1, 8) := by kernel_rfl
/-- row[:k:k] -/
theorem slice_hm (t : TypeId) (ht : Tryz.prog.underlying t = some (.slice (Tryz.prog.elem t))) (hs : ∀ w, (sizeOf (Tryz.prog.elem t)).run Tryz.prog w = .ok 1 w) (a : Option Addr) (n c k : Nat) (hk : k ≤ c) :
    ∀ W, (Instr.slice t (.slice a n c) none (some (.int .i64 (k : Int))) (some (.int .i64 (k : Int)))).run Tryz.prog W = .ok (.slice a k k) W := by
  intro W
  rw [run_slice_hm W t a n c ht .i64 .i64 _ _ (by omega) (by omega) (by omega), hs]
  simp only [Result.andThen, sliced, Int.toNat_natCast, Nat.sub_zero, Nat.zero_mul]
  have e : (if k = 0 then a else a.map fun x => x.add 0) = a := by
    split
    · rfl
    · cases a with
      | none => rfl
      | some x => simp [Addr.add]
  rw [e]
set_option maxRecDepth 20000 in
set_option maxHeartbeats 2000000 in
theorem keep_any {w : World} {lo wb : Nat} {ad : Nat → Nat} {row : Row} {l : List B} {n : Nat} (h : WkAt w lo wb ad row l n) (k : Nat) (hk : k ≤ row.length) :
    Calls Tryz.prog 31 #[Pt wb, .int .i64 (k : Int)] w fun e w' => e = .returned (.tuple #[]) ∧ WkAt w' lo wb ad (row.take k) l n ∧ Below lo w w' := by
  obtain ⟨hlo, rv, lv, ms, h1, h2, h3, h4⟩ := h
  obtain ⟨g, c, cs, hrv, r1, r2, r3, r4⟩ := id h2
  rw [List.length_map] at hrv r3
  have hms := h3.1
  have hkc : k ≤ c := by omega
  have c0 : w.cell? ⟨wb, 0, none⟩ = some (.slice (some ⟨g, 0, none⟩) ms.length c) := by rw [cell_of_row w wb 0 _ _ _ h1, hrv]; rfl
  have f0 := frozen_of_row w wb 0 _ _ h1
  have hs := slice_hm 72 elemM sizeM (some ⟨g, 0, none⟩) ms.length c k hkc
  have AK : Aside (WkAt (w.setCell ⟨wb, 0, none⟩ (.slice (some ⟨g, 0, none⟩) k k)) lo wb ad (row.take k) l n) := by
    have hf : ∀ (g' : Nat) (cs' : Array Value) (T : TypeId), T ≠ 74 → w.heap[g']? = some (Obj.cells cs' T (0, 0)) → (w.setCell ⟨wb, 0, none⟩ (.slice (some ⟨g, 0, none⟩) k k)).heap[g']? = w.heap[g']? := fun g' cs' T hT hg => (set_far hg (other_block hg h1 hT)).trans hg.symm
    refine ⟨hlo, _, lv, ms.take k, set_row h1 0 _, ?_, (h3.take k).keep (fun g' cs' => hf g' cs' _ (by decide)), h4.keep (fun g' cs' => hf g' cs' _ (by decide))⟩
    rw [List.map_take]
    exact (RwAt.take (by rw [hrv] at h2; exact h2) k (by rw [List.length_map]; omega)).keep (fun g' cs' => hf g' cs' _ (by decide))
  have AB : Aside (Below lo w (w.setCell ⟨wb, 0, none⟩ (.slice (some ⟨g, 0, none⟩) k k))) := (Upd.setCell (F := fun j => j = wb) (p := ⟨wb, 0, none⟩) rfl _).below (by have := (Array.getElem?_eq_some_iff.1 h1).1; omega) (fun j hj => by omega)
  clear h1 h2 h3 h4 r1 r2 r3 r4 hrv
  go_enter Tryz.func31, Tryz.ntmps31
  go_wp2_with fail
  go_end0
  exact ⟨rfl, AK.out, AB.out⟩
theorem wpList_append_run {w : World} {ops : Array Oper} {rest : List Oper} {o : Oper} {a : Act} {Q : Exit → Act → World → Prop} (hgd : o.guard = none) (s x : Operand) (t : TypeId)
    (ho : o.op = .call { callee := .builtin .append, args := #[s, x], argTypes := #[t, t] }) (v u : Value) (hs : a.eval s = v) (hx : a.eval x = u) {v' : Value} {w' : World}
    (hr : (Builtin.append_ #[t, t] o.type #[v, u]).run Tryz.prog w = .ok v' w') (h : wpList Tryz.prog ops Q rest (a.put o.dst v') w') : wpList Tryz.prog ops Q (o :: rest) a w := by
  refine wpList_plain hgd fun K hK => ?_
  unfold Oper.wp execOp
  simp only [ho, resolve, invoke, builtin, Sem.run_bind, Sem.run_pure, Result.andThen_ok, List.map_toArray, List.map_cons, List.map_nil, hs, hx, hr]
  exact hK _ _ h
set_option maxRecDepth 20000 in
set_option maxHeartbeats 2000000 in
theorem stand_any {w : World} {lo wb : Nat} {ad : Nat → Nat} {row : Row} {l : List B} {n : Nat} (h : WkAt w lo wb ad row l n) (x : B) (i : Nat) (hr : row.length ≤ 1000000) :
    Calls Tryz.prog 34 #[Pt wb, .string (ba x), Pt (ad i)] w fun e w' => e = .returned (.tuple #[]) ∧ WkAt w' lo wb ad (row ++ [(x, i)]) l n ∧ Below lo w w' := by
  obtain ⟨hlo, rv, lv, ms, h1, h2, h3, h4⟩ := h
  have hms := h3.1
  have hwl := (Array.getElem?_eq_some_iff.1 h1).1
  have c0 : w.cell? ⟨wb, 0, none⟩ = some rv := by rw [cell_of_row w wb 0 _ _ _ h1]; rfl
  obtain ⟨W, hW⟩ : ∃ W, W = (w.alloc (.cells #[.string (ba x), Pt (ad i)] 71)).alloc (.cells #[Pt w.heap.size] 69) := ⟨_, rfl⟩
  have hB : Below w.heap.size w W := by rw [hW]; exact below_tr (below_al w _) (below_al _ _)
  have hWs : W.heap.size = w.heap.size + 2 := by rw [hW]; simp
  have hm0 : W.heap[w.heap.size]? = some (.cells #[.string (ba x), Pt (ad i)] 71 (0, 0)) := by
    rw [hW, (below_al _ _).block _ (by simp)]; exact heap_alloc_new w _
  have hs0 : W.heap[w.heap.size + 1]? = some (.cells #[Pt w.heap.size] 69 (0, 0)) := by rw [hW]; exact heap_alloc2_new w _ _
  have hsc : W.cell? ⟨w.heap.size + 1, 0, none⟩ = some (Pt w.heap.size) := by rw [cell_of_row W _ 0 _ _ _ hs0]; rfl
  have k2 := h2.keep (fun g cs hg => hB.block g (Array.getElem?_eq_some_iff.1 hg).1)
  have k1 : W.heap[wb]? = _ := (hB.block _ hwl).trans h1
  have k3 := h3.keep (fun g cs hg => hB.block g (Array.getElem?_eq_some_iff.1 hg).1)
  have k4 := h4.keep (fun g cs hg => hB.block g (Array.getElem?_eq_some_iff.1 hg).1)
  obtain ⟨v', w', hrun, r1, r2⟩ := k2.append (by omega) 72 72 (.pointer none) 8 Tryz.underlying72 infoM rfl ⟨w.heap.size + 1, 0, none⟩ 1 (Pt w.heap.size) hsc rfl (by rw [List.length_map]; omega) (by omega)
  obtain ⟨vk, vc, vs, hv, -⟩ := id r1
  have hf : ∀ (g : Nat) (cs : Array Value) (T : TypeId), T ≠ 69 → W.heap[g]? = some (Obj.cells cs T (0, 0)) → w'.heap[g]? = W.heap[g]? := fun g cs T hT hg => r2.block g (Array.getElem?_eq_some_iff.1 hg).1 (fun ⟨_, cs', e⟩ => other_block hg e hT rfl)
  have j1 : w'.heap[wb]? = _ := (hf wb _ _ (by decide) k1).trans k1
  have f0 := frozen_of_row w' wb 0 _ _ j1
  have d0 : w'.cell? ⟨wb, 0, none⟩ = some rv := by rw [cell_of_row w' wb 0 _ _ _ j1]; rfl
  have AK : Aside (WkAt (w'.setCell ⟨wb, 0, none⟩ v') lo wb ad (row ++ [(x, i)]) l n) := by
    have hf2 : ∀ (g' : Nat) (cs' : Array Value) (T : TypeId), T ≠ 74 → w'.heap[g']? = some (Obj.cells cs' T (0, 0)) → (w'.setCell ⟨wb, 0, none⟩ v').heap[g']? = w'.heap[g']? := fun g' cs' T hT hg => (set_far hg (other_block hg j1 hT)).trans hg.symm
    refine ⟨hlo, _, lv, ms ++ [w.heap.size], set_row j1 0 _, ?_, ?_, ?_⟩
    · rw [List.map_append]
      exact r1.keep (fun g cs => hf2 g cs _ (by decide))
    · exact ((k3.snoc hm0).keep (fun g cs => hf g cs _ (by decide))).keep (fun g cs => hf2 g cs _ (by decide))
    · exact (k4.keep (fun g cs => hf g cs _ (by decide))).keep (fun g cs => hf2 g cs _ (by decide))
  have AB : Aside (Below lo w (w'.setCell ⟨wb, 0, none⟩ v')) :=
    (hB.mono (by omega)).trans ((r2.below (B := lo) (by omega) (fun k hk => hk.1)).trans ((Upd.setCell (F := fun j => j = wb) (p := ⟨wb, 0, none⟩) rfl _).below (by have := r2.size; omega) (fun j hj => by omega)))
  obtain ⟨vn, hvn⟩ : ∃ vn, vn = (ms.map Pt ++ [Pt w.heap.size]).length := ⟨_, rfl⟩
  rw [← hvn] at hv
  clear hvn
  subst hv
  clear h1 h2 h3 h4 k1 k2 k3 k4 r1 r2 hf j1 hB hm0 hs0
  go_enter Tryz.func34, Tryz.ntmps34
  go_wp2_with (at_builtin; rw [← hW]; refine wpList_append_run rfl _ _ _ rfl rv _ rfl rfl hrun ?_)
  go_end0
  exact ⟨rfl, AK.out, AB.out⟩
end Go.Proofs.YtknjclekfmmfeabGreatDoor

namespace Go.Proofs.YtknjclekfmmfeabGreatDoor
open Go.RowKit Go.ChangeMaps Go.Shelf

set_option maxRecDepth 20000 in
set_option maxHeartbeats 2000000 in
theorem find_any {w : World} {ad : Nat → Nat} {G : Gr} (h : GAt w G ad) {i : Nat} (hi : i < G.length) (hk : (nk G i).k = 1) (x : B) :
    Calls Tryz.prog 32 #[Pt (ad i), .string (ba x)] w fun e w' => (nameOk (ba x) = false → e = .returned (.tuple #[.pointer none, .int .i64 190])) ∧ (nameOk (ba x) = true → e = .returned (match lkp (nk G i).L x with | some j => .tuple #[Pt (ad j), .int .i64 0] | none => .tuple #[.pointer none, .int .i64 192])) ∧ Below w.heap.size w w' := by
  have AC := aside (check_any (ba x) w)
  have AG : Aside (∀ W, Below w.heap.size w W → Calls Tryz.prog 60 #[Pt (ad i), .string (ba x)] W fun e w' => e = .returned (match lkp (nk G i).L x with | some j => .tuple #[Pt (ad j), .int .i64 0] | none => .tuple #[.pointer none, .int .i64 192]) ∧ w' = W) := fun W hW => get_at (h.below hW) hi hk x
  obtain ⟨r, hr⟩ : ∃ r : Value, r = (match lkp (nk G i).L x with | some j => .tuple #[Pt (ad j), .int .i64 0] | none => .tuple #[.pointer none, .int .i64 192]) := ⟨_, rfl⟩
  obtain ⟨p, q, hpq⟩ : ∃ p q, r = .tuple #[p, q] := by
    rw [hr]
    cases lkp (nk G i).L x with
    | none => exact ⟨_, _, rfl⟩
    | some j => exact ⟨_, _, rfl⟩
  rw [← hr] at AG ⊢
  subst hpq
  obtain ⟨X, hX⟩ : ∃ X, X = ba x := ⟨_, rfl⟩
  obtain ⟨D, hD⟩ : ∃ D, D = ad i := ⟨_, rfl⟩
  rw [← hX, ← hD] at AG ⊢
  rw [← hX] at AC
  clear h hr hX hD
  by_cases hn : nameOk X = true
  · rw [if_pos hn] at AC
    go_enter Tryz.func32, Tryz.ntmps32
    go_wp2_with fail
    refine AC.out.mono ?_
    rintro e w1 ⟨rfl, hb⟩
    have AB := aside hb
    clear hb
    go_wp2_with fail
    refine (AG.out _ AB.out).mono ?_
    rintro e w2 ⟨rfl, rfl⟩
    go_wp2_with fail
    go_ret2
    exact ⟨(fun e => by rw [hn] at e; cases e), fun _ => rfl, AB.out⟩
  · rw [if_neg hn] at AC
    go_enter Tryz.func32, Tryz.ntmps32
    go_wp2_with fail
    refine AC.out.mono ?_
    rintro e w1 ⟨rfl, hb⟩
    have AB := aside hb
    clear hb
    go_wp2_with fail
    go_ret2
    exact ⟨fun _ => rfl, fun e => absurd e hn, AB.out⟩
theorem Xra : Builder.Extra Tryz.prog lays156_ren where
  sizeBuilder := by kernel_rfl
  liesBuilder := by kernel_rfl
  t5 := by kernel_rfl
  a5 := fun _ => by kernel_rfl
  z5 := fun _ => by kernel_rfl
  v5 := fun _ => by kernel_rfl
  infoByte := by kernel_rfl
  cellsByte := by kernel_rfl
  sizeByte := by kernel_rfl
  neB5 := by decide
theorem pre47 (s : B) : Lib.hasPrefix s [47] = abso s := by
  cases s with
  | nil => rfl
  | cons c s =>
    by_cases hc : c = 47
    · subst hc; rfl
    · have h1 : ((47 : UInt8) == c) = false := beq_eq_false_iff_ne.2 (fun e => hc e.symm)
      have h2 : (c == (47 : UInt8)) = false := beq_eq_false_iff_ne.2 hc
      show ((47 : UInt8) == c && List.isPrefixOf [] s) = (c == (47 : UInt8))
      rw [h1, h2]; rfl
theorem hasPrefix_any (s : B) (w : World) : Calls Tryz.prog 62 #[.string (ba s), .string ⟨#[47]⟩] w fun e w' => e = .returned (.bool (abso s)) ∧ w' = w := by
  have h := Any.strings_HasPrefix (ρ := lays99_ren) lays99 (ba s) ⟨#[47]⟩ w
  refine Calls.mono h ?_
  rintro e w' ⟨rfl, rfl⟩
  refine ⟨?_, rfl⟩
  rw [ba_list]
  rw [show (⟨#[47]⟩ : ByteArray).data.toList = [47] from rfl, pre47]
end Go.Proofs.YtknjclekfmmfeabGreatDoor

namespace Go.Proofs.YtknjclekfmmfeabGreatDoor
open Go.RowKit Go.ChangeMaps Go.Shelf

/-- A cell of the walk's own is set: all else stays. -/
theorem wk_far {w : World} {wb : Nat} {cs : Array Value} (h1 : w.heap[wb]? = some (.cells cs 74 (0, 0))) (i : Nat) (v : Value) (g : Nat) (ds : Array Value) (T : TypeId) (hT : T ≠ 74) (hg : w.heap[g]? = some (Obj.cells ds T (0, 0))) : (w.setCell ⟨wb, i, none⟩ v).heap[g]? = w.heap[g]? := (set_far hg (other_block hg h1 hT)).trans hg.symm
theorem wk_below {w : World} {lo wb : Nat} {cs : Array Value} (h1 : w.heap[wb]? = some (.cells cs 74 (0, 0))) (hlo : lo ≤ wb) (i : Nat) (v : Value) : Below lo w (w.setCell ⟨wb, i, none⟩ v) :=
  (Upd.setCell (F := fun j => j = wb) (p := ⟨wb, i, none⟩) rfl _).below (by have := (Array.getElem?_eq_some_iff.1 h1).1; omega) (fun j hj => by omega)
theorem StAt.src {w : World} {lv : Value} {l : List B} (h : StAt w lv l) : SrcAt w lv l.length (l.map enS) := by
  obtain ⟨a, c, rfl, -, h⟩ := h
  refine ⟨a, c, rfl, fun h0 => ?_⟩
  obtain ⟨g, o, cs, rfl, h1, h2⟩ := h (fun e => by rw [e] at h0; simp at h0)
  refine ⟨_, rfl, fun j u hj => ?_⟩
  rw [List.getElem?_map, Option.map_eq_some_iff] at hj
  obtain ⟨x, hx, rfl⟩ := hj
  rw [Addr.add_lit, cell_of_row w g _ _ _ _ h1]
  exact h2 j x hx
theorem enS_one (l : List B) : ∀ u ∈ l.map enS, u.oneCell' = true := fun u hu => by
  obtain ⟨x, -, rfl⟩ := List.mem_map.1 hu
  rfl
theorem run_append_any {P : Program} (w : World) (t ty e : TypeId) (z : Value) (size bytes : Nat) (ht : P.underlying t = some (.slice e)) (hinfo : (P.info? e).map (fun i => (i.zero, i.size, i.bytes)) = some (some z, size, bytes))
    (hzs : z.cells.size = size) (hsz : 0 < size) (v : Value) (n : Nat) (xs : List Value) (hown : w.ownsRow 0 e size v n xs)
    (xv : Value) (m : Nat) (news : List Value) (hl : news.length = m * size) (hnews : SrcAt w xv m news) (h1 : ∀ u ∈ news, u.oneCell' = true)
    (h63 : n + m ≤ maxLen) (hbytes : (n + m) * bytes ≤ 140737488355328) :
    ∃ v' w', (Builtin.append_ #[t, t] ty #[v, xv]).run P w = .ok v' w' ∧ w'.ownsRow 0 e size v' (n + m) (xs ++ news) ∧ Upd (fun k => v.ownBlock = some k) w w' := by
  obtain ⟨xa, c, rfl, hsrc⟩ := hnews
  rcases Nat.eq_zero_or_pos m with rfl | hm
  · obtain rfl : news = [] := List.eq_nil_of_length_eq_zero (by rw [hl]; omega)
    obtain ⟨i, hi, -⟩ := info_parts hinfo
    obtain ⟨ba, cap, rfl, hnc⟩ := own_slice hown
    exact ⟨_, w, run_append_zero w t ty e i ht hi ba n cap hnc xa c, by simpa using hown, Upd.refl _ _⟩
  · obtain ⟨ad, rfl, hc⟩ := hsrc hm
    obtain ⟨v', w', hr, h2, h3, -⟩ := run_append_where (P := P) w t ty e z size bytes ht hinfo hzs hsz v n xs hown ad m c news hl hc h1 h63 hbytes hm
    exact ⟨v', w', hr, h2, Upd.of_grown h3 fun k hk => hk⟩
theorem step_append_any {ops : Array Oper} {o : Oper} {a : Act} {w : World} {K : Act → World → Prop} {Q : Exit → Act → World → Prop} {E : Prop} (hgd : o.guard = none) (s x : Operand) (t : TypeId)
    (ho : o.op = .call { callee := .builtin .append, args := #[s, x], argTypes := #[t, t] }) (e : TypeId) (z : Value) (size bytes : Nat) (ht : Tryz.prog.underlying t = some (.slice e)) (hinfo : (Tryz.prog.info? e).map (fun i => (i.zero, i.size, i.bytes)) = some (some z, size, bytes))
    (hzs : z.cells.size = size) (hsz : 0 < size) (v : Value) (n : Nat) (xs : List Value) (hs : a.eval s = v) (hown : w.ownsRow 0 e size v n xs)
    (xv : Value) (m : Nat) (news : List Value) (hx : a.eval x = xv) (hl : news.length = m * size) (hnews : SrcAt w xv m news) (h1 : ∀ u ∈ news, u.oneCell' = true)
    (h63 : n + m ≤ maxLen) (hbytes : (n + m) * bytes ≤ 140737488355328)
    (h : ∀ a' c' w', w'.ownsRow 0 e size (.slice a' (n + m) c') (n + m) (xs ++ news) → Upd (fun k => v.ownBlock = some k) w w' → K (a.put o.dst (.slice a' (n + m) c')) w') :
    if Region.wanted o (yielded ops a.tmps) = true then Oper.wp Tryz.prog o a w K Q else E := by
  have hw : Region.wanted o (yielded ops a.tmps) = true := by simp [Region.wanted, hgd]
  rw [if_pos hw]
  obtain ⟨v', w', hr, h2, h3⟩ := run_append_any (P := Tryz.prog) w t o.type e z size bytes ht hinfo hzs hsz v n xs hown xv m news hl hnews h1 h63 hbytes
  obtain ⟨a', c', rfl, -⟩ := own_slice h2
  unfold Oper.wp
  simp [execOp, ho, resolve, invoke, builtin, hs, hx, hr, Result.andThen]
  exact h a' c' w' h2 h3
/-- The parts of a link ahead of what is left. -/
theorem lead_end {w W w4 : World} {lo wb : Nat} {ad : Nat → Nat} {row : Row} {l p : List B} {n : Nat} {rv lv : Value} {ms : List Nat} (hlo : lo ≤ wb) (h1 : w.heap[wb]? = some (.cells #[rv, lv, .int .i64 (n : Int)] 74 (0, 0))) (h2 : RwAt w lo 69 rv (ms.map Pt)) (h3 : MsAt w ad ms row) {c3 : Nat} (hb : Below w.heap.size w W)
    {a' : Option Addr} {k' c' : Nat} (ho4 : w4.ownsRow 0 9 1 (.slice a' k' c') (p.length + l.length) (p.map enS ++ l.map enS)) (hu : Upd (fun k => (Value.slice (some ⟨w.heap.size, 0, none⟩) p.length c3).ownBlock = some k) W w4) :
    WkAt (w4.setCell ⟨wb, 1, none⟩ (.slice a' k' c')) lo wb ad row (p ++ l) n ∧ Below lo w (w4.setCell ⟨wb, 1, none⟩ (.slice a' k' c')) ∧ w4.cell? ⟨wb, 1, none⟩ = some lv ∧ w4.frozen? ⟨wb, 1, none⟩ = false := by
  have hwl := (Array.getElem?_eq_some_iff.1 h1).1
  have hf : ∀ (g : Nat) (cs : Array Value) (T : TypeId), w.heap[g]? = some (Obj.cells cs T (0, 0)) → w4.heap[g]? = w.heap[g]? := fun g cs T hg => by
    have hgl := (Array.getElem?_eq_some_iff.1 hg).1
    refine (hu.block g (by have := hb.size; omega) (fun e => ?_)).trans (hb.block g hgl)
    simp only [Value.ownBlock, Option.some.injEq] at e
    omega
  have j1 := (hf wb _ _ h1).trans h1
  refine ⟨⟨hlo, rv, _, ms, set_row j1 1 _, ?_, ?_, ?_⟩, ?_, ?_, frozen_of_row w4 wb 1 _ _ j1⟩
  · exact (h2.keep (fun g cs => hf g cs _)).keep (fun g cs => wk_far j1 1 _ g cs _ (by decide))
  · exact (h3.keep (fun g cs => hf g cs _)).keep (fun g cs => wk_far j1 1 _ g cs _ (by decide))
  · have : StAt w4 (.slice a' k' c') (p ++ l) := StAt.of_own (b := 0) (n := p.length + l.length) (by rw [List.map_append]; exact ho4)
    exact this.keep (fun g cs => wk_far j1 1 _ g cs _ (by decide))
  · refine ((hb.mono (by omega)).trans (hu.below (B := lo) (by have := hb.size; omega) (fun k hk => ?_))).trans (wk_below j1 hlo 1 _)
    simp only [Value.ownBlock, Option.some.injEq] at hk
    omega
  · rw [cell_of_row w4 wb 1 _ _ _ j1]; rfl
set_option maxRecDepth 20000 in
set_option maxHeartbeats 4000000 in
theorem lead_any {w : World} {lo wb : Nat} {ad : Nat → Nat} {row : Row} {l : List B} {n : Nat} {G : Gr} (h : WkAt w lo wb ad row l n) (hG : ∀ W, Below lo w W → GAt W G ad) (hM : ∀ W, Below lo w W → Mxl W) {i : Nat} (hi : i < G.length) (hk : (nk G i).k = 2) (hn : n ≤ 16) (hl : l.length ≤ 1000000) (hr : row ≠ []) :
    Calls Tryz.prog 35 #[Pt wb, Pt (ad i)] w fun e w' => e = .returned (.tuple #[]) ∧ WkAt w' lo wb ad (if abso (nk G i).to = true then row.take 1 else row) (prt (nk G i).to ++ l) (n + 1) ∧ Below lo w w' := by
  obtain ⟨hlo, rv, lv, ms, h1, h2, h3, h4⟩ := h
  have hwl := (Array.getElem?_eq_some_iff.1 h1).1
  obtain ⟨hto0, hto⟩ := to_at (hG w (Below.refl _ _)) hi hk
  have c2 : w.cell? ⟨wb, 2, none⟩ = some (.int .i64 (n : Int)) := by rw [cell_of_row w wb 2 _ _ _ h1]; rfl
  have f2 := frozen_of_row w wb 2 _ _ h1
  have hw1 : IntKind.i64.wrap ((n : Int) + 1) = (n : Int) + 1 := wrap_small _ (by omega) (by omega)
  obtain ⟨U, hU⟩ : ∃ U, U = w.setCell ⟨wb, 2, none⟩ (.int .i64 ((n : Int) + 1)) := ⟨_, rfl⟩
  have AW1 : Aside (WkAt U lo wb ad row l (n + 1)) := by
    rw [hU]
    exact ⟨hlo, rv, lv, ms, set_row h1 2 _, h2.keep (fun g cs => wk_far h1 2 _ g cs _ (by decide)), h3.keep (fun g cs => wk_far h1 2 _ g cs _ (by decide)), h4.keep (fun g cs => wk_far h1 2 _ g cs _ (by decide))⟩
  have AB1 : Aside (Below lo w U) := by rw [hU]; exact wk_below h1 hlo 2 _
  have AG := aside hG
  have AM := aside hM
  have hrl : 1 ≤ row.length := List.length_pos_iff.2 hr
  have hT : ∀ W, Below lo w W → Calls Tryz.prog 61 #[Pt (ad i)] W fun e w' => e = .returned (.tuple #[.string (ba (nk G i).to), .int .i64 0]) ∧ w' = W := fun W hW => leads_at (hG W hW) hi hk
  obtain ⟨to, hte⟩ : ∃ to, to = (nk G i).to := ⟨_, rfl⟩
  rw [← hte] at hT hto ⊢
  have AT := aside hT
  obtain ⟨r2, hr2⟩ : ∃ r2, r2 = if abso to = true then row.take 1 else row := ⟨_, rfl⟩
  have AR := aside hr2
  rw [← hr2]
  have hlw : lo ≤ w.heap.size := by omega
  obtain ⟨D, hD⟩ : ∃ D, D = ad i := ⟨_, rfl⟩
  rw [← hD] at AT ⊢
  clear h1 h2 h3 h4 hG hM hT hte hD hr2
  go_enter Tryz.func35, Tryz.ntmps35
  go_wp2_with fail
  rw [← hU]
  clear hU c2 f2 hw1 hwl
  refine (AT.out _ AB1.out).mono ?_
  rintro e w1 ⟨rfl, rfl⟩
  go_wp2_with fail
  refine (hasPrefix_any to _).mono ?_
  rintro e w1 ⟨rfl, rfl⟩
  clear AT
  cases ha : abso to with
  | true =>
    go_wp2_with fail
    refine (keep_any AW1.out 1 hrl).mono ?_
    rintro e w2 ⟨rfl, hk2, hb2⟩
    have AB2 := aside (AB1.out.trans hb2)
    have hsz := hb2.size
    obtain ⟨-, rv2, lv2, ms2, g1, g2, g3, g4⟩ := hk2
    have c1 : w2.cell? ⟨wb, 1, none⟩ = some lv2 := by rw [cell_of_row w2 wb 1 _ _ _ g1]; rfl
    have hwb2 := (Array.getElem?_eq_some_iff.1 g1).1
    have A1 := aside g1
    have A2 := aside g2
    have A3 := aside g3
    have A4 := aside g4
    have hM2 : Mxl w2.drew := AM.out _ (AB2.out.trans ((below_dr w2).mono (by omega)))
    have AMX := aside hM2
    have hpl := prt_len to
    have APL := aside hpl
    clear g1 g2 g3 g4 hM2 hpl
    go_wp2_with fail
    obtain ⟨kp, hkp⟩ : ∃ kp, kp = (prt to).length := ⟨_, rfl⟩
    have AP : Aside (∀ W, Mxl W → Calls Tryz.prog 21 #[.string (ba to)] W fun e w' => ∃ c, e = .returned (.slice (some ⟨W.heap.size, 0, none⟩) kp c) ∧ Below W.heap.size W w' ∧ w'.ownsRow 0 9 1 (.slice (some ⟨W.heap.size, 0, none⟩) kp c) kp ((prt to).map enS)) := fun W hW => by rw [hkp]; exact parts_any to W hW hto
    have AKP := aside hkp
    clear hkp
    go_region_law (first
      | (refine step_append_any (w := w3) rfl _ _ 55 rfl 9 (.string ByteArray.empty) 1 16 Tryz.underlying55 infoS rfl (by omega) (.slice (some ⟨w2.heap.size, 0, none⟩) kp c3) kp ((prt to).map enS) rfl AO3.out lv2 l.length (l.map enS) rfl (by simp) (StAt.src (A4.out.keep (fun g _ hg => AB3.out.block g (Array.getElem?_eq_some_iff.1 hg).1))) (enS_one l) (by have h1 := APL.out; have h2 := AKP.out; unfold maxLen; omega) (by have h1 := APL.out; have h2 := AKP.out; omega) ?_; intro a4 c4 w4 ho4 hu4; obtain ⟨hW4, hB4, k4, hf4⟩ := lead_end hlo A1.out A2.out A3.out (below_tr (below_dr w2) AB3.out) (p := prt to) (l := l) (c3 := c3) (by rw [← AKP.out]; exact ho4) (by rw [← AKP.out]; exact hu4); have AW4 := aside hW4; have AB4 := aside hB4; clear ho4 hu4 hW4 hB4)
      | (go_simp; refine (AP.out _ AMX.out).mono ?_; rintro e w3 ⟨c3, rfl, hb3, ho3⟩; have k1 : w3.cell? ⟨wb, 1, none⟩ = some lv2 := (hb3.cell (p := ⟨wb, 1, none⟩) hwb2).trans c1; have AB3 := aside hb3; have AO3 := aside ho3; clear hb3 ho3))
    all_goals (go_wp2_with fail)
    all_goals go_end0
    all_goals exact ⟨rfl, by rw [AR.out, ha]; exact AW4.out, AB2.out.trans AB4.out⟩
  | false =>
    obtain ⟨w2, hw2⟩ : ∃ w2, w2 = w1 := ⟨_, rfl⟩
    rw [← hw2] at AW1 AB1 ⊢
    clear hw2
    have AB2 := aside AB1.out
    have hsz := AB1.out.size
    obtain ⟨-, rv2, lv2, ms2, g1, g2, g3, g4⟩ := AW1.out
    have c1 : w2.cell? ⟨wb, 1, none⟩ = some lv2 := by rw [cell_of_row w2 wb 1 _ _ _ g1]; rfl
    have hwb2 := (Array.getElem?_eq_some_iff.1 g1).1
    have A1 := aside g1
    have A2 := aside g2
    have A3 := aside g3
    have A4 := aside g4
    have hM2 : Mxl w2.drew := AM.out _ (AB2.out.trans ((below_dr w2).mono (by omega)))
    have AMX := aside hM2
    have hpl := prt_len to
    have APL := aside hpl
    clear g1 g2 g3 g4 hM2 hpl
    go_wp2_with fail
    obtain ⟨kp, hkp⟩ : ∃ kp, kp = (prt to).length := ⟨_, rfl⟩
    have AP : Aside (∀ W, Mxl W → Calls Tryz.prog 21 #[.string (ba to)] W fun e w' => ∃ c, e = .returned (.slice (some ⟨W.heap.size, 0, none⟩) kp c) ∧ Below W.heap.size W w' ∧ w'.ownsRow 0 9 1 (.slice (some ⟨W.heap.size, 0, none⟩) kp c) kp ((prt to).map enS)) := fun W hW => by rw [hkp]; exact parts_any to W hW hto
    have AKP := aside hkp
    clear hkp
    go_region_law (first
      | (refine step_append_any (w := w3) rfl _ _ 55 rfl 9 (.string ByteArray.empty) 1 16 Tryz.underlying55 infoS rfl (by omega) (.slice (some ⟨w2.heap.size, 0, none⟩) kp c3) kp ((prt to).map enS) rfl AO3.out lv2 l.length (l.map enS) rfl (by simp) (StAt.src (A4.out.keep (fun g _ hg => AB3.out.block g (Array.getElem?_eq_some_iff.1 hg).1))) (enS_one l) (by have h1 := APL.out; have h2 := AKP.out; unfold maxLen; omega) (by have h1 := APL.out; have h2 := AKP.out; omega) ?_; intro a4 c4 w4 ho4 hu4; obtain ⟨hW4, hB4, k4, hf4⟩ := lead_end hlo A1.out A2.out A3.out (below_tr (below_dr w2) AB3.out) (p := prt to) (l := l) (c3 := c3) (by rw [← AKP.out]; exact ho4) (by rw [← AKP.out]; exact hu4); have AW4 := aside hW4; have AB4 := aside hB4; clear ho4 hu4 hW4 hB4)
      | (go_simp; refine (AP.out _ AMX.out).mono ?_; rintro e w3 ⟨c3, rfl, hb3, ho3⟩; have k1 : w3.cell? ⟨wb, 1, none⟩ = some lv2 := (hb3.cell (p := ⟨wb, 1, none⟩) hwb2).trans c1; have AB3 := aside hb3; have AO3 := aside ho3; clear hb3 ho3))
    all_goals (go_wp2_with fail)
    all_goals go_end0
    all_goals exact ⟨rfl, by rw [AR.out, ha]; exact AW4.out, AB2.out.trans AB4.out⟩
end Go.Proofs.YtknjclekfmmfeabGreatDoor
