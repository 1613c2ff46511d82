/- A walk in memory: keep, stand, find. -/
import Derived.Test.YtknjclekfmmfeaaDoorPwk
namespace Go.Proofs.YtknjclekfmmfeaaDoor
open Go.RowKit Go.ChangeMaps Go.Shelf

theorem set_row {w : World} {wb : Nat} {cs : Array Value} {T : TypeId} (h : w.heap[wb]? = some (.cells cs T (0, 0))) (i : Nat) (v : Value) : (w.setCell ⟨wb, i, none⟩ v).heap[wb]? = some (.cells (cs.setIfInBounds i v) T (0, 0)) := by
  have := set_same (i := i) (v := v) h
  simpa using this
theorem other_block {w : World} {a b : Nat} {ca cb : Array Value} {T U : TypeId} (ha : w.heap[a]? = some (.cells ca T (0, 0))) (hb : w.heap[b]? = some (.cells cb U (0, 0))) (h : T ≠ U) : a ≠ b := fun e => by
  rw [e, hb] at ha
  injection ha with ha
  injection ha with h1 h2
  exact h h2.symm
theorem MsAt.take {w : World} {ad : Nat → Nat} {ms : List Nat} {row : Row} (h : MsAt w ad ms row) (k : Nat) : MsAt w ad (ms.take k) (row.take k) := by
  refine ⟨by rw [List.length_take, List.length_take, h.1], fun j m p h1 h2 => ?_⟩
  rw [List.getElem?_take] at h1 h2
  split at h1
  · next hj => rw [if_pos hj] at h2; exact h.2 j m p h1 h2
  · cases h1
theorem MsAt.snoc {w : World} {ad : Nat → Nat} {ms : List Nat} {row : Row} (h : MsAt w ad ms row) {b : Nat} {x : B} {i : Nat} (hb : w.heap[b]? = some (Obj.cells #[.string (ba x), Pt (ad i)] 80 (0, 0))) : MsAt w ad (ms ++ [b]) (row ++ [(x, i)]) := by
  refine ⟨by simp [h.1], fun j m p h1 h2 => ?_⟩
  by_cases hj : j < ms.length
  · rw [List.getElem?_append_left hj] at h1
    rw [List.getElem?_append_left (by rw [← h.1]; exact hj)] at h2
    exact h.2 j m p h1 h2
  · rw [List.getElem?_append_right (by omega)] at h1
    rw [List.getElem?_append_right (by rw [← h.1]; omega), ← h.1] at h2
    cases hz : j - ms.length with
    | zero =>
      rw [hz] at h1 h2
      simp only [List.getElem?_cons_zero, Option.some.injEq] at h1 h2
      subst h1; subst h2
      exact hb
    | succ z => rw [hz] at h1; simp at h1
theorem elemM : Tryd.prog.underlying 81 = some (.slice (Tryd.prog.elem 81)) := by kernel_rfl
theorem sizeM (w : World) : (sizeOf (Tryd.prog.elem 81)).run Tryd.prog w = .ok 1 w := by kernel_rfl
theorem elemS : Tryd.prog.underlying 38 = some (.slice (Tryd.prog.elem 38)) := by kernel_rfl
theorem sizeS (w : World) : (sizeOf (Tryd.prog.elem 38)).run Tryd.prog w = .ok 1 w := by kernel_rfl
theorem infoM : (Tryd.prog.info? 78).map (fun i => (i.zero, i.size, i.bytes)) = some (some (.pointer none), 1, 8) := by kernel_rfl
/-- row[:k:k] -/
theorem slice_hm (t : TypeId) (ht : Tryd.prog.underlying t = some (.slice (Tryd.prog.elem t))) (hs : ∀ w, (sizeOf (Tryd.prog.elem t)).run Tryd.prog w = .ok 1 w) (a : Option Addr) (n c k : Nat) (hk : k ≤ c) :
    ∀ W, (Instr.slice t (.slice a n c) none (some (.int .i64 (k : Int))) (some (.int .i64 (k : Int)))).run Tryd.prog W = .ok (.slice a k k) W := by
  intro W
  rw [run_slice_hm W t a n c ht .i64 .i64 _ _ (by omega) (by omega) (by omega), hs]
  simp only [Result.andThen, sliced, Int.toNat_natCast, Nat.sub_zero, Nat.zero_mul]
  have e : (if k = 0 then a else a.map fun x => x.add 0) = a := by
    split
    · rfl
    · cases a with
      | none => rfl
      | some x => simp [Addr.add]
  rw [e]
set_option maxRecDepth 20000 in
set_option maxHeartbeats 2000000 in
theorem keep_any {w : World} {lo wb : Nat} {ad : Nat → Nat} {row : Row} {l : List B} {n : Nat} (h : WkAt w lo wb ad row l n) (k : Nat) (hk : k ≤ row.length) :
    Calls Tryd.prog 38 #[Pt wb, .int .i64 (k : Int)] w fun e w' => e = .returned (.tuple #[]) ∧ WkAt w' lo wb ad (row.take k) l n ∧ Below lo w w' := by
  obtain ⟨hlo, rv, lv, ms, h1, h2, h3, h4⟩ := h
  obtain ⟨g, c, cs, hrv, r1, r2, r3, r4⟩ := id h2
  rw [List.length_map] at hrv r3
  have hms := h3.1
  have hkc : k ≤ c := by omega
  have c0 : w.cell? ⟨wb, 0, none⟩ = some (.slice (some ⟨g, 0, none⟩) ms.length c) := by rw [cell_of_row w wb 0 _ _ _ h1, hrv]; rfl
  have f0 := frozen_of_row w wb 0 _ _ h1
  have hs := slice_hm 81 elemM sizeM (some ⟨g, 0, none⟩) ms.length c k hkc
  have AK : Aside (WkAt (w.setCell ⟨wb, 0, none⟩ (.slice (some ⟨g, 0, none⟩) k k)) lo wb ad (row.take k) l n) := by
    have hf : ∀ (g' : Nat) (cs' : Array Value) (T : TypeId), T ≠ 83 → w.heap[g']? = some (Obj.cells cs' T (0, 0)) → (w.setCell ⟨wb, 0, none⟩ (.slice (some ⟨g, 0, none⟩) k k)).heap[g']? = w.heap[g']? := fun g' cs' T hT hg => (set_far hg (other_block hg h1 hT)).trans hg.symm
    refine ⟨hlo, _, lv, ms.take k, set_row h1 0 _, ?_, (h3.take k).keep (fun g' cs' => hf g' cs' _ (by decide)), h4.keep (fun g' cs' => hf g' cs' _ (by decide))⟩
    rw [List.map_take]
    exact (RwAt.take (by rw [hrv] at h2; exact h2) k (by rw [List.length_map]; omega)).keep (fun g' cs' => hf g' cs' _ (by decide))
  have AB : Aside (Below lo w (w.setCell ⟨wb, 0, none⟩ (.slice (some ⟨g, 0, none⟩) k k))) := (Upd.setCell (F := fun j => j = wb) (p := ⟨wb, 0, none⟩) rfl _).below (by have := (Array.getElem?_eq_some_iff.1 h1).1; omega) (fun j hj => by omega)
  clear h1 h2 h3 h4 r1 r2 r3 r4 hrv
  go_enter Tryd.func38, Tryd.ntmps38
  go_wp2_with fail
  go_end0
  exact ⟨rfl, AK.out, AB.out⟩
theorem wpList_append_run {w : World} {ops : Array Oper} {rest : List Oper} {o : Oper} {a : Act} {Q : Exit → Act → World → Prop} (hgd : o.guard = none) (s x : Operand) (t : TypeId)
    (ho : o.op = .call { callee := .builtin .append, args := #[s, x], argTypes := #[t, t] }) (v u : Value) (hs : a.eval s = v) (hx : a.eval x = u) {v' : Value} {w' : World}
    (hr : (Builtin.append_ #[t, t] o.type #[v, u]).run Tryd.prog w = .ok v' w') (h : wpList Tryd.prog ops Q rest (a.put o.dst v') w') : wpList Tryd.prog ops Q (o :: rest) a w := by
  refine wpList_plain hgd fun K hK => ?_
  unfold Oper.wp execOp
  simp only [ho, resolve, invoke, builtin, Sem.run_bind, Sem.run_pure, Result.andThen_ok, List.map_toArray, List.map_cons, List.map_nil, hs, hx, hr]
  exact hK _ _ h
set_option maxRecDepth 20000 in
set_option maxHeartbeats 2000000 in
theorem stand_any {w : World} {lo wb : Nat} {ad : Nat → Nat} {row : Row} {l : List B} {n : Nat} (h : WkAt w lo wb ad row l n) (x : B) (i : Nat) (hr : row.length ≤ 1000000) :
    Calls Tryd.prog 41 #[Pt wb, .string (ba x), Pt (ad i)] w fun e w' => e = .returned (.tuple #[]) ∧ WkAt w' lo wb ad (row ++ [(x, i)]) l n ∧ Below lo w w' := by
  obtain ⟨hlo, rv, lv, ms, h1, h2, h3, h4⟩ := h
  have hms := h3.1
  have hwl := (Array.getElem?_eq_some_iff.1 h1).1
  have c0 : w.cell? ⟨wb, 0, none⟩ = some rv := by rw [cell_of_row w wb 0 _ _ _ h1]; rfl
  obtain ⟨W, hW⟩ : ∃ W, W = (w.alloc (.cells #[.string (ba x), Pt (ad i)] 80)).alloc (.cells #[Pt w.heap.size] 78) := ⟨_, rfl⟩
  have hB : Below w.heap.size w W := by rw [hW]; exact below_tr (below_al w _) (below_al _ _)
  have hWs : W.heap.size = w.heap.size + 2 := by rw [hW]; simp
  have hm0 : W.heap[w.heap.size]? = some (.cells #[.string (ba x), Pt (ad i)] 80 (0, 0)) := by
    rw [hW, (below_al _ _).block _ (by simp)]; exact heap_alloc_new w _
  have hs0 : W.heap[w.heap.size + 1]? = some (.cells #[Pt w.heap.size] 78 (0, 0)) := by rw [hW]; exact heap_alloc2_new w _ _
  have hsc : W.cell? ⟨w.heap.size + 1, 0, none⟩ = some (Pt w.heap.size) := by rw [cell_of_row W _ 0 _ _ _ hs0]; rfl
  have k2 := h2.keep (fun g cs hg => hB.block g (Array.getElem?_eq_some_iff.1 hg).1)
  have k1 : W.heap[wb]? = _ := (hB.block _ hwl).trans h1
  have k3 := h3.keep (fun g cs hg => hB.block g (Array.getElem?_eq_some_iff.1 hg).1)
  have k4 := h4.keep (fun g cs hg => hB.block g (Array.getElem?_eq_some_iff.1 hg).1)
  obtain ⟨v', w', hrun, r1, r2⟩ := k2.append (by omega) 81 81 (.pointer none) 8 Tryd.underlying81 infoM rfl ⟨w.heap.size + 1, 0, none⟩ 1 (Pt w.heap.size) hsc rfl (by rw [List.length_map]; omega) (by omega)
  obtain ⟨vk, vc, vs, hv, -⟩ := id r1
  have hf : ∀ (g : Nat) (cs : Array Value) (T : TypeId), T ≠ 78 → W.heap[g]? = some (Obj.cells cs T (0, 0)) → w'.heap[g]? = W.heap[g]? := fun g cs T hT hg => r2.block g (Array.getElem?_eq_some_iff.1 hg).1 (fun ⟨_, cs', e⟩ => other_block hg e hT rfl)
  have j1 : w'.heap[wb]? = _ := (hf wb _ _ (by decide) k1).trans k1
  have f0 := frozen_of_row w' wb 0 _ _ j1
  have d0 : w'.cell? ⟨wb, 0, none⟩ = some rv := by rw [cell_of_row w' wb 0 _ _ _ j1]; rfl
  have AK : Aside (WkAt (w'.setCell ⟨wb, 0, none⟩ v') lo wb ad (row ++ [(x, i)]) l n) := by
    have hf2 : ∀ (g' : Nat) (cs' : Array Value) (T : TypeId), T ≠ 83 → w'.heap[g']? = some (Obj.cells cs' T (0, 0)) → (w'.setCell ⟨wb, 0, none⟩ v').heap[g']? = w'.heap[g']? := fun g' cs' T hT hg => (set_far hg (other_block hg j1 hT)).trans hg.symm
    refine ⟨hlo, _, lv, ms ++ [w.heap.size], set_row j1 0 _, ?_, ?_, ?_⟩
    · rw [List.map_append]
      exact r1.keep (fun g cs => hf2 g cs _ (by decide))
    · exact ((k3.snoc hm0).keep (fun g cs => hf g cs _ (by decide))).keep (fun g cs => hf2 g cs _ (by decide))
    · exact (k4.keep (fun g cs => hf g cs _ (by decide))).keep (fun g cs => hf2 g cs _ (by decide))
  have AB : Aside (Below lo w (w'.setCell ⟨wb, 0, none⟩ v')) :=
    (hB.mono (by omega)).trans ((r2.below (B := lo) (by omega) (fun k hk => hk.1)).trans ((Upd.setCell (F := fun j => j = wb) (p := ⟨wb, 0, none⟩) rfl _).below (by have := r2.size; omega) (fun j hj => by omega)))
  obtain ⟨vn, hvn⟩ : ∃ vn, vn = (ms.map Pt ++ [Pt w.heap.size]).length := ⟨_, rfl⟩
  rw [← hvn] at hv
  clear hvn
  subst hv
  clear h1 h2 h3 h4 k1 k2 k3 k4 r1 r2 hf j1 hB hm0 hs0
  go_enter Tryd.func41, Tryd.ntmps41
  go_wp2_with (at_builtin; rw [← hW]; refine wpList_append_run rfl _ _ _ rfl rv _ rfl rfl hrun ?_)
  go_end0
  exact ⟨rfl, AK.out, AB.out⟩
end Go.Proofs.YtknjclekfmmfeaaDoor
