/- Two rows that grow side by side. -/
import Derived.Test.YtknjclekfmmfeabGreatDoorQLwe
import Derived.Test.YtknjclekfmmfeabGreatDoorGF
namespace Go.Proofs.YtknjclekfmmfeabGreatDoor
open Go.RowKit Go.ChangeMaps

/-- What stays where rows of pointers change. -/
theorem GX.rows {lo : Nat} {w w' : World} {S : List Ne} (h : GX lo w S) {F : Nat → Prop} (u : Upd F w w') (hF : ∀ b, F b → ∃ cs T, w.heap[b]? = some (Obj.cells cs T (0, 0)) ∧ (T = 29 ∨ T = 61 ∨ T = 46)) : GX lo w' S := by
  refine ⟨fun i e he => ?_, h.par, h.one, h.kid⟩
  obtain ⟨n1, n2, n3, n4, hn⟩ := h.nod i e he
  have hc : ∀ {b : Nat} {cs : Array Value} {T : TypeId}, w.heap[b]? = some (.cells cs T (0, 0)) → T ≠ 29 → T ≠ 61 → T ≠ 46 → ¬ F b := fun hb h1 h2 h3 hf => by
    obtain ⟨ds, U, e, hU⟩ := hF _ hf
    rcases hU with rfl | rfl | rfl
    · exact dir_cells hb e h1 rfl
    · exact dir_cells hb e h2 rfl
    · exact dir_cells hb e h3 rfl
  have hm : ∀ {b : Nat} {es : Array MapEntry} {c : Nat}, w.heap[b]? = some (.map es c) → ¬ F b := fun hb hf => by
    obtain ⟨ds, U, e, -⟩ := hF _ hf
    exact cells_map e hb rfl
  refine ⟨n1, n2, n3, n4, ?_⟩
  rcases hn with ⟨hk, hn⟩ | ⟨hk, hn⟩ | ⟨hk, ht, hn⟩ | ⟨hk, d, hd, hdk, hn⟩ | ⟨hk, hn⟩
  · exact .inl ⟨hk, hn.upd u (hc hn (by decide) (by decide) (by decide))⟩
  · obtain ⟨es, c, hmp, -⟩ := hn.map
    exact .inr (.inl ⟨hk, hn.upd u (hc hn.nod (by decide) (by decide) (by decide)) (hc hn.dir (by decide) (by decide) (by decide)) (hm hmp)⟩)
  · exact .inr (.inr (.inl ⟨hk, ht, hn.upd u (hc hn.nod (by decide) (by decide) (by decide)) (hc hn.lnk (by decide) (by decide) (by decide))⟩))
  · exact .inr (.inr (.inr (.inl ⟨hk, d, hd, hdk, hn.upd u (hc hn.nod (by decide) (by decide) (by decide)) (hc hn.mnt (by decide) (by decide) (by decide))⟩)))
  · exact .inr (.inr (.inr (.inr ⟨hk, hn.upd u (hc hn (by decide) (by decide) (by decide))⟩)))
theorem RX.rows {lo : Nat} {w w' : World} {S : List Ne} (h : RX lo w S) {F : Nat → Prop} (u : Upd F w w') (hF : ∀ b, F b → ∃ cs T, w.heap[b]? = some (Obj.cells cs T (0, 0)) ∧ (T = 29 ∨ T = 61 ∨ T = 46)) : RX lo w' S :=
  h.keep fun T hT g cs hg => u.block g (Array.getElem?_eq_some_iff.1 hg).1 (fun hf => by
    obtain ⟨ds, U, e, hU⟩ := hF _ hf
    rcases hU with rfl | rfl | rfl <;> rcases hT with rfl | rfl <;> exact dir_cells hg e (by decide) rfl)
/-- The records and both rows, while they grow. -/
structure Tw (lo wb : Nat) (S : List Ne) (w : World) (lv0 xv0 lv xv : Value) (ls xs : List Value) : Prop where
  gx : GX lo w S
  rx : RX lo w S
  rl : RwAt w lo 29 lv ls
  rr : RwAt w lo 61 xv xs
  hw : w.heap[wb]? = some (.cells #[lv0, xv0] 46 (0, 0))
  lo : lo ≤ w.heap.size
theorem Tw.below {lo wb : Nat} {S : List Ne} {w w' : World} {lv0 xv0 lv xv : Value} {ls xs : List Value} (h : Tw lo wb S w lv0 xv0 lv xv ls xs) (b : Below w.heap.size w w') : Tw lo wb S w' lv0 xv0 lv xv ls xs :=
  ⟨h.gx.below b, h.rx.below b, h.rl.keep (fun g _ hg => b.block g (Array.getElem?_eq_some_iff.1 hg).1), h.rr.keep (fun g _ hg => b.block g (Array.getElem?_eq_some_iff.1 hg).1), (b.block _ (Array.getElem?_eq_some_iff.1 h.hw).1).trans h.hw, by have := b.size; have := h.lo; omega⟩
theorem Tw.al {lo wb : Nat} {S : List Ne} {w : World} {lv0 xv0 lv xv : Value} {ls xs : List Value} (h : Tw lo wb S w lv0 xv0 lv xv ls xs) (o : Obj) : Tw lo wb S (w.alloc o) lv0 xv0 lv xv ls xs := h.below (below_al w o)
theorem infoN : (Tryz.prog.info? 29).map (fun i => (i.zero, i.size, i.bytes)) = some (some (.pointer none), 1, 8) := by kernel_rfl
theorem infoR : (Tryz.prog.info? 61).map (fun i => (i.zero, i.size, i.bytes)) = some (some (.pointer none), 1, 8) := by kernel_rfl
theorem step_l {ops : Array Oper} {o : Oper} {a : Act} {w : World} {K : Act → World → Prop} {Q : Exit → Act → World → Prop} {E : Prop} {lo wb : Nat} {S : List Ne} {lv0 xv0 lv xv : Value} {ls xs : List Value} {b nb : Nat} (hgd : o.guard = none) (s x : Operand)
    (ho : o.op = .call { callee := .builtin .append, args := #[s, x], argTypes := #[26, 26] }) (hs : a.eval s = lv) (hx : a.eval x = .slice (some ⟨b, 0, none⟩) 1 1) (hT : Tw lo wb S w lv0 xv0 lv xv ls xs) (hu : w.cell? ⟨b, 0, none⟩ = some (Pt nb)) (hl : ls.length ≤ 1000000)
    (h : ∀ vk vn vc w', Tw lo wb S w' lv0 xv0 (.slice (some ⟨vk, 0, none⟩) vn vc) xv (ls ++ [Pt nb]) xs → Below lo w w' → (∀ (g : Nat) (v : Value) (cs : Array Value), w.heap[g]? = some (Obj.cells cs 61 (0, 0)) → w.cell? ⟨g, 0, none⟩ = some v → w'.cell? ⟨g, 0, none⟩ = some v) → K (a.put o.dst (.slice (some ⟨vk, 0, none⟩) vn vc)) w') :
    if Region.wanted o (yielded ops a.tmps) = true then Oper.wp Tryz.prog o a w K Q else E := by
  have hw : Region.wanted o (yielded ops a.tmps) = true := by simp [Region.wanted, hgd]
  rw [if_pos hw]
  obtain ⟨v', w', hr, r1, r2⟩ := hT.rl.append hT.lo 26 o.type (.pointer none) 8 Tryz.underlying26 infoN rfl ⟨b, 0, none⟩ 1 (Pt nb) hu rfl hl (by omega)
  obtain ⟨vk, vc, vs, hv, -⟩ := id r1
  obtain ⟨n6, hn6⟩ : ∃ n6, n6 = (ls ++ [Pt nb]).length := ⟨_, rfl⟩
  rw [← hn6] at hv
  clear hn6
  subst hv
  have hF : ∀ k, (lo ≤ k ∧ ∃ cs, w.heap[k]? = some (Obj.cells cs 29 (0, 0))) → ∃ cs T, w.heap[k]? = some (Obj.cells cs T (0, 0)) ∧ (T = 29 ∨ T = 61 ∨ T = 46) := fun k ⟨_, cs, hc⟩ => ⟨cs, _, hc, .inl rfl⟩
  have hoth : ∀ (T : TypeId), T ≠ 29 → ∀ (g : Nat) (cs : Array Value), w.heap[g]? = some (Obj.cells cs T (0, 0)) → w'.heap[g]? = w.heap[g]? := fun T hT g cs hg => r2.block g (Array.getElem?_eq_some_iff.1 hg).1 (fun ⟨_, ds, e⟩ => dir_cells hg e hT rfl)
  unfold Oper.wp
  simp [execOp, ho, resolve, invoke, builtin, hs, hx, hr, Result.andThen]
  have hT' : Tw lo wb S w' lv0 xv0 (.slice (some ⟨vk, 0, none⟩) n6 vc) xv (ls ++ [Pt nb]) xs := ⟨hT.gx.rows r2 hF, hT.rx.rows r2 hF, r1, hT.rr.keep (hoth _ (by decide)), (hoth _ (by decide) _ _ hT.hw).trans hT.hw, by have := r2.size; have := hT.lo; omega⟩
  exact h vk n6 vc w' hT' (r2.below hT.lo (fun k hk => hk.1)) (fun g v cs hg hv => by rw [World.cell?_of_block (hoth _ (by decide) g cs hg)]; exact hv)
theorem step_x {ops : Array Oper} {o : Oper} {a : Act} {w : World} {K : Act → World → Prop} {Q : Exit → Act → World → Prop} {E : Prop} {lo wb : Nat} {S : List Ne} {lv0 xv0 lv xv : Value} {ls xs : List Value} {b nb : Nat} (hgd : o.guard = none) (s x : Operand)
    (ho : o.op = .call { callee := .builtin .append, args := #[s, x], argTypes := #[44, 44] }) (hs : a.eval s = xv) (hx : a.eval x = .slice (some ⟨b, 0, none⟩) 1 1) (hT : Tw lo wb S w lv0 xv0 lv xv ls xs) (hu : w.cell? ⟨b, 0, none⟩ = some (Pt nb)) (hl : xs.length ≤ 1000000)
    (h : ∀ vk vn vc w', Tw lo wb S w' lv0 xv0 lv (.slice (some ⟨vk, 0, none⟩) vn vc) ls (xs ++ [Pt nb]) → Below lo w w' → (∀ (g : Nat) (v : Value) (cs : Array Value), w.heap[g]? = some (Obj.cells cs 29 (0, 0)) → w.cell? ⟨g, 0, none⟩ = some v → w'.cell? ⟨g, 0, none⟩ = some v) → K (a.put o.dst (.slice (some ⟨vk, 0, none⟩) vn vc)) w') :
    if Region.wanted o (yielded ops a.tmps) = true then Oper.wp Tryz.prog o a w K Q else E := by
  have hw : Region.wanted o (yielded ops a.tmps) = true := by simp [Region.wanted, hgd]
  rw [if_pos hw]
  obtain ⟨v', w', hr, r1, r2⟩ := hT.rr.append hT.lo 44 o.type (.pointer none) 8 Tryz.underlying44 infoR rfl ⟨b, 0, none⟩ 1 (Pt nb) hu rfl hl (by omega)
  obtain ⟨vk, vc, vs, hv, -⟩ := id r1
  obtain ⟨n6, hn6⟩ : ∃ n6, n6 = (xs ++ [Pt nb]).length := ⟨_, rfl⟩
  rw [← hn6] at hv
  clear hn6
  subst hv
  have hF : ∀ k, (lo ≤ k ∧ ∃ cs, w.heap[k]? = some (Obj.cells cs 61 (0, 0))) → ∃ cs T, w.heap[k]? = some (Obj.cells cs T (0, 0)) ∧ (T = 29 ∨ T = 61 ∨ T = 46) := fun k ⟨_, cs, hc⟩ => ⟨cs, _, hc, .inr (.inl rfl)⟩
  have hoth : ∀ (T : TypeId), T ≠ 61 → ∀ (g : Nat) (cs : Array Value), w.heap[g]? = some (Obj.cells cs T (0, 0)) → w'.heap[g]? = w.heap[g]? := fun T hT g cs hg => r2.block g (Array.getElem?_eq_some_iff.1 hg).1 (fun ⟨_, ds, e⟩ => dir_cells hg e hT rfl)
  unfold Oper.wp
  simp [execOp, ho, resolve, invoke, builtin, hs, hx, hr, Result.andThen]
  have hT' : Tw lo wb S w' lv0 xv0 lv (.slice (some ⟨vk, 0, none⟩) n6 vc) ls (xs ++ [Pt nb]) := ⟨hT.gx.rows r2 hF, hT.rx.rows r2 hF, hT.rl.keep (hoth _ (by decide)), r1, (hoth _ (by decide) _ _ hT.hw).trans hT.hw, by have := r2.size; have := hT.lo; omega⟩
  exact h vk n6 vc w' hT' (r2.below hT.lo (fun k hk => hk.1)) (fun g v cs hg hv => by rw [World.cell?_of_block (hoth _ (by decide) g cs hg)]; exact hv)
/-- Both rows are stored. -/
theorem Tw.stored {lo wb : Nat} {S : List Ne} {w : World} {lv0 xv0 lv xv : Value} (h : Tw lo wb S w lv0 xv0 lv xv (S.map fun e => Pt e.nb) (S.map fun e => Pt e.rb)) (hlo : lo ≤ wb) : (GX lo ((w.setCell ⟨wb, 0, none⟩ lv).setCell ⟨wb, 1, none⟩ xv) S ∧ RX lo ((w.setCell ⟨wb, 0, none⟩ lv).setCell ⟨wb, 1, none⟩ xv) S ∧ LW ((w.setCell ⟨wb, 0, none⟩ lv).setCell ⟨wb, 1, none⟩ xv) lo wb S ∧ Below lo w ((w.setCell ⟨wb, 0, none⟩ lv).setCell ⟨wb, 1, none⟩ xv)) ∧ w.cell? ⟨wb, 0, none⟩ = some lv0 ∧ w.cell? ⟨wb, 1, none⟩ = some xv0 ∧ w.frozen? ⟨wb, 0, none⟩ = false ∧ w.frozen? ⟨wb, 1, none⟩ = false := by
  have hwl := (Array.getElem?_eq_some_iff.1 h.hw).1
  have u1 : Upd (fun k => k = wb) w (w.setCell ⟨wb, 0, none⟩ lv) := Upd.setCell (F := fun k => k = wb) (p := ⟨wb, 0, none⟩) rfl _
  have u2 : Upd (fun k => k = wb) (w.setCell ⟨wb, 0, none⟩ lv) ((w.setCell ⟨wb, 0, none⟩ lv).setCell ⟨wb, 1, none⟩ xv) := Upd.setCell (F := fun k => k = wb) (p := ⟨wb, 1, none⟩) rfl _
  have u := u1.trans u2 (fun _ _ h => h)
  have hs := set_node (set_node h.hw 0 lv) 1 xv
  have hF : ∀ b, b = wb → ∃ cs T, w.heap[b]? = some (Obj.cells cs T (0, 0)) ∧ (T = 29 ∨ T = 61 ∨ T = 46) := fun b hb => by subst hb; exact ⟨_, _, h.hw, .inr (.inr rfl)⟩
  have hoth : ∀ (T : TypeId), T ≠ 46 → ∀ (g : Nat) (cs : Array Value), w.heap[g]? = some (Obj.cells cs T (0, 0)) → ((w.setCell ⟨wb, 0, none⟩ lv).setCell ⟨wb, 1, none⟩ xv).heap[g]? = w.heap[g]? := fun T hT g cs hg => u.block g (Array.getElem?_eq_some_iff.1 hg).1 (fun e => by
    have e : g = wb := e
    rw [e] at hg
    exact dir_cells hg h.hw hT rfl)
  refine ⟨⟨h.gx.rows u hF, h.rx.rows u hF, ⟨hlo, lv, xv, by simpa using hs, h.rl.keep (hoth _ (by decide)), h.rr.keep (hoth _ (by decide))⟩, u.below (by omega) (fun k hk => by have hk : k = wb := hk; omega)⟩, ?_, ?_, frozen_of_row w wb 0 _ _ h.hw, frozen_of_row w wb 1 _ _ h.hw⟩
  · rw [cell_of_row w wb 0 _ _ _ h.hw]; rfl
  · rw [cell_of_row w wb 1 _ _ _ h.hw]; rfl
end Go.Proofs.YtknjclekfmmfeabGreatDoor
