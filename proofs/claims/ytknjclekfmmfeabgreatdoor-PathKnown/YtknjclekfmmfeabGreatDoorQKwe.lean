/- laid: a world of specs; its beginning. -/
import Derived.Test.YtknjclekfmmfeabGreatDoorQKca
import Derived.Test.YtknjclekfmmfeabGreatDoorQLwe
import Derived.Test.YtknjclekfmmfeabGreatDoorQLwg
namespace Go.Proofs.YtknjclekfmmfeabGreatDoor
open Go.RowKit Go.ChangeMaps

def spc (L : List Spx) : List Value := L.flatMap fun s => [.int .i64 s.i, .int .i64 s.o, .string (ba s.nm), .int .i8 s.k, .string (ba s.to)]
/-- Specs that can be read. -/
def SpAt (w : World) (a : Option Addr) (L : List Spx) : Prop := L ≠ [] → ∃ g o, a = some ⟨g, o, none⟩ ∧ ∀ (j : Nat) (v : Value), (spc L)[j]? = some v → w.cell? ⟨g, o + j, none⟩ = some v
theorem SpAt.below {w w' : World} {a : Option Addr} {L : List Spx} {n : Nat} (h : SpAt w a L) (b : Below n w w') (hn : ∀ (g o : Nat) (v : Value), w.cell? ⟨g, o, none⟩ = some v → g < n) : SpAt w' a L := fun hL => by
  obtain ⟨g, o, e, h1⟩ := h hL
  refine ⟨g, o, e, fun j v hj => ?_⟩
  have h2 := h1 j v hj
  exact (b.cell (p := ⟨g, o + j, none⟩) (hn _ _ _ h2)).trans h2
theorem spc_at : ∀ {L : List Spx} {i : Nat} {s : Spx}, L[i]? = some s → (spc L)[i * 5]? = some (.int .i64 s.i) ∧ (spc L)[i * 5 + 1]? = some (.int .i64 s.o) ∧ (spc L)[i * 5 + 2]? = some (.string (ba s.nm)) ∧ (spc L)[i * 5 + 3]? = some (.int .i8 s.k) ∧ (spc L)[i * 5 + 4]? = some (.string (ba s.to))
  | [], i, s, h => by simp at h
  | q :: L, 0, s, h => by
    simp only [List.getElem?_cons_zero, Option.some.injEq] at h
    subst h
    exact ⟨rfl, rfl, rfl, rfl, rfl⟩
  | q :: L, i + 1, s, h => by
    simp only [List.getElem?_cons_succ] at h
    have ih := spc_at h
    have e : spc (q :: L) = [.int .i64 q.i, .int .i64 q.o, .string (ba q.nm), .int .i8 q.k, .string (ba q.to)] ++ spc L := rfl
    rw [e, show (i + 1) * 5 = i * 5 + 5 by omega, show i * 5 + 5 + 1 = (i * 5 + 1) + 5 by omega, show i * 5 + 5 + 2 = (i * 5 + 2) + 5 by omega, show i * 5 + 5 + 3 = (i * 5 + 3) + 5 by omega, show i * 5 + 5 + 4 = (i * 5 + 4) + 5 by omega]
    exact ih
/-- What laid keeps in memory. -/
structure Ld (w0 : World) (wb : Nat) (L : List Spx) (n : Nat) (w : World) (S : List Ne) : Prop where
  gx : GX w0.heap.size w S
  rx : RX w0.heap.size w S
  lw : LW w w0.heap.size wb S
  li : Li S n
  bel : Below w0.heap.size w0 w
  lnk : ∀ (i : Nat) (e : Ne), S[i]? = some e → e.k = 2 → ∃ s ∈ L, s.k = 2
theorem Ld.below {w0 : World} {wb : Nat} {L : List Spx} {n : Nat} {w w' : World} {S : List Ne} (h : Ld w0 wb L n w S) (b : Below w.heap.size w w') : Ld w0 wb L n w' S := ⟨h.gx.below b, h.rx.below b, h.lw.below b, h.li, h.bel.trans (b.mono h.bel.size), h.lnk⟩
/-- Where rows lie, they stay by their kinds. -/
theorem LW.stay {w : World} {lo wb : Nat} {S : List Ne} (h : LW w lo wb S) : ∃ g c g' c', w.cell? ⟨wb, 0, none⟩ = some (.slice (some ⟨g, 0, none⟩) S.length c) ∧ w.cell? ⟨wb, 1, none⟩ = some (.slice (some ⟨g', 0, none⟩) S.length c') ∧ (∀ (i : Nat) (e : Ne), S[i]? = some e → w.cell? ⟨g, i, none⟩ = some (Pt e.nb) ∧ w.cell? ⟨g', i, none⟩ = some (Pt e.rb)) ∧ wb < w.heap.size ∧
    ∀ w' : World, (∀ (T : TypeId), (T = 46 ∨ T = 29 ∨ T = 61) → ∀ (q : Nat) (cs : Array Value), w.heap[q]? = some (Obj.cells cs T (0, 0)) → w'.heap[q]? = w.heap[q]?) → (∀ o, w'.cell? ⟨wb, o, none⟩ = w.cell? ⟨wb, o, none⟩) ∧ (∀ o, w'.cell? ⟨g, o, none⟩ = w.cell? ⟨g, o, none⟩) ∧ (∀ o, w'.cell? ⟨g', o, none⟩ = w.cell? ⟨g', o, none⟩) := by
  obtain ⟨lv, xv, h1, h2, h3⟩ := h.cel
  obtain ⟨g, c, cs, e1, -, k1, -⟩ := id h2
  obtain ⟨g', c', cs', e2, -, k2, -⟩ := id h3
  rw [e1] at h2
  rw [e2] at h3
  rw [List.length_map] at e1 e2
  refine ⟨g, c, g', c', ?_, ?_, fun i e he => ⟨h2.cell (by rw [List.getElem?_map, he]; rfl), h3.cell (by rw [List.getElem?_map, he]; rfl)⟩, (Array.getElem?_eq_some_iff.1 h1).1, fun w' hk => ⟨fun o => ?_, fun o => ?_, fun o => ?_⟩⟩
  · rw [cell_of_row w wb 0 _ _ _ h1, e1]; rfl
  · rw [cell_of_row w wb 1 _ _ _ h1, e2]; rfl
  · exact World.cell?_of_block (hk _ (.inl rfl) _ _ h1)
  · exact World.cell?_of_block (hk _ (.inr (.inl rfl)) _ _ k1)
  · exact World.cell?_of_block (hk _ (.inr (.inr rfl)) _ _ k2)
/-- What the program's Add leaves alone. -/
theorem AddP.alone {lo : Nat} {w w1 : World} {S : List Ne} {i j : Nat} {x : B} {c : Int} {r1 : Ending} (h1 : AddP lo S i j x c w r1 w1) (T : TypeId) (hT : T ≠ 106) (q : Nat) (cs : Array Value) (hq : w.heap[q]? = some (Obj.cells cs T (0, 0))) : w1.heap[q]? = w.heap[q]? := by
  obtain ⟨-, -, g1, g2⟩ := h1
  have hl := (Array.getElem?_eq_some_iff.1 hq).1
  by_cases hc : c = 0
  · obtain ⟨-, F, hu, hF⟩ := g2 hc
    refine hu.block q hl (fun hf => ?_)
    rcases hF q hf with ⟨es, k, e⟩ | ⟨ds, e⟩
    · exact cells_map hq e rfl
    · exact dir_cells hq e hT rfl
  · exact (g1 hc).block q hl
theorem RAdP.alone {lo : Nat} {w w1 : World} {S : List Ne} {i j : Nat} {x : B} {c : Int} {r1 : Ending} (h1 : RAdP lo S i j x c w r1 w1) (T : TypeId) (hT : T ≠ 114) (q : Nat) (cs : Array Value) (hq : w.heap[q]? = some (Obj.cells cs T (0, 0))) : w1.heap[q]? = w.heap[q]? := by
  obtain ⟨-, -, g1, g2⟩ := h1
  have hl := (Array.getElem?_eq_some_iff.1 hq).1
  by_cases hc : c = 0
  · obtain ⟨-, F, hu, hF⟩ := g2 hc
    refine hu.block q hl (fun hf => ?_)
    obtain ⟨ds, e⟩ := hF q hf
    exact dir_cells hq e hT rfl
  · exact (g1 hc).block q hl
end Go.Proofs.YtknjclekfmmfeabGreatDoor
