/- Small laws that the walks of this seat share: worlds that have only grown, quiet regions over them, and the word for what a call may have changed. -/
import Derived.Test.YtleenkdlnmoepaaProg
import Derived.WalkKit
import Derived.WalkSpells
import Derived.WalkLawsBesides
import Derived.Deep.QuietTactic
import Derived.BigQuiet
import Derived.Deep.RegionWith
import Derived.Shelf.SlSortCmp.QuietGrown
namespace Go.Proofs.Ytleenkdlnmoepaa
open Go.RowKit

theorem bcell {W w1 : World} (hb : Below W.heap.size W w1) : (∀ b o, b < W.heap.size → w1.cell? ⟨b, o, none⟩ = W.cell? ⟨b, o, none⟩) ∧ (∀ b o, b < W.heap.size → w1.frozen? ⟨b, o, none⟩ = W.frozen? ⟨b, o, none⟩) :=
  ⟨fun b o h => hb.cell (p := ⟨b, o, none⟩) h, fun b o h => hb.frozen (p := ⟨b, o, none⟩) h⟩

/-- A world that has only grown: some blocks behind, another count of draws. -/
def ext (w : World) (d : Nat) (os : Array Obj) : World := { w with heap := w.heap ++ os, drawn := d }

theorem below_ext (w : World) (d : Nat) (os : Array Obj) : Below w.heap.size w (ext w d os) :=
  ⟨rfl, rfl, rfl, by simp [ext], fun k hk => by show (w.heap ++ os)[k]? = _; rw [Array.getElem?_append_left hk]⟩

theorem ext_of_below {w w' : World} (h : Below w.heap.size w w') : ∃ p : GrownBy, w' = ext w p.n p.os := by
  refine ⟨⟨w'.drawn, w'.heap.extract w.heap.size w'.heap.size⟩, ?_⟩
  have hh : w'.heap = w.heap ++ w'.heap.extract w.heap.size w'.heap.size := by
    apply Array.ext_getElem?
    intro k
    rw [Array.getElem?_append]
    by_cases hk : k < w.heap.size
    · rw [if_pos hk]; exact h.block k hk
    · rw [if_neg hk]
      simp only [Array.getElem?_extract]
      have := h.size
      by_cases hk2 : k < w'.heap.size
      · rw [if_pos (by omega)]; congr 1; omega
      · rw [if_neg (by omega)]; exact Array.getElem?_eq_none (by omega)
  cases w'
  simp only [ext, World.mk.injEq]
  exact ⟨hh, h.tape, trivial, h.os, h.output⟩

theorem ext_cell {w : World} {a : Addr} {v : Value} (h : w.cell? a = some v) (d : Nat) (os : Array Obj) : (ext w d os).cell? a = some v :=
  ((below_ext w d os).cell (World.block_lt_of_cell? w a h)).trans h

theorem region_ext {P : Program} {id : Nat} {Q : Exit → Act → World → Prop} {a : Act} {w : World} {l : List Oper} (hm : P.follows .mixedOrders = true) (hB : Region.lexB .any l.toArray = true)
    (h : wpQuiet P l.toArray (fun w' => ∃ p : GrownBy, w' = ext w p.n p.os) (fun a' => ∀ w', Below w.heap.size w w' → Q .normal a' w') l a) : (Code.region id l.toArray true).wp P Q a w :=
  wp_region_quiet (C := fun w' => ∃ p : GrownBy, w' = ext w p.n p.os) hm hB ⟨⟨w.drawn + 1, #[]⟩, by simp [ext]⟩ (by
    have e : (fun a' => ∀ w', (∃ p : GrownBy, w' = ext w p.n p.os) → Q .normal a' w') = (fun a' => ∀ w', Below w.heap.size w w' → Q .normal a' w') := by
      funext a'
      refine propext ⟨fun H w' hb => H w' (ext_of_below hb), fun H w' hw => ?_⟩
      obtain ⟨p, rfl⟩ := hw
      exact H _ (below_ext _ _ _)
    rw [e]; simpa using h)

/-- A callee's contract, met in a world that has only grown. -/
theorem calls_ext {P : Program} {f : FuncId} {args : Array Value} {w : World} {d : Nat} {os : Array Obj} {v : Value}
    (h : Calls P f args (ext w d os) fun e w' => e = .returned v ∧ Below (ext w d os).heap.size (ext w d os) w') : Calls P f args (ext w d os) fun e w'' => e = .returned v ∧ ∃ p : GrownBy, w'' = ext w p.n p.os :=
  h.mono fun _ _ ⟨he, hb⟩ => ⟨he, ext_of_below ((below_ext w d os).trans (hb.mono (below_ext w d os).size))⟩

/-- What lies between: one world has grown out of another, and this one out of a third. -/
theorem below_tr {a b c : World} (h : Below a.heap.size a b) (k : Below b.heap.size b c) : Below a.heap.size a c := h.trans (k.mono h.size)
theorem below_al (w : World) (o : Obj) : Below w.heap.size w (w.alloc o) := (Below.refl _ _).alloc (Nat.le_refl _) _
theorem below_dr (w : World) : Below w.heap.size w w.drew := (Below.refl _ _).drew

end Go.Proofs.Ytleenkdlnmoepaa
