/- Small laws that the walks of this seat share: worlds that have only grown, quiet regions over them, and the word for what a call may have changed. -/
import Derived.Test.YtknjclekfmmfeaaDoorProg
import Derived.WalkKit
import Derived.WalkSpells
import Derived.WalkLawsBesides
import Derived.Deep.QuietTactic
import Derived.BigQuiet
import Derived.Deep.RegionWith
import Derived.Shelf.SlSortCmp.QuietGrown
import Derived.Stop.Asserts
import Derived.Maps.OwnSet
import Derived.Laws.OwnMore
import Derived.Deep.LoopGhost
import Derived.Deep.Draws
import Derived.Deep.RegionHeld3
import Derived.StringKeys
namespace Go.Proofs.YtknjclekfmmfeaaDoor
open Go.RowKit Go.ChangeMaps

theorem bcell {W w1 : World} (hb : Below W.heap.size W w1) : (∀ b o, b < W.heap.size → w1.cell? ⟨b, o, none⟩ = W.cell? ⟨b, o, none⟩) ∧ (∀ b o, b < W.heap.size → w1.frozen? ⟨b, o, none⟩ = W.frozen? ⟨b, o, none⟩) :=
  ⟨fun b o h => hb.cell (p := ⟨b, o, none⟩) h, fun b o h => hb.frozen (p := ⟨b, o, none⟩) h⟩

/-- A world that has only grown: some blocks behind, another count of draws. -/
def ext (w : World) (d : Nat) (os : Array Obj) : World := { w with heap := w.heap ++ os, drawn := d }

theorem below_ext (w : World) (d : Nat) (os : Array Obj) : Below w.heap.size w (ext w d os) :=
  ⟨rfl, rfl, rfl, by simp [ext], fun k hk => by show (w.heap ++ os)[k]? = _; rw [Array.getElem?_append_left hk]⟩

theorem ext_of_below {w w' : World} (h : Below w.heap.size w w') : ∃ p : GrownBy, w' = ext w p.n p.os := by
  refine ⟨⟨w'.drawn, w'.heap.extract w.heap.size w'.heap.size⟩, ?_⟩
  have hh : w'.heap = w.heap ++ w'.heap.extract w.heap.size w'.heap.size := by
    apply Array.ext_getElem?
    intro k
    rw [Array.getElem?_append]
    by_cases hk : k < w.heap.size
    · rw [if_pos hk]; exact h.block k hk
    · rw [if_neg hk]
      simp only [Array.getElem?_extract]
      have := h.size
      by_cases hk2 : k < w'.heap.size
      · rw [if_pos (by omega)]; congr 1; omega
      · rw [if_neg (by omega)]; exact Array.getElem?_eq_none (by omega)
  cases w'
  simp only [ext, World.mk.injEq]
  exact ⟨hh, h.tape, trivial, h.os, h.output⟩

theorem ext_cell {w : World} {a : Addr} {v : Value} (h : w.cell? a = some v) (d : Nat) (os : Array Obj) : (ext w d os).cell? a = some v :=
  ((below_ext w d os).cell (World.block_lt_of_cell? w a h)).trans h

theorem region_ext {P : Program} {id : Nat} {Q : Exit → Act → World → Prop} {a : Act} {w : World} {l : List Oper} (hm : P.follows .mixedOrders = true) (hB : Region.lexB .any l.toArray = true)
    (h : wpQuiet P l.toArray (fun w' => ∃ p : GrownBy, w' = ext w p.n p.os) (fun a' => ∀ w', Below w.heap.size w w' → Q .normal a' w') l a) : (Code.region id l.toArray true).wp P Q a w :=
  wp_region_quiet (C := fun w' => ∃ p : GrownBy, w' = ext w p.n p.os) hm hB ⟨⟨w.drawn + 1, #[]⟩, by simp [ext]⟩ (by
    have e : (fun a' => ∀ w', (∃ p : GrownBy, w' = ext w p.n p.os) → Q .normal a' w') = (fun a' => ∀ w', Below w.heap.size w w' → Q .normal a' w') := by
      funext a'
      refine propext ⟨fun H w' hb => H w' (ext_of_below hb), fun H w' hw => ?_⟩
      obtain ⟨p, rfl⟩ := hw
      exact H _ (below_ext _ _ _)
    rw [e]; simpa using h)

/-- A callee's contract, met in a world that has only grown. -/
theorem calls_ext {P : Program} {f : FuncId} {args : Array Value} {w : World} {d : Nat} {os : Array Obj} {v : Value}
    (h : Calls P f args (ext w d os) fun e w' => e = .returned v ∧ Below (ext w d os).heap.size (ext w d os) w') : Calls P f args (ext w d os) fun e w'' => e = .returned v ∧ ∃ p : GrownBy, w'' = ext w p.n p.os :=
  h.mono fun _ _ ⟨he, hb⟩ => ⟨he, ext_of_below ((below_ext w d os).trans (hb.mono (below_ext w d os).size))⟩

/-- What lies between: one world has grown out of another, and this one out of a third. -/
theorem below_tr {a b c : World} (h : Below a.heap.size a b) (k : Below b.heap.size b c) : Below a.heap.size a c := h.trans (k.mono h.size)
theorem below_al (w : World) (o : Obj) : Below w.heap.size w (w.alloc o) := (Below.refl _ _).alloc (Nat.le_refl _) _
theorem below_dr (w : World) : Below w.heap.size w w.drew := (Below.refl _ _).drew

theorem aside {p : Prop} (h : p) : Aside p := h
def bcells (l : List UInt8) : List Value := l.map fun b => .int .u8 b.toNat
theorem bcells_length (l : List UInt8) : (bcells l).length = l.length := by simp [bcells]

/-- What a call may have changed: the old blocks of F, and new memory. -/
structure Upd (F : Nat → Prop) (w w' : World) : Prop where
  os : w'.os = w.os
  tape : w'.tape = w.tape
  output : w'.output = w.output
  size : w.heap.size ≤ w'.heap.size
  block : ∀ k, k < w.heap.size → ¬ F k → w'.heap[k]? = w.heap[k]?

theorem Upd.of_below {F : Nat → Prop} {w w' : World} (h : Below w.heap.size w w') : Upd F w w' := ⟨h.os, h.tape, h.output, h.size, fun k hk _ => h.block k hk⟩
theorem Upd.below {F : Nat → Prop} {w w' : World} {B : Nat} (h : Upd F w w') (hB : B ≤ w.heap.size) (hF : ∀ k, F k → B ≤ k) : Below B w w' :=
  ⟨h.os, h.tape, h.output, h.size, fun k hk => h.block k (by omega) (fun hf => by have := hF k hf; omega)⟩
theorem Upd.of_grown {F : Nat → Prop} {w w' : World} {row : Option Nat} (h : w.grownBy w' row) (hF : ∀ k, row = some k → F k) : Upd F w w' :=
  ⟨h.os, h.tape, h.output, h.size, fun k hk hn => h.block k hk (fun e => hn (hF k e.symm))⟩
theorem Upd.refl (F : Nat → Prop) (w : World) : Upd F w w := ⟨rfl, rfl, rfl, Nat.le_refl _, fun _ _ _ => rfl⟩
theorem Upd.trans {F G : Nat → Prop} {a b c : World} (h : Upd F a b) (k : Upd G b c) (hG : ∀ j, j < a.heap.size → G j → F j) : Upd F a c :=
  ⟨k.os.trans h.os, k.tape.trans h.tape, k.output.trans h.output, Nat.le_trans h.size k.size, fun j hj hn => (k.block j (Nat.lt_of_lt_of_le hj h.size) (fun hg => hn (hG j hj hg))).trans (h.block j hj hn)⟩
theorem Upd.mono {F G : Nat → Prop} {a b : World} (h : Upd F a b) (hG : ∀ j, j < a.heap.size → F j → G j) : Upd G a b :=
  ⟨h.os, h.tape, h.output, h.size, fun j hj hn => h.block j hj (fun hf => hn (hG j hj hf))⟩
theorem Upd.setCell {F : Nat → Prop} {w : World} {p : Addr} (hp : F p.block) (u : Value) : Upd F w (w.setCell p u) :=
  ⟨rfl, rfl, rfl, by simp, fun k _ hn => Below.heap_setCell _ _ _ _ (fun e => hn (by rw [e]; exact hp))⟩
theorem Upd.row {F : Nat → Prop} {w w' : World} {e : TypeId} {s : Nat} {v : Value} {n : Nat} {xs : List Value} (h : Upd F w w') (hr : w.ownsRow 0 e s v n xs) (hn : ∀ k, v.ownBlock = some k → ¬ F k) : w'.ownsRow 0 e s v n xs := by
  refine ⟨hr.1, ?_⟩
  rcases hr.2 with h2 | ⟨g, cap, cur, rfl, hg, hh, r⟩
  · exact .inl h2
  · exact .inr ⟨g, cap, cur, rfl, hg, (h.block g (Array.getElem?_eq_some_iff.1 hh).1 (hn g rfl)).trans hh, r⟩

theorem row_form {w : World} {e : TypeId} {s : Nat} {lv : Value} {n : Nat} {xs : List Value} (h : w.ownsRow 0 e s lv n xs) : ∃ a cap, lv = .slice a n cap ∧ n ≤ cap ∧ cap ≤ maxLen := by
  rcases h.2 with ⟨rfl, rfl⟩ | ⟨g, cap, cur, rfl, _, _, h1, h2, _⟩
  · exact ⟨none, 0, rfl, Nat.le_refl _, by decide⟩
  · exact ⟨_, cap, rfl, h1, h2⟩

/-- A row stays where nothing but new memory has come. -/
theorem row_below {w w' : World} {b : Nat} {e : TypeId} {s : Nat} {lv : Value} {n : Nat} {xs : List Value} (h : w.ownsRow b e s lv n xs) (hb : Below w.heap.size w w') : w'.ownsRow b e s lv n xs := by
  refine ⟨h.1, ?_⟩
  rcases h.2 with h2 | ⟨g, cap, cur, hv, hg, hh, r⟩
  · exact .inl h2
  · exact .inr ⟨g, cap, cur, hv, hg, (hb.block g (Array.getElem?_eq_some_iff.1 hh).1).trans hh, r⟩

/-- A method that comes up through an embedded interface, of a pointer to a struct: the method of what lies in that field. -/
theorem method_up {P : Program} {w : World} {n : Nat} {t : TypeId} {a : Addr} {name : String} {st : TypeId} {ix : Nat} {ft : TypeId} {off : Nat} {t' : TypeId} {v' : Value}
    (h1 : ((P.info? t).bind fun i => (i.methods.find? (·.name == name)).map fun m => (m.path.toList.map fun s => (s.struct, s.index, s.deref), m.func)) = some ([(st, ix, true)], none))
    (h2 : (match P.underlying st with | some (.struct fs) => fs[ix]?.map fun f => (f.type, f.offset) | _ => none) = some (ft, off))
    (h3 : (sizeOf ft).run P w = .ok 1 w) (h4 : (isAgg ft).run P w = .ok false w) (hc : w.cell? (a.add off) = some (.iface t' v')) :
    (method (n + 1) t (.pointer (some a)) name).run P w = (method n t' v' name).run P w := by
  obtain ⟨i, hi, h1⟩ := Option.bind_eq_some_iff.1 h1
  obtain ⟨m, hm, h1⟩ := Option.map_eq_some_iff.1 h1
  injection h1 with hp hf
  obtain ⟨s, hs, hp2⟩ : ∃ s, m.path.toList = [s] ∧ (s.struct, s.index, s.deref) = (st, ix, true) := by
    cases e : m.path.toList with
    | nil => rw [e] at hp; cases hp
    | cons s r =>
      rw [e] at hp
      cases r with
      | nil => simp only [List.map_cons, List.map_nil, List.cons.injEq, and_true] at hp; exact ⟨s, rfl, hp⟩
      | cons u v => simp at hp
  simp only [Prod.mk.injEq] at hp2
  obtain ⟨e1, e2, e3⟩ := hp2
  cases hu : P.underlying st with
  | none => rw [hu] at h2; cases h2
  | some d =>
    rw [hu] at h2
    cases d <;> first | (cases h2; done) | skip
    rename_i fs
    obtain ⟨f, hx, h2⟩ := Option.map_eq_some_iff.1 h2
    injection h2 with e4 e5
    subst e4 e5
    rw [method]
    simp only [Sem.run_bind, typeInfo, run_program, Result.andThen_ok, hi, Sem.run_pure, hm, hs, hf, follow, run_underlying (e1 ▸ hu), e2, hx, e3, Place.get, asAddr, fieldPlace, h3, loadVar, h4, run_load, hc, ↓reduceIte, Bool.false_eq_true, Nat.one_ne_zero]

theorem up_size (T : TypeId) (hT : (Tryd.prog.info? T).map (·.size) = some 1) (w : World) : (sizeOf T).run Tryd.prog w = .ok 1 w := by
  obtain ⟨i, hi, e⟩ := Option.map_eq_some_iff.1 hT
  simp only [sizeOf, typeInfo, Sem.run_bind, run_program, Result.andThen_ok, hi, Sem.run_pure, e]
theorem up_agg (T : TypeId) {l : Array (String × TypeId)} (hT : Tryd.prog.underlying T = some (.interface l)) (w : World) : (isAgg T).run Tryd.prog w = .ok false w := by
  simp only [isAgg, Sem.run_bind, run_underlying hT, Result.andThen_ok, Sem.run_pure]

theorem five_cells {w w1 : World} {a b c d e : Value} {T : TypeId} (hb : Below (w.alloc (Obj.cells #[a, b, c, d, e] T)).heap.size (w.alloc (Obj.cells #[a, b, c, d, e] T)) w1) :
    w1.cell? ⟨w.heap.size, 0, none⟩ = some a ∧ w1.cell? ⟨w.heap.size, 1, none⟩ = some b ∧ w1.cell? ⟨w.heap.size, 2, none⟩ = some c ∧ w1.cell? ⟨w.heap.size, 3, none⟩ = some d ∧ w1.cell? ⟨w.heap.size, 4, none⟩ = some e := by
  have hc := fun o => hb.cell (p := ⟨w.heap.size, o, none⟩) (by simp)
  refine ⟨(hc 0).trans (by go_simp), (hc 1).trans (by go_simp), (hc 2).trans (by go_simp), (hc 3).trans (by go_simp), (hc 4).trans (by go_simp)⟩

theorem set_same {w : World} {b i : Nat} {cs : Array Value} {T : TypeId} {v : Value} (h : w.heap[b]? = some (.cells cs T (0, 0))) : (w.setCell ⟨b, i, none⟩ v).heap[b]? = some (.cells (cs.setIfInBounds i v) T (0, 0)) := heap_setCell_same w b i _ _ _ h
theorem set_far {w : World} {b i k : Nat} {v : Value} {o : Option Obj} (h : w.heap[k]? = o) (n : ¬ k = b) : (w.setCell ⟨b, i, none⟩ v).heap[k]? = o := (Below.heap_setCell _ _ _ _ n).trans h

theorem heap_set_same {w : World} {b : Nat} {o o' : Obj} (h : w.heap[b]? = some o) : (setBlock w b o').heap[b]? = some o' := by
  have hb := (Array.getElem?_eq_some_iff.1 h).1
  simp [setBlock, hb]
theorem heap_set_far {w : World} {b k : Nat} {o' : Obj} {x : Option Obj} (h : w.heap[k]? = x) (hn : ¬ k = b) : (setBlock w b o').heap[k]? = x := by
  rw [← h]
  show (w.heap.setIfInBounds b o')[k]? = _
  rw [Array.getElem?_setIfInBounds, if_neg (fun e => hn e.symm)]
theorem Upd.setBlock {F : Nat → Prop} (w : World) (b : Nat) (o : Obj) (hF : F b) : Upd F w (setBlock w b o) :=
  ⟨rfl, rfl, rfl, by simp [ChangeMaps.setBlock], fun k _ hk => heap_set_far rfl (fun e => hk (e ▸ hF))⟩
theorem cell_set_far {w : World} {b : Nat} {o : Obj} {a : Addr} {v : Value} (h : w.cell? a = some v) (hn : ¬ a.block = b) : (ChangeMaps.setBlock w b o).cell? a = some v :=
  (World.cell?_of_block (heap_set_far rfl hn)).trans h

end Go.Proofs.YtknjclekfmmfeaaDoor
