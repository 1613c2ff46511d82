/- RightsFall: its own two lists beside the book, as mathematics and in memory. -/
import Derived.Test.YtleenkdlnmoepaaSteps
namespace Go.Proofs.Ytleenkdlnmoepaa
open Go.RowKit

/-- The statement's two lists: of which each came, and whether it is there. -/
structure FI (L : List Gr) (made : Nat) (Of : List Int) (Al : List Bool) : Prop where
  lo : Of.length = made
  la : Al.length = made
  al : ∀ i : Nat, i < made → Al[i]? = some (lk L (i : Int)).isSome
  of : ∀ (i : Nat) (g : Gr), lk L (i : Int) = some g → 0 < i → Of[i]? = some (g.of : Int)
theorem fi_new : FI [⟨0, 63, 0⟩] 1 [-1] [true] := by
  refine ⟨rfl, rfl, fun i hi => ?_, fun i g hg h0 => ?_⟩
  · obtain rfl : i = 0 := by omega
    rfl
  · have := lk_mem hg
    simp only [List.mem_singleton] at this
    have h1 := this.1
    subst h1
    simp at this
    omega
theorem fi_give {L : List Gr} {made : Nat} {Of : List Int} {Al : List Bool} (hI : BInv L made) (h : FI L made Of Al) {a : Int} {p : Gr} (hp : lk L a = some p) (r : Nat) : FI (L ++ [⟨made, r, a.toNat⟩]) (made + 1) (Of ++ [a]) (Al ++ [true]) := by
  have hn := lk_made hI
  have ha := lk_id hp
  refine ⟨by simp [h.lo], by simp [h.la], fun i hi => ?_, fun i g hg h0 => ?_⟩
  · rw [lk_app L ⟨made, r, a.toNat⟩ _ hn]
    simp only
    by_cases h1 : i = made
    · subst h1
      rw [if_pos rfl, List.getElem?_append_right (by rw [h.la]; exact Nat.le_refl _), h.la]
      simp
    · rw [if_neg (by omega), List.getElem?_append_left (by rw [h.la]; omega)]
      exact h.al i (by omega)
  · rw [lk_app L ⟨made, r, a.toNat⟩ _ hn] at hg
    simp only at hg
    split at hg
    · simp only [Option.some.injEq] at hg
      subst hg
      have hi : i = made := by omega
      rw [hi, List.getElem?_append_right (by rw [h.lo]; exact Nat.le_refl _), h.lo]
      simp; omega
    · have := h.of i g hg h0
      rw [List.getElem?_append_left (List.getElem?_eq_some_iff.1 this).1]
      exact this
/-- Those of a list are no longer there. -/
def offs (Al : List Bool) (l : List Int) : List Bool := l.foldl (fun A x => A.set x.toNat false) Al
theorem offs_snoc (Al : List Bool) (l : List Int) (x : Int) : offs Al (l ++ [x]) = (offs Al l).set x.toNat false := by simp [offs, List.foldl_append]
theorem offs_len (Al : List Bool) (l : List Int) : (offs Al l).length = Al.length := by
  induction l generalizing Al with
  | nil => rfl
  | cons x l ih => show (offs (Al.set x.toNat false) l).length = _; rw [ih]; simp
theorem offs_at (Al : List Bool) (l : List Int) (hl : ∀ x ∈ l, 0 ≤ x) (i : Nat) (hi : i < Al.length) : (offs Al l)[i]? = if (i : Int) ∈ l then some false else Al[i]? := by
  induction l generalizing Al with
  | nil => simp [offs]
  | cons x l ih =>
    show (offs (Al.set x.toNat false) l)[i]? = _
    rw [ih (Al.set x.toNat false) (fun y hy => hl y (List.mem_cons_of_mem _ hy)) (by simpa using hi)]
    have hx := hl x (List.mem_cons_self ..)
    by_cases h1 : (i : Int) ∈ l
    · rw [if_pos h1, if_pos (List.mem_cons_of_mem _ h1)]
    · rw [if_neg h1]
      by_cases h2 : (i : Int) = x
      · rw [if_pos (by rw [h2]; exact List.mem_cons_self ..), show x.toNat = i by omega, List.getElem?_set_self hi]
      · rw [if_neg (by simp [h1, h2]), List.getElem?_set_ne (by omega)]
theorem fi_back {L : List Gr} {made : Nat} {Of : List Int} {Al : List Bool} (hI : BInv L made) (h : FI L made Of Al) {a : Int} {q : Gr} (hq : lk L a = some q) : FI (dels L (belowL L made a ++ [a])) made Of (offs Al (a :: belowL L made a)) := by
  have ha := lk_id hq
  have hpos : ∀ x ∈ a :: belowL L made a, 0 ≤ x := fun x hx => by
    rcases List.mem_cons.1 hx with rfl | hx
    · omega
    · have := (below_mem hI hx).1; omega
  refine ⟨h.lo, by rw [offs_len]; exact h.la, fun i hi => ?_, fun i g hg h0 => ?_⟩
  · rw [offs_at _ _ hpos i (by rw [h.la]; exact hi), lk_dels hI.nd]
    by_cases h1 : (i : Int) ∈ a :: belowL L made a
    · rw [if_pos h1, if_pos (by simp only [List.mem_cons] at h1; simp only [List.mem_append, List.mem_singleton]; exact h1.symm)]
      rfl
    · rw [if_neg h1, if_neg (by simp only [List.mem_cons] at h1; simp only [List.mem_append, List.mem_singleton]; exact fun h2 => h1 h2.symm)]
      exact h.al i hi
  · rw [lk_dels hI.nd] at hg
    split at hg
    · simp at hg
    · exact h.of i g hg h0
theorem lk_lt {L : List Gr} {made : Nat} (hI : BInv L made) {a : Int} {g : Gr} (h : lk L a = some g) : 0 ≤ a ∧ a < made := by
  have := lk_mem h
  have := hI.lt g this.1
  omega
/-- What the statement asks of each number. -/
theorem fi_dead {L : List Gr} {made : Nat} {i : Nat} (h : lk L (i : Int) = none) : rof L i = 0 ∧ belowL L made i = [] := by
  unfold rof belowL; rw [h]; exact ⟨rfl, rfl⟩
theorem fi_par {L : List Gr} {made : Nat} {Of : List Int} {Al : List Bool} (hI : BInv L made) (h : FI L made Of Al) {i : Nat} {g : Gr} (hg : lk L (i : Int) = some g) (h0 : 0 < i) :
    ∃ o : Nat, Of[i]? = some (o : Int) ∧ o < made ∧ Al[o]? = some true ∧ rof L i &&& rof L o = rof L i ∧ rof L i < 256 ∧ rof L o < 256 := by
  have hm := lk_mem hg
  obtain ⟨h1, p, h2, h3⟩ := hI.par g hm.1 (by omega)
  have hlt := hI.lt g hm.1
  refine ⟨g.of, h.of i g hg h0, by omega, ?_, ?_, ?_, ?_⟩
  · rw [h.al g.of (by omega), h2]; rfl
  · unfold rof; rw [hg, h2]; exact h3
  · unfold rof; rw [hg]; have := hI.r63 g hm.1; simp only; omega
  · unfold rof; rw [h2]; have := hI.r63 p (lk_mem h2).1; simp only; omega

/-- The book and the two rows, beside each other, all in new memory. -/
structure FR (w0 w : World) (b : Bok) (n : Nat) (Of : List Int) (Al : List Bool) (oa : Option Addr) (oc : Nat) (aa : Option Addr) (ac : Nat) : Prop where
  st : St w0 w b
  oo : OwnI w (.slice oa n oc) Of
  ob : OwnB w (.slice aa n ac) Al
  no : ∀ k, (Value.slice oa n oc).ownBlock = some k → w0.heap.size ≤ k
  nb : ∀ k, (Value.slice aa n ac).ownBlock = some k → w0.heap.size ≤ k

theorem row_ty {w : World} {e : TypeId} {v : Value} {n : Nat} {xs : List Value} (h : w.ownsRow 0 e 1 v n xs) {k : Nat} (hk : v.ownBlock = some k) : ∃ cur, w.heap[k]? = some (.cells cur e (0, 0)) := by
  rcases h.2 with ⟨rfl, -⟩ | ⟨g, cap, cur, rfl, -, hg, -⟩
  · simp [Value.ownBlock] at hk
  · simp only [Value.ownBlock, Option.some.injEq] at hk
    subst hk
    exact ⟨cur, hg⟩
theorem row_book {w : World} {e : TypeId} {v : Value} {n : Nat} {xs : List Value} {b : Bok} (h : w.ownsRow 0 e 1 v n xs) (hb : Bk w b) (he : e ≠ 67) : ∀ k, v.ownBlock = some k → ¬ b.F k := fun k hk hf => by
  obtain ⟨cur, hg⟩ := row_ty h hk
  rcases hf with rfl | rfl
  · rw [hb.blk] at hg; simp only [Option.some.injEq, Obj.cells.injEq] at hg; exact he hg.2.1.symm
  · obtain ⟨es, c, h1, -⟩ := hb.map
    rw [h1] at hg; simp at hg
theorem rows_ne {w : World} {v v' : Value} {n n' : Nat} {xs ys : List Value} (h : w.ownsRow 0 3 1 v n xs) (h' : w.ownsRow 0 4 1 v' n' ys) : ∀ k, v.ownBlock = some k → ¬ v'.ownBlock = some k := fun k hk hk' => by
  obtain ⟨cur, hg⟩ := row_ty h hk
  obtain ⟨cur', hg'⟩ := row_ty h' hk'
  rw [hg] at hg'; simp at hg'
section
variable {w0 w w' : World} {b b' : Bok} {n : Nat} {Of : List Int} {Al : List Bool} {oa aa : Option Addr} {oc ac : Nat}
theorem FR.below (h : FR w0 w b n Of Al oa oc aa ac) (k : Below w.heap.size w w') : FR w0 w' b n Of Al oa oc aa ac := ⟨h.st.below k, h.oo.below k, h.ob.below k, h.no, h.nb⟩
theorem FR.next (h : FR w0 w b n Of Al oa oc aa ac) (k : NxB w w' b b') : FR w0 w' b' n Of Al oa oc aa ac :=
  ⟨h.st.next k, h.oo.upd k.upd (row_book h.oo h.st.bk (by decide)), h.ob.upd k.upd (row_book h.ob h.st.bk (by decide)), h.no, h.nb⟩
theorem FR.lens (h : FR w0 w b n Of Al oa oc aa ac) : n = Of.length ∧ n = Al.length := by
  refine ⟨h.oo.len, ?_⟩
  rcases h.ob.2 with ⟨he, hz⟩ | ⟨g, cap, cur, he, -⟩
  · simp only [Value.slice.injEq] at he; omega
  · simp only [Value.slice.injEq] at he; exact he.2.1
theorem FR.atO (h : FR w0 w b n Of Al oa oc aa ac) {i : Nat} {x : Int} (hx : Of[i]? = some x) : ∃ g, oa = some ⟨g, 0, none⟩ ∧ w.cell? ⟨g, i, none⟩ = some (.int .i64 x) := by
  obtain ⟨g, o, rfl, hc⟩ := h.oo.ns (fun h0 => by rw [h0] at hx; simp at hx)
  rcases h.oo.2 with ⟨he, -⟩ | ⟨g', cap, cur, he, -⟩
  · simp at he
  · simp only [Value.slice.injEq, Option.some.injEq, Addr.mk.injEq, and_true] at he
    obtain ⟨⟨rfl, rfl⟩, -⟩ := he
    exact ⟨g, rfl, by have := hc i x hx; rwa [Nat.zero_add] at this⟩
theorem FR.atA (h : FR w0 w b n Of Al oa oc aa ac) {i : Nat} {x : Bool} (hx : Al[i]? = some x) : ∃ g, aa = some ⟨g, 0, none⟩ ∧ w.cell? ⟨g, i, none⟩ = some (.bool x) ∧ w.frozen? ⟨g, i, none⟩ = false ∧ FR w0 (w.setCell ⟨g, i, none⟩ (.bool false)) b n Of (Al.set i false) oa oc aa ac := by
  have hl := h.lens.2
  have hob := h.ob
  rcases h.ob.2 with ⟨he, hz⟩ | ⟨g, cap, cur, he, hg0, hh, h1, h2, h3, htake⟩
  · have := (List.getElem?_eq_some_iff.1 hx).1; omega
  · simp only [Value.slice.injEq] at he
    obtain ⟨rfl, hn2, rfl⟩ := he
    unfold OwnB at hob
    rw [← hl] at hob
    have hi := (List.getElem?_eq_some_iff.1 hx).1
    have hset := hob.stored i (.bool false)
    have hu : Upd (fun k => k = g) w (w.setCell ⟨g, i, none⟩ (.bool false)) := Upd.setCell (F := fun k => k = g) (p := ⟨g, i, none⟩) rfl _
    refine ⟨g, rfl, ?_, hob.frozenAt i, ⟨?_, ?_, ?_⟩, h.oo.upd hu (fun k hk e => rows_ne h.oo h.ob k hk (by subst e; rfl)), ?_, h.no, h.nb⟩
    · rw [hob.cellAt i (by omega)]; exact bools_at hx
    · exact h.st.bl.trans (hu.below h.st.bl.size (fun k hk => by subst hk; exact h.nb _ rfl))
    · exact h.st.bk.upd hu (fun k hk e => by subst e; exact row_book h.ob h.st.bk (by decide) _ rfl hk)
    · exact h.st.nw
    · unfold OwnB
      rw [List.length_set, ← hl, show bools (Al.set i false) = (bools Al).set i (.bool false) by simp [bools, List.map_set]]
      exact hset.1
end
end Go.Proofs.Ytleenkdlnmoepaa
