/- Directories side by side, some of which stand in the one ahead of them. -/
import Derived.Test.YtamngnndodjcoaaGreatWak
namespace Go.Proofs.YtamngnndodjcoaaGreat
open Go.RowKit

abbrev sD : ByteArray := ⟨#[100]⟩
theorem okD : nameOk sD = true := by rw [nameOk, Lib.toList_data]; decide

structure D5 where
  n : Nat
  d : Nat
  m : Nat
  lo : Nat
  hi : Nat
def D5.ok (x : D5) : Prop := x.lo ≤ x.n ∧ x.lo ≤ x.d ∧ x.lo ≤ x.m ∧ x.n < x.hi ∧ x.d < x.hi ∧ x.m < x.hi
/-- Where the j-th stands, if E says which ones hold the next. -/
def upv (ds : List D5) (E : Nat → Bool) (j : Nat) : Value := if j = 0 then .pointer none else if E (j - 1) = true then (match ds[j - 1]? with | some p => Pt p.d | none => .pointer none) else .pointer none
def lv (ds : List D5) (E : Nat → Bool) (j : Nat) : List KV := if E j = true then (match ds[j + 1]? with | some q => [(sD, Pt q.n)] | none => []) else []

structure Dirs (w : World) (ds : List D5) (E : Nat → Bool) : Prop where
  dr : ∀ j x, ds[j]? = some x → Dr w x.n x.d x.m (upv ds E j) (lv ds E j)
  sep : ds.Pairwise (fun a b => a.hi ≤ b.lo)
  box : ∀ x ∈ ds, x.ok
theorem Dirs.below {w w' : World} {ds : List D5} {E : Nat → Bool} (h : Dirs w ds E) (b : Below w.heap.size w w') : Dirs w' ds E := ⟨fun j x hx => (h.dr j x hx).below b, h.sep, h.box⟩
theorem Dirs.lt {w : World} {ds : List D5} {E : Nat → Bool} (h : Dirs w ds E) {i j : Nat} {x y : D5} (hx : ds[i]? = some x) (hy : ds[j]? = some y) (hij : i < j) : x.hi ≤ y.lo := by
  obtain ⟨h1, e1⟩ := List.getElem?_eq_some_iff.1 hx
  obtain ⟨h2, e2⟩ := List.getElem?_eq_some_iff.1 hy
  have := List.pairwise_iff_getElem.1 h.sep i j h1 h2 hij
  rw [e1, e2] at this
  exact this
theorem Dirs.ok {w : World} {ds : List D5} {E : Nat → Bool} (h : Dirs w ds E) {i : Nat} {x : D5} (hx : ds[i]? = some x) : x.ok := h.box x (List.mem_of_getElem? hx)
/-- Two of them have nothing in common. -/
theorem Dirs.far {w : World} {ds : List D5} {E : Nat → Bool} (h : Dirs w ds E) {i j : Nat} {x y : D5} (hx : ds[i]? = some x) (hy : ds[j]? = some y) (hij : i ≠ j) : x.n ≠ y.n ∧ x.n ≠ y.d ∧ x.n ≠ y.m ∧ x.d ≠ y.n ∧ x.d ≠ y.d ∧ x.d ≠ y.m ∧ x.m ≠ y.n ∧ x.m ≠ y.d ∧ x.m ≠ y.m := by
  have h1 := h.ok hx
  have h2 := h.ok hy
  unfold D5.ok at h1 h2
  rcases Nat.lt_or_gt_of_ne hij with hl | hl
  · have := h.lt hx hy hl; omega
  · have := h.lt hy hx hl; omega

theorem chain_at {w : World} {ds : List D5} {E : Nat → Bool} (h : Dirs w ds E) : ∀ (t j : Nat) (x : D5), ds[j]? = some x → t ≤ j → (∀ s, j - t ≤ s → s < j → E s = true) → (t < j → E (j - t - 1) = false) →
    ∃ l : List Nat, l.length = t ∧ Up w (upv ds E j) l ∧ ∀ k ∈ l, ∃ i p, i < j ∧ ds[i]? = some p ∧ k = p.d
  | 0, j, x, hx, _, _, hE => by
    refine ⟨[], rfl, ?_, by simp⟩
    unfold upv
    by_cases hj : j = 0
    · rw [if_pos hj]; rfl
    · rw [if_neg hj, if_neg (by have := hE (by omega); simp at this; rw [this]; decide)]; rfl
  | t + 1, j, x, hx, htj, hT, hF => by
    obtain ⟨hj, -⟩ := List.getElem?_eq_some_iff.1 hx
    obtain ⟨p, hp⟩ : ∃ p, ds[j - 1]? = some p := ⟨_, List.getElem?_eq_getElem (by omega)⟩
    obtain ⟨l, h1, h2, h3⟩ := chain_at h t (j - 1) p hp (by omega) (fun s hs1 hs2 => hT s (by omega) (by omega)) (fun ht => by have := hF (by omega); rwa [show j - (t + 1) - 1 = j - 1 - t - 1 by omega] at this)
    refine ⟨p.d :: l, by simp [h1], ?_, fun k hk => ?_⟩
    · unfold upv
      rw [if_neg (by omega), if_pos (hT (j - 1) (by omega) (by omega)), hp]
      exact Up.dir (h.dr _ _ hp) h2
    · rcases List.mem_cons.1 hk with rfl | hk
      · exact ⟨j - 1, p, by omega, hp, rfl⟩
      · obtain ⟨i, q, hi, hq, e⟩ := h3 k hk
        exact ⟨i, q, by omega, hq, e⟩

theorem height_at {w : World} {ds : List D5} {E : Nat → Bool} (h : Dirs w ds E) : ∀ (t j : Nat) (x : D5), ds[j]? = some x → t ≤ 1000 → (∀ s, j ≤ s → s < j + t → E s = true) → E (j + t) = false → j + t < ds.length → Ht w (Pt x.n) t
  | 0, j, x, hx, _, _, hE, _ => by
    have hL : lv ds E j = [] := by unfold lv; rw [if_neg (by simp at hE; rw [hE]; decide)]
    have hd := h.dr j x hx
    rw [hL] at hd
    exact ht_dir x.n x.d x.m _ [] (fun _ => 0) w hd (fun p hp => by simp at hp)
  | t + 1, j, x, hx, ht, hT, hF, hl => by
    obtain ⟨q, hq⟩ : ∃ q, ds[j + 1]? = some q := ⟨_, List.getElem?_eq_getElem (by omega)⟩
    have ih := height_at h t (j + 1) q hq (by omega) (fun s hs1 hs2 => hT s (by omega) (by omega)) (by rw [show j + 1 + t = j + (t + 1) by omega]; exact hF) (by omega)
    have hL : lv ds E j = [(sD, Pt q.n)] := by unfold lv; rw [if_pos (hT j (by omega) (by omega)), hq]
    have hd := h.dr j x hx
    rw [hL] at hd
    have := ht_dir x.n x.d x.m _ [(sD, Pt q.n)] (fun _ => t) w hd (fun p hp => by simp only [List.mem_singleton] at hp; subst hp; exact ⟨ih, by omega⟩)
    have e : top (fun _ => t) [(sD, Pt q.n)] = t + 1 := by show max (t + 1) 0 = t + 1; omega
    rw [e] at this
    exact this

/-- One more holds the next. -/
def setE (E : Nat → Bool) (a : Nat) : Nat → Bool := fun j => if j = a then true else E j
theorem Dirs.edge {w w' : World} {ds : List D5} {E : Nat → Bool} {a : Nat} {x y : D5} (h : Dirs w ds E) (hx : ds[a]? = some x) (hy : ds[a + 1]? = some y) (hD : Dr w' x.n x.d x.m (upv ds E a) [(sD, Pt y.n)]) (hD2 : Dr w' y.n y.d y.m (Pt x.d) (lv ds E (a + 1))) (u : Upd (fun k => k = x.m ∨ k = y.d) w w') : Dirs w' ds (setE E a) := by
  refine ⟨fun j z hz => ?_, h.sep, h.box⟩
  by_cases h1 : j = a
  · subst h1
    obtain rfl : z = x := by rw [hx] at hz; injection hz with e; exact e.symm
    have e1 : upv ds (setE E j) j = upv ds E j := by
      unfold upv setE
      by_cases hj : j = 0
      · simp [hj]
      · rw [if_neg hj, if_neg hj, if_neg (show ¬ j - 1 = j by omega)]
    have e2 : lv ds (setE E j) j = [(sD, Pt y.n)] := by unfold lv setE; simp [hy]
    rw [e1, e2]; exact hD
  · by_cases h2 : j = a + 1
    · subst h2
      obtain rfl : z = y := by rw [hy] at hz; injection hz with e; exact e.symm
      have e1 : upv ds (setE E a) (a + 1) = Pt x.d := by unfold upv setE; simp [hx]
      have e2 : lv ds (setE E a) (a + 1) = lv ds E (a + 1) := by unfold lv setE; rw [if_neg (show ¬ a + 1 = a by omega)]
      rw [e1, e2]; exact hD2
    · have e1 : upv ds (setE E a) j = upv ds E j := by
        unfold upv setE
        by_cases hj : j = 0
        · simp [hj]
        · rw [if_neg hj, if_neg hj, if_neg (show ¬ j - 1 = a by omega)]
      have e2 : lv ds (setE E a) j = lv ds E j := by unfold lv setE; rw [if_neg h1]
      rw [e1, e2]
      have f1 := h.far hz hx h1
      have f2 := h.far hz hy h2
      exact (h.dr j z hz).upd u (fun e => by rcases e with e | e <;> omega) (fun e => by rcases e with e | e <;> omega) (fun e => by rcases e with e | e <;> omega)
end Go.Proofs.YtamngnndodjcoaaGreat
