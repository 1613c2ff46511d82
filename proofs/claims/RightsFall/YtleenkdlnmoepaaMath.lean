/- Grants as plain lists: what is found, given, taken back; what lies below; rights only fall. -/
namespace Go.Proofs.Ytleenkdlnmoepaa

/-- A grant: its number, its rights, the number of that of which it came. -/
structure Gr where
  id : Nat
  r : Nat
  of : Nat

def lk : List Gr → Int → Option Gr
  | [], _ => none
  | g :: L, a => if a = (g.id : Int) then some g else lk L a
/-- The first one with this number is taken out. -/
def del : List Gr → Int → List Gr
  | [], _ => []
  | g :: L, a => if a = (g.id : Int) then L else g :: del L a
def Nd (L : List Gr) : Prop := (L.map Gr.id).Nodup

theorem lk_mem {L : List Gr} {a : Int} {g : Gr} (h : lk L a = some g) : g ∈ L ∧ (g.id : Int) = a := by
  induction L with
  | nil => simp [lk] at h
  | cons x L ih =>
    unfold lk at h
    split at h
    · next e => simp only [Option.some.injEq] at h; subst h; exact ⟨List.mem_cons_self .., e.symm⟩
    · exact ⟨List.mem_cons_of_mem _ (ih h).1, (ih h).2⟩
theorem lk_none {L : List Gr} {a : Int} (h : lk L a = none) : ∀ g ∈ L, (g.id : Int) ≠ a := by
  induction L with
  | nil => simp
  | cons x L ih =>
    unfold lk at h
    split at h
    · simp at h
    · next e =>
      intro g hg
      rcases List.mem_cons.1 hg with rfl | hg
      · exact fun h1 => e h1.symm
      · exact ih h g hg
theorem lk_of_mem {L : List Gr} (hn : Nd L) {g : Gr} (h : g ∈ L) : lk L g.id = some g := by
  induction L with
  | nil => simp at h
  | cons x L ih =>
    unfold Nd at hn
    rw [List.map_cons, List.nodup_cons] at hn
    unfold lk
    rcases List.mem_cons.1 h with rfl | h1
    · rw [if_pos rfl]
    · rw [if_neg (fun e => hn.1 (by rw [show x.id = g.id by omega]; exact List.mem_map_of_mem h1))]
      exact ih hn.2 h1
theorem lk_app (L : List Gr) (g : Gr) (a : Int) (hn : lk L g.id = none) : lk (L ++ [g]) a = if a = (g.id : Int) then some g else lk L a := by
  induction L with
  | nil => simp [lk]
  | cons x L ih =>
    have hx : ¬ ((g.id : Int) = x.id) := fun e => by simp [lk, e] at hn
    have hn' : lk L g.id = none := by unfold lk at hn; rwa [if_neg hx] at hn
    rw [List.cons_append]
    unfold lk
    rw [ih hn']
    by_cases h1 : a = (x.id : Int)
    · rw [if_pos h1, if_neg (fun e => hx (by omega)), if_pos h1]
    · rw [if_neg h1, if_neg h1]
theorem nd_app {L : List Gr} {g : Gr} (h : Nd L) (hn : lk L g.id = none) : Nd (L ++ [g]) := by
  unfold Nd
  rw [List.map_append, List.nodup_append]
  refine ⟨h, by simp, fun x hx y hy => ?_⟩
  obtain ⟨z, hz, rfl⟩ := List.mem_map.1 hx
  simp only [List.map_cons, List.map_nil, List.mem_singleton] at hy
  subst hy
  intro e
  exact lk_none hn z hz (by omega)
theorem del_sub (L : List Gr) (a : Int) : (del L a).Sublist L := by
  induction L with
  | nil => exact List.Sublist.refl _
  | cons x L ih =>
    unfold del
    split
    · exact List.sublist_cons_self _ _
    · exact ih.cons_cons _
theorem nd_del {L : List Gr} (h : Nd L) (a : Int) : Nd (del L a) := List.Sublist.nodup ((del_sub L a).map Gr.id) h
theorem lk_del {L : List Gr} (h : Nd L) (a b : Int) : lk (del L a) b = if b = a then none else lk L b := by
  induction L with
  | nil => simp [del, lk]
  | cons x L ih =>
    have h' := h
    unfold Nd at h
    rw [List.map_cons, List.nodup_cons] at h
    unfold del
    by_cases h1 : a = (x.id : Int)
    · rw [if_pos h1]
      by_cases h2 : b = a
      · rw [if_pos h2]
        cases hl : lk L b with
        | none => rfl
        | some g =>
          have := lk_mem hl
          exact absurd (List.mem_map_of_mem (f := Gr.id) this.1) (by rw [show g.id = x.id by omega]; exact h.1)
      · rw [if_neg h2]
        conv => rhs; unfold lk
        rw [if_neg (by omega)]
    · rw [if_neg h1]
      unfold lk
      by_cases h2 : b = (x.id : Int)
      · rw [if_pos h2, if_neg (by omega), if_pos h2]
      · rw [if_neg h2, ih h.2, if_neg h2]
def dels (L : List Gr) (l : List Int) : List Gr := l.foldl del L
theorem dels_nil (L : List Gr) : dels L [] = L := rfl
theorem dels_snoc (L : List Gr) (l : List Int) (a : Int) : dels L (l ++ [a]) = del (dels L l) a := by simp [dels, List.foldl_append]
theorem nd_dels {L : List Gr} (h : Nd L) (l : List Int) : Nd (dels L l) := by
  induction l generalizing L with
  | nil => exact h
  | cons a l ih => exact ih (nd_del h a)
theorem lk_dels {L : List Gr} (h : Nd L) (l : List Int) (b : Int) : lk (dels L l) b = if b ∈ l then none else lk L b := by
  induction l generalizing L with
  | nil => simp [dels]
  | cons a l ih =>
    show lk (dels (del L a) l) b = _
    rw [ih (nd_del h a), lk_del h]
    by_cases h1 : b ∈ l
    · simp [h1]
    · by_cases h2 : b = a
      · simp [h2]
      · simp [h1, h2]

/-- One number more is looked at: does it come of one that is below, or of id itself? -/
def under (L : List Gr) (id : Nat) (acc : List Int) (n : Nat) : Bool :=
  match lk L n with
  | some g => acc.contains (g.of : Int) || g.of == id
  | none => false
def stp (L : List Gr) (id : Nat) (acc : List Int) (n : Nat) : List Int := if under L id acc n then acc ++ [(n : Int)] else acc
/-- What was found below id behind k numbers. -/
def blw (L : List Gr) (id : Nat) : Nat → List Int
  | 0 => []
  | k + 1 => stp L id (blw L id k) (id + 1 + k)
theorem blw_succ (L : List Gr) (id k : Nat) : blw L id (k + 1) = stp L id (blw L id k) (id + 1 + k) := rfl
theorem blw_mem {L : List Gr} {id : Nat} : ∀ {k : Nat} {x : Int}, x ∈ blw L id k → (id : Int) < x ∧ x ≤ id + k ∧ ∃ g, lk L x = some g
  | 0, x, h => by simp [blw] at h
  | k + 1, x, h => by
    rw [blw_succ] at h
    unfold stp at h
    split at h
    · next hu =>
      rcases List.mem_append.1 h with h | h
      · have := blw_mem h; exact ⟨this.1, by omega, this.2.2⟩
      · simp only [List.mem_singleton] at h
        subst h
        refine ⟨by omega, by omega, ?_⟩
        unfold under at hu
        cases hl : lk L ((id + 1 + k : Nat) : Int) with
        | none => rw [hl] at hu; simp at hu
        | some g => exact ⟨g, rfl⟩
    · have := blw_mem h; exact ⟨this.1, by omega, this.2.2⟩
theorem blw_len (L : List Gr) (id : Nat) : ∀ k, (blw L id k).length ≤ k
  | 0 => by simp [blw]
  | k + 1 => by
    have := blw_len L id k
    rw [blw_succ]; unfold stp
    split
    · simp; omega
    · omega
theorem blw_sorted (L : List Gr) (id : Nat) : ∀ k, (blw L id k).Pairwise (· < ·)
  | 0 => by simp [blw]
  | k + 1 => by
    have ih := blw_sorted L id k
    rw [blw_succ]; unfold stp
    split
    · rw [List.pairwise_append]
      refine ⟨ih, by simp, fun a ha b hb => ?_⟩
      simp only [List.mem_singleton] at hb
      have := blw_mem ha
      omega
    · exact ih
theorem blw_succ_mem {L : List Gr} {id k : Nat} {x : Int} (h : x ∈ blw L id k) : x ∈ blw L id (k + 1) := by
  rw [blw_succ]; unfold stp
  split
  · exact List.mem_append_left _ h
  · exact h
theorem blw_mono {L : List Gr} {id k : Nat} {x : Int} (h : x ∈ blw L id k) (j : Nat) : x ∈ blw L id (k + j) := by
  induction j with
  | zero => exact h
  | succ j ih => exact blw_succ_mem ih
theorem blw_old {L : List Gr} {id : Nat} {x : Int} : ∀ {k j : Nat}, x ∈ blw L id (j + k) → x ≤ (id : Int) + j → x ∈ blw L id j
  | 0, j, h, _ => h
  | k + 1, j, h, hx => by
    rw [show j + (k + 1) = (j + k) + 1 by omega, blw_succ] at h
    unfold stp at h
    split at h
    · rcases List.mem_append.1 h with h | h
      · exact blw_old h hx
      · simp only [List.mem_singleton] at h; omega
    · exact blw_old h hx
/-- All that comes of one that is taken is taken. -/
theorem blw_closed {L : List Gr} {id k n : Nat} {g : Gr} (h1 : id < n) (h2 : n ≤ id + k) (hg : lk L n = some g) (ho : g.of < n) (hp : g.of = id ∨ (g.of : Int) ∈ blw L id k) : (n : Int) ∈ blw L id k := by
  obtain ⟨j, hj⟩ : ∃ j, n = id + 1 + j := ⟨n - id - 1, by omega⟩
  obtain ⟨m, hm⟩ : ∃ m, k = (j + 1) + m := ⟨k - j - 1, by omega⟩
  rw [hm]
  refine blw_mono ?_ m
  rw [blw_succ]
  unfold stp
  have hu : under L id (blw L id j) (id + 1 + j) = true := by
    unfold under
    rw [← hj, hg]
    rcases hp with hp | hp
    · simp [hp]
    · have : (g.of : Int) ∈ blw L id j := blw_old (k := 1 + m) (by rw [show j + (1 + m) = k by omega]; exact hp) (by omega)
      simp [this]
  rw [if_pos hu, ← hj]
  simp

/-- What lies below a number. -/
def belowL (L : List Gr) (made : Nat) (a : Int) : List Int :=
  match lk L a with
  | some g => blw L g.id (made - 1 - g.id)
  | none => []

/-- What always holds of a book. -/
structure BInv (L : List Gr) (made : Nat) : Prop where
  nd : Nd L
  lt : ∀ g ∈ L, g.id < made
  top : lk L 0 = some ⟨0, 63, 0⟩
  r63 : ∀ g ∈ L, g.r ≤ 63
  par : ∀ g ∈ L, g.id ≠ 0 → g.of < g.id ∧ ∃ p, lk L g.of = some p ∧ g.r &&& p.r = g.r
  pos : 1 ≤ made
  most : made ≤ 4096

theorem inv_new : BInv [⟨0, 63, 0⟩] 1 :=
  ⟨by simp [Nd], by simp, by simp [lk], by simp, by simp, by omega, by omega⟩
theorem lk_made {L : List Gr} {made : Nat} (h : BInv L made) : lk L made = none := by
  cases hl : lk L made with
  | none => rfl
  | some g => have := lk_mem hl; have := h.lt g this.1; omega
theorem lk_id {L : List Gr} {a : Int} {g : Gr} (h : lk L a = some g) : a = (g.id : Int) := (lk_mem h).2.symm
theorem inv_give {L : List Gr} {made : Nat} (h : BInv L made) {a : Int} {p : Gr} {r : Nat} (hp : lk L a = some p) (hr : r &&& p.r = r) (hm : made < 4096) : BInv (L ++ [⟨made, r, p.id⟩]) (made + 1) := by
  have hn := lk_made h
  have hpm := lk_mem hp
  have hap : lk (L ++ [⟨made, r, p.id⟩]) p.id = some p := by
    rw [lk_app L ⟨made, r, p.id⟩ _ hn, if_neg (by have := h.lt p hpm.1; simp only; omega), hpm.2]; exact hp
  refine ⟨nd_app h.nd hn, fun g hg => ?_, ?_, fun g hg => ?_, fun g hg h0 => ?_, by omega, by omega⟩
  · rcases List.mem_append.1 hg with hg | hg
    · have := h.lt g hg; omega
    · simp only [List.mem_singleton] at hg; subst hg; simp
  · rw [lk_app L _ _ hn, if_neg (by have := h.pos; simp only; omega)]; exact h.top
  · rcases List.mem_append.1 hg with hg | hg
    · exact h.r63 g hg
    · simp only [List.mem_singleton] at hg; subst hg
      have h1 := h.r63 p hpm.1
      have h2 : r &&& p.r ≤ p.r := Nat.and_le_right
      simp only; omega
  · rcases List.mem_append.1 hg with hg | hg
    · obtain ⟨h1, q, h2, h3⟩ := h.par g hg h0
      refine ⟨h1, q, ?_, h3⟩
      rw [lk_app L _ _ hn, if_neg (by have := h.lt g hg; simp only; omega)]; exact h2
    · simp only [List.mem_singleton] at hg; subst hg
      exact ⟨h.lt p hpm.1, p, hap, hr⟩
theorem below_mem {L : List Gr} {made : Nat} (h : BInv L made) {a x : Int} (hx : x ∈ belowL L made a) : a < x ∧ x < made ∧ ∃ g, lk L x = some g := by
  unfold belowL at hx
  cases hl : lk L a with
  | none => rw [hl] at hx; simp at hx
  | some g =>
    rw [hl] at hx
    have h1 := blw_mem hx
    have h2 := lk_mem hl
    have h3 := h.lt g h2.1
    exact ⟨by omega, by omega, h1.2.2⟩
theorem below_sorted (L : List Gr) (made : Nat) (a : Int) : (belowL L made a).Pairwise (· < ·) := by
  unfold belowL
  split
  · exact blw_sorted _ _ _
  · simp
theorem below_len {L : List Gr} {made : Nat} (a : Int) : (belowL L made a).length ≤ made := by
  unfold belowL
  split
  · have := blw_len L (Gr.id ‹_›) (made - 1 - Gr.id ‹_›); omega
  · simp
theorem inv_back {L : List Gr} {made : Nat} (h : BInv L made) {a : Int} (ha : a ≠ 0) {q : Gr} (hq : lk L a = some q) : BInv (dels L (belowL L made a ++ [a])) made := by
  have hk := fun b => lk_dels h.nd (belowL L made a ++ [a]) b
  have hs : ∀ g ∈ dels L (belowL L made a ++ [a]), g ∈ L ∧ (g.id : Int) ∉ belowL L made a ∧ (g.id : Int) ≠ a := fun g hg => by
    have h1 := lk_of_mem (nd_dels h.nd _) hg
    rw [hk] at h1
    split at h1
    · simp at h1
    · next hni =>
      simp only [List.mem_append, List.mem_singleton, not_or] at hni
      exact ⟨(lk_mem h1).1, hni.1, hni.2⟩
  have haq := lk_id hq
  refine ⟨nd_dels h.nd _, fun g hg => h.lt g (hs g hg).1, ?_, fun g hg => h.r63 g (hs g hg).1, fun g hg h0 => ?_, h.pos, h.most⟩
  · rw [hk, if_neg, h.top]
    simp only [List.mem_append, List.mem_singleton, not_or]
    refine ⟨fun hx => ?_, fun e => ha e.symm⟩
    have := (below_mem h hx).1; omega
  · obtain ⟨h1, h2, h3⟩ := hs g hg
    obtain ⟨h4, p, h5, h6⟩ := h.par g h1 h0
    refine ⟨h4, p, ?_, h6⟩
    rw [hk, if_neg, h5]
    simp only [List.mem_append, List.mem_singleton, not_or]
    have hgl := lk_of_mem h.nd h1
    have hg1 := h.lt g h1
    have key : q.id < g.id → (g.of = q.id ∨ (g.of : Int) ∈ belowL L made a) → False := fun k1 k2 => h2 (by
      unfold belowL
      rw [hq]
      refine blw_closed k1 (by omega) hgl h4 ?_
      rcases k2 with k2 | k2
      · exact .inl k2
      · right; unfold belowL at k2; rwa [hq] at k2)
    refine ⟨fun hx => ?_, fun e => ?_⟩
    · have := (below_mem h hx).1
      exact key (by omega) (.inr hx)
    · exact key (by omega) (.inl (by omega))
/-- What lies below one that is there is there, each once, and not the one itself. -/
theorem gone_nodup (L : List Gr) (made : Nat) (a : Int) (h : BInv L made) : (a :: belowL L made a).Nodup := by
  rw [List.nodup_cons]
  refine ⟨fun hx => by have := (below_mem h hx).1; omega, ?_⟩
  exact (below_sorted L made a).imp (fun h => by omega)
end Go.Proofs.Ytleenkdlnmoepaa
