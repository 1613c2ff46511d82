/- Locks as plain lists: who waits for whom, what the calls make of the lists, and that nobody ever waits in a circle. -/
import Derived.ProofKit
namespace Go.Proofs.Ytfpegmmciphjiaa
open Relation

/-- A lock. -/
structure Lk where
  who : Int
  org : Int
  len : Int
  sh : Bool

def may (l : Lk) : Bool := decide (0 ≤ l.who ∧ l.who < 256 ∧ 0 ≤ l.org ∧ 0 ≤ l.len ∧ l.org + l.len ≤ 4611686018427387904)
def meet (a b : Lk) : Bool := decide (a.who ≠ b.who) && !(a.sh && b.sh) && (decide (a.len = 0) || decide (b.org < a.org + a.len)) && (decide (b.len = 0) || decide (a.org < b.org + b.len))
def same (a b : Lk) : Bool := decide (a.who = b.who) && decide (a.org = b.org) && decide (a.len = b.len) && (a.sh == b.sh)
def hit (l : Lk) (L : List Lk) : Bool := L.any (meet l)

theorem same_iff {a b : Lk} : same a b = true ↔ a = b := by
  cases a; cases b; simp [same, and_assoc]
theorem same_self (a : Lk) : same a a = true := same_iff.2 rfl
theorem may_iff {l : Lk} : may l = true ↔ 0 ≤ l.who ∧ l.who < 256 ∧ 0 ≤ l.org ∧ 0 ≤ l.len ∧ l.org + l.len ≤ 4611686018427387904 := by simp [may]
theorem meet_symm (a b : Lk) : meet a b = meet b a := by
  have h1 : (a.who = b.who) = (b.who = a.who) := propext eq_comm
  unfold meet
  simp only [ne_eq, h1, Bool.and_comm a.sh b.sh]
  rw [Bool.and_assoc, Bool.and_assoc, Bool.and_comm (_ || _) (_ || _)]
  simp only [Bool.and_assoc]
theorem meet_who {a b : Lk} (h : meet a b = true) : a.who ≠ b.who := by
  simp [meet] at h; exact h.1.1.1
theorem hit_iff {l : Lk} {L : List Lk} : hit l L = true ↔ ∃ y ∈ L, meet l y = true := by simp [hit]
theorem hit_false {l : Lk} {L : List Lk} : hit l L = false ↔ ∀ y ∈ L, meet l y = false := by simp [hit]
theorem hit_append (l : Lk) (L M : List Lk) : hit l (L ++ M) = (hit l L || hit l M) := by simp [hit]

/-- One who waits for another. -/
def E (H W : List Lk) (a b : Int) : Prop := ∃ S x R y, W = S ++ x :: R ∧ (y ∈ H ∨ y ∈ S) ∧ meet x y = true ∧ x.who = a ∧ y.who = b
def Circ (H W : List Lk) : Prop := ∃ a, TransGen (E H W) a a
/-- With l as the last that waits its who comes to wait for itself. -/
def dead (H W : List Lk) (l : Lk) : Prop := TransGen (E H (W ++ [l])) l.who l.who

theorem tg_mono {r s : Int → Int → Prop} (h : ∀ a b, r a b → s a b) {a b : Int} (t : TransGen r a b) : TransGen s a b := by
  induction t with
  | single x => exact .single (h _ _ x)
  | tail _ x ih => exact .tail ih (h _ _ x)
theorem circ_mono {H W H' W' : List Lk} (h : ∀ a b, E H' W' a b → E H W a b) (hc : ¬ Circ H W) : ¬ Circ H' W' := fun ⟨a, t⟩ => hc ⟨a, tg_mono h t⟩

theorem snoc_split {W S R : List Lk} {l x : Lk} (h : W ++ [l] = S ++ x :: R) : (∃ R', W = S ++ x :: R' ∧ R = R' ++ [l]) ∨ (W = S ∧ x = l ∧ R = []) := by
  rcases List.append_eq_append_iff.1 h with ⟨a, h1, h2⟩ | ⟨c, h1, h2⟩
  · cases a with
    | nil => right; simp at h1 h2; exact ⟨h1.symm, h2.1.symm, h2.2⟩
    | cons z a => simp at h2
  · cases c with
    | nil => right; simp at h1 h2; exact ⟨h1, h2.1, h2.2⟩
    | cons z c =>
      simp at h2
      left; exact ⟨c, by rw [h1, h2.1], h2.2⟩

theorem e_snoc {H W : List Lk} {l : Lk} {a b : Int} (h : E H (W ++ [l]) a b) : E H W a b ∨ a = l.who := by
  obtain ⟨S, x, R, y, hs, hy, hm, ha, hb⟩ := h
  rcases snoc_split hs with ⟨R', h1, -⟩ | ⟨-, rfl, -⟩
  · exact .inl ⟨S, x, R', y, h1, hy, hm, ha, hb⟩
  · exact .inr ha.symm
theorem e_grow {H W : List Lk} {l : Lk} {a b : Int} (h : E H W a b) : E H (W ++ [l]) a b := by
  obtain ⟨S, x, R, y, hs, hy, hm, ha, hb⟩ := h
  exact ⟨S, x, R ++ [l], y, by rw [hs]; simp, hy, hm, ha, hb⟩

theorem path_split {H W : List Lk} {l : Lk} {a b : Int} (t : TransGen (E H (W ++ [l])) a b) : TransGen (E H W) a b ∨ ((a = l.who ∨ TransGen (E H (W ++ [l])) a l.who) ∧ TransGen (E H (W ++ [l])) l.who b) := by
  induction t with
  | single x =>
    rcases e_snoc x with h | h
    · exact .inl (.single h)
    · exact .inr ⟨.inl h, by rw [← h]; exact .single x⟩
  | tail t x ih =>
    rcases ih with h | ⟨h1, h2⟩
    · rcases e_snoc x with h' | h'
      · exact .inl (.tail h h')
      · subst h'; exact .inr ⟨.inr t, .single x⟩
    · exact .inr ⟨h1, .tail h2 x⟩

theorem circ_snoc {H W : List Lk} {l : Lk} (hc : ¬ Circ H W) : Circ H (W ++ [l]) ↔ dead H W l := by
  constructor
  · rintro ⟨a, t⟩
    rcases path_split t with h | ⟨h1, h2⟩
    · exact absurd ⟨a, h⟩ hc
    · rcases h1 with rfl | h1
      · exact h2
      · exact TransGen.trans h2 h1
  · intro h; exact ⟨_, h⟩

/-- The table goes on: the held ones, those that still wait, those that are told, those not yet looked at. -/
def onF : List Lk → List Lk → List Lk → List Lk → List Lk × List Lk × List Lk
  | H, S, T, [] => (H, S, T)
  | H, S, T, x :: W => if (hit x H || hit x S) = true then onF H (S ++ [x]) T W else onF (H ++ [x]) S (T ++ [x]) W
def tryE (H W : List Lk) (l : Lk) : Nat := if may l = false then 2 else if 256 ≤ H.length + W.length then 4 else if (hit l H || hit l W) = true then 150 else 0
def tryH (H W : List Lk) (l : Lk) : List Lk := if tryE H W l = 0 then H ++ [l] else H
/-- Wait: 0 held, 1 it waits, else the error. -/
def waitE (H W : List Lk) (l : Lk) (d : Bool) : Nat := if may l = false then 2 else if 256 ≤ H.length + W.length then 4 else if (hit l H || hit l W) = false then 0 else if d = true then 151 else 1
def waitH (H W : List Lk) (l : Lk) (d : Bool) : List Lk := if waitE H W l d = 0 then H ++ [l] else H
def waitW (H W : List Lk) (l : Lk) (d : Bool) : List Lk := if waitE H W l d = 1 then W ++ [l] else W
def freeE (H : List Lk) (l : Lk) : Nat := if may l = false then 2 else if H.any (same · l) = true then 0 else 192
def freeH (H : List Lk) (l : Lk) : List Lk := H.eraseP (same · l)
def freeT (H W : List Lk) (l : Lk) : List Lk × List Lk × List Lk := if freeE H l = 0 then onF (freeH H l) [] [] W else (H, W, [])
def gone (L : List Lk) (who : Int) : List Lk := L.filter fun x => decide (x.who ≠ who)
def leaveT (H W : List Lk) (who : Int) : List Lk × List Lk × List Lk := onF (gone H who) [] [] (gone W who)

/-- What is told of one that goes on, whatever it was before. -/
structure OnP (H S T W H' S' T' : List Lk) : Prop where
  ex : ∃ D, H' = H ++ D ∧ T' = T ++ D ∧ (∀ x ∈ D, x ∈ W)
  sub : ∃ R, S' = S ++ R ∧ (∀ x ∈ R, x ∈ W)
  len : S'.length + T'.length = S.length + T.length + W.length
  sum : H'.length + S'.length = H.length + S.length + W.length

theorem onF_p : ∀ (W H S T : List Lk), OnP H S T W (onF H S T W).1 (onF H S T W).2.1 (onF H S T W).2.2
  | [], H, S, T => ⟨⟨[], by simp [onF], by simp [onF], by simp⟩, ⟨[], by simp [onF], by simp⟩, by simp [onF], by simp [onF]⟩
  | x :: W, H, S, T => by
    unfold onF
    split
    · have h := onF_p W H (S ++ [x]) T
      obtain ⟨D, h1, h2, h3⟩ := h.ex
      obtain ⟨R, h4, h5⟩ := h.sub
      have h6 := h.len
      have h7 := h.sum
      refine ⟨⟨D, h1, h2, fun y hy => by simp [h3 y hy]⟩, ⟨x :: R, by rw [h4]; simp, fun y hy => ?_⟩, ?_, ?_⟩
      · rcases List.mem_cons.1 hy with rfl | hy
        · simp
        · simp [h5 y hy]
      · simp at h6 ⊢; omega
      · simp at h7 ⊢; omega
    · have h := onF_p W (H ++ [x]) S (T ++ [x])
      obtain ⟨D, h1, h2, h3⟩ := h.ex
      obtain ⟨R, h4, h5⟩ := h.sub
      have h6 := h.len
      have h7 := h.sum
      refine ⟨⟨x :: D, by rw [h1]; simp, by rw [h2]; simp, fun y hy => ?_⟩, ⟨R, h4, fun y hy => by simp [h5 y hy]⟩, ?_, ?_⟩
      · rcases List.mem_cons.1 hy with rfl | hy
        · simp
        · simp [h3 y hy]
      · simp at h6 ⊢; omega
      · simp at h7 ⊢; omega

theorem e_on {H S W : List Lk} {x : Lk} (hs : hit x S = false) {a b : Int} (h : E (H ++ [x]) (S ++ W) a b) : E H (S ++ x :: W) a b := by
  obtain ⟨S1, z, R, y, he, hy, hm, ha, hb⟩ := h
  rcases List.append_eq_append_iff.1 he with ⟨c, h1, h2⟩ | ⟨c, h1, h2⟩
  · -- z behind S
    refine ⟨S ++ x :: c, z, R, y, by rw [h2]; simp, ?_, hm, ha, hb⟩
    rw [h1] at hy
    simp only [List.mem_append, List.mem_cons, List.not_mem_nil, or_false] at hy ⊢
    rcases hy with (h | h) | (h | h)
    · exact .inl h
    · exact .inr (.inr (.inl h))
    · exact .inr (.inl h)
    · exact .inr (.inr (.inr h))
  · cases c with
    | nil =>
      simp at h1 h2
      subst h1
      refine ⟨S ++ [x], z, R, y, by rw [← h2]; simp, ?_, hm, ha, hb⟩
      simp only [List.mem_append, List.mem_singleton] at hy ⊢
      rcases hy with (h | h) | h
      · exact .inl h
      · exact .inr (.inr h)
      · exact .inr (.inl h)
    | cons z' c =>
      simp at h2
      obtain ⟨rfl, h2⟩ := h2
      have hzS : z ∈ S := by rw [h1]; simp
      refine ⟨S1, z, c ++ x :: W, y, by rw [h1]; simp, ?_, hm, ha, hb⟩
      simp only [List.mem_append, List.mem_singleton] at hy
      rcases hy with (h | h) | h
      · exact .inl h
      · subst h
        have := hit_false.1 hs z hzS
        rw [meet_symm] at this
        rw [this] at hm; exact absurd hm (by simp)
      · exact .inr h

theorem nocirc_on : ∀ (W H S T : List Lk), ¬ Circ H (S ++ W) → ¬ Circ (onF H S T W).1 (onF H S T W).2.1
  | [], H, S, T, h => by simpa [onF] using h
  | x :: W, H, S, T, h => by
    unfold onF
    split
    · exact nocirc_on W H (S ++ [x]) T (by simpa using h)
    · rename_i hx
      simp only [Bool.or_eq_true, not_or, Bool.not_eq_true] at hx
      exact nocirc_on W (H ++ [x]) S (T ++ [x]) (circ_mono (fun a b => e_on hx.2) h)

def Apart (H : List Lk) : Prop := H.Pairwise fun a b => meet a b = false
def Kept (H W : List Lk) : Prop := ∀ S x R, W = S ++ x :: R → (hit x H || hit x S) = true

theorem apart_snoc {H : List Lk} {l : Lk} (h : Apart H) (hl : hit l H = false) : Apart (H ++ [l]) := by
  refine List.pairwise_append.2 ⟨h, by simp, fun a ha b hb => ?_⟩
  simp only [List.mem_singleton] at hb
  subst hb
  rw [meet_symm]; exact hit_false.1 hl a ha
theorem kept_snoc {H W : List Lk} {l : Lk} (h : Kept H W) : Kept (H ++ [l]) W := fun S x R hs => by
  have := h S x R hs
  rw [hit_append]
  simp only [Bool.or_eq_true] at this ⊢
  rcases this with h | h
  · exact .inl (.inl h)
  · exact .inr h
theorem kept_last {H W : List Lk} {l : Lk} (h : Kept H W) (hl : (hit l H || hit l W) = true) : Kept H (W ++ [l]) := fun S x R hs => by
  rcases snoc_split hs with ⟨R', h1, -⟩ | ⟨h1, h2, -⟩
  · exact h S x R' h1
  · rw [← h1, h2]; exact hl

theorem on_apart : ∀ (W H S T : List Lk), Apart H → Apart (onF H S T W).1
  | [], H, S, T, h => by simpa [onF] using h
  | x :: W, H, S, T, h => by
    unfold onF
    split
    · exact on_apart W _ _ _ h
    · rename_i hx
      simp only [Bool.or_eq_true, not_or, Bool.not_eq_true] at hx
      exact on_apart W _ _ _ (apart_snoc h hx.1)
theorem on_kept : ∀ (W H S T : List Lk), Kept H S → Kept (onF H S T W).1 (onF H S T W).2.1
  | [], H, S, T, h => by simpa [onF] using h
  | x :: W, H, S, T, h => by
    unfold onF
    split
    · rename_i hx
      exact on_kept W _ _ _ (kept_last h hx)
    · exact on_kept W _ _ _ (kept_snoc h)

/-- The table's promise. -/
structure Inv (H W : List Lk) : Prop where
  mh : ∀ x ∈ H, may x = true
  mw : ∀ x ∈ W, may x = true
  ap : Apart H
  kp : Kept H W
  nc : ¬ Circ H W
  few : H.length + W.length ≤ 256

theorem e_nil {H : List Lk} {a b : Int} : ¬ E H [] a b := by
  rintro ⟨S, x, R, y, h, -⟩
  simp at h
theorem tg_first {r : Int → Int → Prop} {a b : Int} (t : TransGen r a b) : ∃ c, r a c := by
  induction t with
  | single x => exact ⟨_, x⟩
  | tail _ _ ih => exact ih
theorem circ_nil (H : List Lk) : ¬ Circ H [] := fun ⟨_, t⟩ => by
  obtain ⟨c, h⟩ := tg_first t
  exact e_nil h
theorem inv_nil : Inv [] [] := ⟨by simp, by simp, List.Pairwise.nil, fun S x R h => by simp at h, circ_nil _, by simp⟩

theorem e_try {H W : List Lk} {l : Lk} (hw : hit l W = false) {a b : Int} (h : E (H ++ [l]) W a b) : E H W a b := by
  obtain ⟨S, x, R, y, he, hy, hm, ha, hb⟩ := h
  refine ⟨S, x, R, y, he, ?_, hm, ha, hb⟩
  simp only [List.mem_append, List.mem_singleton] at hy
  rcases hy with (h | h) | h
  · exact .inl h
  · subst h
    have := hit_false.1 hw x (by rw [he]; simp)
    rw [meet_symm] at this
    rw [this] at hm; exact absurd hm (by simp)
  · exact .inr h

theorem inv_held {H W : List Lk} {l : Lk} (h : Inv H W) (hm : may l = true) (hl : (hit l H || hit l W) = false) (hn : ¬ 256 ≤ H.length + W.length) : Inv (H ++ [l]) W := by
  simp only [Bool.or_eq_false_iff] at hl
  refine ⟨fun x hx => ?_, h.mw, apart_snoc h.ap hl.1, kept_snoc h.kp, circ_mono (fun a b => e_try hl.2) h.nc, by simp; omega⟩
  rcases List.mem_append.1 hx with hx | hx
  · exact h.mh x hx
  · simp at hx; subst hx; exact hm
theorem inv_waits {H W : List Lk} {l : Lk} (h : Inv H W) (hm : may l = true) (hl : (hit l H || hit l W) = true) (hd : ¬ dead H W l) (hn : ¬ 256 ≤ H.length + W.length) : Inv H (W ++ [l]) := by
  refine ⟨h.mh, fun x hx => ?_, h.ap, kept_last h.kp hl, fun hc => hd ((circ_snoc h.nc).1 hc), by simp; omega⟩
  rcases List.mem_append.1 hx with hx | hx
  · exact h.mw x hx
  · simp at hx; subst hx; exact hm

theorem inv_try {H W : List Lk} (l : Lk) (h : Inv H W) : Inv (tryH H W l) W := by
  unfold tryH
  split
  · rename_i he
    unfold tryE at he
    split at he
    · simp at he
    · split at he
      · simp at he
      · split at he
        · simp at he
        · rename_i h1 h2 h3
          exact inv_held h (by simpa using h1) (by simpa using h3) h2
  · exact h
theorem inv_wait {H W : List Lk} (l : Lk) (d : Bool) (hd : d = true ↔ dead H W l) (h : Inv H W) : Inv (waitH H W l d) (waitW H W l d) := by
  unfold waitH waitW
  by_cases h1 : may l = false
  · rw [if_neg, if_neg]; exact h
    all_goals simp [waitE, h1]
  by_cases h2 : 256 ≤ H.length + W.length
  · rw [if_neg, if_neg]; exact h
    all_goals simp [waitE, h1, h2]
  by_cases h3 : (hit l H || hit l W) = false
  · have e : waitE H W l d = 0 := by unfold waitE; rw [if_neg h1, if_neg h2, if_pos h3]
    rw [e]
    exact inv_held h (by simpa using h1) h3 h2
  by_cases h4 : d = true
  · have e : waitE H W l d = 151 := by unfold waitE; rw [if_neg h1, if_neg h2, if_neg h3, if_pos h4]
    rw [e]
    exact h
  · have e : waitE H W l d = 1 := by unfold waitE; rw [if_neg h1, if_neg h2, if_neg h3, if_neg h4]
    rw [e]
    exact inv_waits h (by simpa using h1) (by rw [Bool.not_eq_false] at h3; exact h3) (fun k => h4 (hd.2 k)) h2

theorem e_sub {H W H' W' : List Lk} (hH : ∀ x ∈ H', x ∈ H) (hW : W'.Sublist W) {a b : Int} (h : E H' W' a b) : E H W a b := by
  obtain ⟨S, x, R, y, rfl, hy, hm, ha, hb⟩ := h
  obtain ⟨S1, R1, rfl, h1, h2⟩ := List.append_sublist_iff.1 hW
  obtain ⟨A, B, rfl, h3, h4⟩ := List.cons_sublist_iff.1 h2
  obtain ⟨A1, A2, rfl⟩ := List.append_of_mem h3
  refine ⟨S1 ++ A1, x, A2 ++ B, y, by simp, ?_, hm, ha, hb⟩
  rcases hy with h | h
  · exact .inl (hH y h)
  · exact .inr (List.mem_append_left _ (h1.subset h))

/-- Behind cutting, the table goes on. -/
theorem inv_on {H W H' W' : List Lk} (h : Inv H W) (hH : H'.Sublist H) (hW : W'.Sublist W) : Inv (onF H' [] [] W').1 (onF H' [] [] W').2.1 := by
  have hp := onF_p W' H' [] []
  obtain ⟨D, h1, h2, h3⟩ := hp.ex
  obtain ⟨R, h4, h5⟩ := hp.sub
  have h6 := hp.sum
  refine ⟨fun x hx => ?_, fun x hx => ?_, on_apart _ _ _ _ (h.ap.sublist hH), on_kept _ _ _ _ (fun S x R hs => by simp at hs), nocirc_on _ _ _ _ (circ_mono (fun a b => e_sub (fun x hx => hH.subset hx) (by simpa using hW)) h.nc), ?_⟩
  · rw [h1] at hx
    rcases List.mem_append.1 hx with hx | hx
    · exact h.mh x (hH.subset hx)
    · exact h.mw x (hW.subset (h3 x hx))
  · rw [h4] at hx
    simp at hx
    exact h.mw x (hW.subset (h5 x hx))
  · have := h.few
    have a1 := hH.length_le
    have a2 := hW.length_le
    simp at h6
    omega
theorem inv_free {H W : List Lk} (l : Lk) (h : Inv H W) : Inv (freeT H W l).1 (freeT H W l).2.1 := by
  unfold freeT
  split
  · exact inv_on h List.eraseP_sublist (List.Sublist.refl _)
  · exact h
theorem inv_leave {H W : List Lk} (who : Int) (h : Inv H W) : Inv (leaveT H W who).1 (leaveT H W who).2.1 := inv_on h List.filter_sublist List.filter_sublist

/-- reach: the whos that are met for the first time, onto both rows. -/
def reachF (x : Lk) : List Lk → List Int → List Int → List Int × List Int
  | [], K, q => (K, q)
  | y :: A, K, q => if (meet x y && !(K.contains y.who)) = true then reachF x A (K ++ [y.who]) (q ++ [y.who]) else reachF x A K q

/-- How many are not reached yet. -/
def mu (U : List Lk) (K : List Int) : Nat := (U.filter fun x => !(K.contains x.who)).length

theorem mu_le (U : List Lk) (K D : List Int) : mu U (K ++ D) ≤ mu U K := by
  unfold mu
  induction U with
  | nil => simp
  | cons y U ih =>
    simp only [List.filter_cons]
    by_cases h : K.contains y.who
    · have : (K ++ D).contains y.who = true := by simp only [List.contains_iff_mem, List.mem_append] at h ⊢; exact .inl h
      simp only [h, this, Bool.not_true]; exact ih
    · simp only [Bool.not_eq_true] at h
      simp only [h, Bool.not_false, if_true]
      split
      · simp only [List.length_cons]; omega
      · simp only [List.length_cons]; omega
theorem mu_add {U : List Lk} {K : List Int} {y : Lk} (hy : y ∈ U) (hK : K.contains y.who = false) : mu U (K ++ [y.who]) + 1 ≤ mu U K := by
  induction U with
  | nil => simp at hy
  | cons z U ih =>
    have hle := mu_le U K [y.who]
    unfold mu at hle ih ⊢
    simp only [List.filter_cons]
    by_cases hz : z.who = y.who
    · have h1 : (K ++ [y.who]).contains z.who = true := by simp [hz]
      have h2 : K.contains z.who = false := by rw [hz]; exact hK
      simp only [h1, h2, Bool.not_true, Bool.not_false, if_true, List.length_cons]
      simp only [Bool.false_eq_true, if_false]
      omega
    · have hyU : y ∈ U := by
        rcases List.mem_cons.1 hy with rfl | h
        · exact absurd rfl hz
        · exact h
      have h1 : (K ++ [y.who]).contains z.who = K.contains z.who := by
        rw [Bool.eq_iff_iff]
        simp only [List.contains_iff_mem, List.mem_append, List.mem_singleton, hz, or_false]
      rw [h1]
      split
      · simp only [List.length_cons]; have := ih hyU; omega
      · exact ih hyU

structure ReachP (U : List Lk) (x : Lk) (A : List Lk) (K q K' q' : List Int) : Prop where
  ex : ∃ D, K' = K ++ D ∧ q' = q ++ D ∧ ∀ b ∈ D, ∃ y ∈ A, meet x y = true ∧ y.who = b
  all : ∀ y ∈ A, meet x y = true → y.who ∈ K'
  few : 2 * mu U K' + q'.length ≤ 2 * mu U K + q.length
  kfew : mu U K' + K'.length ≤ mu U K + K.length

theorem reachF_p (U : List Lk) (x : Lk) : ∀ (A : List Lk) (K q : List Int), (∀ y ∈ A, y ∈ U) → ReachP U x A K q (reachF x A K q).1 (reachF x A K q).2
  | [], K, q, _ => ⟨⟨[], by simp [reachF]⟩, by simp, by simp [reachF], by simp [reachF]⟩
  | y :: A, K, q, hU => by
    unfold reachF
    split
    · rename_i h
      simp only [Bool.and_eq_true, Bool.not_eq_true', ← Bool.not_eq_true] at h
      have hp := reachF_p U x A (K ++ [y.who]) (q ++ [y.who]) (fun z hz => hU z (by simp [hz]))
      obtain ⟨D, h1, h2, h3⟩ := hp.ex
      have hm := mu_add (hU y (by simp)) (by simpa using h.2)
      refine ⟨⟨y.who :: D, by rw [h1]; simp, by rw [h2]; simp, fun b hb => ?_⟩, fun z hz hm => ?_, ?_, ?_⟩
      · rcases List.mem_cons.1 hb with rfl | hb
        · exact ⟨y, by simp, h.1, rfl⟩
        · obtain ⟨z, hz, h4⟩ := h3 b hb
          exact ⟨z, by simp [hz], h4⟩
      · rcases List.mem_cons.1 hz with rfl | hz
        · rw [h1]; simp
        · exact hp.all z hz hm
      · have := hp.few; simp at this; omega
      · have := hp.kfew; simp at this; omega
    · rename_i h
      have hp := reachF_p U x A K q (fun z hz => hU z (by simp [hz]))
      obtain ⟨D, h1, h2, h3⟩ := hp.ex
      refine ⟨⟨D, h1, h2, fun b hb => ?_⟩, fun z hz hm => ?_, hp.few, hp.kfew⟩
      · obtain ⟨z, hz, h4⟩ := h3 b hb
        exact ⟨z, by simp [hz], h4⟩
      · rcases List.mem_cons.1 hz with rfl | hz
        · simp only [hm, Bool.true_and, Bool.not_eq_true', Bool.not_eq_false, List.contains_iff_mem] at h
          rw [h1]; exact List.mem_append_left _ h
        · exact hp.all z hz hm

/-- The search for a circle, between two whos. (W: the waiting ones, l's among them.) -/
structure BI (H W : List Lk) (o : Int) (M : Nat) (K q : List Int) : Prop where
  sound : ∀ b ∈ K, TransGen (E H W) o b
  queue : ∀ b ∈ q, b = o ∨ b ∈ K
  closed : ∀ a, (a = o ∨ a ∈ K) → a ∈ q ∨ ∀ b, E H W a b → b ∈ K
  yet : o ∉ K
  few : 2 * mu (H ++ W) K + q.length ≤ M
  kfew : mu (H ++ W) K + K.length ≤ (H ++ W).length

/-- The same, within a who: i of the waiting ones are looked at. -/
structure BJ (H W : List Lk) (o : Int) (M : Nat) (who : Int) (i : Nat) (K q : List Int) : Prop where
  sound : ∀ b ∈ K, TransGen (E H W) o b
  queue : ∀ b ∈ q, b = o ∨ b ∈ K
  closed : ∀ a, (a = o ∨ a ∈ K) → a ∈ q ∨ a = who ∨ ∀ b, E H W a b → b ∈ K
  part : ∀ S x R y, W = S ++ x :: R → S.length < i → x.who = who → (y ∈ H ∨ y ∈ S) → meet x y = true → y.who ∈ K
  mine : who = o ∨ who ∈ K
  few : 2 * mu (H ++ W) K + q.length ≤ M
  kfew : mu (H ++ W) K + K.length ≤ (H ++ W).length

theorem bi_first (H W : List Lk) (o : Int) : BI H W o (2 * (H ++ W).length + 1) [] [o] :=
  ⟨by simp, by simp, fun a h => by simp at h; simp [h], by simp, by unfold mu; have := List.length_filter_le (fun x : Lk => !([] : List Int).contains x.who) (H ++ W); simp only [List.length_singleton]; omega, by unfold mu; have := List.length_filter_le (fun x : Lk => !([] : List Int).contains x.who) (H ++ W); simp only [List.length_nil]; omega⟩
theorem bj_first {H W : List Lk} {o : Int} {M : Nat} {K q : List Int} {who : Int} (h : BI H W o (M + 1) K (who :: q)) : BJ H W o M who 0 K q :=
  ⟨h.sound, fun b hb => h.queue b (by simp [hb]), fun a ha => by
    rcases h.closed a ha with h1 | h1
    · rcases List.mem_cons.1 h1 with h2 | h2
      · exact .inr (.inl h2)
      · exact .inl h2
    · exact .inr (.inr h1), by simp, h.queue who (by simp), by have := h.few; simp at this; omega, h.kfew⟩
theorem bj_skip {H W : List Lk} {o : Int} {M : Nat} {who : Int} {i : Nat} {K q : List Int} (h : BJ H W o M who i K q) {x : Lk} (hx : W[i]? = some x) (hw : x.who ≠ who) : BJ H W o M who (i + 1) K q :=
  ⟨h.sound, h.queue, h.closed, fun S z R y hs hi hz hy hm => by
    by_cases he : S.length = i
    · rw [hs, ← he] at hx
      simp at hx
      subst hx; exact absurd hz hw
    · exact h.part S z R y hs (by omega) hz hy hm, h.mine, h.few, h.kfew⟩
theorem split_at {W : List Lk} {i : Nat} {x : Lk} (hx : W[i]? = some x) : W = W.take i ++ x :: W.drop (i + 1) ∧ (W.take i).length = i := by
  obtain ⟨h, rfl⟩ := List.getElem?_eq_some_iff.1 hx
  refine ⟨?_, by simp; omega⟩
  rw [List.getElem_cons_drop, List.take_append_drop]
theorem split_uniq {W S R S' R' : List Lk} {x x' : Lk} (h : W = S ++ x :: R) (h' : W = S' ++ x' :: R') (hl : S.length = S'.length) : S = S' ∧ x = x' ∧ R = R' := by
  rw [h] at h'
  obtain ⟨h1, h2⟩ := List.append_inj h' hl
  simp at h2
  exact ⟨h1, h2⟩
theorem bj_reach {H W : List Lk} {o : Int} {M : Nat} {who : Int} {i : Nat} {K q K1 q1 K2 q2 : List Int} (h : BJ H W o M who i K q) {x : Lk} (hx : W[i]? = some x) (hw : x.who = who)
    (h1 : ReachP (H ++ W) x H K q K1 q1) (h2 : ReachP (H ++ W) x (W.take i) K1 q1 K2 q2) : BJ H W o M who (i + 1) K2 q2 := by
  obtain ⟨hsp, hsl⟩ := split_at hx
  obtain ⟨D1, a1, a2, a3⟩ := h1.ex
  obtain ⟨D2, b1, b2, b3⟩ := h2.ex
  have hedge : ∀ y, (y ∈ H ∨ y ∈ W.take i) → meet x y = true → E H W who y.who := fun y hy hm => ⟨_, x, _, y, hsp, hy, hm, hw, rfl⟩
  have hD : ∀ b, b ∈ D1 ∨ b ∈ D2 → E H W who b := fun b hb => by
    rcases hb with hb | hb
    · obtain ⟨y, hy, hm, rfl⟩ := a3 b hb; exact hedge y (.inl hy) hm
    · obtain ⟨y, hy, hm, rfl⟩ := b3 b hb; exact hedge y (.inr hy) hm
  have hto : ∀ b, E H W who b → TransGen (E H W) o b := fun b hb => by
    rcases h.mine with he | he
    · rw [he] at hb; exact .single hb
    · exact .tail (h.sound who he) hb
  have hK : K2 = K ++ (D1 ++ D2) := by rw [b1, a1, List.append_assoc]
  have hq : q2 = q ++ (D1 ++ D2) := by rw [b2, a2, List.append_assoc]
  have hKm : ∀ b, b ∈ K → b ∈ K2 := fun b hb => by rw [hK]; exact List.mem_append_left _ hb
  refine ⟨fun b hb => ?_, fun b hb => ?_, fun a ha => ?_, fun S z R y hs hi hz hy hm => ?_, ?_, ?_, ?_⟩
  · rw [hK] at hb
    rcases List.mem_append.1 hb with hb | hb
    · exact h.sound b hb
    · exact hto b (hD b (List.mem_append.1 hb))
  · rw [hq] at hb
    rcases List.mem_append.1 hb with hb | hb
    · rcases h.queue b hb with h3 | h3
      · exact .inl h3
      · exact .inr (hKm b h3)
    · right; rw [hK]; exact List.mem_append_right _ hb
  · have : (a = o ∨ a ∈ K) ∨ a ∈ D1 ++ D2 := by
      rcases ha with ha | ha
      · exact .inl (.inl ha)
      · rw [hK] at ha
        rcases List.mem_append.1 ha with ha | ha
        · exact .inl (.inr ha)
        · exact .inr ha
    rcases this with ha | ha
    · rcases h.closed a ha with h3 | h3 | h3
      · left; rw [hq]; exact List.mem_append_left _ h3
      · exact .inr (.inl h3)
      · exact .inr (.inr fun b hb => hKm b (h3 b hb))
    · left; rw [hq]; exact List.mem_append_right _ ha
  · by_cases he : S.length = i
    · obtain ⟨rfl, rfl, rfl⟩ := split_uniq hs hsp (by rw [he, hsl])
      rcases hy with hy | hy
      · have := h1.all y hy hm
        rw [b1]; exact List.mem_append_left _ this
      · exact h2.all y hy hm
    · exact hKm _ (h.part S z R y hs (by omega) hz hy hm)
  · rcases h.mine with h3 | h3
    · exact .inl h3
    · exact .inr (hKm _ h3)
  · have := h.few; have := h1.few; have := h2.few; omega
  · have := h.kfew; have := h1.kfew; have := h2.kfew; omega
theorem bi_next {H W : List Lk} {o : Int} {M : Nat} {who : Int} {K q : List Int} (h : BJ H W o M who W.length K q) (hy : o ∉ K) : BI H W o M K q :=
  ⟨h.sound, h.queue, fun a ha => by
    rcases h.closed a ha with h1 | h1 | h1
    · exact .inl h1
    · right
      rintro b ⟨S, x, R, y, hs, hy, hm, hx, rfl⟩
      exact h.part S x R y hs (by rw [hs]; simp) (hx.trans h1) hy hm
    · exact .inr h1, hy, h.few, h.kfew⟩
theorem bi_done {H W : List Lk} {o : Int} {M : Nat} {K : List Int} (h : BI H W o M K []) : ¬ TransGen (E H W) o o := by
  intro t
  have : ∀ b, TransGen (E H W) o b → b ∈ K := fun b t => by
    induction t with
    | single x =>
      rcases h.closed o (.inl rfl) with h1 | h1
      · simp at h1
      · exact h1 _ x
    | tail _ x ih =>
      rcases h.closed _ (.inr ih) with h1 | h1
      · simp at h1
      · exact h1 _ x
  exact h.yet (this o t)
end Go.Proofs.Ytfpegmmciphjiaa
