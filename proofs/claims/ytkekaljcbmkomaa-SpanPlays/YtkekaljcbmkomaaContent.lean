/- Stretches told by what they hold: the content is one and the same where the same places hold the same bytes; calls as relations. -/
import Derived.Test.YtkekaljcbmkomaaLaid
import Derived.Test.YtkekaljcbmkomaaNext
namespace Go.Proofs.Ytkekaljcbmkomaa
open Go.RowKit

/-- What the stretches hold, without where it lies in memory. -/
def ct (L : List Piece) : List (Nat × List UInt8) := L.map fun d => (d.org, d.bs)

theorem ct_unique : ∀ {L M : List Piece}, L.Pairwise (fun a b => a.fin < b.org) → (∀ d, d ∈ L → 0 < d.bs.length) → M.Pairwise (fun a b => a.fin < b.org) → (∀ d, d ∈ M → 0 < d.bs.length) →
    (∀ p, heldAt L p ↔ heldAt M p) → (∀ p, byteAt L p = byteAt M p) → ct L = ct M := by
  intro L
  induction L with
  | nil =>
    intro M _ _ _ hMn hh _
    cases M with
    | nil => rfl
    | cons e M =>
      have hn := hMn e (by simp)
      obtain ⟨d, hd, -⟩ := (hh e.org).2 ⟨e, by simp, Nat.le_refl _, by unfold Piece.fin; omega⟩
      simp at hd
  | cons d L ih =>
    intro M hL hLn hM hMn hh hb
    cases M with
    | nil =>
      have hn := hLn d (by simp)
      obtain ⟨e, he, -⟩ := (hh d.org).1 ⟨d, by simp, Nat.le_refl _, by unfold Piece.fin; omega⟩
      simp at he
    | cons e M =>
      have hL' := List.pairwise_cons.1 hL
      have hM' := List.pairwise_cons.1 hM
      have hdn := hLn d (by simp)
      have hen := hMn e (by simp)
      have hdf : d.org < d.fin := by unfold Piece.fin; omega
      have hef : e.org < e.fin := by unfold Piece.fin; omega
      have key : ∀ {d e : Piece} {L M : List Piece}, (∀ x, x ∈ L → d.fin < x.org) → (∀ x, x ∈ M → e.fin < x.org) → d.org < d.fin → e.org < e.fin → (∀ p, heldAt (d :: L) p ↔ heldAt (e :: M) p) → e.org ≤ d.org := by
        intro d e L M h1 h2 hd he hh
        obtain ⟨x, hx, h3, h4⟩ := (hh d.org).1 ⟨d, by simp, Nat.le_refl _, hd⟩
        rcases List.mem_cons.1 hx with rfl | hx
        · exact h3
        · have := h2 x hx; omega
      have ho : d.org = e.org := Nat.le_antisymm (key hM'.1 hL'.1 hef hdf (fun p => (hh p).symm)) (key hL'.1 hM'.1 hdf hef hh)
      have key2 : ∀ {d e : Piece} {L M : List Piece}, (∀ x, x ∈ L → d.fin < x.org) → d.org < d.fin → d.org = e.org → (∀ p, heldAt (d :: L) p ↔ heldAt (e :: M) p) → e.fin ≤ d.fin := by
        intro d e L M h1 hd ho hh
        apply Nat.le_of_not_lt
        intro hlt
        obtain ⟨x, hx, h3, h4⟩ := (hh d.fin).2 ⟨e, by simp, by omega, hlt⟩
        rcases List.mem_cons.1 hx with rfl | hx
        · omega
        · have := h1 x hx; omega
      have hf : d.fin = e.fin := Nat.le_antisymm (key2 hM'.1 hef ho.symm (fun p => (hh p).symm)) (key2 hL'.1 hdf ho hh)
      have hbs : d.bs = e.bs := by
        have hlen : d.bs.length = e.bs.length := by unfold Piece.fin at hf; omega
        apply List.ext_getElem hlen
        intro i h1 h2
        have h3 := hb (d.org + i)
        rw [byteAt_mem hL (d := d) (by simp) (by omega) (by unfold Piece.fin; omega), byteAt_mem hM (d := e) (by simp) (by omega) (by unfold Piece.fin; omega)] at h3
        rw [Nat.add_sub_cancel_left, show d.org + i - e.org = i by omega] at h3
        simpa [List.getD_eq_getElem?_getD, List.getElem?_eq_getElem h1, List.getElem?_eq_getElem h2] using h3
      have tl : ct L = ct M := by
        have hx : ∀ {d : Piece} {L : List Piece}, (∀ x, x ∈ L → d.fin < x.org) → ∀ p, heldAt L p ↔ heldAt (d :: L) p ∧ d.fin < p := by
          intro d L h p
          constructor
          · rintro ⟨x, hx, h1, h2⟩
            have := h x hx
            exact ⟨⟨x, by simp [hx], h1, h2⟩, by omega⟩
          · rintro ⟨⟨x, hx, h1, h2⟩, h3⟩
            rcases List.mem_cons.1 hx with rfl | hx
            · omega
            · exact ⟨x, hx, h1, h2⟩
        have hy : ∀ {d : Piece} {L : List Piece}, (∀ x, x ∈ L → d.fin < x.org) → ∀ p, byteAt L p = if d.fin < p then byteAt (d :: L) p else 0 := by
          intro d L h p
          split
          · rw [byteAt, if_neg (by omega)]
          · exact byteAt_of_not (fun ⟨x, hx, h1, h2⟩ => by have := h x hx; omega)
        refine ih hL'.2 (fun x hx => hLn x (by simp [hx])) hM'.2 (fun x hx => hMn x (by simp [hx])) (fun p => ?_) (fun p => ?_)
        · rw [hx hL'.1 p, hx hM'.1 p, hh p, hf]
        · rw [hy hL'.1 p, hy hM'.1 p, hb p, hf]
      simp only [ct, List.map_cons, List.cons.injEq, Prod.mk.injEq] at tl ⊢
      exact ⟨⟨ho, hbs⟩, tl⟩

theorem ct_cases {L M : List Piece} (h : ct L = ct M) : (L = [] ∧ M = []) ∨ ∃ d L' e M', L = d :: L' ∧ M = e :: M' ∧ d.org = e.org ∧ d.bs = e.bs ∧ ct L' = ct M' := by
  cases L with
  | nil => cases M with
    | nil => exact .inl ⟨rfl, rfl⟩
    | cons e M => simp [ct] at h
  | cons d L => cases M with
    | nil => simp [ct] at h
    | cons e M =>
      simp only [ct, List.map_cons, List.cons.injEq, Prod.mk.injEq] at h
      exact .inr ⟨d, L, e, M, rfl, rfl, h.1.1, h.1.2, h.2⟩

theorem ct_length {L M : List Piece} (h : ct L = ct M) : L.length = M.length := by simpa [ct] using congrArg List.length h
theorem ct_held : ∀ {L M : List Piece}, ct L = ct M → heldOf L = heldOf M := by
  intro L
  induction L with
  | nil => intro M h; rcases ct_cases h with ⟨-, rfl⟩ | ⟨_, _, _, _, h1, -⟩ <;> simp_all
  | cons d L ih =>
    intro M h
    rcases ct_cases h with ⟨h1, -⟩ | ⟨d', L', e, M', h1, rfl, -, h3, h4⟩
    · simp at h1
    · obtain ⟨rfl, rfl⟩ := List.cons.inj h1
      rw [heldOf_cons, heldOf_cons, h3, ih h4]
theorem ct_ovls (x y : Nat) : ∀ {L M : List Piece}, ct L = ct M → ovls x y L = ovls x y M := by
  intro L
  induction L with
  | nil => intro M h; rcases ct_cases h with ⟨-, rfl⟩ | ⟨_, _, _, _, h1, -⟩ <;> simp_all
  | cons d L ih =>
    intro M h
    rcases ct_cases h with ⟨h1, -⟩ | ⟨d', L', e, M', h1, rfl, h2, h3, h4⟩
    · simp at h1
    · obtain ⟨rfl, rfl⟩ := List.cons.inj h1
      rw [ovls_cons, ovls_cons, ih h4]
      unfold ovl Piece.fin
      rw [h2, h3]
theorem ct_byte (p : Nat) : ∀ {L M : List Piece}, ct L = ct M → byteAt L p = byteAt M p := by
  intro L
  induction L with
  | nil => intro M h; rcases ct_cases h with ⟨-, rfl⟩ | ⟨_, _, _, _, h1, -⟩ <;> simp_all
  | cons d L ih =>
    intro M h
    rcases ct_cases h with ⟨h1, -⟩ | ⟨d', L', e, M', h1, rfl, h2, h3, h4⟩
    · simp at h1
    · obtain ⟨rfl, rfl⟩ := List.cons.inj h1
      rw [byteAt, byteAt, ih h4]
      unfold Piece.fin
      rw [h2, h3]
theorem ct_has (p : Nat) : ∀ {L M : List Piece}, ct L = ct M → (heldAt L p ↔ heldAt M p) := by
  have key : ∀ {L M : List Piece}, ct L = ct M → heldAt L p → heldAt M p := by
    intro L M h
    rintro ⟨d, hd, h1, h2⟩
    have : (d.org, d.bs) ∈ ct M := by rw [← h]; exact List.mem_map.2 ⟨d, hd, rfl⟩
    obtain ⟨e, he, h3⟩ := List.mem_map.1 this
    simp only [Prod.mk.injEq] at h3
    exact ⟨e, he, by omega, by unfold Piece.fin at *; rw [h3.2]; omega⟩
  intro L M h
  exact ⟨key h, key h.symm⟩
theorem ct_readB {L M : List Piece} (h : ct L = ct M) (x m : Nat) : readB L x m = readB M x m := List.map_congr_left fun _ _ => ct_byte _ h
theorem ct_next (sz x : Nat) : ∀ {L M : List Piece}, ct L = ct M → nextOf L sz x = nextOf M sz x := by
  intro L
  induction L with
  | nil => intro M h; rcases ct_cases h with ⟨-, rfl⟩ | ⟨_, _, _, _, h1, -⟩ <;> simp_all
  | cons d L ih =>
    intro M h
    rcases ct_cases h with ⟨h1, -⟩ | ⟨d', L', e, M', h1, rfl, h2, h3, h4⟩
    · simp at h1
    · obtain ⟨rfl, rfl⟩ := List.cons.inj h1
      have hf : d.fin = e.fin := by unfold Piece.fin; rw [h2, h3]
      have := ih h4
      unfold nextOf at this ⊢
      rw [List.find?_cons, List.find?_cons, hf]
      cases decide (x < e.fin)
      · exact this
      · simp only [h2, hf]

theorem laid_ct {L L' M M' : List Piece} {x : Nat} {l : List UInt8} (h : Laid L L' x l) (k : Laid M M' x l) (e : ct L = ct M) : ct L' = ct M' :=
  ct_unique h.sep h.ne k.sep k.ne (fun p => by rw [h.has, k.has, ct_has p e]) (fun p => by rw [h.byte, k.byte, ct_byte p e])
theorem erased_ct {L L' M M' : List Piece} {x y : Nat} (h : Erased L L' x y) (k : Erased M M' x y) (e : ct L = ct M) : ct L' = ct M' :=
  ct_unique h.sep h.ne k.sep k.ne (fun p => by rw [h.has, k.has, ct_has p e]) (fun p => by rw [h.byte, k.byte, ct_byte p e])

/-- Put, Cut, Punch: the answer, and what stands behind it. -/
def PutR (sz : Nat) (L : List Piece) (x : Int) (l : List UInt8) (r : Int) (sz' : Nat) (L' : List Piece) : Prop :=
  (x < 0 ∧ r = 2 ∧ sz' = sz ∧ L' = L) ∨ (0 ≤ x ∧ l = [] ∧ r = 0 ∧ sz' = sz ∧ L' = L) ∨
  (0 ≤ x ∧ l ≠ [] ∧ (1073741824 < x + l.length ∨ 4194304 < heldOf L - ovls x.toNat (x.toNat + l.length) L + l.length) ∧ r = 3 ∧ sz' = sz ∧ L' = L) ∨
  (0 ≤ x ∧ l ≠ [] ∧ x + l.length ≤ 1073741824 ∧ heldOf L - ovls x.toNat (x.toNat + l.length) L + l.length ≤ 4194304 ∧ r = 0 ∧ sz' = max sz (x.toNat + l.length) ∧ Laid L L' x.toNat l)
def CutR (sz : Nat) (L : List Piece) (x : Int) (r : Int) (sz' : Nat) (L' : List Piece) : Prop :=
  (x < 0 ∧ r = 2 ∧ sz' = sz ∧ L' = L) ∨ (1073741824 < x ∧ r = 3 ∧ sz' = sz ∧ L' = L) ∨ (0 ≤ x ∧ x ≤ 1073741824 ∧ r = 0 ∧ sz' = x.toNat ∧ Erased L L' x.toNat sz)
def PunchR (sz : Nat) (L : List Piece) (x n : Int) (r : Int) (sz' : Nat) (L' : List Piece) : Prop :=
  ((x < 0 ∨ n < 0) ∧ r = 2 ∧ sz' = sz ∧ L' = L) ∨ (0 ≤ x ∧ 0 ≤ n ∧ r = 0 ∧ sz' = sz ∧ Erased L L' x.toNat (x.toNat + min n.toNat (sz - x.toNat)))

theorem put_ct {sz : Nat} {L M L' M' : List Piece} {x : Int} {l : List UInt8} {r q : Int} {s t : Nat} (e : ct L = ct M) (h : PutR sz L x l r s L') (k : PutR sz M x l q t M') : r = q ∧ s = t ∧ ct L' = ct M' := by
  unfold PutR at h k
  rw [ct_held e, ct_ovls _ _ e] at h
  rcases h with ⟨h1, h2, h3, h4⟩ | ⟨h1, h2, h3, h4, h5⟩ | ⟨h1, h2, h3, h4, h5, h6⟩ | ⟨h1, h2, h3, h4, h5, h6, h7⟩ <;>
  rcases k with ⟨k1, k2, k3, k4⟩ | ⟨k1, k2, k3, k4, k5⟩ | ⟨k1, k2, k3, k4, k5, k6⟩ | ⟨k1, k2, k3, k4, k5, k6, k7⟩ <;>
  first
    | omega
    | exact absurd k2 h2
    | exact absurd h2 k2
    | (subst h4 k4; exact ⟨by omega, by omega, e⟩)
    | (subst h5 k5; exact ⟨by omega, by omega, e⟩)
    | (subst h6 k6; exact ⟨by omega, by omega, e⟩)
    | exact ⟨by omega, by omega, laid_ct h7 k7 e⟩
theorem cut_ct {sz : Nat} {L M L' M' : List Piece} {x : Int} {r q : Int} {s t : Nat} (e : ct L = ct M) (h : CutR sz L x r s L') (k : CutR sz M x q t M') : r = q ∧ s = t ∧ ct L' = ct M' := by
  unfold CutR at h k
  rcases h with ⟨h1, h2, h3, h4⟩ | ⟨h1, h2, h3, h4⟩ | ⟨h1, h2, h3, h4, h5⟩ <;>
  rcases k with ⟨k1, k2, k3, k4⟩ | ⟨k1, k2, k3, k4⟩ | ⟨k1, k2, k3, k4, k5⟩ <;>
  first
    | omega
    | (subst h4 k4; exact ⟨by omega, by omega, e⟩)
    | exact ⟨by omega, by omega, erased_ct h5 k5 e⟩
theorem punch_ct {sz : Nat} {L M L' M' : List Piece} {x n : Int} {r q : Int} {s t : Nat} (e : ct L = ct M) (h : PunchR sz L x n r s L') (k : PunchR sz M x n q t M') : r = q ∧ s = t ∧ ct L' = ct M' := by
  unfold PunchR at h k
  rcases h with ⟨h1, h2, h3, h4⟩ | ⟨h1, h2, h3, h4, h5⟩ <;>
  rcases k with ⟨k1, k2, k3, k4⟩ | ⟨k1, k2, k3, k4, k5⟩ <;>
  first
    | omega
    | (subst h4 k4; exact ⟨by omega, by omega, e⟩)
    | exact ⟨by omega, by omega, erased_ct h5 k5 e⟩
end Go.Proofs.Ytkekaljcbmkomaa
