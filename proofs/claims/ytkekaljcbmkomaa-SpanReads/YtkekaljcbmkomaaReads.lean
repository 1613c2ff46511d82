/- What is read behind one Put, and behind two that do not meet, in plain terms. -/
import Derived.Test.YtkekaljcbmkomaaTiles
namespace Go.Proofs.Ytkekaljcbmkomaa
open Go.RowKit

theorem putR_ok {sz : Nat} {L : List Piece} {x : Int} {l : List UInt8} {sz' : Nat} {L' : List Piece} (h : PutR sz L x l 0 sz' L') :
    (l = [] ∧ 0 ≤ x ∧ sz' = sz ∧ L' = L) ∨ (l ≠ [] ∧ 0 ≤ x ∧ x + l.length ≤ 1073741824 ∧ sz' = max sz (x.toNat + l.length) ∧ Laid L L' x.toNat l) := by
  unfold PutR at h
  rcases h with ⟨-, h, -⟩ | ⟨h1, h2, -, h3, h4⟩ | ⟨-, -, -, h, -⟩ | ⟨h1, h2, h3, -, -, h4, h5⟩
  · omega
  · exact .inl ⟨h2, h1, h3, h4⟩
  · omega
  · exact .inr ⟨h2, h1, h3, h4, h5⟩
theorem putR_no {sz : Nat} {L : List Piece} {x : Int} {l : List UInt8} {r : Int} {sz' : Nat} {L' : List Piece} (h : PutR sz L x l r sz' L') (hr : r ≠ 0 ∨ l = []) : sz' = sz ∧ L' = L := by
  unfold PutR at h
  rcases h with ⟨-, -, h1, h2⟩ | ⟨-, -, -, h1, h2⟩ | ⟨-, -, -, -, h1, h2⟩ | ⟨-, h1, -, -, h2, -⟩
  · exact ⟨h1, h2⟩
  · exact ⟨h1, h2⟩
  · exact ⟨h1, h2⟩
  · rcases hr with hr | hr
    · exact absurd h2 hr
    · exact absurd hr h1

theorem readB_eq {L : List Piece} {x : Nat} {l : List UInt8} (h : ∀ i, i < l.length → byteAt L (x + i) = l.getD i 0) : readB L x l.length = l := by
  apply List.ext_getElem
  · exact readB_length _ _ _
  · intro i h1 h2
    simp only [readB, List.getElem_map, List.getElem_range]
    rw [h i h2, List.getD_eq_getElem?_getD, List.getElem?_eq_getElem h2]; rfl
/-- What was put is read there. -/
theorem get_put {sz : Nat} {L L' : List Piece} {x : Int} {l : List UInt8} (h0 : 0 ≤ x) (hl : l ≠ []) (hle : l.length ≤ 1000) (hL : Laid L L' x.toNat l) : getL L' (max sz (x.toNat + l.length)) x (l.length : Int) = l := by
  have hpos : 0 < l.length := List.length_pos_iff.2 hl
  unfold getL
  rw [if_neg (by omega), Int.toNat_natCast, show min l.length (min 65536 (max sz (x.toNat + l.length) - x.toNat)) = l.length by omega]
  refine readB_eq (fun i hi => ?_)
  rw [hL.byte, if_pos (by omega), Nat.add_sub_cancel_left]
theorem get_at (L : List Piece) (sz i : Nat) (h : i < (getL L sz 0 2000).length) : (getL L sz 0 2000)[i]? = some (byteAt L i) ∧ i < sz ∧ i < 2000 := by
  unfold getL at h ⊢
  split at h
  · simp at h
  · rename_i hc
    rw [readB_length] at h
    rw [if_neg hc]
    have e : (0 : Int).toNat = 0 := rfl
    have e2 : (2000 : Int).toNat = 2000 := rfl
    rw [e, e2] at h
    refine ⟨?_, by omega, by omega⟩
    rw [e, e2]
    unfold readB
    rw [List.getElem?_map, List.getElem?_range (by omega)]
    simp
theorem get_len (L : List Piece) (sz : Nat) : (getL L sz 0 2000).length = min 2000 sz := by
  unfold getL
  split
  · simp; omega
  · rw [readB_length]
    have e : (0 : Int).toNat = 0 := rfl
    have e2 : (2000 : Int).toNat = 2000 := rfl
    rw [e, e2]; omega
/-- Beside what was put all reads as it was. -/
theorem get_beside {sz : Nat} {L L' : List Piece} {y : Nat} {l : List UInt8} (hI : Inv sz L) (hL : Laid L L' y l) {i : Nat} (hi : i < y ∨ y + l.length ≤ i) (h2 : i < 2000) :
    byteAt L' i = byteAt L i ∧ (¬ i < (getL L sz 0 2000).length → byteAt L i = 0) := by
  refine ⟨by rw [hL.byte, if_neg (by omega)], fun h => byteAt_of_not ?_⟩
  rw [get_len] at h
  rintro ⟨d, hd, h3, h4⟩
  have := hI.fin d hd
  omega

/-- Two Puts, either way round. -/
theorem puts_meet {sz : Nat} {L L1 L2 M M1 M2 : List Piece} {x y : Int} {l m : List UInt8} {s1 s2 t1 t2 : Nat} (e : ct L = ct M) (hI : Inv sz L) (h1 : PutR sz L x l 0 s1 L1) (h2 : PutR s1 L1 y m 0 s2 L2) (k1 : PutR sz M y m 0 t1 M1) (k2 : PutR t1 M1 x l 0 t2 M2) :
    s2 = t2 ∧ ((x + l.length ≤ y ∨ y + m.length ≤ x ∨ l = [] ∨ m = []) → ct L2 = ct M2) := by
  have hM := hI
  rcases putR_ok h1 with ⟨a1, a2, a3, a4⟩ | ⟨a1, a2, a3, a4, a5⟩
  · subst a3 a4
    rcases putR_ok k2 with ⟨-, -, c3, c4⟩ | ⟨c1, -⟩
    · subst c3 c4
      obtain ⟨-, d1, d2⟩ := put_ct e h2 k1
      exact ⟨d1, fun _ => d2⟩
    · exact absurd a1 c1
  · rcases putR_ok h2 with ⟨b1, b2, b3, b4⟩ | ⟨b1, b2, b3, b4, b5⟩
    · subst b3 b4
      rcases putR_ok k1 with ⟨-, -, c3, c4⟩ | ⟨c1, -⟩
      · subst c3 c4
        obtain ⟨-, d1, d2⟩ := put_ct e h1 k2
        exact ⟨d1, fun _ => d2⟩
      · exact absurd b1 c1
    · rcases putR_ok k1 with ⟨c1, -⟩ | ⟨c1, c2, c3, c4, c5⟩
      · exact absurd c1 b1
      · rcases putR_ok k2 with ⟨d1, -⟩ | ⟨d1, d2, d3, d4, d5⟩
        · exact absurd d1 a1
        · refine ⟨by omega, fun hap => ?_⟩
          have hap : x + l.length ≤ y ∨ y + m.length ≤ x := by
            rcases hap with h | h | h | h
            · exact .inl h
            · exact .inr h
            · exact absurd h a1
            · exact absurd h b1
          refine ct_unique b5.sep b5.ne d5.sep d5.ne (fun p => ?_) (fun p => ?_)
          · rw [b5.has, a5.has, d5.has, c5.has, ct_has p e]
            constructor
            · rintro ((h | h) | h)
              · exact .inl (.inl h)
              · exact .inr h
              · exact .inl (.inr h)
            · rintro ((h | h) | h)
              · exact .inl (.inl h)
              · exact .inr h
              · exact .inl (.inr h)
          · rw [b5.byte, a5.byte, d5.byte, c5.byte, ct_byte p e]
            by_cases p1 : y.toNat ≤ p ∧ p < y.toNat + m.length
            · rw [if_pos p1, if_neg (by omega), if_pos p1]
            · rw [if_neg p1, if_neg p1]
end Go.Proofs.Ytkekaljcbmkomaa
