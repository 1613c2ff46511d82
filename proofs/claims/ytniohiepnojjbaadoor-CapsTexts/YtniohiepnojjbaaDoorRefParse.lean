/- The document's Parse: the same answer, its fault told as a value. -/
import Derived.Test.YtniohiepnojjbaaDoorRefText
import Derived.Test.YtniohiepnojjbaaDoorParse
namespace Go.Proofs.YtniohiepnojjbaaDoor
open Go.RowKit

def lW : Nat → List UInt8
  | 0 => [119, 114, 105, 116, 101]
  | 1 => [99, 117, 116]
  | 2 => [104, 111, 108, 101, 115]
  | _ => [115, 121, 110, 99]
/-- Which of the four words. -/
def idxW (t : List UInt8) : Option Nat := if t = lW 0 then some 0 else if t = lW 1 then some 1 else if t = lW 2 then some 2 else if t = lW 3 then some 3 else none
theorem arr_eq (t u : List UInt8) : ((⟨t.toArray⟩ : ByteArray) = ⟨u.toArray⟩) ↔ t = u := by
  constructor
  · intro h
    have := congrArg (fun b : ByteArray => b.data.toList) h
    simpa using this
  · rintro rfl; rfl
theorem bitW_idx (t : List UInt8) : bitW t = match idxW t with | some j => 2 ^ j | none => 0 := by
  have e0 : ((⟨t.toArray⟩ : ByteArray) = bWrite) ↔ t = lW 0 := arr_eq t _
  have e1 : ((⟨t.toArray⟩ : ByteArray) = bCut) ↔ t = lW 1 := arr_eq t _
  have e2 : ((⟨t.toArray⟩ : ByteArray) = bHoles) ↔ t = lW 2 := arr_eq t _
  have e3 : ((⟨t.toArray⟩ : ByteArray) = bSync) ↔ t = lW 3 := arr_eq t _
  unfold bitW bitN idxW
  simp only [e0, e1, e2, e3]
  split
  · rfl
  · split
    · rfl
    · split
      · rfl
      · split <;> rfl
theorem idxW_lt {t : List UInt8} {j : Nat} (h : idxW t = some j) : j < 4 := by
  unfold idxW at h
  split at h
  · cases h; decide
  · split at h
    · cases h; decide
    · split at h
      · cases h; decide
      · split at h
        · cases h; decide
        · cases h
theorem idxW_iff (t : List UInt8) (k : Nat) (hk : k < 4) : idxW t = some k ↔ t = lW k := by
  have h4 : k = 0 ∨ k = 1 ∨ k = 2 ∨ k = 3 := by omega
  unfold idxW
  constructor
  · intro h
    rcases h4 with rfl | rfl | rfl | rfl
    all_goals
      repeat' (split at h)
      all_goals first | assumption | (simp at h)
  · rintro rfl
    rcases h4 with rfl | rfl | rfl | rfl <;> rfl
/-- The index found among those from nx up to k. -/
def fnd (nx k : Nat) (t : List UInt8) : Int := match idxW t with | some j => if nx ≤ j ∧ j < k then (j : Int) else -1 | none => -1
theorem fnd_start (nx : Nat) (t : List UInt8) : fnd nx nx t = -1 := by
  unfold fnd; split
  · rw [if_neg (by omega)]
  · rfl
theorem fnd_hit (nx k : Nat) (t : List UInt8) (hk : k < 4) (hn : nx ≤ k) (h : t = lW k) : fnd nx (k + 1) t = k := by
  unfold fnd
  rw [(idxW_iff t k hk).2 h]
  exact if_pos ⟨hn, by omega⟩
theorem fnd_miss (nx k : Nat) (t : List UInt8) (hk : k < 4) (h : t ≠ lW k) : fnd nx (k + 1) t = fnd nx k t := by
  have h2 : idxW t ≠ some k := fun e => h ((idxW_iff t k hk).1 e)
  unfold fnd
  split
  · rename_i j hj
    have : j ≠ k := fun e => h2 (by rw [hj, e])
    by_cases hc : nx ≤ j ∧ j < k
    · rw [if_pos hc, if_pos (by omega)]
    · rw [if_neg hc, if_neg (by omega)]
  · rfl
def NX (can nx : Nat) : Prop := can < 2 ^ nx ∧ nx ≤ 4 ∧ (nx = 0 ∨ 2 ^ (nx - 1) ≤ can)
theorem nx_iff : ∀ can, can < 16 → ∀ nx, nx < 5 → NX can nx → ∀ j, j < 4 → (can < 2 ^ j ↔ nx ≤ j) := by unfold NX; decide
theorem nx_next : ∀ can, can < 16 → ∀ nx, nx < 5 → ∀ j, j < 4 → (NX can nx ∧ nx ≤ j) → (NX (can ||| 2 ^ j) (j + 1) ∧ (can ||| 2 ^ j) < 16) := by
  have key : ∀ can, can < 16 → ∀ nx, nx < 5 → ∀ j, j < 4 → (decide (can < 2 ^ nx) && decide (nx ≤ 4) && (decide (nx = 0) || decide (2 ^ (nx - 1) ≤ can)) && decide (nx ≤ j)) = true →
      (decide ((can ||| 2 ^ j) < 2 ^ (j + 1)) && decide (j + 1 ≤ 4) && (decide (j + 1 = 0) || decide (2 ^ (j + 1 - 1) ≤ (can ||| 2 ^ j))) && decide ((can ||| 2 ^ j) < 16)) = true := by decide
  intro can hc nx hn j hj ⟨h1, h2⟩
  unfold NX at h1 ⊢
  have k := key can hc nx hn j hj (by simp only [Bool.and_eq_true, Bool.or_eq_true, decide_eq_true_eq]; exact ⟨⟨⟨h1.1, h1.2.1⟩, h1.2.2⟩, h2⟩)
  simp only [Bool.and_eq_true, Bool.or_eq_true, decide_eq_true_eq] at k
  exact ⟨⟨k.1.1.1, k.1.1.2, k.1.2⟩, k.2⟩
theorem fnd_bit {can nx : Nat} (t : List UInt8) (hc : can < 16) (hn : NX can nx) : (fnd nx 4 t = -1 ∧ ¬ can < bitW t) ∨ ∃ j : Nat, nx ≤ j ∧ j < 4 ∧ fnd nx 4 t = j ∧ bitW t = 2 ^ j ∧ can < bitW t := by
  rw [bitW_idx]
  unfold fnd
  have hn5 : nx < 5 := by have := hn.2.1; omega
  split
  · rename_i j hj
    have hj4 := idxW_lt hj
    have hi := nx_iff can hc nx hn5 hn j hj4
    by_cases h : nx ≤ j
    · exact .inr ⟨j, h, hj4, if_pos ⟨h, hj4⟩, rfl, hi.2 h⟩
    · exact .inl ⟨if_neg (by omega), fun h2 => h (hi.1 h2)⟩
  · exact .inl ⟨rfl, by omega⟩

/-- A word that ends at i. -/
theorem word_at (l : List UInt8) (fr i : Nat) (h1 : fr ≤ i) (h2 : i ≤ l.length) (h3 : ∀ j, fr ≤ j → j < i → l[j]? ≠ some 32) (h4 : i = l.length ∨ l[i]? = some 32) :
    wordL (l.drop fr) = (l.take i).drop fr ∧ ((32 : UInt8) ∈ l.drop fr ↔ i < l.length) ∧ (wordL (l.drop fr)).length = i - fr := by
  have e : l.drop fr = (l.take i).drop fr ++ l.drop i := by
    conv => lhs; rw [← List.take_append_drop i l]
    rw [List.drop_append_of_le_length (by rw [List.length_take]; omega)]
  have hno : ∀ b, b ∈ (l.take i).drop fr → b ≠ 32 := by
    intro b hb he
    obtain ⟨k, hk, rfl⟩ := List.getElem_of_mem hb
    rw [List.length_drop, List.length_take] at hk
    rw [List.getElem_drop, List.getElem_take] at he
    exact h3 (fr + k) (by omega) (by omega) (by rw [List.getElem?_eq_getElem (by omega), he])
  have hw : wordL (l.drop fr) = (l.take i).drop fr := by
    unfold wordL
    rw [e, List.takeWhile_append_of_pos (fun b hb => by simpa using hno b hb)]
    have : (l.drop i).takeWhile (fun b => b != 32) = [] := by
      rcases h4 with h4 | h4
      · rw [List.drop_of_length_le (by omega)]; rfl
      · have hlt := (List.getElem?_eq_some_iff.1 h4)
        rw [List.drop_eq_getElem_cons hlt.1, List.takeWhile_cons, hlt.2]; rfl
    first
      | (rw [this, List.append_nil])
      | (simp only [] at this ⊢; simp_all)
  refine ⟨hw, ?_, by rw [hw, List.length_drop, List.length_take]; omega⟩
  rw [e, List.mem_append]
  constructor
  · rintro (h | h)
    · exact absurd rfl (hno 32 h)
    · rcases h4 with h4 | h4
      · rw [List.drop_of_length_le (by omega)] at h; simp at h
      · exact (List.getElem?_eq_some_iff.1 h4).1
  · intro h
    rcases h4 with h4 | h4
    · omega
    · right
      have hlt := (List.getElem?_eq_some_iff.1 h4)
      rw [List.drop_eq_getElem_cons hlt.1, hlt.2]; simp

/-- A fault as a value. -/
def faultV : Option (Nat × List UInt8) → Value
  | none => .agg #[.int .i64 0, .int .i64 0, .string ⟨#[]⟩]
  | some (p, t) => .agg #[.int .i64 2, .int .i64 (p : Int), .string ⟨t.toArray⟩]
abbrev zeroF : Array Value := #[.int .i64 0, .int .i64 0, .string ⟨#[]⟩]
/-- Where the document's Parse stands ahead of the i-th byte. -/
def AtI (l : List UInt8) (P : Nat × Option (Nat × List UInt8)) (can fr i : Nat) (closed : Bool) : Prop :=
  (i ≤ l.length ∧ fr ≤ i ∧ (∀ j, fr ≤ j → j < i → l[j]? ≠ some 32) ∧ parseW (spl (l.drop fr)).2 fr can closed (spl (l.drop fr)).1 = P) ∨ (i = l.length + 1 ∧ (can, none) = P)

/-- What a word that ends at i does to where Parse stands. -/
theorem at_next {l : List UInt8} {P : Nat × Option (Nat × List UInt8)} {can fr i : Nat} {closed : Bool} (h1 : fr ≤ i) (h2 : i ≤ l.length) (h3 : ∀ j, fr ≤ j → j < i → l[j]? ≠ some 32) (h4 : i = l.length ∨ l[i]? = some 32) (hpw : parseW (spl (l.drop fr)).2 fr can closed (spl (l.drop fr)).1 = P) :
    (∀ c d, stepW fr can closed (wordL (l.drop fr)) = some (c, d) → AtI l P c (i + 1) (i + 1) d) ∧ (stepW fr can closed (wordL (l.drop fr)) = none → P = (0, some (fr, wordL (l.drop fr)))) := by
  obtain ⟨-, hin, hlen⟩ := word_at l fr i h1 h2 h3 h4
  have hst := parse_step (l.drop fr) fr can closed
  rw [hpw] at hst
  refine ⟨fun c d h => ?_, fun h => ?_⟩
  · rw [h] at hst
    simp only at hst
    rw [hlen, List.drop_drop, show fr + (i - fr + 1) = i + 1 by omega, show fr + (i - fr) + 1 = i + 1 by omega] at hst
    by_cases hi : i < l.length
    · rw [if_pos (hin.2 hi)] at hst
      exact .inl ⟨by omega, Nat.le_refl _, fun j h5 h6 => by omega, hst.symm⟩
    · rw [if_neg (fun h => hi (hin.1 h))] at hst
      exact .inr ⟨by omega, hst.symm⟩
  · rw [h] at hst
    exact hst

set_option maxHeartbeats 8000000 in
set_option maxRecDepth 100000 in
theorem refParse_any (s : ByteArray) (w : World) (hs : s.size ≤ 140737488351232) :
    Calls Tryd.prog 10 #[.string s] w fun e w' => e = .returned (.tuple #[.int .u8 ((parseL s.data.toList).1 : Int), faultV (parseL s.data.toList).2]) ∧ Below w.heap.size w w' := by
  have hsz := Lib.size_eq s
  generalize hl : s.data.toList = l at *
  have HL := aside hl
  clear hl
  generalize hP : parseL l = P
  have A0 : Aside (AtI l P 0 0 0 false) := .inl ⟨Nat.zero_le _, Nat.le_refl _, fun j h1 h2 => by omega, hP⟩
  clear hP
  obtain ⟨rv, rf⟩ := P
  go_enter Tryd.func10, Tryd.ntmps10
  go_wp2
  go_loopg [4, 5, 6, 7, 8] (l.length + 2) (fun kx s4 s5 s6 s7 s8 wr => ∃ (can nx fr i : Nat) (closed : Bool), s4 = .int .u8 (can : Int) ∧ s5 = .int .i64 (nx : Int) ∧ s6 = .bool closed ∧ s7 = .int .i64 (fr : Int) ∧ s8 = .int .i64 (i : Int) ∧ can < 16 ∧ i ≤ l.length + 1 ∧ l.length + 2 - i ≤ kx ∧ Aside (NX can nx) ∧ Aside (Below w.heap.size w wr) ∧ Aside (wr.heap[w.heap.size]? = some (.cells zeroF 28 (0, 0))) ∧ Aside (AtI l (rv, rf) can fr i closed))
  case atStart => exact ⟨0, 0, 0, 0, false, rfl, rfl, rfl, rfl, rfl, by omega, by omega, by omega, (by unfold NX; decide : NX 0 0), below_al w _, heap_alloc_new w _, A0.out⟩
  case round =>
    obtain ⟨can, nx, fr, i, closed, rfl, rfl, rfl, rfl, rfl, hcan, hi, hk, hNX, hbw, hrow, hAt⟩ := hrel
    have r0 : wr.cell? ⟨w.heap.size, 0, none⟩ = some (.int .i64 0) := by rw [cell_of_row _ _ 0 _ _ _ hrow.out]; rfl
    have r1 : wr.cell? ⟨w.heap.size, 1, none⟩ = some (.int .i64 0) := by rw [cell_of_row _ _ 1 _ _ _ hrow.out]; rfl
    have r2 : wr.cell? ⟨w.heap.size, 2, none⟩ = some (.string ⟨#[]⟩) := by rw [cell_of_row _ _ 2 _ _ _ hrow.out]; rfl
    have f0 := frozen_of_row _ _ 0 _ _ hrow.out
    have f1 := frozen_of_row _ _ 1 _ _ hrow.out
    have f2 := frozen_of_row _ _ 2 _ _ hrow.out
    have hAt' := hAt.out
    rcases hAt' with ⟨hil, hfr, hno, hpw⟩ | ⟨hil, hpw⟩
    · have HNO := aside hno
      have HPW := aside hpw
      clear hno hpw hAt
      have t1 : (i : Int) ≤ (s.size : Int) := by omega
      by_cases hgo : i < l.length ∧ l[i]? ≠ some 32
      · have hlt : i < s.size := by omega
        have hb : ((s[i].toNat : Int) != 32) = true := by
          have e1 : l[i]? = some s[i] := by
            rw [← HL.out]
            rw [List.getElem?_eq_getElem (by rw [HL.out]; exact hgo.1)]; rfl
          have h2 : s[i] ≠ 32 := fun e => hgo.2 (by rw [e1, e])
          have h3 : s[i].toNat ≠ 32 := fun e => h2 (UInt8.toNat_inj.1 e)
          simp; omega
        have t2 : (i : Int) < (s.size : Int) := by omega
        have t2' : decide ((i : Int) < (s.size : Int)) = true := by simpa using hlt
        go_wp2
        go_roundg (l.length + 2 - (i + 1))
        case measure => omega
        case rel => exact ⟨can, nx, fr, i + 1, closed, rfl, rfl, rfl, rfl, by go_num, hcan, by omega, by omega, hNX, hbw, hrow, .inl ⟨by omega, by omega, fun j h1 h2 => by
          rcases Nat.lt_or_eq_of_le (Nat.le_of_lt_succ h2) with h | rfl
          · exact HNO.out j h1 h
          · exact hgo.2, HPW.out⟩⟩
      · have h4 : i = l.length ∨ l[i]? = some 32 := by
          by_cases h : i < l.length
          · right
            by_cases h2 : l[i]? = some 32
            · exact h2
            · exact absurd ⟨h, h2⟩ hgo
          · left; omega
        have NXT := aside (at_next hfr hil HNO.out h4 HPW.out)
        have hwl := word_at l fr i hfr hil HNO.out h4
        have hqd : (s.extract fr i).data.toList = wordL (l.drop fr) := by
          rw [Lib.extract_data s fr i, HL.out, hwl.1, List.drop_take]
        have hq : s.extract fr i = ⟨(wordL (l.drop fr)).toArray⟩ := by rw [← hqd, Lib.mk_data]
        have hb : (¬ i < s.size) ∨ (∃ hlt : i < s.size, ((s[i].toNat : Int) != 32) = false) := by
          rcases h4 with h4 | h4
          · left; omega
          · right
            have hlt : i < s.size := by have := (List.getElem?_eq_some_iff.1 h4).1; omega
            have e1 : l[i]? = some s[i] := by
              rw [← HL.out]
              rw [List.getElem?_eq_getElem (by rw [HL.out]; omega)]; rfl
            rw [e1] at h4
            have h5 : s[i] = 32 := Option.some.inj h4
            exact ⟨hlt, by rw [h5]; decide⟩
        have c1 : (0 : Int) ≤ (fr : Int) := by omega
        have c2 : (fr : Int) ≤ (i : Int) := by omega
        generalize wordL (l.drop fr) = t at *
        have hqt : (⟨t.toArray⟩ : ByteArray).toList = t := by rw [Lib.toList_data]
        generalize hQ : s.extract fr i = q at *
        clear hwl hqd hgo h4
        have HQ := aside hq
        have hql : q.toList = t := by rw [hq]; exact hqt
        have HQL := aside hql
        clear hq hql hqt
        have HSZ := aside hsz
        clear hsz
        rcases hb with hb | ⟨hlt, hb2⟩
        all_goals
          go_wp2
          go_loopg [10, 11] 5 (fun kx s10 s11 wi => ∃ k : Nat, nx ≤ k ∧ k ≤ 4 ∧ s10 = .int .i64 (fnd nx k t) ∧ s11 = .int .i64 (k : Int) ∧ 4 - k ≤ kx ∧ Aside (Below w.heap.size w wi) ∧ Aside (wi.heap[w.heap.size]? = some (.cells zeroF 28 (0, 0))))
          case atStart => exact ⟨nx, Nat.le_refl _, hNX.out.2.1, by rw [fnd_start], rfl, by omega, hbw, hrow⟩
          case round =>
            obtain ⟨k, hnk, hk4, rfl, rfl, hkx, hbi, hri⟩ := hrel
            by_cases hlk : k < 4
            · have HIT := aside (fun h => fnd_hit nx k t hlk hnk h)
              have MISS := aside (fun h => fnd_miss nx k t hlk h)
              have hcs : (t = lW k ∧ (lW k == q.toList) = true ∧ (q.toList == lW k) = true) ∨ (t ≠ lW k ∧ (lW k == q.toList) = false ∧ (q.toList == lW k) = false) := by
                rw [HQL.out]
                by_cases h : t = lW k
                · exact .inl ⟨h, by simp [h], by simp [h]⟩
                · exact .inr ⟨h, by simpa using fun e => h e.symm, by simpa using h⟩
              generalize hF : fnd nx k t = F at *
              have hF2 : F ≤ 4 ∧ -1 ≤ F := by
                rw [← hF]; unfold fnd
                split
                · split <;> omega
                · omega
              clear hF
              have h4 : k = 0 ∨ k = 1 ∨ k = 2 ∨ k = 3 := by omega
              rcases hcs with ⟨hte, e1, e2⟩ | ⟨hte, e1, e2⟩
              all_goals
                have HTE := aside hte
                clear hte
                rcases h4 with rfl | rfl | rfl | rfl
              all_goals
                simp only [lW] at e1 e2
                go_wp2_with fail
                refine (words_any _).mono ?_
                rintro e w1 ⟨rfl, hw1⟩
                have k0 : w1.cell? ⟨wr.heap.size, 0, none⟩ = some (.string bWrite) := by rw [hw1]; go_simp
                have k1 : w1.cell? ⟨wr.heap.size, 1, none⟩ = some (.string bCut) := by rw [hw1]; go_simp
                have k2 : w1.cell? ⟨wr.heap.size, 2, none⟩ = some (.string bHoles) := by rw [hw1]; go_simp
                have k3 : w1.cell? ⟨wr.heap.size, 3, none⟩ = some (.string bSync) := by rw [hw1]; go_simp
                have B1 : Aside (Below wr.heap.size wr w1) := by rw [hw1]; exact below_al _ _
                clear hw1
                go_wp2
                go_roundg (gk - 1)
                case measure => omega
                case rel => first | exact ⟨1, by omega, by omega, by first | (rw [HIT.out HTE.out]; rfl) | rw [MISS.out HTE.out], rfl, by omega, below_tr hbi.out B1.out, (B1.out.block _ (Array.getElem?_eq_some_iff.1 hri.out).1).trans hri.out⟩ | exact ⟨2, by omega, by omega, by first | (rw [HIT.out HTE.out]; rfl) | rw [MISS.out HTE.out], rfl, by omega, below_tr hbi.out B1.out, (B1.out.block _ (Array.getElem?_eq_some_iff.1 hri.out).1).trans hri.out⟩ | exact ⟨3, by omega, by omega, by first | (rw [HIT.out HTE.out]; rfl) | rw [MISS.out HTE.out], rfl, by omega, below_tr hbi.out B1.out, (B1.out.block _ (Array.getElem?_eq_some_iff.1 hri.out).1).trans hri.out⟩ | exact ⟨4, by omega, by omega, by first | (rw [HIT.out HTE.out]; rfl) | rw [MISS.out HTE.out], rfl, by omega, below_tr hbi.out B1.out, (B1.out.block _ (Array.getElem?_eq_some_iff.1 hri.out).1).trans hri.out⟩
            · obtain rfl : k = 4 := by omega
              clear hlk hk4
              have q0 : wr.cell? ⟨w.heap.size, 0, none⟩ = some (.int .i64 0) := by rw [cell_of_row _ _ 0 _ _ _ hri.out]; rfl
              have q1 : wr.cell? ⟨w.heap.size, 1, none⟩ = some (.int .i64 0) := by rw [cell_of_row _ _ 1 _ _ _ hri.out]; rfl
              have q2 : wr.cell? ⟨w.heap.size, 2, none⟩ = some (.string ⟨#[]⟩) := by rw [cell_of_row _ _ 2 _ _ _ hri.out]; rfl
              have g0 := frozen_of_row _ _ 0 _ _ hri.out
              have g1 := frozen_of_row _ _ 1 _ _ hri.out
              have g2 := frozen_of_row _ _ 2 _ _ hri.out
              have hfb := fnd_bit t hcan hNX.out
              have hn5 : nx < 5 := by have := hNX.out.2.1; omega
              have NN := aside (fun j (h4 : j < 4) (h : nx ≤ j) => nx_next can hcan nx hn5 j h4 ⟨hNX.out, h⟩)
              by_cases hrd : t = lRead ∧ fr = 0
              · have hz : stepW fr can closed t = some (can, true) := by rw [stepW, if_pos ⟨hrd.2, hrd.1⟩]
                have e1 : (q.toList == [114, 101, 97, 100]) = true := by rw [HQL.out, hrd.1]; rfl
                have e3 : ((fr : Int) == 0) = true := by rw [hrd.2]; rfl
                have A2 := aside (NXT.out.1 can true hz)
                clear hz hrd hfb
                generalize fnd nx 4 t = F at *
                go_wp2
                go_roundg (l.length + 2 - (i + 1))
                case measure => omega
                case rel => exact ⟨can, nx, i + 1, i + 1, true, rfl, rfl, rfl, by go_num, by go_num, hcan, by omega, by omega, hNX, hbi, hri, A2.out⟩
              · have hrd' : ¬ (fr = 0 ∧ t = lRead) := fun h => hrd ⟨h.2, h.1⟩
                have e13 : ((q.toList == [114, 101, 97, 100]) = false) ∨ ((q.toList == [114, 101, 97, 100]) = true ∧ ((fr : Int) == 0) = false) := by
                  rw [HQL.out]
                  by_cases h : t = lRead
                  · right
                    refine ⟨by rw [h]; rfl, ?_⟩
                    rw [ez]; simpa using fun h2 => hrd ⟨h, h2⟩
                  · left; simpa using h
                have FAULT : Aside (stepW fr can closed t = none → rv = 0 ∧ rf = some (fr, t)) := fun h => by
                  have := NXT.out.2 h
                  exact Prod.mk.inj this
                have STEPN : Aside (¬ (can < bitW t ∧ closed = false) → stepW fr can closed t = none) := fun h => by rw [stepW, if_neg hrd', if_neg h]
                have STEPS : Aside (can < bitW t → closed = false → stepW fr can closed t = some (can ||| bitW t, closed)) := fun h1 h2 => by rw [stepW, if_neg hrd', if_pos ⟨h1, h2⟩]
                clear hrd hrd'
                rcases hfb with ⟨hf, hnb⟩ | ⟨j, hnj, hj4, hf, hbit, hlb⟩
                · obtain ⟨rfl, rfl⟩ := FAULT.out (STEPN.out (fun h => hnb h.1))
                  rw [hf]
                  clear hf hnb
                  rcases e13 with e1 | ⟨e1, e3⟩
                  all_goals
                    go_wp2
                    refine bodyPost_ret (v := .tuple #[.int .u8 0, .agg #[.int .i64 2, .int .i64 (fr : Int), .string q]]) ?_ rfl ⟨by rw [HQ.out]; rfl, ?_⟩
                    · simp [results, Tryd.results10, go_sem, q0, q1, q2]
                    · exact ((hbi.out.setCell (p := ⟨w.heap.size, 0, none⟩) (Nat.le_refl _) _).setCell (p := ⟨w.heap.size, 1, none⟩) (Nat.le_refl _) _).setCell (p := ⟨w.heap.size, 2, none⟩) (Nat.le_refl _) _
                · rw [hf]
                  clear hf
                  cases closed
                  · have A2 := aside (NXT.out.1 _ _ (STEPS.out hlb rfl))
                    rw [hbit] at A2
                    have hnn := NN.out j hj4 hnj
                    have hor : bits .or .u8 (can : Int) ((2 ^ j : Nat) : Int) = ((can ||| 2 ^ j : Nat) : Int) := u8_or_nat can (2 ^ j) (by omega) (by
                      have h4 : j = 0 ∨ j = 1 ∨ j = 2 ∨ j = 3 := by omega
                      rcases h4 with rfl | rfl | rfl | rfl <;> decide)
                    have N2 := aside hnn.1
                    have hc2 := hnn.2
                    have h4 : j = 0 ∨ j = 1 ∨ j = 2 ∨ j = 3 := by omega
                    clear hnn hbit hlb FAULT STEPN STEPS NN NXT
                    rcases h4 with rfl | rfl | rfl | rfl
                    all_goals
                      simp only [Nat.pow_zero, Nat.reducePow] at hor A2 N2 hc2
                      rcases e13 with e1 | ⟨e1, e3⟩
                    all_goals
                      go_wp2
                      go_roundg (l.length + 2 - (i + 1))
                      case measure => omega
                      case rel => first | exact ⟨can ||| 1, 1, i + 1, i + 1, false, congrArg (Value.int .u8) hor, rfl, rfl, by go_num, by go_num, hc2, by omega, by omega, N2, hbi, hri, A2⟩ | exact ⟨can ||| 2, 2, i + 1, i + 1, false, congrArg (Value.int .u8) hor, rfl, rfl, by go_num, by go_num, hc2, by omega, by omega, N2, hbi, hri, A2⟩ | exact ⟨can ||| 4, 3, i + 1, i + 1, false, congrArg (Value.int .u8) hor, rfl, rfl, by go_num, by go_num, hc2, by omega, by omega, N2, hbi, hri, A2⟩ | exact ⟨can ||| 8, 4, i + 1, i + 1, false, congrArg (Value.int .u8) hor, rfl, rfl, by go_num, by go_num, hc2, by omega, by omega, N2, hbi, hri, A2⟩
                  · obtain ⟨rfl, rfl⟩ := FAULT.out (STEPN.out (fun h => by cases h.2))
                    rcases e13 with e1 | ⟨e1, e3⟩
                    all_goals
                      have hjn : ¬ ((j : Int) < 0) := by omega
                      go_wp2
                      refine bodyPost_ret (v := .tuple #[.int .u8 0, .agg #[.int .i64 2, .int .i64 (fr : Int), .string q]]) ?_ rfl ⟨by rw [HQ.out]; rfl, ?_⟩
                      · simp [results, Tryd.results10, go_sem, q0, q1, q2]
                      · exact ((hbi.out.setCell (p := ⟨w.heap.size, 0, none⟩) (Nat.le_refl _) _).setCell (p := ⟨w.heap.size, 1, none⟩) (Nat.le_refl _) _).setCell (p := ⟨w.heap.size, 2, none⟩) (Nat.le_refl _) _
    · obtain rfl : i = l.length + 1 := hil
      obtain ⟨h1, h2⟩ := Prod.mk.inj hpw
      subst h1 h2
      have t1 : ¬ (((l.length + 1 : Nat) : Int) ≤ (s.size : Int)) := by omega
      go_wp2
      refine bodyPost_ret (v := .tuple #[.int .u8 (can : Int), .agg #[.int .i64 0, .int .i64 0, .string ⟨#[]⟩]]) ?_ rfl ⟨rfl, ?_⟩
      · simp [results, Tryd.results10, go_sem, r0, r1, r2]
      · exact ((hbw.out.setCell (p := ⟨w.heap.size, 0, none⟩) (Nat.le_refl _) _).setCell (p := ⟨w.heap.size, 1, none⟩) (Nat.le_refl _) _).setCell (p := ⟨w.heap.size, 2, none⟩) (Nat.le_refl _) _
end Go.Proofs.YtniohiepnojjbaaDoor
