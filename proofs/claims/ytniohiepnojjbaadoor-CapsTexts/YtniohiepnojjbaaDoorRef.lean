/- The document's answers for Over and Stack. -/
import Derived.Test.YtniohiepnojjbaaDoorSets
namespace Go.Proofs.YtniohiepnojjbaaDoor
open Go.RowKit

/-- How many files a wrapper may stand over. -/
def countN (k : Int) (n : Nat) : Bool := decide (0 ≤ k) && decide (k < 11) && decide (least k.toNat ≤ n) && decide (n ≤ most k.toNat)

theorem fitsN_eq (k : Int) (bs : List Nat) : fitsN k bs = (countN k bs.length && bs.all (· ≤ 15)) := rfl

set_option maxHeartbeats 2000000 in
theorem refFits_any (k : Int) (n : Nat) (w : World) : Calls Tryd.prog 32 #[.int .i8 k, .int .i64 (n : Int)] w fun e w' => e = .returned (.bool (countN k n)) ∧ w' = w := by
  generalize hr : countN k n = r
  have HR := aside hr
  clear hr
  by_cases k1 : k = 1
  · subst k1
    go_enter Tryd.func32, Tryd.ntmps32
    go_wp2
    all_goals
      go_ret
      exact ⟨congrArg (fun b => Ending.returned (.bool b)) (by rw [← HR.out, Bool.eq_iff_iff]; simp [countN, least, most]; try omega), rfl⟩
  · have t1 : (k == 1) = false := by simpa using k1
    by_cases k2 : k = 2 ∨ k = 5 ∨ k = 8
    · rcases k2 with rfl | rfl | rfl
      all_goals
        go_enter Tryd.func32, Tryd.ntmps32
        go_wp2
        go_ret
        exact ⟨congrArg (fun b => Ending.returned (.bool b)) (by rw [← HR.out, Bool.eq_iff_iff]; simp [countN, least, most]; omega), rfl⟩
    · have t2 : (k == 2) = false := by simp; omega
      have t3 : (k == 5) = false := by simp; omega
      have t4 : (k == 8) = false := by simp; omega
      have hle := aside (show 0 ≤ k → least k.toNat = 1 from fun h => by unfold least; rw [if_neg (by omega)])
      have hmo := aside (show 0 ≤ k → most k.toNat = 1 from fun h => by unfold most; rw [if_neg (by omega), hle.out h])
      go_enter Tryd.func32, Tryd.ntmps32
      go_wp2
      all_goals
        go_ret
        refine ⟨congrArg (fun b => Ending.returned (.bool b)) ?_, rfl⟩
        rw [← HR.out, Bool.eq_iff_iff]
        by_cases h0 : 0 ≤ k
        · simp [countN, hle.out h0, hmo.out h0]; omega
        · simp [countN]; try omega

/-- The bit, if all files have it. -/
def bothN (bs : List Nat) (bit : Nat) : Nat := if bs.all (fun x => x &&& bit != 0) then bit else 0

set_option maxHeartbeats 2000000 in
theorem refBoth_any (bit blk off c : Nat) (bs : List Nat) (w : World) (h : RdB w blk off bs) (hl : bs.length < 4611686018427387904) (hv : ∀ x ∈ bs, x < 256) (hb : bit < 256) :
    Calls Tryd.prog 33 #[.slice (some ⟨blk, off, none⟩) bs.length c, .int .u8 (bit : Int)] w fun e w' => e = .returned (.int .u8 (bothN bs bit : Int)) ∧ w' = w := by
  have H := aside h
  have HV := aside hv
  clear h hv
  generalize hr : bothN bs bit = r
  have HR := aside hr
  clear hr
  go_enter Tryd.func33, Tryd.ntmps33
  go_wp2
  go_loopg [5] bs.length (fun kx s5 wr => ∃ i : Nat, s5 = .int .i64 i ∧ i ≤ bs.length ∧ bs.length - i ≤ kx ∧ wr = w ∧ Aside (∀ j x, j < i → bs[j]? = some x → (x &&& bit != 0) = true))
  case atStart => exact ⟨0, rfl, Nat.zero_le _, by omega, rfl, (fun j x h => absurd h (Nat.not_lt_zero _) : ∀ j x, j < 0 → bs[j]? = some x → (x &&& bit != 0) = true)⟩
  case round =>
    obtain ⟨i, rfl, hi, hk, rfl, hq⟩ := hrel
    by_cases hlt : i < bs.length
    · obtain ⟨x, hx⟩ : ∃ x, bs[i]? = some x := ⟨bs[i], List.getElem?_eq_getElem hlt⟩
      have hc := H.out i x hx
      have e1 := u8_and_nat x bit (HV.out x (List.mem_of_getElem? hx)) hb
      have HX := aside hx
      clear hx
      by_cases h0 : x &&& bit = 0
      · have t1 : (((x &&& bit : Nat) : Int) == 0) = true := by rw [h0]; rfl
        have hr0 : r = 0 := by rw [← HR.out, bothN, if_neg]; rw [Bool.not_eq_true, List.all_eq_false]; exact ⟨x, List.mem_of_getElem? HX.out, by simp [h0]⟩
        subst hr0
        go_wp2
        go_ret
        exact ⟨rfl, rfl⟩
      · have t1 : (((x &&& bit : Nat) : Int) == 0) = false := by rw [ez]; simpa using h0
        have HH0 := aside h0
        clear h0
        go_wp2
        go_roundg (bs.length - (i + 1))
        case measure => omega
        case rel =>
          refine ⟨i + 1, by go_num, by omega, by omega, rfl, (fun j z hj hz => ?_ : ∀ j x, j < i + 1 → bs[j]? = some x → (x &&& bit != 0) = true)⟩
          by_cases hji : j < i
          · exact hq.out j z hji hz
          · obtain rfl : j = i := by omega
            rw [HX.out] at hz; cases hz; simpa using HH0.out
    · obtain rfl : i = bs.length := by omega
      have hr1 : r = bit := by
        rw [← HR.out, bothN, if_pos]; rw [List.all_eq_true]; intro x hx; obtain ⟨j, hj, rfl⟩ := List.getElem_of_mem hx
        exact hq.out j _ hj (List.getElem?_eq_getElem hj)
      subst hr1
      go_wp2
      go_ret
      exact ⟨rfl, rfl⟩

theorem and_pow (x j : Nat) : (x &&& 2 ^ j != 0) = x.testBit j := by
  cases h : x.testBit j
  · have : x &&& 2 ^ j = 0 := by
      apply Nat.eq_of_testBit_eq
      intro i
      rw [Nat.testBit_and, Nat.testBit_two_pow]
      by_cases hi : j = i
      · subst hi; simp [h]
      · simp [hi]
    rw [this]; rfl
  · have : (x &&& 2 ^ j).testBit j = true := by rw [Nat.testBit_and, Nat.testBit_two_pow, h]; simp
    rw [bne_iff_ne]
    intro h0
    rw [h0] at this
    simp at this

theorem shared_bit (bs : List Nat) (j : Nat) (hj : j < 4) : (sharedN bs &&& 2 ^ j != 0) = bs.all (fun x => x &&& 2 ^ j != 0) := by
  have key : ∀ (l : List Nat) (a : Nat), (l.foldl (· &&& ·) a).testBit j = (a.testBit j && l.all (fun x => x.testBit j)) := by
    intro l
    induction l with
    | nil => intro a; simp
    | cons x r ih => intro a; rw [List.foldl_cons, ih, Nat.testBit_and, List.all_cons, Bool.and_assoc]
  have h15 : Nat.testBit 15 j = true := by
    match j, hj with
    | 0, _ | 1, _ | 2, _ | 3, _ => rfl
    | j + 4, h => omega
  rw [and_pow, sharedN, key, h15, Bool.true_and]
  simp only [and_pow]

theorem shared_both (bs : List Nat) (j : Nat) (hj : j < 4) : (if sharedN bs &&& 2 ^ j != 0 then 2 ^ j else 0) = bothN bs (2 ^ j) := by
  rw [shared_bit bs j hj, bothN]

/-- The document's set of a kind over some files, by its cases. -/
def refN (k : Nat) (bs : List Nat) : Nat :=
  let a := bs.getD 0 0
  if k = 0 then a &&& 13
  else if k = 1 then bothN bs 1 ||| bothN bs 4 ||| bothN bs 8
  else if k = 2 then bothN bs 1 ||| bothN bs 2 ||| bothN bs 8 ||| (a &&& 4)
  else if k = 4 then (a &&& 3) ||| (if a &&& 1 != 0 then 8 else a &&& 8)
  else if k = 5 then bothN bs 1 ||| bothN bs 8
  else if k = 6 then 0
  else if k = 7 then (a &&& 9) ||| (if a &&& 3 = 3 then 2 else 0)
  else if k = 8 then (if bothN bs 1 = 0 ∨ bs.getD 1 0 &&& 2 = 0 then 0 else 9 ||| (a &&& 2))
  else if k = 10 then a &&& 4
  else a

theorem one_file : ∀ k, k < 11 → ∀ a, a < 16 → least k = 1 → refN k [a] = tableN k [a] := by decide
theorem two_files : ∀ k, k < 11 → ∀ a, a < 16 → ∀ b, b < 16 → least k = 2 → refN k [a, b] = tableN k [a, b] := by decide
theorem join_files (bs : List Nat) : refN 1 bs = tableN 1 bs := by
  have e0 := shared_both bs 0 (by decide)
  have e2 := shared_both bs 2 (by decide)
  have e3 := shared_both bs 3 (by decide)
  simp only [Nat.reducePow] at e0 e2 e3
  simp only [refN, tableN, cellW, cellC, cellH, cellS]
  simp [← e0, ← e2, ← e3]

/-- The document's table is the program's. -/
theorem ref_table (k : Nat) (hk : k < 11) (bs : List Nat) (h1 : least k ≤ bs.length) (h2 : bs.length ≤ most k) (h3 : bs.all (· ≤ 15) = true) : refN k bs = tableN k bs := by
  by_cases hj : k = 1
  · subst hj; exact join_files bs
  · have hm : most k = least k := by unfold most; rw [if_neg hj]
    have hall : ∀ x ∈ bs, x < 16 := fun x hx => by have := List.all_eq_true.1 h3 x hx; simp at this; omega
    match bs, h1, h2, hall with
    | [], h1, _, _ => have := least_pos k; simp at h1; omega
    | [a], h1, h2, hall => exact one_file k hk a (hall a (by simp)) (by have := least_pos k; simp at h1; omega)
    | [a, b], h1, h2, hall => exact two_files k hk a (hall a (by simp)) b (hall b (by simp)) (by have := least_le k; simp at h2; omega)
    | a :: b :: c :: r, h1, h2, hall => have := least_le k; simp at h2; omega
end Go.Proofs.YtniohiepnojjbaaDoor
