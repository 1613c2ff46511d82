/- The document's Over. -/
import Derived.Test.YtniohiepnojjbaaDoorRef
namespace Go.Proofs.YtniohiepnojjbaaDoor
open Go.RowKit

theorem bothN_lt (bs : List Nat) (bit : Nat) (h : bit < 16) : bothN bs bit < 16 := by unfold bothN; split <;> omega
theorem or16 {a b : Nat} (ha : a < 16) (hb : b < 16) : a ||| b < 16 := Nat.or_lt_two_pow (n := 4) ha hb
theorem and16 {a : Nat} (b : Nat) (ha : a < 16) : a &&& b < 16 := Nat.lt_of_le_of_lt Nat.and_le_left ha
theorem uor {a b : Nat} (ha : a < 16) (hb : b < 16) : bits .or .u8 (a : Int) (b : Int) = ((a ||| b : Nat) : Int) := u8_or_nat a b (by omega) (by omega)
theorem uand {a b : Nat} (ha : a < 16) (hb : b < 16) : bits .and .u8 (a : Int) (b : Int) = ((a &&& b : Nat) : Int) := u8_and_nat a b (by omega) (by omega)

set_option maxHeartbeats 8000000 in
set_option maxRecDepth 100000 in
theorem refOver_in (k : Nat) (n m y : Int) (hk : k < 11) (blk off c : Nat) (bs : List Nat) (hl : least k ≤ bs.length) (hm : bs.length ≤ most k) (w : World) (hr : RdB w blk off bs) (hv : ∀ x ∈ bs, x < 256) (r : Nat) (q : Int)
    (hyes : bs.all (· ≤ 15) = true → r = refN k bs ∧ q = 0) (hno : bs.all (· ≤ 15) = false → r = 0 ∧ q = 2) :
    Calls Tryd.prog 21 #[.agg #[.int .i8 (k : Int), .int .i64 n, .int .i64 m, .int .u64 y], .slice (some ⟨blk, off, none⟩) bs.length c] w fun e w' =>
      e = .returned (.tuple #[.int .u8 (r : Int), .int .i64 q]) ∧ Below w.heap.size w w' := by
  have HYES := aside hyes
  have HNO := aside hno
  clear hyes hno
  have hm64 := most_le k
  have hcount : countN k bs.length = true := by simp [countN]; omega
  have hB := below_al w (.cells #[.int .i8 (k : Int), .int .i64 n, .int .i64 m, .int .u64 y] 43)
  have HF := aside (refFits_any k bs.length (w.alloc (.cells #[.int .i8 (k : Int), .int .i64 n, .int .i64 m, .int .u64 y] 43)))
  rw [hcount] at HF
  have hrd := aside (hr.below hB)
  have HB := aside hB
  have HV := aside hv
  have hk0 : (w.alloc (.cells #[.int .i8 (k : Int), .int .i64 n, .int .i64 m, .int .u64 y] 43)).cell? ⟨w.heap.size, 0, none⟩ = some (.int .i8 (k : Int)) := by go_simp
  have HK0 := aside hk0
  clear hr hv hcount hB hk0
  go_enter Tryd.func21, Tryd.ntmps21
  go_wp2_with fail
  refine HF.out.mono ?_
  rintro e w1 ⟨rfl, rfl⟩
  generalize hW : w.alloc _ = W at *
  go_wp2
  go_loopg [6] bs.length (fun kx s6 wr => ∃ i : Nat, s6 = .int .i64 i ∧ i ≤ bs.length ∧ bs.length - i ≤ kx ∧ wr = W ∧ Aside (∀ j x, j < i → bs[j]? = some x → x ≤ 15))
  case atStart => exact ⟨0, rfl, Nat.zero_le _, by omega, rfl, (fun j x h => absurd h (Nat.not_lt_zero _) : ∀ j x, j < 0 → bs[j]? = some x → x ≤ 15)⟩
  case round =>
    obtain ⟨i, rfl, hi, hk2, rfl, hq⟩ := hrel
    by_cases hlt : i < bs.length
    · obtain ⟨x, hx⟩ : ∃ x, bs[i]? = some x := ⟨bs[i], List.getElem?_eq_getElem hlt⟩
      have hc := hrd.out i x hx
      have HXX := aside hx
      clear hx
      by_cases h15 : x ≤ 15
      · have t3 : decide ((15 : Int) < (x : Int)) = false := by simp; omega
        go_wp2
        go_roundg (bs.length - (i + 1))
        case measure => omega
        case rel =>
          refine ⟨i + 1, by go_num, by omega, by omega, rfl, (fun j z hj hz => ?_ : ∀ j x, j < i + 1 → bs[j]? = some x → x ≤ 15)⟩
          by_cases hji : j < i
          · exact hq.out j z hji hz
          · obtain rfl : j = i := by omega
            rw [HXX.out] at hz; cases hz; exact h15
      · have t3 : (15 : Int) < (x : Int) := by omega
        obtain ⟨rfl, rfl⟩ := HNO.out (by rw [List.all_eq_false]; exact ⟨x, List.mem_of_getElem? HXX.out, by simpa using h15⟩)
        go_wp2
        go_ret2
        exact ⟨rfl, HB.out⟩
    · obtain rfl : i = bs.length := by omega
      obtain ⟨hr1, rfl⟩ := HYES.out (by
        rw [List.all_eq_true]; intro x hx; obtain ⟨j, hj, rfl⟩ := List.getElem_of_mem hx
        simpa using hq.out j _ hj (List.getElem?_eq_getElem hj))
      have hlp := least_pos k
      have hpos : 0 < bs.length := by omega
      obtain ⟨a, ha⟩ : ∃ a, bs[0]? = some a := ⟨bs[0], List.getElem?_eq_getElem hpos⟩
      have ha15 := hq.out 0 a hpos ha
      have ha16 : a < 16 := by omega
      have hca := hrd.out 0 a ha
      have hgd : bs.getD 0 0 = a := by simp [List.getD, ha]
      have HGD := aside hgd
      have HR1 := aside hr1
      have kc := HK0.out
      have BO := aside (fun (bit : Nat) (hb : bit < 256) => refBoth_any bit blk off c bs wr hrd.out (by omega) HV.out hb)
      have e13 : bits .and .u8 (a : Int) 13 = ((a &&& 13 : Nat) : Int) := uand (b := 13) ha16 (by decide)
      have e4 : bits .and .u8 (a : Int) 4 = ((a &&& 4 : Nat) : Int) := uand (b := 4) ha16 (by decide)
      have e8 : bits .and .u8 (a : Int) 8 = ((a &&& 8 : Nat) : Int) := uand (b := 8) ha16 (by decide)
      have e1 : bits .and .u8 (a : Int) 1 = ((a &&& 1 : Nat) : Int) := uand (b := 1) ha16 (by decide)
      have e3 : bits .and .u8 (a : Int) 3 = ((a &&& 3 : Nat) : Int) := uand (b := 3) ha16 (by decide)
      have e9 : bits .and .u8 (a : Int) 9 = ((a &&& 9 : Nat) : Int) := uand (b := 9) ha16 (by decide)
      have e2 : bits .and .u8 (a : Int) 2 = ((a &&& 2 : Nat) : Int) := uand (b := 2) ha16 (by decide)
      have p1 := bothN_lt bs 1 (by decide)
      have p2 := bothN_lt bs 2 (by decide)
      have p4 := bothN_lt bs 4 (by decide)
      have p8 := bothN_lt bs 8 (by decide)
      simp only [Nat.add_zero] at hca
      clear hr1 ha hgd hq
      have hks : k = 0 ∨ k = 1 ∨ k = 2 ∨ k = 3 ∨ k = 4 ∨ k = 5 ∨ k = 6 ∨ k = 7 ∨ k = 8 ∨ k = 9 ∨ k = 10 := by omega
      rcases hks with rfl | rfl | rfl | rfl | rfl | rfl | rfl | rfl | rfl | rfl | rfl
      · have hN : r = a &&& 13 := by rw [HR1.out, ← HGD.out]; rfl
        subst hN
        go_wp2
        go_ret2
        exact ⟨rfl, HB.out⟩
      · have o1 := uor p1 p4
        have o2 := uor (or16 p1 p4) p8
        go_wp2_with fail
        refine (BO.out 1 (by decide)).mono ?_
        rintro e w' ⟨rfl, rfl⟩
        go_wp2_with fail
        refine (BO.out 4 (by decide)).mono ?_
        rintro e w' ⟨rfl, rfl⟩
        go_wp2_with fail
        refine (BO.out 8 (by decide)).mono ?_
        rintro e w' ⟨rfl, rfl⟩
        go_wp2
        go_ret2
        exact ⟨by rw [HR1.out]; rfl, HB.out⟩
      · have o1 := uor p1 p2
        have o2 := uor (or16 p1 p2) p8
        have o3 := uor (or16 (or16 p1 p2) p8) (and16 4 ha16)
        go_wp2_with fail
        refine (BO.out 1 (by decide)).mono ?_
        rintro e w' ⟨rfl, rfl⟩
        go_wp2_with fail
        refine (BO.out 2 (by decide)).mono ?_
        rintro e w' ⟨rfl, rfl⟩
        go_wp2_with fail
        refine (BO.out 8 (by decide)).mono ?_
        rintro e w' ⟨rfl, rfl⟩
        go_wp2
        go_ret2
        exact ⟨by rw [HR1.out, show refN 2 bs = bothN bs 1 ||| bothN bs 2 ||| bothN bs 8 ||| (a &&& 4) from by rw [← HGD.out]; rfl]; rfl, HB.out⟩
      · have hN : r = a := by rw [HR1.out, ← HGD.out]; rfl
        subst hN
        go_wp2
        go_ret2
        exact ⟨rfl, HB.out⟩
      · have hN : r = (a &&& 3) ||| (if a &&& 1 != 0 then 8 else a &&& 8) := by rw [HR1.out, ← HGD.out]; rfl
        obtain ⟨z, hz⟩ : ∃ z, a &&& 1 = z := ⟨_, rfl⟩
        rw [hz] at hN e1
        clear hz
        by_cases h1 : z = 0
        · subst h1
          have hN2 : r = (a &&& 3) ||| (a &&& 8) := hN
          have o1 := uor (and16 3 ha16) (and16 8 ha16)
          subst hN2
          clear hN
          go_wp2
          go_ret2
          exact ⟨rfl, HB.out⟩
        · have t1 : ((z : Int) != 0) = true := by rw [nz]; simpa using h1
          have hN2 : r = (a &&& 3) ||| 8 := by rw [hN, if_pos (by simpa using h1)]
          have o1 : bits .or .u8 ((a &&& 3 : Nat) : Int) 8 = (((a &&& 3) ||| 8 : Nat) : Int) := uor (b := 8) (and16 3 ha16) (by decide)
          subst hN2
          clear hN h1
          go_wp2
          go_ret2
          exact ⟨rfl, HB.out⟩
      · have o1 := uor p1 p8
        go_wp2_with fail
        refine (BO.out 1 (by decide)).mono ?_
        rintro e w' ⟨rfl, rfl⟩
        go_wp2_with fail
        refine (BO.out 8 (by decide)).mono ?_
        rintro e w' ⟨rfl, rfl⟩
        go_wp2
        go_ret2
        exact ⟨by rw [HR1.out]; rfl, HB.out⟩
      · have hN : r = 0 := by rw [HR1.out]; rfl
        subst hN
        go_wp2
        go_ret2
        exact ⟨rfl, HB.out⟩
      · have hN : r = (a &&& 9) ||| (if a &&& 3 = 3 then 2 else 0) := by rw [HR1.out, ← HGD.out]; rfl
        by_cases h1 : a &&& 3 = 3
        · have t1 : (((a &&& 3 : Nat) : Int) == 3) = true := by rw [h1]; rfl
          have hN2 : r = (a &&& 9) ||| 2 := by rw [hN, if_pos h1]
          have o1 : bits .or .u8 ((a &&& 9 : Nat) : Int) 2 = (((a &&& 9) ||| 2 : Nat) : Int) := uor (b := 2) (and16 9 ha16) (by decide)
          subst hN2
          clear hN h1
          go_wp2
          go_ret2
          exact ⟨rfl, HB.out⟩
        · have t1 : (((a &&& 3 : Nat) : Int) == 3) = false := (ee _ 3).trans (by simpa using h1)
          have hN2 : r = (a &&& 9) ||| 0 := by rw [hN, if_neg h1]
          have o1 : bits .or .u8 ((a &&& 9 : Nat) : Int) 0 = (((a &&& 9) ||| 0 : Nat) : Int) := uor (b := 0) (and16 9 ha16) (by decide)
          subst hN2
          clear hN h1
          go_wp2
          go_ret2
          exact ⟨rfl, HB.out⟩
      · have hl2 : 1 < bs.length := by have : least 8 = 2 := rfl; omega
        obtain ⟨b, hb⟩ : ∃ b, bs[1]? = some b := ⟨bs[1], List.getElem?_eq_getElem hl2⟩
        have hcb := hrd.out 1 b hb
        have hgb : bs.getD 1 0 = b := by simp [List.getD, hb]
        have hb256 := HV.out b (List.mem_of_getElem? hb)
        have eb : bits .and .u8 (b : Int) 2 = ((b &&& 2 : Nat) : Int) := u8_and_nat b 2 hb256 (by decide)
        have hN : r = if bothN bs 1 = 0 ∨ b &&& 2 = 0 then 0 else 9 ||| (a &&& 2) := by rw [HR1.out, ← HGD.out, ← hgb]; rfl
        have hlz : (1 : Int) < (bs.length : Int) := by omega
        clear hb hgb
        by_cases h1 : bothN bs 1 = 0
        · have hN2 : r = 0 := by rw [hN, if_pos (.inl h1)]
          have BO1 := BO.out 1 (by decide)
          rw [h1] at BO1
          subst hN2
          clear hN h1
          go_wp2_with fail
          refine BO1.mono ?_
          rintro e w' ⟨rfl, rfl⟩
          go_wp2
          go_ret2
          exact ⟨rfl, HB.out⟩
        · have t1 : (((bothN bs 1 : Nat) : Int) == 0) = false := (ez _).trans (by simpa using h1)
          by_cases h2 : b &&& 2 = 0
          · have t2 : (((b &&& 2 : Nat) : Int) == 0) = true := by rw [h2]; rfl
            have hN2 : r = 0 := by rw [hN, if_pos (.inr h2)]
            have BO1 := aside (BO.out 1 (by decide))
            subst hN2
            clear hN h1 h2
            go_wp2_with fail
            refine BO1.out.mono ?_
            rintro e w' ⟨rfl, rfl⟩
            go_wp2
            go_ret2
            exact ⟨rfl, HB.out⟩
          · have t2 : (((b &&& 2 : Nat) : Int) == 0) = false := (ez _).trans (by simpa using h2)
            have hN2 : r = 9 ||| (a &&& 2) := by rw [hN, if_neg (by omega)]
            have o1 : bits .or .u8 9 ((a &&& 2 : Nat) : Int) = ((9 ||| (a &&& 2) : Nat) : Int) := uor (a := 9) (by decide) (and16 2 ha16)
            have BO1 := aside (BO.out 1 (by decide))
            subst hN2
            clear hN h1 h2
            go_wp2_with fail
            refine BO1.out.mono ?_
            rintro e w' ⟨rfl, rfl⟩
            go_wp2
            go_ret2
            exact ⟨rfl, HB.out⟩
      · have hN : r = a := by rw [HR1.out, ← HGD.out]; rfl
        subst hN
        go_wp2
        go_ret2
        exact ⟨rfl, HB.out⟩
      · have hN : r = a &&& 4 := by rw [HR1.out, ← HGD.out]; rfl
        subst hN
        go_wp2
        go_ret2
        exact ⟨rfl, HB.out⟩

set_option maxHeartbeats 2000000 in
set_option maxRecDepth 100000 in
theorem refOver_out (k n m y : Int) (a : Option Addr) (l c : Nat) (hc : countN k l = false) (w : World) :
    Calls Tryd.prog 21 #[.agg #[.int .i8 k, .int .i64 n, .int .i64 m, .int .u64 y], .slice a l c] w fun e w' => e = .returned (.tuple #[.int .u8 0, .int .i64 2]) ∧ Below w.heap.size w w' := by
  have HF := aside (refFits_any k l (w.alloc (.cells #[.int .i8 k, .int .i64 n, .int .i64 m, .int .u64 y] 43)))
  rw [hc] at HF
  go_enter Tryd.func21, Tryd.ntmps21
  go_wp2_with (go_at_call 32; refine HF.out.mono ?_; rintro e w1 ⟨rfl, rfl⟩)
  go_ret2
  exact ⟨rfl, below_al _ _⟩

/-- The document's Over answers as the program's. -/
theorem refOver_any (k n m y : Int) (a : Option Addr) (c : Nat) (bs : List Nat) (w : World) (ha : bs ≠ [] → ∃ blk off, a = some ⟨blk, off, none⟩ ∧ RdB w blk off bs) (hv : ∀ x ∈ bs, x < 256) :
    Calls Tryd.prog 21 #[.agg #[.int .i8 k, .int .i64 n, .int .i64 m, .int .u64 y], .slice a bs.length c] w fun e w' => e = .returned (.tuple #[.int .u8 ((overN k bs).1 : Int), .int .i64 (overN k bs).2]) ∧ Below w.heap.size w w' := by
  cases hc : countN k bs.length
  · rw [show overN k bs = (0, 2) from by rw [overN, fitsN_eq, hc]; rfl]
    exact refOver_out k n m y a bs.length c hc w
  · have hc2 := hc
    simp only [countN, Bool.and_eq_true, decide_eq_true_eq] at hc2
    obtain ⟨⟨⟨h0, h11⟩, hle⟩, hmo⟩ := hc2
    obtain ⟨q, rfl⟩ : ∃ q : Nat, k = q := ⟨k.toNat, by omega⟩
    simp only [Int.toNat_natCast] at hle hmo
    have hne : bs ≠ [] := by rintro rfl; have := least_pos q; simp at hle; omega
    obtain ⟨blk, off, rfl, hr⟩ := ha hne
    exact refOver_in q n m y (by omega) blk off c bs hle hmo w hr hv _ _
      (fun h => by rw [overN, fitsN_eq, hc, h, ref_table q (by omega) bs hle hmo h]; exact ⟨rfl, rfl⟩) (fun h => by rw [overN, fitsN_eq, hc, h]; exact ⟨rfl, rfl⟩)
end Go.Proofs.YtniohiepnojjbaaDoor
