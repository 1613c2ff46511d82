/- NodeNames: which names are names. -/
import Derived.Test.YtamngnndodjcoaaGreatWak
namespace Go.Proofs.YtamngnndodjcoaaGreat
open Go.RowKit

theorem noAny_iff (s : ByteArray) : Lib.NoAny s.data.toList [0, 47] s.size ↔ decide (0 ≤ Lib.indexAny s.data.toList [0, 47]) = false := by
  constructor
  · intro h
    rw [Lib.indexAny_none (by rw [← Lib.size_eq]; exact h)]
    rfl
  · intro h j b hj hb
    cases hc : ([0, 47] : List UInt8).contains b
    · rfl
    · exfalso
      have hge := of_decide_eq_false h
      have : ∀ (l : List UInt8) (j : Nat) (b : UInt8), l[j]? = some b → ([0, 47] : List UInt8).contains b = true → 0 ≤ Lib.indexAny l [0, 47] := by
        intro l
        induction l with
        | nil => intro j b h; simp at h
        | cons x l ih =>
          intro j b h hb
          unfold Lib.indexAny
          by_cases hx : ([0, 47] : List UInt8).contains x = true
          · rw [if_pos hx]; omega
          · rw [if_neg hx]
            cases j with
            | zero => simp only [List.getElem?_cons_zero, Option.some.injEq] at h; subst h; exact absurd hb hx
            | succ j =>
              have h2 := ih j b (by simpa using h) hb
              have hne : ¬ ((Lib.indexAny l [0, 47] == -1) = true) := fun e => by have := beq_iff_eq.1 e; omega
              rw [if_neg hne]; omega
      exact hge (this _ j b hb hc)

set_option maxRecDepth 20000 in
set_option maxHeartbeats 1000000 in
theorem rname_loop (s : ByteArray) (w : World) (h1 : ¬ s.toList = []) (h2 : s.size ≤ 64) (h3 : ¬ s.toList = [46]) (h4 : ¬ s.toList = [46, 46]) : Calls Tryz.prog 15 #[.string s] w fun e w' => e = .returned (.bool (!decide (0 ≤ Lib.indexAny s.data.toList [0, 47]))) ∧ w' = w := by
  have g1 : ¬ (s.size : Int) = 0 := fun e => h1 (by rw [Lib.toList_data]; exact List.length_eq_zero_iff.1 (by rw [← Lib.size_eq]; omega))
  have g1b : ((s.size : Int) == 0) = false := beq_eq_false_iff_ne.2 g1
  have g2 : ¬ (64 : Int) < (s.size : Int) := by omega
  have g3 : (s.toList == [46]) = false := beq_eq_false_iff_ne.2 h3
  have g4 : (s.toList == [46, 46]) = false := beq_eq_false_iff_ne.2 h4
  clear h1 h3 h4
  go_enter Tryz.func15, Tryz.ntmps15
  go_wp2_with fail
  go_loopg [3] s.size (fun g s3 wx => ∃ i : Nat, i + g = s.size ∧ s3 = .int .i64 (i : Int) ∧ wx = w ∧ Lib.NoAny s.data.toList [0, 47] i)
  case atStart => exact ⟨0, by omega, rfl, rfl, Lib.NoAny.zero _ _⟩
  case round =>
    obtain ⟨i, hig, rfl, rfl, hno⟩ := hrel
    have AN := aside hno
    clear hno
    cases gk with
    | zero =>
      obtain rfl : i = s.size := by omega
      have hi : ¬ (s.size : Int) < (s.size : Int) := by omega
      go_wp2_with fail
      go_ret
      exact ⟨by rw [(noAny_iff s).1 AN.out]; rfl, rfl⟩
    | succ g =>
      have hi : (i : Int) < (s.size : Int) := by omega
      have hi2 : i < s.size := by omega
      obtain ⟨x, hx⟩ : ∃ x : UInt8, s[i]'hi2 = x := ⟨_, rfl⟩
      have hxl : s.data.toList[i]? = some x := by rw [← hx]; exact Lib.data_getElem? s i hi2
      have AX := aside hxl
      have hwi : IntKind.i64.wrap ((i : Int) + 1) = ((i + 1 : Nat) : Int) := by rw [wrap_small _ (by omega) (by omega)]; simp
      clear hxl
      cases hin : ([0, 47] : List UInt8).contains x
      · have hx0 : ((x.toNat : Int) == 0) = false := beq_eq_false_iff_ne.2 (fun e => by
          have : x = 0 := UInt8.toNat_inj.1 (by simpa using (show x.toNat = 0 by omega))
          subst this; simp at hin)
        have hx1 : ((x.toNat : Int) == 47) = false := beq_eq_false_iff_ne.2 (fun e => by
          have : x = 47 := UInt8.toNat_inj.1 (by simpa using (show x.toNat = 47 by omega))
          subst this; simp at hin)
        have AIn := aside hin
        clear hin
        go_wp2_with fail
        go_roundg g
        case measure => omega
        case rel => exact ⟨i + 1, by omega, by first | rfl | simp, rfl, AN.out.succ AX.out AIn.out⟩
      · have hr : decide (0 ≤ Lib.indexAny s.data.toList [0, 47]) = true := by rw [Lib.indexAny_hit AN.out AX.out hin]; simp
        have hor : x = 0 ∨ x = 47 := by simpa using hin
        clear hin
        rcases hor with rfl | rfl
        · have hx0 : (((0 : UInt8).toNat : Int) == 0) = true := rfl
          go_wp2_with fail
          go_ret
          exact ⟨by rw [hr]; rfl, rfl⟩
        · have hx0 : (((47 : UInt8).toNat : Int) == 0) = false := rfl
          have hx1 : (((47 : UInt8).toNat : Int) == 47) = true := rfl
          go_wp2_with fail
          go_ret
          exact ⟨by rw [hr]; rfl, rfl⟩

set_option maxRecDepth 20000 in
set_option maxHeartbeats 1000000 in
theorem rname_no (s : ByteArray) (w : World) (h : s.toList = [] ∨ 64 < s.size ∨ s.toList = [46] ∨ s.toList = [46, 46]) : Calls Tryz.prog 15 #[.string s] w fun e w' => e = .returned (.bool false) ∧ w' = w := by
  have hz : s.toList = [] ↔ (s.size : Int) = 0 := by
    rw [Lib.toList_data]
    constructor
    · intro e; have : s.size = 0 := by rw [Lib.size_eq, e]; rfl
      omega
    · intro e; exact List.length_eq_zero_iff.1 (by rw [← Lib.size_eq]; omega)
  by_cases h1 : s.toList = []
  · have g1 : ((s.size : Int) == 0) = true := beq_iff_eq.2 (hz.1 h1)
    clear h
    go_enter Tryz.func15, Tryz.ntmps15
    go_wp2_with fail
    go_ret
    exact ⟨rfl, rfl⟩
  · have g1 : ((s.size : Int) == 0) = false := beq_eq_false_iff_ne.2 (fun e => h1 (hz.2 e))
    by_cases h2 : 64 < s.size
    · have g2 : (64 : Int) < (s.size : Int) := by omega
      clear h hz
      go_enter Tryz.func15, Tryz.ntmps15
      go_wp2_with fail
      go_ret
      exact ⟨rfl, rfl⟩
    · have g2 : ¬ (64 : Int) < (s.size : Int) := by omega
      by_cases h3 : s.toList = [46]
      · have g3 : (s.toList == [46]) = true := beq_iff_eq.2 h3
        clear h hz h1 h3
        go_enter Tryz.func15, Tryz.ntmps15
        go_wp2_with fail
        go_ret
        exact ⟨rfl, rfl⟩
      · have g3 : (s.toList == [46]) = false := beq_eq_false_iff_ne.2 h3
        have g4 : (s.toList == [46, 46]) = true := beq_iff_eq.2 (by rcases h with h | h | h | h
                                                                    · exact absurd h h1
                                                                    · exact absurd h h2
                                                                    · exact absurd h h3
                                                                    · exact h)
        clear h hz h1 h3
        go_enter Tryz.func15, Tryz.ntmps15
        go_wp2_with fail
        go_ret
        exact ⟨rfl, rfl⟩
theorem rname_any (s : ByteArray) (w : World) : Calls Tryz.prog 15 #[.string s] w fun e w' => e = .returned (.bool (nameOk s)) ∧ w' = w := by
  by_cases h : s.toList = [] ∨ 64 < s.size ∨ s.toList = [46] ∨ s.toList = [46, 46]
  · rw [nameNo h]; exact rname_no s w h
  · have h1 : ¬ s.toList = [] := fun e => h (.inl e)
    have h2 : s.size ≤ 64 := by apply Nat.le_of_not_lt; exact fun e => h (.inr (.inl e))
    have h3 : ¬ s.toList = [46] := fun e => h (.inr (.inr (.inl e)))
    have h4 : ¬ s.toList = [46, 46] := fun e => h (.inr (.inr (.inr e)))
    rw [nameYes h1 h2 h3 h4]
    exact rname_loop s w h1 h2 h3 h4

theorem rc_new (s : ByteArray) (db : Nat) : rcode s [] none [db] 0 = if nameOk s = false then 190 else 0 := by
  unfold rcode
  rw [show (lk [] s).isSome = false from rfl]
  rfl

set_option maxRecDepth 20000 in
set_option maxHeartbeats 1000000 in
theorem nodeNames_walk (s : ByteArray) (w : World) : Calls Tryz.prog 4 #[.string s] w fun e w' => e = .returned (.bool true) ∧ Below w.heap.size w w' := by
  go_enter Tryz.func4, Tryz.ntmps4
  go_wp2_with fail
  refine (dir_new w).mono ?_
  rintro e w1 ⟨nb, db, mb, rfl, hnb, hdb, hmb, hD1, b1⟩
  have AD1 := aside hD1
  have B1 := aside b1
  clear hD1 b1
  go_wp2_with fail
  refine (white_new w1).mono ?_
  rintro e w2 ⟨m, k, rfl, hm, hN2, b2⟩
  have AD2 := aside (AD1.out.below b2)
  have AN2 := aside hN2
  have B2 := aside (below_tr B1.out b2)
  have S1 := B1.out.size
  clear hN2 b2
  go_wp2_with fail
  cases hn : nameOk s with
  | false =>
    refine (add_no nb db mb _ [] [] s m none 0 190 w2 AD2.out Up.nil (by simp) (.other _ k AN2.out (.inr (.inl rfl))) (ht_other m k _ w2 AN2.out (.inr (.inl rfl))) (by omega) (by simp) (by rw [rc_new, if_pos hn]) (by omega)).mono ?_
    rintro e w3 ⟨rfl, b3⟩
    have B3 := aside (below_tr B2.out b3)
    clear b3
    go_wp2_with fail
    refine (rname_any s w3).mono ?_
    rintro e w3 ⟨rfl, rfl⟩
    rw [hn]
    go_wp2_with fail
    refine (wakes_any w3).mono ?_
    rintro e w4 ⟨rfl, b4⟩
    go_wp2_with fail
    go_ret
    exact ⟨rfl, below_tr B3.out b4⟩
  | true =>
    refine (add_other nb db mb _ [] [] s m k _ w2 AD2.out Up.nil (by simp) AN2.out (.inr (.inl rfl)) (by simp) (by rw [rc_new, if_neg (by rw [hn]; decide)])).mono ?_
    rintro e w3 ⟨rfl, -, u3⟩
    have B3 : Aside (Below w.heap.size w w3) := B2.out.trans (u3.below B2.out.size (fun k e => by have e : k = mb := e; omega))
    clear u3
    go_wp2_with fail
    refine (rname_any s w3).mono ?_
    rintro e w3 ⟨rfl, rfl⟩
    rw [hn]
    go_wp2_with fail
    refine (wakes_any w3).mono ?_
    rintro e w4 ⟨rfl, b4⟩
    go_wp2_with fail
    go_ret
    exact ⟨rfl, below_tr B3.out b4⟩
end Go.Proofs.YtamngnndodjcoaaGreat
