/-
  CapsBack: texts there and back, sets counted and met; for every input, with no condition of ours.
-/
import Derived.Test.YtniohiepnojjbabDoorLift
import Derived.Test.YtniohiepnojjbabDoorBack
import Derived.Test.YtniohiepnojjbabDoorPush
import Derived.Test.YtniohiepnojjbabDoorCards
import Derived.Test.YtniohiepnojjbabDoorTie
namespace Go.Proofs.YtniohiepnojjbabDoor
open Go.ChangeShapes Go.WideShapes Go.ChangeAt Go.RowKit

def popN (a : Nat) : Nat → Nat
  | 0 => 0
  | i + 1 => popN a i + a / 2 ^ i % 2
theorem pop_all : ∀ a, a < 16 → (allN a).length = 2 ^ popN a 4 := by decide
theorem all_rises : ∀ a, a < 16 → ∀ i, i < 16 → i + 1 < (allN a).length → (allN a).getD i 0 < (allN a).getD (i + 1) 0 := by decide
theorem all_meets : ∀ a, a < 16 → ∀ b, b < 16 → (allN a).filter (fun x => lessN x b) = allN (a &&& b) := by decide

theorem all_mem : ∀ a, a < 16 → ∀ x ∈ allN a, lessN x a = true ∧ x < 16 := by decide
theorem all_len : ∀ a, a < 16 → (allN a).length ≤ 16 := by decide
theorem sh_0 : ∀ A : Nat, A < 16 → wrap64 ((popN A 0 : Nat) + wrap64 (bits .and .u8 (A : Int) 1)) = (popN A 1 : Nat) := by decide +kernel
theorem sh_1 : ∀ A : Nat, A < 16 → wrap64 ((popN A 1 : Nat) + wrap64 (bits .and .u8 ((A : Int) / 2) 1)) = (popN A 2 : Nat) := by decide +kernel
theorem sh_2 : ∀ A : Nat, A < 16 → wrap64 ((popN A 2 : Nat) + wrap64 (bits .and .u8 ((A : Int) / 4) 1)) = (popN A 3 : Nat) := by decide +kernel
theorem sh_3 : ∀ A : Nat, A < 16 → wrap64 ((popN A 3 : Nat) + wrap64 (bits .and .u8 ((A : Int) / 8) 1)) = (popN A 4 : Nat) := by decide +kernel
theorem pop_le : ∀ a, a < 16 → popN a 4 ≤ 4 := by decide

theorem row_rd {w : World} {b g : Nat} {n cap : Nat} {l : List Nat} (h : w.ownsRow b 5 1 (.slice (some ⟨g, 0, none⟩) n cap) n (u8s l)) : RdB w g 0 l := fun j x hj => by
  have := h.cells (g := g) rfl j (.int .u8 (x : Int)) (by rw [u8s, List.getElem?_map, hj]; rfl)
  rw [Addr.add_mid] at this
  exact this
theorem row_some {w : World} {b : Nat} {a : Option Addr} {n cap : Nat} {l : List Nat} (h : w.ownsRow b 5 1 (.slice a n cap) n (u8s l)) (hne : n ≠ 0) : ∃ g, a = some ⟨g, 0, none⟩ := by
  rcases h.2 with ⟨-, hz⟩ | ⟨g, c, cur, hv, -⟩
  · exact absurd hz hne
  · simp only [Value.slice.injEq] at hv; exact ⟨g, hv.1⟩

/-- Those of the first j that are Less than a set. -/
def metN (l : List Nat) (d j : Nat) : List Nat := (l.take j).filter (fun x => lessN x d)
theorem met_succ (l : List Nat) (d j x : Nat) (h : l[j]? = some x) : metN l d (j + 1) = if lessN x d then metN l d j ++ [x] else metN l d j := by
  unfold metN
  rw [List.take_add_one, h, List.filter_append]
  by_cases hx : lessN x d = true
  · rw [if_pos hx]; simp [hx]
  · rw [if_neg hx]; simp at hx; simp [hx]
theorem met_len (l : List Nat) (d j : Nat) : (metN l d j).length ≤ l.length := by
  unfold metN; exact Nat.le_trans (List.length_filter_le _ _) (by simp; omega)

set_option maxHeartbeats 8000000 in
set_option maxRecDepth 100000 in
theorem capsBack_walk (a b : Nat) (s : ByteArray) (ha : a < 256) (hb : b < 256) (hs : s.size ≤ 140737488351232) (w : World) (hw : WordsAt w) :
    Calls Tryd.prog 3 #[.int .u8 (a : Int), .int .u8 (b : Int), .string s] w fun e w' => e = .returned (.bool true) ∧ Below w.heap.size w w' := by
  have HW := aside hw
  clear hw
  have TX := aside (fun (x : Nat) (hx : x < 256) W (hW : Below w.heap.size w W) => text_any x hx W (HW.out.below hW))
  have PA := aside (fun (t : ByteArray) (ht : t.size ≤ 140737488351232) W (hW : Below w.heap.size w W) => parse_any t W ht (HW.out.below hW))
  go_enter Tryd.func3, Tryd.ntmps3
  go_wp2_with fail
  refine (works_any w HW.out).mono ?_
  rintro e1 w1 ⟨rfl, b1⟩
  have B1 := aside b1
  clear b1
  -- the text of a, there and back
  have hcase : a < 16 ∨ 16 ≤ a := by omega
  have PS := aside (fun W (hW : Below w.heap.size w W) => PA.out s hs W hW)
  have BK := aside (fun x (h : parseL s.data.toList = (x, none)) => parse_back s.data.toList x h)
  generalize hPS : parseL s.data.toList = ps at PS BK
  obtain ⟨xs, fs⟩ := ps
  clear hPS
  have TA := aside (fun (h16 : a < 16) => show (textL a).length ≤ 64 from (show ∀ a, a < 16 → (textL a).length ≤ 64 by decide) a h16)
  have PT := aside (fun (h16 : a < 16) W (hW : Below w.heap.size w W) => (show Calls Tryd.prog 6 #[.string ⟨(textL a).toArray⟩] W fun e w' => e = .returned (.tuple #[.int .u8 (a : Int), .nilIface]) ∧ Below W.heap.size W w' from by
    have h := PA.out ⟨(textL a).toArray⟩ (by rw [Lib.size_eq]; have := TA.out h16; simp; omega) W hW
    have hp : parseL (⟨(textL a).toArray⟩ : ByteArray).data.toList = (a, none) := parse_text a h16
    rw [hp] at h
    exact h.mono (by rintro e w' ⟨⟨v, rfl, rfl⟩, hb⟩; exact ⟨rfl, hb⟩)))
  obtain ⟨A, hA⟩ : ∃ A, a &&& 15 = A := ⟨_, rfl⟩
  obtain ⟨D, hD⟩ : ∃ D, b &&& 15 = D := ⟨_, rfl⟩
  have eA : bits .and .u8 (a : Int) 15 = (A : Int) := by rw [← hA]; exact u8_and_nat a 15 ha (by decide)
  have eD : bits .and .u8 (b : Int) 15 = (D : Int) := by rw [← hD]; exact u8_and_nat b 15 hb (by decide)
  have lA : A < 16 := by rw [← hA]; exact Nat.lt_of_le_of_lt Nat.and_le_right (by decide)
  have lD : D < 16 := by rw [← hD]; exact Nat.lt_of_le_of_lt Nat.and_le_right (by decide)
  clear hA hD
  rcases hcase with h16 | h16
  all_goals first
    | (have t1 : (a : Int) < 16 := (by omega); go_wp2_with fail; refine (TX.out a ha w1 B1.out).mono ?_; rintro e2 w2 ⟨rfl, b2⟩; have B2 := aside (below_tr B1.out b2); clear b2; go_wp2_with fail; refine (PT.out h16 w2 B2.out).mono ?_; rintro e3 w3 ⟨rfl, b3⟩; have BX := aside (below_tr B2.out b3); clear b3; go_wp2_with fail)
    | (have t1 : decide ((a : Int) < 16) = false := (by simp; omega); have BX := aside B1.out; go_wp2_with fail)
  all_goals
    refine (PS.out _ BX.out).mono ?_
    rintro e4 w4 ⟨⟨v4, rfl, hv4⟩, b4⟩
    have B4 := aside (below_tr BX.out b4)
    clear b4
  all_goals
    have TXS := aside (fun (hn : fs = none) => (show Calls Tryd.prog 7 #[.int .u8 (xs : Int)] w4 fun e w' => e = .returned (.string s) ∧ Below w4.heap.size w4 w' from by
      have hk := BK.out xs (by rw [hn])
      have h := TX.out xs (by omega) w4 B4.out
      rw [hk.2, Lib.mk_data] at h
      exact h))
    have XL := aside (fun (hn : fs = none) => (BK.out xs (by rw [hn])).1)
    cases fs
  all_goals first
    | (have hx := XL.out (by first | trivial | rfl); have t2 : decide ((15 : Int) < (xs : Int)) = false := (by simp; omega); (obtain rfl : v4 = .nilIface := hv4); go_wp2_with fail; refine (TXS.out (by first | trivial | rfl)).mono ?_; rintro e5 w5 ⟨rfl, b5⟩; have B5 := aside (below_tr B4.out b5); clear b5; go_wp2)
    | (obtain ⟨g4, rfl, -⟩ := hv4; have B5 := aside B4.out; go_wp2)
  all_goals
    go_loopg [11, 55] 4 (fun kx s11 s55 wr => ∃ i : Nat, s11 = .int .i64 (popN A i : Int) ∧ s55 = .int .i64 i ∧ i ≤ 4 ∧ 4 - i ≤ kx ∧ Aside (Below w.heap.size w wr))
    case atStart => exact ⟨0, rfl, rfl, by omega, by omega, B5⟩
    case round =>
      obtain ⟨i, rfl, rfl, hi, hk, hbw⟩ := hrel
      by_cases hlt : i < 4
      · have hsm : popN A i ≤ 4 := by
          have : ∀ A, A < 16 → ∀ i, i < 5 → popN A i ≤ 4 := by decide
          exact this A lA i (by omega)
        have hi4 : i = 0 ∨ i = 1 ∨ i = 2 ∨ i = 3 := by omega
        rcases hi4 with rfl | rfl | rfl | rfl
        · go_wp2
          go_roundg 3
          case measure => omega
          case rel => exact ⟨1, congrArg (Value.int .i64) (sh_0 A lA), rfl, by omega, by omega, hbw⟩
        · go_wp2
          go_roundg 2
          case measure => omega
          case rel => exact ⟨2, congrArg (Value.int .i64) (sh_1 A lA), rfl, by omega, by omega, hbw⟩
        · go_wp2
          go_roundg 1
          case measure => omega
          case rel => exact ⟨3, congrArg (Value.int .i64) (sh_2 A lA), rfl, by omega, by omega, hbw⟩
        · go_wp2
          go_roundg 0
          case measure => omega
          case rel => exact ⟨4, congrArg (Value.int .i64) (sh_3 A lA), rfl, by omega, by omega, hbw⟩
      · obtain rfl : i = 4 := by omega
        have AL := aside (fun W => all_any A (by omega) W)
        have AM := aside (fun W => all_any (A &&& D) (Nat.lt_of_le_of_lt Nat.and_le_left (by omega)) W)
        have hlen := all_len A lA
        have hple := pop_le A lA
        have hsh : wrap64 (2 ^ (popN A 4)) = ((allN A).length : Int) := by
          have : ∀ A, A < 16 → wrap64 (2 ^ (popN A 4)) = ((allN A).length : Int) := by decide +kernel
          exact this A lA
        have MEM := aside (all_mem A lA)
        have RIS := aside (all_rises A lA)
        have MEE := aside (all_meets A lA D lD)
        have eAD : bits .and .u8 (A : Int) (D : Int) = ((A &&& D : Nat) : Int) := u8_and_nat A D (by omega) (by omega)
        go_wp2_with fail
        refine (AL.out wr).mono ?_
        rintro e6 w6 ⟨⟨v6, rfl, o6⟩, b6⟩
        obtain ⟨a6, c6, rfl, -, -⟩ := row_form o6
        have B6 := aside (below_tr hbw.out b6)
        have O6 := aside (row_le o6 hbw.out.size)
        clear o6 b6
        generalize hAN : allN A = AN at *
        generalize hpo : popN A 4 = po at *
        go_wp2
        clear hpo hsh hple
        go_loopg [14, 75] AN.length (fun kx s14 s75 wr => ∃ (j : Nat) (a7 : Option Addr) (c7 : Nat), s14 = .slice a7 (metN AN D j).length c7 ∧ s75 = .int .i64 j ∧ j ≤ AN.length ∧ AN.length - j ≤ kx ∧ w.heap.size ≤ wr.heap.size ∧ Aside (Below w.heap.size w wr) ∧
          Aside (TwoRows w.heap.size wr (.slice a7 (metN AN D j).length c7) (.slice a6 AN.length c6) (metN AN D j) AN))
        case atStart => exact ⟨0, none, 0, rfl, rfl, by omega, by omega, B6.out.size, B6, (⟨World.ownsRow_nil _ _ _ _, O6.out, fun g hg => by cases hg⟩ : TwoRows w.heap.size w6 (.slice none 0 0) (.slice a6 AN.length c6) (metN AN D 0) AN)⟩
        case round =>
          obtain ⟨j, a7, c7, rfl, rfl, hj, hkj, hsz, hbz, h2r⟩ := hrel
          by_cases hlj : j < AN.length
          · have hxe : AN[j]? = some AN[j] := List.getElem?_eq_getElem hlj
            have hxm := MEM.out _ (List.getElem_mem hlj)
            have hprev := aside (show 0 < j → ∃ y, AN[j - 1]? = some y ∧ y < AN[j] from fun h0 => by
              refine ⟨AN[j - 1]'(by omega), List.getElem?_eq_getElem _, ?_⟩
              have := RIS.out (j - 1) (by omega) (by omega)
              rw [show j - 1 + 1 = j by omega] at this
              simpa [List.getD, List.getElem?_eq_getElem hlj, List.getElem?_eq_getElem (show j - 1 < AN.length by omega)] using this)
            generalize AN[j] = x at *
            obtain ⟨g6, rfl⟩ := row_some h2r.out.two (by omega)
            have rdl := row_rd h2r.out.two
            have dx := rdl j x hxe
            simp only [Nat.zero_add] at dx
            have MS := aside (met_succ AN D j x hxe)
            have ML := met_len AN D j
            have LX := aside (fun W => less_any x A (by omega) (by omega) W)
            rw [hxm.1] at LX
            have LD := aside (fun W => less_any x D (by omega) (by omega) W)
            have T1 := aside (h2r.out.below (below_al wr (.cells #[.int .u8 (x : Int)] 5)))
            have hj0 : j = 0 ∨ 0 < j := by omega
            rcases hj0 with hj0 | hj0
            all_goals first
              | (subst hj0; clear rdl; go_wp2_with fail; refine (LX.out wr).mono ?_; rintro e7 w7 ⟨rfl, rfl⟩; go_wp2_with fail)
              | ((obtain ⟨y, hy, hyx⟩ := hprev.out hj0); have dy := rdl (j - 1) y hy; simp only [Nat.zero_add] at dy; have tj : (0 : Int) < (j : Int) := (by omega); have tj1 : ((j : Int) - 1) = ((j - 1 : Nat) : Int) := (by omega); have ty : decide ((x : Int) ≤ (y : Int)) = false := (by simp; omega); have hj1 : j - 1 < AN.length := (by omega); clear rdl hy; go_wp2_with fail; refine (LX.out wr).mono ?_; rintro e7 w7 ⟨rfl, rfl⟩; go_wp2_with fail)
            all_goals
              cases hxd : lessN x D
              all_goals
                rw [hxd] at MS LD
                have HXD := aside hxd
                clear hxd
                refine (LD.out _).mono ?_
                rintro e8 w8 ⟨rfl, rfl⟩
            all_goals first
              | (have e2 : metN AN D (_ + 1) = metN AN D _ ++ [x] := MS.out; have E2 := aside e2; clear e2; go_wp2_with (at_builtin; refine wpList_push_first _ rfl _ _ rfl w.heap.size (.slice a7 (metN AN D _).length c7) (.slice (some ⟨g6, 0, none⟩) AN.length c6) (metN AN D _) AN rfl T1.out _ 1 x rfl (by go_simp) (metN AN D _).length rfl (by omega) (by simp; omega) ?_); intro a9 c9 w9 t9 b9 s9; have T9 := aside t9; have B9 := aside (hbz.out.trans (((below_al w8 (.cells #[.int .u8 (x : Int)] 5)).mono hsz).trans b9)); (try simp only [World.size_alloc] at s9); clear t9 b9 dx; go_wp2)
              | go_wp2
            all_goals first
              | (go_roundg (AN.length - (j + 1)); all_goals first | omega | exact ⟨j + 1, a9, c9, by rw [E2.out]; simp, by go_num, by omega, by omega, by omega, B9, (by rw [E2.out]; simpa using T9)⟩ | exact ⟨j + 1, a7, c7, by rw [show metN AN D (j + 1) = metN AN D j from MS.out.trans (if_neg (by decide))], by go_num, by omega, by omega, hsz, hbz, (by rw [show metN AN D (j + 1) = metN AN D j from MS.out.trans (if_neg (by decide))]; exact h2r)⟩)
              | (go_roundg (AN.length - 1); all_goals first | omega | exact ⟨0 + 1, a9, c9, by rw [E2.out]; simp, rfl, by omega, by omega, by omega, B9, (by rw [E2.out]; simpa using T9)⟩ | exact ⟨0 + 1, a7, c7, by rw [show metN AN D (0 + 1) = metN AN D 0 from MS.out.trans (if_neg (by decide))], rfl, by omega, by omega, hsz, hbz, (by rw [show metN AN D (0 + 1) = metN AN D 0 from MS.out.trans (if_neg (by decide))]; exact h2r)⟩)
          · obtain rfl : j = AN.length := by omega
            have hmm : metN AN D AN.length = allN (A &&& D) := by unfold metN; rw [List.take_length]; exact MEE.out
            have HM := aside hmm
            clear hmm
            go_wp2_with fail
            refine (AM.out wr).mono ?_
            rintro e8 w8 ⟨⟨v8, rfl, o8⟩, b8⟩
            obtain ⟨a8, c8, rfl, -, -⟩ := row_form o8
            have B8 := aside (below_tr hbz.out b8)
            have O8 := aside o8
            have O7 := aside (row_below h2r.out.one b8)
            clear o8 b8
            rw [← HM.out] at O8
            have rdd : ∀ (W : World) (B : Nat) (xx : Option Addr) (c : Nat) (l : List Nat), W.ownsRow B 5 1 (.slice xx l.length c) l.length (u8s l) → l ≠ [] → ∃ blk off, xx = some ⟨blk, off, none⟩ ∧ RdB W blk off l := by
              intro W B xx c l ho hne
              obtain ⟨g, rfl⟩ := row_some ho (by intro h; exact hne (List.length_eq_zero_iff.1 h))
              exact ⟨g, 0, rfl, row_rd ho⟩
            have ML := met_len AN D AN.length
            have SM := aside (same_any (metN AN D AN.length) (metN AN D AN.length) a7 a8 c7 c8 w8 (rdd w8 _ a7 c7 _ O7.out) (rdd w8 _ a8 c8 _ O8.out) (by omega) (by omega))
            rw [beq_self_eq_true] at SM
            rw [← HM.out]
            clear rdd
            go_wp2_with fail
            refine SM.out.mono ?_
            rintro e9 w9 ⟨rfl, b9⟩
            go_wp2
            go_ret
            exact ⟨rfl, below_tr B8.out b9⟩
end Go.Proofs.YtniohiepnojjbabDoor
