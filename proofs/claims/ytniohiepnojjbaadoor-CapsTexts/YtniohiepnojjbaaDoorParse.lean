/- Parse: the set whose text a text is, or the first fault. -/
import Derived.Test.YtniohiepnojjbaaDoorCut
import Derived.Test.YtniohiepnojjbaaDoorRef
namespace Go.Proofs.YtniohiepnojjbaaDoor
open Go.RowKit

theorem word_take (l : List UInt8) : wordL l = l.take (wordL l).length := by
  unfold wordL
  induction l with
  | nil => rfl
  | cons b r ih =>
    rw [List.takeWhile_cons]
    split
    · simp only [List.length_cons, List.take_succ_cons]; rw [← ih]
    · rfl

theorem cut_any (s : ByteArray) (w : World) (hs : s.size ≤ maxLen) :
    Calls Tryd.prog 24 #[.string s, .string ⟨#[32]⟩] w fun e w' => (∃ aft, e = .returned (.tuple #[.string ⟨(wordL s.data.toList).toArray⟩, .string aft, .bool (decide (32 ∈ s.data.toList))])) ∧ Below w.heap.size w w' := by
  by_cases h : (32 : UInt8) ∈ s.data.toList
  · have hi := (index_word s.data.toList).1 h
    have hlt := word_le s.data.toList h
    refine (cut_yes s (wordL s.data.toList).length w hi (by rw [Lib.size_eq]; exact hlt) hs).mono ?_
    rintro e w' ⟨rfl, hb⟩
    refine ⟨⟨s.extract ((wordL s.data.toList).length + 1) s.size, ?_⟩, hb⟩
    rw [Lib.extract_eq s 0, List.drop_zero, Nat.sub_zero, ← word_take, decide_eq_true h]
  · obtain ⟨hi, hw⟩ := (index_word s.data.toList).2 h
    refine (cut_no s w hi).mono ?_
    rintro e w' ⟨rfl, hb⟩
    refine ⟨⟨⟨#[]⟩, ?_⟩, hb⟩
    rw [hw, Lib.mk_data, decide_eq_false h]

/-- A text as its first word and the others. -/
def spl : List UInt8 → List UInt8 × List (List UInt8)
  | [] => ([], [])
  | b :: r => if b = 32 then ([], (spl r).1 :: (spl r).2) else (b :: (spl r).1, (spl r).2)

theorem spl_word (m : List UInt8) : (spl m).1 = wordL m ∧ (32 ∉ m → (spl m).2 = []) ∧ (32 ∈ m → (spl m).2 = (spl (m.drop ((wordL m).length + 1))).1 :: (spl (m.drop ((wordL m).length + 1))).2) := by
  induction m with
  | nil => exact ⟨rfl, fun _ => rfl, fun h => absurd h (by simp)⟩
  | cons b r ih =>
    by_cases hb : b = 32
    · subst hb
      refine ⟨rfl, fun h => absurd (List.mem_cons_self ..) h, fun _ => ?_⟩
      have : wordL ((32 : UInt8) :: r) = [] := by simp [wordL]
      rw [this]
      rfl
    · have hw : wordL (b :: r) = b :: wordL r := by simp [wordL, hb]
      have hsp : spl (b :: r) = (b :: (spl r).1, (spl r).2) := by rw [spl, if_neg hb]
      rw [hsp, hw]
      refine ⟨by rw [ih.1], fun h => ih.2.1 (fun h2 => h (List.mem_cons_of_mem _ h2)), fun h => ?_⟩
      have hr : 32 ∈ r := by
        cases h with
        | head => exact absurd rfl hb
        | tail _ h => exact h
      simpa using ih.2.2 hr

abbrev lRead : List UInt8 := [114, 101, 97, 100]
def bitW (t : List UInt8) : Nat := bitN ⟨t.toArray⟩
theorem bitW_lt (t : List UInt8) : bitW t < 16 := by
  unfold bitW bitN; split <;> (try split) <;> (try split) <;> (try split) <;> decide

/-- Parse's answer, word by word: the set, and the fault's place and word. -/
def parseW : List (List UInt8) → Nat → Nat → Bool → List UInt8 → Nat × Option (Nat × List UInt8)
  | [], at', can, closed, t => if at' = 0 ∧ t = lRead then (can, none) else if can < bitW t ∧ closed = false then (can ||| bitW t, none) else (0, some (at', t))
  | u :: r, at', can, closed, t => if at' = 0 ∧ t = lRead then parseW r (at' + t.length + 1) can true u else if can < bitW t ∧ closed = false then parseW r (at' + t.length + 1) (can ||| bitW t) closed u else (0, some (at', t))

/-- Parse's answer for a text. -/
def parseL (l : List UInt8) : Nat × Option (Nat × List UInt8) := parseW (spl l).2 0 0 false (spl l).1

/-- What a word does: the set behind it, whether none may follow; or a fault. -/
def stepW (at' can : Nat) (closed : Bool) (t : List UInt8) : Option (Nat × Bool) := if at' = 0 ∧ t = lRead then some (can, true) else if can < bitW t ∧ closed = false then some (can ||| bitW t, closed) else none

theorem parse_step (m : List UInt8) (at' can : Nat) (closed : Bool) : parseW (spl m).2 at' can closed (spl m).1 = match stepW at' can closed (wordL m) with
    | none => (0, some (at', wordL m))
    | some (c, d) => if 32 ∈ m then parseW (spl (m.drop ((wordL m).length + 1))).2 (at' + (wordL m).length + 1) c d (spl (m.drop ((wordL m).length + 1))).1 else (c, none) := by
  obtain ⟨h1, h2, h3⟩ := spl_word m
  by_cases hm : (32 : UInt8) ∈ m
  · rw [h3 hm, h1, parseW, stepW]
    simp only [if_pos hm]
    split
    · simp
    · split
      · simp
      · rfl
  · rw [h2 hm, h1, parseW, stepW]
    simp only [if_neg hm]
    split
    · simp
    · split
      · simp
      · rfl

/-- The error value that tells a fault. -/
def ErrAt (w : World) (v : Value) : Option (Nat × List UInt8) → Prop
  | none => v = .nilIface
  | some (p, t) => ∃ g, v = .iface 56 (.pointer (some ⟨g, 0, none⟩)) ∧ w.heap[g]? = some (.cells #[.int .i64 2, .int .i64 (p : Int), .string ⟨t.toArray⟩] 28 (0, 0))

set_option maxHeartbeats 4000000 in
set_option maxRecDepth 100000 in
theorem parse_any (s : ByteArray) (w : World) (hs : s.size ≤ 140737488351232) (hw : WordsAt w) :
    Calls Tryd.prog 9 #[.string s] w fun e w' => (∃ v, e = .returned (.tuple #[.int .u8 ((parseL s.data.toList).1 : Int), v]) ∧ ErrAt w' v (parseL s.data.toList).2) ∧ Below w.heap.size w w' := by
  have HW := aside hw
  have hsz := Lib.size_eq s
  clear hw
  generalize hl : s.data.toList = l at *
  have HL := aside hl
  clear hl
  generalize hP : parseL l = P
  have HP := aside hP
  clear hP
  obtain ⟨rv, rf⟩ := P
  go_enter Tryd.func9, Tryd.ntmps9
  go_wp2
  go_loopg [4, 5, 6] (l.length + 1) (fun kx s4 s5 s6 wr => ∃ (can at' : Nat) (closed : Bool), s4 = .int .u8 (can : Int) ∧ s5 = .bool closed ∧ s6 = .int .i64 (at' : Int) ∧ can < 16 ∧ at' ≤ l.length ∧ l.length + 1 - at' ≤ kx ∧ Aside (Below w.heap.size w wr) ∧
    Aside (parseW (spl (l.drop at')).2 at' can closed (spl (l.drop at')).1 = (rv, rf)))
  case atStart => exact ⟨0, 0, false, rfl, rfl, rfl, by omega, by omega, by omega, Below.refl _ _, HP.out⟩
  case round =>
    obtain ⟨can, at', closed, rfl, rfl, rfl, hcan, hat, hk, hbw, hpw⟩ := hrel
    have hx := Lib.extract_data s at' s.size
    have hxd : (s.extract at' s.size).data.toList = l.drop at' := by
      rw [hx, HL.out, hsz, List.take_of_length_le (by simp)]
    have hxs : (s.extract at' s.size).size ≤ maxLen := by
      rw [Lib.size_eq, hxd]; simp; unfold maxLen; omega
    have CC := aside (cut_any (s.extract at' s.size) wr hxs)
    rw [hxd] at CC
    have c1 : (0 : Int) ≤ (at' : Int) := by omega
    have c2 : (at' : Int) ≤ (s.size : Int) := by omega
    rw [hsz] at CC
    have HST := aside (hpw.out.symm.trans (parse_step (l.drop at') at' can closed))
    have hwle : (wordL (l.drop at')).length ≤ (l.drop at').length := by rw [word_take (l.drop at')]; simp; omega
    have hwlt := aside (fun h => word_le (l.drop at') h)
    rw [List.drop_drop] at HST
    generalize hm : l.drop at' = m at *
    have hml : m.length = l.length - at' := by rw [← hm]; simp
    clear hx hxd hxs hm
    go_wp2_with fail
    refine CC.out.mono ?_
    rintro e1 w1 ⟨⟨aft, rfl⟩, b1⟩
    have B1 := aside (below_tr hbw.out b1)
    clear b1
    generalize wordL m = t at *
    have BI := aside (bitOf_any ⟨t.toArray⟩ w1 (HW.out.below B1.out))
    have hbit := bitW_lt t
    change Aside (Calls Tryd.prog 25 _ _ fun e w' => e = .returned (.int .u8 (bitW t : Int)) ∧ _) at BI
    go_wp2_with fail
    refine BI.out.mono ?_
    rintro e2 w2 ⟨rfl, b2⟩
    have B2 := aside (below_tr B1.out b2)
    clear b2
    have rl : (⟨t.toArray⟩ : ByteArray).toList = t := by rw [Lib.toList_data]
    have hcase : (at' = 0 ∧ t = lRead) ∨ (at' = 0 ∧ t ≠ lRead ∧ can < bitW t ∧ closed = false) ∨ (at' ≠ 0 ∧ can < bitW t ∧ closed = false) ∨ (at' = 0 ∧ t ≠ lRead ∧ ¬ (can < bitW t ∧ closed = false)) ∨ (at' ≠ 0 ∧ ¬ (can < bitW t ∧ closed = false)) := by
      by_cases h0 : at' = 0
      · by_cases h1 : t = lRead
        · exact .inl ⟨h0, h1⟩
        · by_cases h2 : (can < bitW t ∧ closed = false)
          · exact .inr (.inl ⟨h0, h1, h2⟩)
          · exact .inr (.inr (.inr (.inl ⟨h0, h1, h2⟩)))
      · by_cases h2 : (can < bitW t ∧ closed = false)
        · exact .inr (.inr (.inl ⟨h0, h2⟩))
        · exact .inr (.inr (.inr (.inr ⟨h0, h2⟩)))
    have hor : bits .or .u8 (can : Int) (bitW t : Int) = ((can ||| bitW t : Nat) : Int) := u8_or_nat can (bitW t) (by omega) (by omega)
    have hor16 : can ||| bitW t < 16 := Nat.or_lt_two_pow (n := 4) hcan hbit
    have RLL := aside rl
    clear rl
    rcases hcase with ⟨g0, g1⟩ | ⟨g0, g1, g2, g3⟩ | ⟨g0, g2, g3⟩ | ⟨g0, g1, g2⟩ | ⟨g0, g2⟩
    · have G1 := aside g1
      have G0 := aside g0
      clear g1 g0
      have hst := aside (show stepW at' can closed t = some (can, true) from by rw [stepW, if_pos ⟨G0.out, G1.out⟩])
      rw [hst.out] at HST
      have H2 := HST.out
      simp only at H2
      clear HST hst
      have tZ : ((at' : Int) == 0) = true := by rw [G0.out]; rfl
      have tR : ((⟨t.toArray⟩ : ByteArray).toList == [114, 101, 97, 100]) = true := by rw [RLL.out, G1.out]; rfl
      have tR2 : (t == [114, 101, 97, 100]) = true := by rw [G1.out]; rfl
      by_cases hmm : (32 : UInt8) ∈ m
      · have hd : decide ((32 : UInt8) ∈ m) = true := by simpa using hmm
        have hlt := hwlt.out hmm
        rw [if_pos hmm] at H2
        have HH := aside H2
        clear H2 hmm
        go_wp2
        go_roundg (l.length + 1 - (at' + t.length + 1))
        case measure => omega
        case rel => exact ⟨can, at' + t.length + 1, true, rfl, rfl, by go_num, by omega, by omega, by omega, B2, HH.out.symm⟩
      · have hd : decide ((32 : UInt8) ∈ m) = false := by simpa using hmm
        rw [if_neg hmm] at H2
        obtain ⟨rfl, rfl⟩ := Prod.mk.inj H2
        clear H2 hmm
        go_wp2
        go_ret2
        exact ⟨⟨_, rfl, rfl⟩, B2.out⟩
    · have G1 := aside g1
      have G0 := aside g0
      clear g1 g0
      subst g3
      have hst := aside (show stepW at' can false t = some ((can ||| bitW t), false) from by rw [stepW, if_neg (fun h => G1.out h.2), if_pos ⟨g2, rfl⟩])
      rw [hst.out] at HST
      have H2 := HST.out
      simp only at H2
      clear HST hst
      have tZ : ((at' : Int) == 0) = true := by rw [G0.out]; rfl
      have tR : ((⟨t.toArray⟩ : ByteArray).toList == [114, 101, 97, 100]) = false := by rw [RLL.out, beq_eq_false_iff_ne]; exact G1.out
      have tR2 : (t == [114, 101, 97, 100]) = false := by rw [beq_eq_false_iff_ne]; exact G1.out
      have tB : (can : Int) < (bitW t : Int) := by omega
      by_cases hmm : (32 : UInt8) ∈ m
      · have hd : decide ((32 : UInt8) ∈ m) = true := by simpa using hmm
        have hlt := hwlt.out hmm
        rw [if_pos hmm] at H2
        have HH := aside H2
        clear H2 hmm
        go_wp2
        go_roundg (l.length + 1 - (at' + t.length + 1))
        case measure => omega
        case rel => exact ⟨(can ||| bitW t), at' + t.length + 1, false, rfl, rfl, by go_num, by omega, by omega, by omega, B2, HH.out.symm⟩
      · have hd : decide ((32 : UInt8) ∈ m) = false := by simpa using hmm
        rw [if_neg hmm] at H2
        obtain ⟨rfl, rfl⟩ := Prod.mk.inj H2
        clear H2 hmm
        go_wp2
        go_ret2
        exact ⟨⟨_, rfl, rfl⟩, B2.out⟩
    · have G0 := aside g0
      clear g0
      subst g3
      have hst := aside (show stepW at' can false t = some ((can ||| bitW t), false) from by rw [stepW, if_neg (fun h => G0.out h.1), if_pos ⟨g2, rfl⟩])
      rw [hst.out] at HST
      have H2 := HST.out
      simp only at H2
      clear HST hst
      have tZ : ((at' : Int) == 0) = false := by rw [ez]; simpa using G0.out
      have tB : (can : Int) < (bitW t : Int) := by omega
      by_cases hmm : (32 : UInt8) ∈ m
      · have hd : decide ((32 : UInt8) ∈ m) = true := by simpa using hmm
        have hlt := hwlt.out hmm
        rw [if_pos hmm] at H2
        have HH := aside H2
        clear H2 hmm
        go_wp2
        go_roundg (l.length + 1 - (at' + t.length + 1))
        case measure => omega
        case rel => exact ⟨(can ||| bitW t), at' + t.length + 1, false, rfl, rfl, by go_num, by omega, by omega, by omega, B2, HH.out.symm⟩
      · have hd : decide ((32 : UInt8) ∈ m) = false := by simpa using hmm
        rw [if_neg hmm] at H2
        obtain ⟨rfl, rfl⟩ := Prod.mk.inj H2
        clear H2 hmm
        go_wp2
        go_ret2
        exact ⟨⟨_, rfl, rfl⟩, B2.out⟩
    · have G1 := aside g1
      have G0 := aside g0
      have G2 := aside g2
      clear g1 g0 g2
      have hst := aside (show stepW at' can closed t = none from by rw [stepW, if_neg (fun h => G1.out h.2), if_neg G2.out])
      rw [hst.out] at HST
      obtain ⟨rfl, rfl⟩ := Prod.mk.inj HST.out
      clear HST hst
      have tZ : ((at' : Int) == 0) = true := by rw [G0.out]; rfl
      have tR : ((⟨t.toArray⟩ : ByteArray).toList == [114, 101, 97, 100]) = false := by rw [RLL.out, beq_eq_false_iff_ne]; exact G1.out
      have tR2 : (t == [114, 101, 97, 100]) = false := by rw [beq_eq_false_iff_ne]; exact G1.out
      have CLO := aside (clone_any ⟨t.toArray⟩ w2 (by rw [Lib.size_eq]; simp; omega))
      by_cases hB : can < bitW t
      all_goals first
        | (have tB : (can : Int) < (bitW t : Int) := (by omega); (obtain rfl : closed = true := (by have := G2.out; cases closed <;> simp_all)))
        | (have tB : decide ((can : Int) < (bitW t : Int)) = false := (by simp; omega))
      all_goals
        go_wp2_with fail
        refine CLO.out.mono ?_
        rintro e3 w3 ⟨rfl, b3⟩
        have B3 := aside (below_tr B2.out b3)
        clear b3
        go_wp2
        go_ret2
        exact ⟨⟨_, rfl, ⟨w3.heap.size, rfl, al_at _ _⟩⟩, below_tr B3.out (below_al _ _)⟩
    · have G0 := aside g0
      have G2 := aside g2
      clear g0 g2
      have hst := aside (show stepW at' can closed t = none from by rw [stepW, if_neg (fun h => G0.out h.1), if_neg G2.out])
      rw [hst.out] at HST
      obtain ⟨rfl, rfl⟩ := Prod.mk.inj HST.out
      clear HST hst
      have tZ : ((at' : Int) == 0) = false := by rw [ez]; simpa using G0.out
      have CLO := aside (clone_any ⟨t.toArray⟩ w2 (by rw [Lib.size_eq]; simp; omega))
      by_cases hB : can < bitW t
      all_goals first
        | (have tB : (can : Int) < (bitW t : Int) := (by omega); (obtain rfl : closed = true := (by have := G2.out; cases closed <;> simp_all)))
        | (have tB : decide ((can : Int) < (bitW t : Int)) = false := (by simp; omega))
      all_goals
        go_wp2_with fail
        refine CLO.out.mono ?_
        rintro e3 w3 ⟨rfl, b3⟩
        have B3 := aside (below_tr B2.out b3)
        clear b3
        go_wp2
        go_ret2
        exact ⟨⟨_, rfl, ⟨w3.heap.size, rfl, al_at _ _⟩⟩, below_tr B3.out (below_al _ _)⟩
end Go.Proofs.YtniohiepnojjbaaDoor
