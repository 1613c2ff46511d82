/- Less and All, of the program and of the document; same. -/
import Derived.Test.YtniohiepnojjbaaDoorStack
import Derived.Laws.AppendOwn
namespace Go.Proofs.YtniohiepnojjbaaDoor
open Go.RowKit

theorem row_form {w : World} {b : Nat} {e : TypeId} {s : Nat} {lv : Value} {n : Nat} {xs : List Value} (h : w.ownsRow b e s lv n xs) : ∃ a cap, lv = .slice a n cap ∧ n ≤ cap ∧ cap ≤ maxLen := by
  rcases h.2 with ⟨rfl, rfl⟩ | ⟨g, cap, cur, rfl, _, _, h1, h2, _⟩
  · exact ⟨none, 0, rfl, Nat.le_refl _, by decide⟩
  · exact ⟨_, cap, rfl, h1, h2⟩

/-- A row stays where nothing but new memory has come. -/
theorem row_below {w w' : World} {b : Nat} {e : TypeId} {s : Nat} {lv : Value} {n : Nat} {xs : List Value} (h : w.ownsRow b e s lv n xs) (hb : Below w.heap.size w w') : w'.ownsRow b e s lv n xs := by
  refine ⟨h.1, ?_⟩
  rcases h.2 with h2 | ⟨g, cap, cur, hv, hg, hh, r⟩
  · exact .inl h2
  · exact .inr ⟨g, cap, cur, hv, hg, (hb.block g (Array.getElem?_eq_some_iff.1 hh).1).trans hh, r⟩

theorem row_le {w : World} {b b' : Nat} {e : TypeId} {s : Nat} {lv : Value} {n : Nat} {xs : List Value} (h : w.ownsRow b e s lv n xs) (hb : b' ≤ b) : w.ownsRow b' e s lv n xs := by
  refine ⟨h.1, ?_⟩
  rcases h.2 with h2 | ⟨g, cap, cur, hv, hg, r⟩
  · exact .inl h2
  · exact .inr ⟨g, cap, cur, hv, Nat.le_trans hb hg, r⟩

theorem row_own {w : World} {b : Nat} {e : TypeId} {s : Nat} {lv : Value} {n : Nat} {xs : List Value} (h : w.ownsRow b e s lv n xs) : ∀ k, lv.ownBlock = some k → b ≤ k := by
  intro k hk
  rcases h.2 with ⟨rfl, _⟩ | ⟨g, cap, cur, rfl, hg, _⟩
  · simp [Value.ownBlock] at hk
  · simp only [Value.ownBlock, Option.some.injEq] at hk; omega

/-- One more element onto a row of one's own. -/
theorem wpList_push (w : World) {ops : Array Oper} {rest : List Oper} {o : Oper} {a : Act} {Q : Exit → Act → World → Prop} (hgd : o.guard = none) (s x : Operand) (t : TypeId)
    (ho : o.op = .call { callee := .builtin .append, args := #[s, x], argTypes := #[t, t] }) (base : Nat) (e : TypeId) (z : Value) (bytes : Nat) (ht : Tryd.prog.underlying t = some (.slice e)) (hinfo : (Tryd.prog.info? e).map (fun i => (i.zero, i.size, i.bytes)) = some (some z, 1, bytes))
    (hzs : z.cells.size = 1) (v : Value) (n : Nat) (xs : List Value) (hs : a.eval s = v) (hown : w.ownsRow base e 1 v n xs) (nb c : Nat) (u : Value) (hx : a.eval x = .slice (some ⟨nb, 0, none⟩) 1 c) (hu : w.cell? ⟨nb, 0, none⟩ = some u) (h1 : u.oneCell' = true)
    (hn : n ≤ 4294967296) (hby : bytes ≤ 64) (hbase : base ≤ w.heap.size)
    (h : ∀ a' cap' w', w'.ownsRow base e 1 (.slice a' (n + 1) cap') (n + 1) (xs ++ [u]) → Below base w w' → w.heap.size ≤ w'.heap.size → wpList Tryd.prog ops Q rest (a.put o.dst (.slice a' (n + 1) cap')) w') : wpList Tryd.prog ops Q (o :: rest) a w := by
  cases hi : Tryd.prog.info? e with
  | none => simp [hi] at hinfo
  | some i =>
    simp only [hi, Option.map_some, Option.some.injEq, Prod.mk.injEq] at hinfo
    obtain ⟨e1, e2, e3⟩ := hinfo
    refine wpList_append_own w hgd s x t ho base e i z 1 bytes ht hi e1 e2 e3 hzs (by decide) v n xs hs hown ⟨nb, 0, none⟩ 1 c [u] hx rfl ?_ ?_ (by unfold maxLen; omega) ?_ hbase ?_
    · intro j y hj
      match j, hj with
      | 0, hj => simp at hj; subst hj; simpa [Addr.add] using hu
      | j + 1, hj => simp at hj
    · intro y hy; simp at hy; subst hy; exact h1
    · calc (n + 1) * bytes ≤ 4294967297 * 64 := Nat.mul_le_mul (by omega) hby
        _ ≤ 140737488355328 := by decide
    · intro v' w' h2 h3 _
      obtain ⟨a', cap', rfl, -, -⟩ := row_form h2
      exact h a' cap' w' h2 ((Below.refl _ _).grown h3 hbase (row_own hown)) h3.size

/-- Are all bits of the one in the other? -/
def lessN (a b : Nat) : Bool := a &&& b == a

theorem less_andNot (a b : Nat) (ha : a < 256) (hb : b < 256) : ((a &&& (255 - b)) == 0) = lessN a b := by
  have hsub : ∀ i, (255 - b).testBit i = (decide (i < 8) && !b.testBit i) := by
    intro i
    have := Nat.testBit_two_pow_sub_succ (x := b) (n := 8) hb i
    rw [show 2 ^ 8 - (b + 1) = 255 - b by omega] at this
    exact this
  have key : (a &&& (255 - b)) = 0 ↔ a &&& b = a := by
    constructor
    · intro h
      apply Nat.eq_of_testBit_eq
      intro i
      have h2 : (a &&& (255 - b)).testBit i = false := by rw [h]; simp
      rw [Nat.testBit_and, hsub] at h2
      rw [Nat.testBit_and]
      by_cases hi : i < 8
      · cases hA : a.testBit i <;> cases hB : b.testBit i <;> simp_all
      · rw [Nat.testBit_lt_two_pow (Nat.lt_of_lt_of_le ha (show 2 ^ 8 ≤ 2 ^ i from Nat.pow_le_pow_right (by decide) (by omega)))]
        rfl
    · intro h
      apply Nat.eq_of_testBit_eq
      intro i
      rw [Nat.testBit_and, hsub, ← h, Nat.testBit_and]
      cases a.testBit i <;> cases b.testBit i <;> simp
  unfold lessN
  by_cases h : a &&& b = a
  · rw [h, key.2 h]; simp
  · have h2 : (a &&& (255 - b)) ≠ 0 := fun h3 => h (key.1 h3)
    rw [beq_eq_false_iff_ne.2 h, beq_eq_false_iff_ne.2 h2]

theorem ez (a : Nat) : (((a : Nat) : Int) == 0) = (a == 0) := by
  cases a with
  | zero => rfl
  | succ n => rw [beq_eq_false_iff_ne.2 (by omega), beq_eq_false_iff_ne.2 (by omega)]

theorem ee (a b : Nat) : (((a : Nat) : Int) == ((b : Nat) : Int)) = (a == b) := by
  by_cases h : a = b
  · subst h; simp
  · rw [beq_eq_false_iff_ne.2 (by omega), beq_eq_false_iff_ne.2 h]

set_option maxHeartbeats 1000000 in
theorem less_any (a b : Nat) (ha : a < 256) (hb : b < 256) (w : World) : Calls Tryd.prog 17 #[.int .u8 (a : Int), .int .u8 (b : Int)] w fun e w' => e = .returned (.bool (lessN a b)) ∧ w' = w := by
  have e1 := u8_andNot_nat a b ha hb
  go_enter Tryd.func17, Tryd.ntmps17
  go_wp2
  go_ret
  exact ⟨congrArg (fun b => Ending.returned (.bool b)) ((ez _).trans (less_andNot a b ha hb)), rfl⟩

set_option maxHeartbeats 1000000 in
theorem refLess_any (a b : Nat) (ha : a < 256) (hb : b < 256) (w : World) : Calls Tryd.prog 18 #[.int .u8 (a : Int), .int .u8 (b : Int)] w fun e w' => e = .returned (.bool (lessN a b)) ∧ w' = w := by
  have e1 := u8_and_nat a b ha hb
  go_enter Tryd.func18, Tryd.ntmps18
  go_wp2
  go_ret
  exact ⟨congrArg (fun b => Ending.returned (.bool b)) (ee _ _), rfl⟩

/-- The sets below the i-th that are Less than a set. -/
def subsN (can i : Nat) : List Nat := (List.range i).filter (fun a => lessN a can)
/-- All's answer. -/
def allN (can : Nat) : List Nat := if 15 < can then [] else subsN can (can + 1)

theorem subsN_succ (can i : Nat) : subsN can (i + 1) = if lessN i can then subsN can i ++ [i] else subsN can i := by
  unfold subsN
  rw [List.range_succ, List.filter_append]
  by_cases h : lessN i can = true
  · rw [if_pos h]; simp [h]
  · rw [if_neg h]; simp at h; simp [h]

theorem subsN_len (can i : Nat) : (subsN can i).length ≤ i := by
  unfold subsN
  exact Nat.le_trans (List.length_filter_le _ _) (by simp)

abbrev u8s (l : List Nat) : List Value := l.map (fun x => .int .u8 ((x : Nat) : Int))
theorem info5 : (Tryd.prog.info? 5).map (fun i => (i.zero, i.size, i.bytes)) = some (some (.int .u8 0), 1, 1) := by kernel_rfl

set_option maxHeartbeats 2000000 in
set_option maxRecDepth 100000 in
theorem all_any (can : Nat) (hc : can < 256) (w : World) : Calls Tryd.prog 14 #[.int .u8 (can : Int)] w fun e w' => (∃ v, e = .returned v ∧ w'.ownsRow w.heap.size 5 1 v (allN can).length (u8s (allN can))) ∧ Below w.heap.size w w' := by
  by_cases h15 : 15 < can
  · have e : allN can = [] := by simp [allN, h15]
    rw [e]
    have t : (15 : Int) < (can : Int) := by omega
    go_enter Tryd.func14, Tryd.ntmps14
    go_wp2
    go_ret
    exact ⟨⟨_, rfl, World.ownsRow_nil _ _ _ _⟩, Below.refl _ _⟩
  · have e : allN can = subsN can (can + 1) := by simp [allN, h15]
    rw [e]
    have t : decide ((15 : Int) < (can : Int)) = false := by simp; omega
    have hw : IntKind.wrap .u8 ((can : Int) + 1) = (can : Int) + 1 := by rw [IntKind.wrap_u8']; omega
    go_enter Tryd.func14, Tryd.ntmps14
    go_wp2
    go_loopg [3, 9] (can + 1) (fun kx sl si wr => ∃ (i : Nat) (a : Option Addr) (cap : Nat), sl = .slice a (subsN can i).length cap ∧ si = .int .u8 (i : Int) ∧ i ≤ (can + 1) ∧ (can + 1) - i ≤ kx ∧ w.heap.size ≤ wr.heap.size ∧
      Aside (Below w.heap.size w wr) ∧ Aside (wr.ownsRow w.heap.size 5 1 (.slice a (subsN can i).length cap) (subsN can i).length (u8s (subsN can i))))
    case atStart => exact ⟨0, none, 0, rfl, rfl, by omega, by omega, Nat.le_refl _, Below.refl _ _, World.ownsRow_nil _ _ _ _⟩
    case round =>
      obtain ⟨i, a, cap, rfl, rfl, hi, hk, hsz, hbw, hown⟩ := hrel
      by_cases hlt : i < (can + 1)
      · have hlz : (i : Int) < (can : Int) + 1 := by omega
        have hw2 : IntKind.wrap .u8 ((i : Int) + 1) = (i : Int) + 1 := by rw [IntKind.wrap_u8']; omega
        have hL := aside (subsN_succ can i)
        have hlen := subsN_len can i
        cases hb : lessN i can
        · have HB := aside hb
          have HLE := aside (less_any i can (by omega) hc wr)
          clear hb
          go_wp2_with fail
          refine HLE.out.mono ?_
          rintro e w1 ⟨rfl, rfl⟩
          rw [HB.out]
          go_wp2
          go_roundg ((can + 1) - (i + 1))
          case measure => omega
          case rel =>
            have e2 : subsN can (i + 1) = subsN can i := by rw [hL.out, HB.out]; rfl
            exact ⟨i + 1, a, cap, by rw [e2], by go_num, by omega, by omega, hsz, hbw, by rw [e2]; exact hown⟩
        · have HB := aside hb
          have HLE := aside (less_any i can (by omega) hc wr)
          clear hb
          go_wp2_with fail
          refine HLE.out.mono ?_
          rintro e w1 ⟨rfl, rfl⟩
          rw [HB.out]
          have hB2 := aside (below_al w1 (.cells #[.int .u8 (i : Int)] 5))
          have HO2 := aside (row_below hown.out hB2.out)
          go_wp2_with (at_builtin; refine wpList_push _ rfl _ _ 35 rfl w.heap.size 5 (.int .u8 0) 1 Tryd.underlying35 info5 rfl _ _ _ rfl HO2.out w1.heap.size 1 (.int .u8 (i : Int)) rfl (by go_simp) rfl (by omega) (by decide) (by simp; omega) ?_; intro a' cap' w' ho' hb' hs')
          have HO' := aside ho'
          have HB' := aside (hbw.out.trans ((hB2.out.mono hsz).trans hb'))
          simp only [World.size_alloc] at hs'
          clear ho' hb'
          go_wp2
          go_roundg ((can + 1) - (i + 1))
          case measure => omega
          case rel =>
            have e2 : subsN can (i + 1) = subsN can i ++ [i] := by rw [hL.out, HB.out]; rfl
            have h3 : w'.ownsRow w.heap.size 5 1 (.slice a' (subsN can (i + 1)).length cap') (subsN can (i + 1)).length (u8s (subsN can (i + 1))) := by rw [e2]; simpa [u8s] using HO'.out
            exact ⟨i + 1, a', cap', by rw [e2]; simp, by go_num, by omega, by omega, by omega, HB', h3⟩
      · obtain rfl : i = (can + 1) := by omega
        go_wp2
        go_ret
        exact ⟨⟨_, rfl, hown.out⟩, hbw.out⟩

theorem subs16 : ∀ can, can < 16 → subsN can 16 = subsN can (can + 1) := by decide

set_option maxHeartbeats 2000000 in
set_option maxRecDepth 100000 in
theorem refAll_any (can : Nat) (hc : can < 256) (w : World) : Calls Tryd.prog 15 #[.int .u8 (can : Int)] w fun e w' => (∃ v, e = .returned v ∧ w'.ownsRow w.heap.size 5 1 v (allN can).length (u8s (allN can))) ∧ Below w.heap.size w w' := by
  by_cases h15 : 15 < can
  · have e : allN can = [] := by simp [allN, h15]
    rw [e]
    have t : decide ((can : Int) < 16) = false := by simp; omega
    go_enter Tryd.func15, Tryd.ntmps15
    go_wp2
    go_loopg [3, 4] 0 (fun kx sl si wr => sl = .slice none 0 0 ∧ si = .int .u8 0 ∧ wr = w)
    case atStart => exact ⟨rfl, rfl, rfl⟩
    case round =>
      obtain ⟨rfl, rfl, rfl⟩ := hrel
      go_wp2
      go_ret
      exact ⟨⟨_, rfl, World.ownsRow_nil _ _ _ _⟩, Below.refl _ _⟩
  · have e : allN can = subsN can 16 := by rw [subs16 can (by omega)]; simp [allN, h15]
    rw [e]
    have t : (can : Int) < 16 := by omega
    go_enter Tryd.func15, Tryd.ntmps15
    go_wp2
    go_loopg [3, 4] 16 (fun kx sl si wr => ∃ (i : Nat) (a : Option Addr) (cap : Nat), sl = .slice a (subsN can i).length cap ∧ si = .int .u8 (i : Int) ∧ i ≤ 16 ∧ 16 - i ≤ kx ∧ w.heap.size ≤ wr.heap.size ∧
      Aside (Below w.heap.size w wr) ∧ Aside (wr.ownsRow w.heap.size 5 1 (.slice a (subsN can i).length cap) (subsN can i).length (u8s (subsN can i))))
    case atStart => exact ⟨0, none, 0, rfl, rfl, by omega, by omega, Nat.le_refl _, Below.refl _ _, World.ownsRow_nil _ _ _ _⟩
    case round =>
      obtain ⟨i, a, cap, rfl, rfl, hi, hk, hsz, hbw, hown⟩ := hrel
      by_cases hlt : i < 16
      · have hlz : (i : Int) < 16 := by omega
        have hw2 : IntKind.wrap .u8 ((i : Int) + 1) = (i : Int) + 1 := by rw [IntKind.wrap_u8']; omega
        have hL := aside (subsN_succ can i)
        have hlen := subsN_len can i
        cases hb : lessN i can
        · have HB := aside hb
          have HLE := aside (refLess_any i can (by omega) hc wr)
          clear hb
          go_wp2_with fail
          refine HLE.out.mono ?_
          rintro e w1 ⟨rfl, rfl⟩
          rw [HB.out]
          go_wp2
          go_roundg (16 - (i + 1))
          case measure => omega
          case rel =>
            have e2 : subsN can (i + 1) = subsN can i := by rw [hL.out, HB.out]; rfl
            exact ⟨i + 1, a, cap, by rw [e2], by go_num, by omega, by omega, hsz, hbw, by rw [e2]; exact hown⟩
        · have HB := aside hb
          have HLE := aside (refLess_any i can (by omega) hc wr)
          clear hb
          go_wp2_with fail
          refine HLE.out.mono ?_
          rintro e w1 ⟨rfl, rfl⟩
          rw [HB.out]
          have hB2 := aside (below_al w1 (.cells #[.int .u8 (i : Int)] 5))
          have HO2 := aside (row_below hown.out hB2.out)
          go_wp2_with (at_builtin; refine wpList_push _ rfl _ _ 35 rfl w.heap.size 5 (.int .u8 0) 1 Tryd.underlying35 info5 rfl _ _ _ rfl HO2.out w1.heap.size 1 (.int .u8 (i : Int)) rfl (by go_simp) rfl (by omega) (by decide) (by simp; omega) ?_; intro a' cap' w' ho' hb' hs')
          have HO' := aside ho'
          have HB' := aside (hbw.out.trans ((hB2.out.mono hsz).trans hb'))
          simp only [World.size_alloc] at hs'
          clear ho' hb'
          go_wp2
          go_roundg (16 - (i + 1))
          case measure => omega
          case rel =>
            have e2 : subsN can (i + 1) = subsN can i ++ [i] := by rw [hL.out, HB.out]; rfl
            have h3 : w'.ownsRow w.heap.size 5 1 (.slice a' (subsN can (i + 1)).length cap') (subsN can (i + 1)).length (u8s (subsN can (i + 1))) := by rw [e2]; simpa [u8s] using HO'.out
            exact ⟨i + 1, a', cap', by rw [e2]; simp, by go_num, by omega, by omega, by omega, HB', h3⟩
      · obtain rfl : i = 16 := by omega
        go_wp2
        go_ret
        exact ⟨⟨_, rfl, hown.out⟩, hbw.out⟩

set_option maxHeartbeats 2000000 in
theorem same_any (xs ys : List Nat) (a b : Option Addr) (ca cb : Nat) (w : World) (ha : xs ≠ [] → ∃ blk off, a = some ⟨blk, off, none⟩ ∧ RdB w blk off xs) (hb : ys ≠ [] → ∃ blk off, b = some ⟨blk, off, none⟩ ∧ RdB w blk off ys)
    (hl : xs.length < 4611686018427387904) (hl2 : ys.length < 4611686018427387904) : Calls Tryd.prog 16 #[.slice a xs.length ca, .slice b ys.length cb] w fun e w' => e = .returned (.bool (xs == ys)) ∧ Below w.heap.size w w' := by
  by_cases hne : xs.length = ys.length
  · rw [← hne]
    have hE := aside hne
    clear hne
    have HA := aside ha
    have HB := aside hb
    clear ha hb
    go_enter Tryd.func16, Tryd.ntmps16
    go_wp2
    go_loopg [13] xs.length (fun kx s13 wr => ∃ i : Nat, s13 = .int .i64 i ∧ i ≤ xs.length ∧ xs.length - i ≤ kx ∧ Aside (Below w.heap.size w wr) ∧ Aside (xs.take i = ys.take i))
    case atStart => exact ⟨0, rfl, Nat.zero_le _, by omega, Below.refl _ _, (by simp : xs.take 0 = ys.take 0)⟩
    case round =>
      obtain ⟨i, rfl, hi, hk, hbw, hq⟩ := hrel
      by_cases hlt : i < xs.length
      · have hlt2 : i < ys.length := by have := hE.out; omega
        obtain ⟨b1, o1, rfl, r1⟩ := HA.out (by rintro rfl; simp at hlt)
        obtain ⟨b2, o2, rfl, r2⟩ := HB.out (by rintro rfl; simp at hlt2)
        have hx : xs[i]? = some xs[i] := List.getElem?_eq_getElem hlt
        have hy : ys[i]? = some ys[i] := List.getElem?_eq_getElem hlt2
        have c1 := fun d os => ext_cell ((r1.below hbw.out) i _ hx) d os
        have c2 := fun d os => ext_cell ((r2.below hbw.out) i _ hy) d os
        generalize hxi : xs[i] = x at *
        generalize hyi : ys[i] = y at *
        have HX := aside hx
        have HY := aside hy
        clear hx hy hxi hyi
        by_cases hxy : x = y
        · subst hxy
          go_wp2
          refine region_ext (by kernel_rfl) (by kernel_rfl) ?_
          repeat (any_goals (first | go_big_quiet_step (fail) | quiet_step (fail)))
          refine wpQuiet_nil ?_
          intro wq hqq
          have HQ := aside hqq
          clear hqq
          go_wp2
          go_roundg (xs.length - (i + 1))
          case measure => omega
          case rel => exact ⟨i + 1, by go_num, by omega, by omega, below_tr hbw.out HQ.out, (by rw [List.take_add_one, List.take_add_one, hq.out, HX.out, HY.out] : xs.take (i + 1) = ys.take (i + 1))⟩
        · have t : (((x : Nat) : Int) != ((y : Nat) : Int)) = true := by simp; omega
          go_wp2
          refine region_ext (by kernel_rfl) (by kernel_rfl) ?_
          repeat (any_goals (first | go_big_quiet_step (fail) | quiet_step (fail)))
          refine wpQuiet_nil ?_
          intro wq hqq
          have HQ := aside hqq
          clear hqq
          have hno : (xs == ys) = false := beq_eq_false_iff_ne.2 (by rintro rfl; rw [HX.out] at HY; have := HY.out; simp at this; omega)
          have HN := aside hno
          clear hno
          go_wp2
          go_ret
          exact ⟨by rw [HN.out]; rfl, below_tr hbw.out HQ.out⟩
      · obtain rfl : i = xs.length := by omega
        have hyes : xs = ys := by have := hq.out; rwa [List.take_length, hE.out, List.take_length] at this
        have HN := aside hyes
        clear hyes
        go_wp2
        go_ret
        exact ⟨by rw [HN.out, beq_self_eq_true]; rfl, hbw.out⟩
  · have h2 : ((xs.length : Int) != (ys.length : Int)) = true := by simp; omega
    have hno : (xs == ys) = false := beq_eq_false_iff_ne.2 (by rintro rfl; exact hne rfl)
    rw [hno]
    go_enter Tryd.func16, Tryd.ntmps16
    go_wp2
    go_ret
    exact ⟨rfl, Below.refl _ _⟩
end Go.Proofs.YtniohiepnojjbaaDoor
