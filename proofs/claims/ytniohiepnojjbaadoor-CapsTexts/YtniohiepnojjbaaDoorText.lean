/- Text: a set's words. -/
import Derived.Test.YtniohiepnojjbaaDoorSets
import Derived.Test.YtniohiepnojjbaaDoorShelf
namespace Go.Proofs.YtniohiepnojjbaaDoor
open Go.RowKit

abbrev bWrite : ByteArray := ⟨#[119, 114, 105, 116, 101]⟩
abbrev bCut : ByteArray := ⟨#[99, 117, 116]⟩
abbrev bHoles : ByteArray := ⟨#[104, 111, 108, 101, 115]⟩
abbrev bSync : ByteArray := ⟨#[115, 121, 110, 99]⟩
abbrev bRead : ByteArray := ⟨#[114, 101, 97, 100]⟩

/-- The variable that holds the words. -/
def WordsAt (w : World) : Prop := w.rangeAt 0 0 [.int .u8 1, .string bWrite, .int .u8 2, .string bCut, .int .u8 4, .string bHoles, .int .u8 8, .string bSync]

theorem WordsAt.below {w w' : World} (h : WordsAt w) (hb : Below w.heap.size w w') : WordsAt w' := fun j v hj => (hb.cell (World.block_lt_of_cell? w _ (h j v hj))).trans (h j v hj)

def bitAt (i : Nat) : Nat := [1, 2, 4, 8].getD i 0
def wordAt (i : Nat) : ByteArray := [bWrite, bCut, bHoles, bSync].getD i ⟨#[]⟩
/-- The words of a set, the first i of the four asked. -/
def wordsN (can : Nat) : Nat → List ByteArray
  | 0 => []
  | i + 1 => if can &&& bitAt i != 0 then wordsN can i ++ [wordAt i] else wordsN can i
theorem wordsN_0 (can : Nat) : wordsN can 1 = if can &&& 1 != 0 then wordsN can 0 ++ [bWrite] else wordsN can 0 := rfl
theorem wordsN_1 (can : Nat) : wordsN can 2 = if can &&& 2 != 0 then wordsN can 1 ++ [bCut] else wordsN can 1 := rfl
theorem wordsN_2 (can : Nat) : wordsN can 3 = if can &&& 4 != 0 then wordsN can 2 ++ [bHoles] else wordsN can 2 := rfl
theorem wordsN_3 (can : Nat) : wordsN can 4 = if can &&& 8 != 0 then wordsN can 3 ++ [bSync] else wordsN can 3 := rfl
theorem wordsN_len (can i : Nat) : (wordsN can i).length ≤ i := by
  induction i with
  | zero => simp [wordsN]
  | succ i ih => unfold wordsN; split <;> (try simp) <;> omega

abbrev strs (l : List ByteArray) : List Value := l.map (fun x => .string x)
theorem info9 : (Tryd.prog.info? 9).map (fun i => (i.zero, i.size, i.bytes)) = some (some (.string ⟨#[]⟩), 1, 16) := by kernel_rfl

theorem idx_0 (a b c d e f g h : Value) (w : World) : (Instr.index 64 (.agg #[a, b, c, d, e, f, g, h]) (.int .i64 0)).run Tryd.prog w = .ok (.agg #[a, b]) w := by kernel_rfl
theorem idx_1 (a b c d e f g h : Value) (w : World) : (Instr.index 64 (.agg #[a, b, c, d, e, f, g, h]) (.int .i64 1)).run Tryd.prog w = .ok (.agg #[c, d]) w := by kernel_rfl
theorem idx_2 (a b c d e f g h : Value) (w : World) : (Instr.index 64 (.agg #[a, b, c, d, e, f, g, h]) (.int .i64 2)).run Tryd.prog w = .ok (.agg #[e, f]) w := by kernel_rfl
theorem idx_3 (a b c d e f g h : Value) (w : World) : (Instr.index 64 (.agg #[a, b, c, d, e, f, g, h]) (.int .i64 3)).run Tryd.prog w = .ok (.agg #[g, h]) w := by kernel_rfl
theorem join_small : ∀ can, can < 16 → (Lib.join ((wordsN can 4).map (·.data.toList)) (⟨#[32]⟩ : ByteArray).data.toList).length ≤ 140737488355328 := by decide

set_option maxHeartbeats 4000000 in
set_option maxRecDepth 100000 in
theorem text_some (can : Nat) (h0 : 0 < can) (hc : can < 16) (w : World) (hw : WordsAt w) :
    Calls Tryd.prog 12 #[.int .u8 (can : Int)] w fun e w' => e = .returned (.string ⟨(Lib.join ((wordsN can 4).map (·.data.toList)) [32]).toArray⟩) ∧ Below w.heap.size w w' := by
  have c0 := hw 0 _ rfl
  have c1 := hw 1 _ rfl
  have c2 := hw 2 _ rfl
  have c3 := hw 3 _ rfl
  have c4 := hw 4 _ rfl
  have c5 := hw 5 _ rfl
  have c6 := hw 6 _ rfl
  have c7 := hw 7 _ rfl
  have t1 : decide ((15 : Int) < (can : Int)) = false := by simp; omega
  have t2 : ((can : Int) == 0) = false := (ez can).trans (by simp; omega)
  go_enter Tryd.func12, Tryd.ntmps12
  go_wp2
  clear c0 c1 c2 c3 c4 c5 c6 c7 t1 t2
  go_loopg [3, 11] 4 (fun kx sl si wr => ∃ (i : Nat) (a : Option Addr) (cap : Nat), sl = .slice a (wordsN can i).length cap ∧ si = .int .i64 i ∧ i ≤ 4 ∧ 4 - i ≤ kx ∧ w.heap.size ≤ wr.heap.size ∧
      Aside (Below w.heap.size w wr) ∧ Aside (wr.ownsRow w.heap.size 9 1 (.slice a (wordsN can i).length cap) (wordsN can i).length (strs (wordsN can i))))
  case atStart => exact ⟨0, none, 0, rfl, rfl, by omega, by omega, Nat.le_refl _, Below.refl _ _, World.ownsRow_nil _ _ _ _⟩
  case round =>
    obtain ⟨i, a, cap, rfl, rfl, hi, hk, hsz, hbw, hown⟩ := hrel
    by_cases hlt : i < 4
    · have hi4 : i = 0 ∨ i = 1 ∨ i = 2 ∨ i = 3 := by omega
      rcases hi4 with rfl | rfl | rfl | rfl
      · obtain ⟨z, hz⟩ : ∃ z, can &&& 1 = z := ⟨_, rfl⟩
        have e1 : bits .and .u8 (can : Int) 1 = (z : Int) := by rw [← hz]; exact u8_and_nat can 1 (by omega) (by decide)
        have hW := aside (wordsN_0 can)
        have hix := fun W => idx_0 (.int .u8 1) (.string bWrite) (.int .u8 2) (.string bCut) (.int .u8 4) (.string bHoles) (.int .u8 8) (.string bSync) W
        rw [hz] at hW
        have hlen := wordsN_len can 0
        clear hz
        by_cases h1 : z = 0
        · subst h1
          go_wp2
          go_roundg 3
          case measure => omega
          case rel =>
            have e2 : wordsN can 1 = wordsN can 0 := hW.out.trans (if_neg (by decide))
            have h3 : (wr.alloc (.cells #[.int .u8 1, .string bWrite] 63)).ownsRow w.heap.size 9 1 (.slice a (wordsN can 1).length cap) (wordsN can 1).length (strs (wordsN can 1)) := by rw [e2]; exact row_below hown.out (below_al _ _)
            exact ⟨1, a, cap, by rw [e2], rfl, by omega, by omega, by simp; omega, hbw.out.trans ((below_al wr _).mono hsz), h3⟩
        · have t3 : ((z : Int) != 0) = true := by rw [nz]; simpa using h1
          have hB2 := aside (below_tr (below_al wr (.cells #[.int .u8 1, .string bWrite] 63)) (below_al _ (.cells #[.string bWrite] 9)))
          have HO2 := aside (row_below hown.out hB2.out)
          have H1 := aside h1
          clear h1
          go_wp2_with (at_builtin; refine wpList_push _ rfl _ _ 58 rfl w.heap.size 9 (.string ⟨#[]⟩) 16 Tryd.underlying58 info9 rfl _ _ _ rfl HO2.out (wr.heap.size + 1) 1 (.string bWrite) (by simp [Act.eval]) (by go_simp) rfl (by omega) (by decide) (by simp; omega) ?_; intro a' cap' w' ho' hb' hs')
          have HO' := aside ho'
          have HB' := aside (hbw.out.trans ((hB2.out.mono hsz).trans hb'))
          simp only [World.size_alloc] at hs'
          clear ho' hb'
          go_wp2
          go_roundg 3
          case measure => omega
          case rel =>
            have e2 : wordsN can 1 = wordsN can 0 ++ [bWrite] := hW.out.trans (if_pos (by simpa using H1.out))
            have h3 : w'.ownsRow w.heap.size 9 1 (.slice a' (wordsN can 1).length cap') (wordsN can 1).length (strs (wordsN can 1)) := by rw [e2]; simpa [strs] using HO'.out
            exact ⟨1, a', cap', by rw [e2]; simp, rfl, by omega, by omega, by omega, HB', h3⟩
      · obtain ⟨z, hz⟩ : ∃ z, can &&& 2 = z := ⟨_, rfl⟩
        have e1 : bits .and .u8 (can : Int) 2 = (z : Int) := by rw [← hz]; exact u8_and_nat can 2 (by omega) (by decide)
        have hW := aside (wordsN_1 can)
        have hix := fun W => idx_1 (.int .u8 1) (.string bWrite) (.int .u8 2) (.string bCut) (.int .u8 4) (.string bHoles) (.int .u8 8) (.string bSync) W
        rw [hz] at hW
        have hlen := wordsN_len can 1
        clear hz
        by_cases h1 : z = 0
        · subst h1
          go_wp2
          go_roundg 2
          case measure => omega
          case rel =>
            have e2 : wordsN can 2 = wordsN can 1 := hW.out.trans (if_neg (by decide))
            have h3 : (wr.alloc (.cells #[.int .u8 2, .string bCut] 63)).ownsRow w.heap.size 9 1 (.slice a (wordsN can 2).length cap) (wordsN can 2).length (strs (wordsN can 2)) := by rw [e2]; exact row_below hown.out (below_al _ _)
            exact ⟨2, a, cap, by rw [e2], rfl, by omega, by omega, by simp; omega, hbw.out.trans ((below_al wr _).mono hsz), h3⟩
        · have t3 : ((z : Int) != 0) = true := by rw [nz]; simpa using h1
          have hB2 := aside (below_tr (below_al wr (.cells #[.int .u8 2, .string bCut] 63)) (below_al _ (.cells #[.string bCut] 9)))
          have HO2 := aside (row_below hown.out hB2.out)
          have H1 := aside h1
          clear h1
          go_wp2_with (at_builtin; refine wpList_push _ rfl _ _ 58 rfl w.heap.size 9 (.string ⟨#[]⟩) 16 Tryd.underlying58 info9 rfl _ _ _ rfl HO2.out (wr.heap.size + 1) 1 (.string bCut) (by simp [Act.eval]) (by go_simp) rfl (by omega) (by decide) (by simp; omega) ?_; intro a' cap' w' ho' hb' hs')
          have HO' := aside ho'
          have HB' := aside (hbw.out.trans ((hB2.out.mono hsz).trans hb'))
          simp only [World.size_alloc] at hs'
          clear ho' hb'
          go_wp2
          go_roundg 2
          case measure => omega
          case rel =>
            have e2 : wordsN can 2 = wordsN can 1 ++ [bCut] := hW.out.trans (if_pos (by simpa using H1.out))
            have h3 : w'.ownsRow w.heap.size 9 1 (.slice a' (wordsN can 2).length cap') (wordsN can 2).length (strs (wordsN can 2)) := by rw [e2]; simpa [strs] using HO'.out
            exact ⟨2, a', cap', by rw [e2]; simp, rfl, by omega, by omega, by omega, HB', h3⟩
      · obtain ⟨z, hz⟩ : ∃ z, can &&& 4 = z := ⟨_, rfl⟩
        have e1 : bits .and .u8 (can : Int) 4 = (z : Int) := by rw [← hz]; exact u8_and_nat can 4 (by omega) (by decide)
        have hW := aside (wordsN_2 can)
        have hix := fun W => idx_2 (.int .u8 1) (.string bWrite) (.int .u8 2) (.string bCut) (.int .u8 4) (.string bHoles) (.int .u8 8) (.string bSync) W
        rw [hz] at hW
        have hlen := wordsN_len can 2
        clear hz
        by_cases h1 : z = 0
        · subst h1
          go_wp2
          go_roundg 1
          case measure => omega
          case rel =>
            have e2 : wordsN can 3 = wordsN can 2 := hW.out.trans (if_neg (by decide))
            have h3 : (wr.alloc (.cells #[.int .u8 4, .string bHoles] 63)).ownsRow w.heap.size 9 1 (.slice a (wordsN can 3).length cap) (wordsN can 3).length (strs (wordsN can 3)) := by rw [e2]; exact row_below hown.out (below_al _ _)
            exact ⟨3, a, cap, by rw [e2], rfl, by omega, by omega, by simp; omega, hbw.out.trans ((below_al wr _).mono hsz), h3⟩
        · have t3 : ((z : Int) != 0) = true := by rw [nz]; simpa using h1
          have hB2 := aside (below_tr (below_al wr (.cells #[.int .u8 4, .string bHoles] 63)) (below_al _ (.cells #[.string bHoles] 9)))
          have HO2 := aside (row_below hown.out hB2.out)
          have H1 := aside h1
          clear h1
          go_wp2_with (at_builtin; refine wpList_push _ rfl _ _ 58 rfl w.heap.size 9 (.string ⟨#[]⟩) 16 Tryd.underlying58 info9 rfl _ _ _ rfl HO2.out (wr.heap.size + 1) 1 (.string bHoles) (by simp [Act.eval]) (by go_simp) rfl (by omega) (by decide) (by simp; omega) ?_; intro a' cap' w' ho' hb' hs')
          have HO' := aside ho'
          have HB' := aside (hbw.out.trans ((hB2.out.mono hsz).trans hb'))
          simp only [World.size_alloc] at hs'
          clear ho' hb'
          go_wp2
          go_roundg 1
          case measure => omega
          case rel =>
            have e2 : wordsN can 3 = wordsN can 2 ++ [bHoles] := hW.out.trans (if_pos (by simpa using H1.out))
            have h3 : w'.ownsRow w.heap.size 9 1 (.slice a' (wordsN can 3).length cap') (wordsN can 3).length (strs (wordsN can 3)) := by rw [e2]; simpa [strs] using HO'.out
            exact ⟨3, a', cap', by rw [e2]; simp, rfl, by omega, by omega, by omega, HB', h3⟩
      · obtain ⟨z, hz⟩ : ∃ z, can &&& 8 = z := ⟨_, rfl⟩
        have e1 : bits .and .u8 (can : Int) 8 = (z : Int) := by rw [← hz]; exact u8_and_nat can 8 (by omega) (by decide)
        have hW := aside (wordsN_3 can)
        have hix := fun W => idx_3 (.int .u8 1) (.string bWrite) (.int .u8 2) (.string bCut) (.int .u8 4) (.string bHoles) (.int .u8 8) (.string bSync) W
        rw [hz] at hW
        have hlen := wordsN_len can 3
        clear hz
        by_cases h1 : z = 0
        · subst h1
          go_wp2
          go_roundg 0
          case measure => omega
          case rel =>
            have e2 : wordsN can 4 = wordsN can 3 := hW.out.trans (if_neg (by decide))
            have h3 : (wr.alloc (.cells #[.int .u8 8, .string bSync] 63)).ownsRow w.heap.size 9 1 (.slice a (wordsN can 4).length cap) (wordsN can 4).length (strs (wordsN can 4)) := by rw [e2]; exact row_below hown.out (below_al _ _)
            exact ⟨4, a, cap, by rw [e2], rfl, by omega, by omega, by simp; omega, hbw.out.trans ((below_al wr _).mono hsz), h3⟩
        · have t3 : ((z : Int) != 0) = true := by rw [nz]; simpa using h1
          have hB2 := aside (below_tr (below_al wr (.cells #[.int .u8 8, .string bSync] 63)) (below_al _ (.cells #[.string bSync] 9)))
          have HO2 := aside (row_below hown.out hB2.out)
          have H1 := aside h1
          clear h1
          go_wp2_with (at_builtin; refine wpList_push _ rfl _ _ 58 rfl w.heap.size 9 (.string ⟨#[]⟩) 16 Tryd.underlying58 info9 rfl _ _ _ rfl HO2.out (wr.heap.size + 1) 1 (.string bSync) (by simp [Act.eval]) (by go_simp) rfl (by omega) (by decide) (by simp; omega) ?_; intro a' cap' w' ho' hb' hs')
          have HO' := aside ho'
          have HB' := aside (hbw.out.trans ((hB2.out.mono hsz).trans hb'))
          simp only [World.size_alloc] at hs'
          clear ho' hb'
          go_wp2
          go_roundg 0
          case measure => omega
          case rel =>
            have e2 : wordsN can 4 = wordsN can 3 ++ [bSync] := hW.out.trans (if_pos (by simpa using H1.out))
            have h3 : w'.ownsRow w.heap.size 9 1 (.slice a' (wordsN can 4).length cap') (wordsN can 4).length (strs (wordsN can 4)) := by rw [e2]; simpa [strs] using HO'.out
            exact ⟨4, a', cap', by rw [e2]; simp, rfl, by omega, by omega, by omega, HB', h3⟩
    · obtain rfl : i = 4 := by omega
      have hlen := wordsN_len can 4
      have hsmall := aside (join_small can hc)
      rcases hown.out.2 with ⟨hnil, hz⟩ | ⟨g, cap2, cur, hv, hg, hh, hnc, hcm, hcs, htake⟩
      · simp only [Value.slice.injEq] at hnil
        obtain ⟨rfl, hl0, rfl⟩ := hnil
        have hJ := aside (Tryd.strings_Join_none none 0 ⟨#[32]⟩ wr)
        have hw0 : wordsN can 4 = [] := List.length_eq_zero_iff.1 hl0
        rw [hw0] at hown
        rw [hw0]
        have HW0 := aside hw0
        clear hl0 hz hw0 hlen
        go_wp2_with (go_at_call 29; refine hJ.out.mono ?_; rintro e w5 ⟨rfl, rfl⟩)
        go_ret
        exact ⟨by rw [HW0.out]; rfl, hbw.out⟩
      · simp only [Value.slice.injEq] at hv
        obtain ⟨rfl, -, rfl⟩ := hv
        have hcell := hown.out.cells (g := g) rfl
        have hJ := aside (Tryd.strings_Join g 0 cap (wordsN can 4) ⟨#[32]⟩ wr (fun j x hj => by
          have := hcell j (.string x) (by simp [strs, hj])
          rw [Addr.add_mid] at this; exact this) (Array.getElem?_eq_some_iff.1 hh).1 (by omega) hnc hsmall.out)
        clear hh hcs htake hcm hnc hcell hlen
        go_wp2_with (go_at_call 29; refine hJ.out.mono ?_; rintro e w5 ⟨rfl, hb5⟩)
        go_ret
        exact ⟨rfl, below_tr hbw.out hb5⟩

/-- A set's text. -/
def textL (can : Nat) : List UInt8 := if 15 < can then [] else if can = 0 then [114, 101, 97, 100] else Lib.join ((wordsN can 4).map (·.data.toList)) [32]

set_option maxHeartbeats 1000000 in
theorem text_any (can : Nat) (hc : can < 256) (w : World) (hw : WordsAt w) :
    Calls Tryd.prog 12 #[.int .u8 (can : Int)] w fun e w' => e = .returned (.string ⟨(textL can).toArray⟩) ∧ Below w.heap.size w w' := by
  by_cases h15 : 15 < can
  · rw [show textL can = [] from by rw [textL, if_pos h15]]
    have t : (15 : Int) < (can : Int) := by omega
    go_enter Tryd.func12, Tryd.ntmps12
    go_wp2
    go_ret
    exact ⟨rfl, Below.refl _ _⟩
  · by_cases h0 : can = 0
    · subst h0
      go_enter Tryd.func12, Tryd.ntmps12
      go_wp2
      go_ret
      exact ⟨rfl, Below.refl _ _⟩
    · rw [show textL can = Lib.join ((wordsN can 4).map (·.data.toList)) [32] from by rw [textL, if_neg h15, if_neg h0]]
      exact text_some can (by omega) (by omega) w hw
end Go.Proofs.YtniohiepnojjbaaDoor
