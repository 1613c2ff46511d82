/- great, and the document's own Same. -/
import Derived.Test.YtbofeednhihniaaPile
namespace Go.Proofs.Ytbofeednhihniaa
open Go.RowKit

/-- A list of makers that can be read. -/
def MkAt (w : World) (a : Option Addr) (L : List (Int × ByteArray)) : Prop := L ≠ [] → ∃ g o, a = some ⟨g, o, none⟩ ∧ ∀ (j : Nat) (y : Int × ByteArray), L[j]? = some y → w.cell? ⟨g, o + j * 2, none⟩ = some (.int .i64 y.1) ∧ w.cell? ⟨g, o + j * 2 + 1, none⟩ = some (.string y.2)
theorem MkAt.below {w w' : World} {a : Option Addr} {L : List (Int × ByteArray)} (h : MkAt w a L) (k : Below w.heap.size w w') : MkAt w' a L := fun hl => by
  obtain ⟨g, o, rfl, hr⟩ := h hl
  exact ⟨g, o, rfl, fun j y hj => ⟨(k.cell (World.block_lt_of_cell? w _ (hr j y hj).1)).trans (hr j y hj).1, (k.cell (World.block_lt_of_cell? w _ (hr j y hj).2)).trans (hr j y hj).2⟩⟩

def GrR (n : Nat) (w w' : World) (e : Ending) : Prop := ∃ r : Bool, e = .returned (.bool r) ∧ (r = false → n ≤ 40) ∧ w' = w

set_option maxRecDepth 20000 in
set_option maxHeartbeats 1000000 in
theorem great_any (L : List (Int × ByteArray)) (a : Option Addr) (c : Nat) (w : World) (h : MkAt w a L) :
    Calls Try.prog 6 #[.slice a L.length c] w fun e w' => GrR L.length w w' e := by
  obtain ⟨n, hnL⟩ : ∃ n, n = L.length := ⟨_, rfl⟩
  have HN := aside hnL
  have HM := aside h
  rw [← hnL]
  clear hnL h
  go_enter Try.func6, Try.ntmps6
  go_wp2
  go_loopg [3, 4] n (fun G s3 s4 wr => ∃ (k : Nat) (x : Int), k + G = n ∧ s4 = .int .i64 (k : Int) ∧ s3 = .int .i64 x ∧ wr = w)
  case atStart => exact ⟨0, 0, by omega, rfl, rfl, rfl⟩
  case round =>
    obtain ⟨k, x, hkG, rfl, rfl, rfl⟩ := hrel
    by_cases hgo : k < n ∧ k ≤ 40 ∧ x ≤ 16384
    · obtain ⟨hk, hk4, hx⟩ := hgo
      have t1 : (k : Int) < (n : Int) := by omega
      have t2 : (k : Int) ≤ 40 := by omega
      obtain ⟨y, hy⟩ : ∃ y, L[k]? = some y := ⟨_, List.getElem?_eq_getElem (by have := HN.out; omega)⟩
      obtain ⟨g, o, rfl, hrd⟩ := HM.out (fun h => by rw [h] at hy; simp at hy)
      obtain ⟨q0, q1⟩ := hrd k y hy
      go_wp2
      go_roundg (n - (k + 1))
      case measure => omega
      case rel => exact ⟨k + 1, _, by omega, by go_num, rfl, rfl⟩
    · have hd : (decide ((k : Int) < (n : Int)) && (decide ((k : Int) ≤ 40) && decide (x ≤ 16384))) = false := by
        by_cases h1 : k < n
        · by_cases h2 : k ≤ 40
          · have h3 : ¬ x ≤ 16384 := fun h => hgo ⟨h1, h2, h⟩
            simp [h3]
          · have : ¬ (k : Int) ≤ 40 := by omega
            simp [this]
        · have : ¬ (k : Int) < (n : Int) := by omega
          simp [this]
      by_cases h1 : (k : Int) < (n : Int)
      · by_cases h2 : (k : Int) ≤ 40
        · have h3 : ¬ x ≤ 16384 := fun h => hgo ⟨by omega, by omega, h⟩
          have h4 : 16384 < x := by omega
          by_cases h5 : 40 < (n : Int)
          · go_wp2
            go_ret
            exact ⟨true, rfl, by simp, rfl⟩
          · go_wp2
            go_ret
            exact ⟨true, rfl, by simp, rfl⟩
        · have h5 : 40 < (n : Int) := by omega
          go_wp2
          go_ret
          exact ⟨true, rfl, by simp, rfl⟩
      · by_cases h5 : 40 < (n : Int)
        · go_wp2
          go_ret
          exact ⟨true, rfl, by simp, rfl⟩
        · go_wp2
          go_ret
          exact ⟨decide (16384 < x), rfl, fun _ => by omega, rfl⟩

/-- The document's own Same. -/
def rs (k n : Nat) (s : ByteArray) (k' n' : Nat) (s' : ByteArray) : Bool := if k = k' then (if k = 0 then decide (n = n') else if k = 1 then s.toList == s'.toList else false) else false

set_option maxRecDepth 20000 in
set_option maxHeartbeats 1000000 in
theorem refSame_any (k n k' n' : Nat) (s s' : ByteArray) (hk : k ≤ 2) (hk' : k' ≤ 2) (w : World) :
    Calls Try.prog 11 #[.agg #[.int .i64 (k : Int), .int .i64 (n : Int), .string s], .agg #[.int .i64 (k' : Int), .int .i64 (n' : Int), .string s']] w fun e w' => e = .returned (.bool (rs k n s k' n' s')) ∧ Below w.heap.size w w' := by
  by_cases h1 : k = k'
  · subst h1
    by_cases h0 : k = 0
    · subst h0
      have e : rs 0 n s 0 n' s' = decide (n = n') := by simp [rs]
      rw [e]
      by_cases hn : n = n'
      · subst hn
        go_enter Try.func11, Try.ntmps11
        go_wp2
        go_ret
        exact ⟨by simp, below_tr (below_al w _) (below_al _ _)⟩
      · have hn2 : ¬ (n : Int) = (n' : Int) := by omega
        go_enter Try.func11, Try.ntmps11
        go_wp2
        go_ret
        refine ⟨congrArg Ending.returned (congrArg Value.bool ?_), below_tr (below_al w _) (below_al _ _)⟩
        rw [decide_eq_false hn]
        simpa using hn2
    · have h0' : ¬ (k : Int) = 0 := by omega
      by_cases h2 : k = 1
      · subst h2
        have e : rs 1 n s 1 n' s' = (s.toList == s'.toList) := by simp [rs]
        rw [e]
        go_enter Try.func11, Try.ntmps11
        go_wp2
        go_ret
        exact ⟨rfl, below_tr (below_al w _) (below_al _ _)⟩
      · have h2' : ¬ (k : Int) = 1 := by omega
        have e : rs k n s k n' s' = false := by simp [rs, h0, h2]
        rw [e]
        go_enter Try.func11, Try.ntmps11
        go_wp2
        go_ret
        exact ⟨rfl, below_tr (below_al w _) (below_al _ _)⟩
  · have e : rs k n s k' n' s' = false := by simp [rs, h1]
    have h2 : ¬ (k : Int) = (k' : Int) := by omega
    rw [e]
    go_enter Try.func11, Try.ntmps11
    go_wp2
    go_ret
    exact ⟨rfl, below_tr (below_al w _) (below_al _ _)⟩
end Go.Proofs.Ytbofeednhihniaa
