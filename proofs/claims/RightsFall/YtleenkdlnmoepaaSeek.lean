/- slices.BinarySearch over a list of rising numbers: is it there? -/
import Derived.Test.YtleenkdlnmoepaaGive
namespace Go.Proofs.Ytleenkdlnmoepaa
open Go.RowKit

theorem less_any (x y : Int) (w : World) : Calls Try.prog 38 #[.int .i64 x, .int .i64 y] w fun e w' => e = .returned (.bool (decide (x < y))) ∧ w' = w := by
  have hn : ∀ w, Calls Try.prog 44 #[.int .i64 x] w fun e w' => e = .returned (.bool false) ∧ w' = w := fun w => by
    go_enter Try.func44, Try.ntmps44
    go_wp2
    go_ret
    exact ⟨by simp, rfl⟩
  go_enter Try.func38, Try.ntmps38
  go_wp2_with (go_at_call 44; refine (hn _).mono ?_; rintro e w' ⟨rfl, rfl⟩)
  go_ret
  exact ⟨rfl, rfl⟩
theorem nan_any (x : Int) (w : World) : Calls Try.prog 39 #[.int .i64 x] w fun e w' => e = .returned (.bool false) ∧ w' = w := by
  go_enter Try.func39, Try.ntmps39
  go_wp2
  go_ret
  exact ⟨by simp, rfl⟩

/-- Numbers in memory, from a place on. -/
def nums (l : List Int) : List Value := l.map (Value.int .i64)
theorem nums_length (l : List Int) : (nums l).length = l.length := by simp [nums]
def NsAt (w : World) (a : Option Addr) (l : List Int) : Prop := l ≠ [] → ∃ g o, a = some ⟨g, o, none⟩ ∧ ∀ j v, l[j]? = some v → w.cell? ⟨g, o + j, none⟩ = some (.int .i64 v)
theorem NsAt.below {w w' : World} {a : Option Addr} {l : List Int} (h : NsAt w a l) (hb : Below w.heap.size w w') : NsAt w' a l := fun hl => by
  obtain ⟨g, o, rfl, hc⟩ := h hl
  exact ⟨g, o, rfl, fun j v hj => (hb.cell (World.block_lt_of_cell? w _ (hc j v hj))).trans (hc j v hj)⟩

set_option maxRecDepth 20000 in
set_option maxHeartbeats 1000000 in
theorem seek_any (a : Option Addr) (l : List Int) (c : Nat) (x : Int) (w : World) (hn : l.length ≤ 4096) (hA : NsAt w a l) (hs : l.Pairwise (· < ·)) :
    Calls Try.prog 30 #[.slice a l.length c, .int .i64 x] w fun e w' => ∃ k : Nat, e = .returned (.tuple #[.int .i64 (k : Int), .bool (l.contains x)]) ∧ w' = w := by
  have HA := aside hA
  have HS : Aside (∀ i j y z, i < j → l[i]? = some y → l[j]? = some z → y < z) := fun i j y z hij hy hz => by
    obtain ⟨hi, rfl⟩ := List.getElem?_eq_some_iff.1 hy
    obtain ⟨hj, rfl⟩ := List.getElem?_eq_some_iff.1 hz
    exact List.pairwise_iff_getElem.1 hs i j hi hj hij
  obtain ⟨n, hnl⟩ : ∃ n, n = l.length := ⟨_, rfl⟩
  have HN := aside hnl
  rw [← hnl] at hn ⊢
  clear hA hs hnl
  go_enter Try.func30, Try.ntmps30
  go_wp2
  go_loopg [7, 8] n (fun G s7 s8 wr => ∃ lo hi : Nat, s7 = .int .i64 lo ∧ s8 = .int .i64 hi ∧ lo ≤ hi ∧ hi ≤ n ∧ hi - lo ≤ G ∧ wr = w ∧ Aside ((∀ t y, t < lo → l[t]? = some y → y < x) ∧ (∀ t y, hi ≤ t → l[t]? = some y → x ≤ y)))
  case atStart => exact ⟨0, n, rfl, rfl, Nat.zero_le _, Nat.le_refl _, by omega, rfl, aside ⟨fun t y ht => absurd ht (Nat.not_lt_zero _), fun t y h1 h2 => by have := (List.getElem?_eq_some_iff.1 h2).1; have := HN.out; omega⟩⟩
  case round =>
    obtain ⟨lo, hi, rfl, rfl, hlh, hin, hg, rfl, hI⟩ := hrel
    by_cases hlt : lo < hi
    · obtain ⟨m, hm⟩ : ∃ m, m = (lo + hi) / 2 := ⟨_, rfl⟩
      obtain ⟨y, hy⟩ : ∃ y, l[m]? = some y := ⟨_, List.getElem?_eq_getElem (by have := HN.out; omega)⟩
      obtain ⟨g, o, rfl, hc⟩ := HA.out (fun h0 => by rw [h0] at hy; simp at hy)
      have cm := hc m y hy
      rw [hm] at cm
      have HM := aside hm
      have HY := aside hy
      clear hc hm hy
      by_cases hyx : y < x
      · go_wp2_with (go_at_call 38; refine (less_any _ _ _).mono ?_; rintro e w' ⟨rfl, rfl⟩)
        go_roundg (hi - ((lo + hi) / 2 + 1))
        case measure => omega
        case rel =>
          refine ⟨(lo + hi) / 2 + 1, hi, by rw [show ((lo : Int) + (hi : Int)) / 2 + 1 = (((lo + hi) / 2 + 1 : Nat) : Int) by omega], rfl, by omega, hin, Nat.le_refl _, rfl, aside ⟨fun t z ht hz => ?_, hI.out.2⟩⟩
          have hme := HM.out
          rcases Nat.lt_or_ge t m with h1 | h1
          · have := HS.out t m z y h1 hz HY.out; omega
          · have : t = m := by omega
            subst this
            rw [HY.out] at hz; simp only [Option.some.injEq] at hz; omega
      · go_wp2_with (go_at_call 38; refine (less_any _ _ _).mono ?_; rintro e w' ⟨rfl, rfl⟩)
        go_roundg ((lo + hi) / 2 - lo)
        case measure => omega
        case rel =>
          refine ⟨lo, (lo + hi) / 2, rfl, by rw [show ((lo : Int) + (hi : Int)) / 2 = (((lo + hi) / 2 : Nat) : Int) by omega], by omega, by omega, Nat.le_refl _, rfl, aside ⟨hI.out.1, fun t z ht hz => ?_⟩⟩
          have hme := HM.out
          rcases Nat.lt_or_ge m t with h1 | h1
          · have := HS.out m t y z h1 HY.out hz; omega
          · have : t = m := by omega
            subst this
            rw [HY.out] at hz; simp only [Option.some.injEq] at hz; omega
    · obtain rfl : lo = hi := by omega
      by_cases hend : lo < n
      · obtain ⟨y, hy⟩ : ∃ y, l[lo]? = some y := ⟨_, List.getElem?_eq_getElem (by have := HN.out; omega)⟩
        obtain ⟨g, o, rfl, hc⟩ := HA.out (fun h0 => by rw [h0] at hy; simp at hy)
        have cm := hc lo y hy
        have hxy := hI.out.2 lo y (Nat.le_refl _) hy
        have HY := aside hy
        clear hc hy
        by_cases he : y = x
        · subst he
          have hcon : l.contains y = true := by simpa using List.mem_of_getElem? HY.out
          have HC := aside hcon
          clear hcon
          go_wp2_with (go_at_call 39; refine (nan_any _ _).mono ?_; rintro e w' ⟨rfl, rfl⟩)
          go_ret2
          exact ⟨lo, by rw [HC.out]; rfl, rfl⟩
        · have hcon : l.contains x = false := by
            cases hq : l.contains x with
            | false => rfl
            | true =>
              obtain ⟨t, ht, hx⟩ := List.getElem_of_mem (by simpa using hq : x ∈ l)
              have hx' : l[t]? = some x := by rw [List.getElem?_eq_getElem ht, hx]
              rcases Nat.lt_or_ge t lo with h1 | h1
              · have := hI.out.1 t x h1 hx'; omega
              · rcases Nat.lt_or_ge lo t with h2 | h2
                · have := HS.out lo t y x h2 HY.out hx'; omega
                · have : t = lo := by omega
                  subst this
                  rw [HY.out] at hx'; simp only [Option.some.injEq] at hx'; exact absurd hx' he
          have he2 : (y == x) = false := by simpa using he
          have HC := aside hcon
          clear hcon
          go_wp2_with (go_at_call 39; refine (nan_any _ _).mono ?_; rintro e w' ⟨rfl, rfl⟩)
          go_ret2
          exact ⟨lo, by rw [HC.out]; rfl, rfl⟩
      · have hcon : l.contains x = false := by
          cases hq : l.contains x with
          | false => rfl
          | true =>
            obtain ⟨t, ht, hx⟩ := List.getElem_of_mem (by simpa using hq : x ∈ l)
            have hx' : l[t]? = some x := by rw [List.getElem?_eq_getElem ht, hx]
            have := hI.out.1 t x (by have := HN.out; omega) hx'
            omega
        have HC := aside hcon
        clear hcon
        go_wp2
        go_ret2
        exact ⟨lo, by rw [HC.out]; rfl, rfl⟩
end Go.Proofs.Ytleenkdlnmoepaa
