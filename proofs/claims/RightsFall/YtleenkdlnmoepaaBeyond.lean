/- beyond: are there too many steps, or bytes? -/
import Derived.Test.YtleenkdlnmoepaaFallM
namespace Go.Proofs.Ytleenkdlnmoepaa
open Go.RowKit

def BeyondEnd (n : Nat) (e : Ending) : Prop := ∃ g, e = .returned (.bool g) ∧ (g = false → n ≤ 300)
set_option maxRecDepth 20000 in
set_option maxHeartbeats 1000000 in
theorem beyond_any (a : Option Addr) (ss : List Sp) (c : Nat) (w : World) (hs : SpsAt w a ss) (hok : ∀ s ∈ ss, SpOk s) (hn : ss.length ≤ 9223372036854775807) :
    Calls Try.prog 15 #[.slice none 0 0, .slice a ss.length c] w fun e w' => BeyondEnd ss.length e ∧ w' = w := by
  have HS := aside hs
  have HK := aside hok
  obtain ⟨N, hN⟩ : ∃ N, N = ss.length := ⟨_, rfl⟩
  have HN := aside hN
  rw [← hN] at hn ⊢
  clear hs hok hN
  go_enter Try.func15, Try.ntmps15
  go_wp2
  go_loopg [5, 6] N (fun G s5 s6 wr => ∃ K i : Nat, i + G = N ∧ K ≤ 140737489399808 ∧ s5 = .int .i64 (K : Int) ∧ s6 = .int .i64 (i : Int) ∧ wr = w)
  case atStart => exact ⟨0, 0, by omega, by omega, rfl, rfl, rfl⟩
  case round =>
    obtain ⟨K, i, hiG, hK, rfl, rfl, rfl⟩ := hrel
    by_cases h1 : i < N
    · have t1 : (i : Int) < (N : Int) := by omega
      by_cases h2 : K ≤ 1048576
      · have t2 : (K : Int) ≤ 1048576 := by omega
        obtain ⟨s, hs⟩ : ∃ s, ss[i]? = some s := ⟨_, List.getElem?_eq_getElem (by have := HN.out; omega)⟩
        obtain ⟨g, o, rfl, hc⟩ := HS.out (fun h0 => by rw [h0] at hs; simp at hs)
        have c7 := hc i s hs 7 _ rfl
        have hb := (HK.out s (List.mem_of_getElem? hs)).b
        obtain ⟨bn, hbn⟩ : ∃ bn, bn = s.bn := ⟨_, rfl⟩
        rw [← hbn] at c7 hb
        clear hc hs hbn
        go_wp2
        go_roundg (N - (i + 1))
        case measure => omega
        case rel => exact ⟨K + bn, i + 1, by omega, by omega, by go_num, by go_num, rfl⟩
      · have t2 : ¬ ((K : Int) ≤ 1048576) := by omega
        go_wp2
        go_ret
        exact ⟨⟨true, rfl, fun h => by cases h⟩, rfl⟩
    · have t1 : ¬ ((i : Int) < (N : Int)) := by omega
      by_cases h2 : K ≤ 1048576
      · have t2 : (K : Int) ≤ 1048576 := by omega
        go_wp2
        go_ret
        exact ⟨⟨decide ((1048576 : Int) < (K : Int)) || decide ((300 : Int) < (N : Int)), rfl, fun h => by simp only [Bool.or_eq_false_iff, decide_eq_false_iff_not] at h; omega⟩, rfl⟩
      · have t2 : ¬ ((K : Int) ≤ 1048576) := by omega
        go_wp2
        go_ret
        exact ⟨⟨true, rfl, fun h => by cases h⟩, rfl⟩
end Go.Proofs.Ytleenkdlnmoepaa
