/- The document's own without. -/
import Derived.Test.YtfpegmmciphjiaaRefTry
namespace Go.Proofs.Ytfpegmmciphjiaa
open Go.RowKit

theorem gone_take {L : List Lk} {k : Nat} {x : Lk} {who : Int} (hx : L[k]? = some x) : gone (L.take (k + 1)) who = if x.who = who then gone (L.take k) who else gone (L.take k) who ++ [x] := by
  unfold gone
  rw [List.take_add_one, hx, Option.toList_some, List.filter_append]
  by_cases h : x.who = who <;> simp [h]

/-- A row of one's own that is newer than a world grows by one. -/
theorem app_new {w0 w V w' : World} {v v' : Value} {L : List Lk} (hB : Below w0.heap.size w0 w) (hV : Below w.heap.size w V) (hn : ∀ k, v.ownBlock = some k → w0.heap.size ≤ k) (_ho : Own w' v' L) (hu : Upd (fun k => v.ownBlock = some k) V w') (hv : v'.ownBlock = v.ownBlock ∨ v'.ownBlock = some V.heap.size ∧ Below V.heap.size V w') :
    Below w0.heap.size w0 w' ∧ ∀ k, v'.ownBlock = some k → w0.heap.size ≤ k := by
  have h1 := below_tr hB hV
  refine ⟨h1.trans (hu.below h1.size hn), fun k hk => ?_⟩
  rcases hv with h | ⟨h, -⟩
  · rw [h] at hk; exact hn k hk
  · rw [h] at hk; simp only [Option.some.injEq] at hk; have := h1.size; omega

set_option maxHeartbeats 1000000 in
theorem rWithout_any (v : Value) (L : List Lk) (who : Int) (w : World) (h : Own w v L) (hn : L.length ≤ 1048576) :
    Calls Try.prog 39 #[v, .int .i64 who] w fun e w' => ∃ a n c, e = .returned (.slice a n c) ∧ Own w' (.slice a n c) (gone L who) ∧ Below w.heap.size w w' ∧ ∀ k, (Value.slice a n c).ownBlock = some k → w.heap.size ≤ k := by
  obtain ⟨a0, c0, rfl, -, -, hls⟩ := h.tel
  have HR := aside hls
  obtain ⟨nL, hnL⟩ : ∃ nL, nL = L.length := ⟨_, rfl⟩
  have HNL := aside hnL
  rw [← hnL] at hn ⊢
  clear h hls hnL
  go_enter Try.func39, Try.ntmps39
  go_wp2
  go_loopg [5, 6] nL (fun G s5 s6 wr => ∃ (a : Option Addr) (n c k : Nat), k + G = nL ∧ s5 = .slice a n c ∧ s6 = .int .i64 (k : Int) ∧ Aside (Own wr (.slice a n c) (gone (L.take k) who)) ∧ Aside (Below w.heap.size w wr) ∧ Aside (∀ k, (Value.slice a n c).ownBlock = some k → w.heap.size ≤ k))
  case atStart => exact ⟨none, 0, 0, 0, by omega, rfl, rfl, aside (own_none _), aside (Below.refl _ _), aside (by simp [Value.ownBlock])⟩
  case round =>
    obtain ⟨a, n, c, k, hkG, rfl, rfl, hO, hB, hN⟩ := hrel
    by_cases hk : k < nL
    · have t1 : (k : Int) < (nL : Int) := by omega
      obtain ⟨y, hy⟩ : ∃ y, L[k]? = some y := ⟨_, List.getElem?_eq_getElem (by have := HNL.out; omega)⟩
      obtain ⟨g, o, rfl, hrd⟩ := HR.out (fun h => by rw [h] at hy; simp at hy)
      obtain ⟨q0, q1, q2, q3⟩ := (hrd.below hB.out).lock hy
      have hg := gone_take (who := who) hy
      clear hy hrd
      by_cases hyw : y.who = who
      · rw [if_pos hyw] at hg
        have HG := aside hg
        rw [hyw] at q0
        clear hg
        go_wp2_with fail
        go_roundg (nL - (k + 1))
        case measure => omega
        case rel => exact ⟨a, n, c, k + 1, by omega, rfl, by go_num, aside (by rw [HG.out]; exact hO.out), hB, hN⟩
      · rw [if_neg hyw] at hg
        have HG := aside hg
        have hyw2 : (y.who == who) = false := by simpa using hyw
        have LS := aside (ls_lit wr y)
        have OW : Aside (Own (wr.alloc (.cells #[.int .i64 y.who, .int .i64 y.org, .int .i64 y.len, .bool y.sh] 29)) (.slice a n c) (gone (L.take k) who)) := hO.out.below (below_al _ _)
        have FW : Aside ((gone (L.take k) who).length + [y].length ≤ 33554432) := by
          have h1 := (gone_sub (L.take k) who).length_le
          simp only [List.length_take, List.length_singleton] at h1 ⊢
          show _ + 1 ≤ _
          omega
        clear hg
        go_wp2_with (at_builtin; refine wpList_app rfl _ _ rfl (.slice a n c) (gone (L.take k) who) [y] (some ⟨wr.heap.size, 0, none⟩) 1 1 rfl rfl rfl OW.out LS.out FW.out _ rfl ?_; intro a4 c4 w4 ho hu hv; have HO4 := aside ho; have HU4 := aside hu; have HV4 := aside hv; clear ho hu hv)
        go_roundg (nL - (k + 1))
        case measure => omega
        case rel =>
          obtain ⟨f1, f2⟩ := app_new hB.out (below_al _ _) hN.out HO4.out HU4.out HV4.out
          exact ⟨a4, _, c4, k + 1, by omega, rfl, by go_num, aside (by rw [HG.out]; exact HO4.out), aside f1, aside f2⟩
    · obtain rfl : k = nL := by omega
      have t1 : ¬ ((k : Int) < (k : Int)) := by omega
      go_wp2_with fail
      go_ret
      have h1 := hO.out
      rw [HNL.out, List.take_length] at h1
      exact ⟨a, n, c, rfl, h1, hB.out, hN.out⟩
end Go.Proofs.Ytfpegmmciphjiaa
