/- Place and Walk agree: the mathematics. -/
import Derived.Test.YtknjclekfmmfeaaGreatDoorQLre
import Derived.Test.YtknjclekfmmfeaaGreatDoorQPpl
namespace Go.Proofs.YtknjclekfmmfeaaGreatDoor
open Go.RowKit Go.ChangeMaps Go.Shelf

/-- Where Place leads, Walk goes one step on. -/
theorem place_step {w : World} {ad : Nat → Nat} {G : Gr} (hG : GAt w G ad) {i : Nat} (hi : i < G.length) {p : B} {d : Nat} {nm : B} (h : plF G i p = (0, d, nm)) : d < G.length ∧ nameOk (ba nm) = true ∧ (nk G d).k = 1 ∧
    (lkp (nk G d).L nm = none → (wkF G i p false).1 = 192) ∧ ∀ j, lkp (nk G d).L nm = some j → j < G.length ∧ ((nk G j).k = 4 → (wkF G i p false).1 = 192) ∧ ((nk G j).k = 3 → (wkF G i p false).1 = 0 ∧ lst (wkF G i p false).2 = (nk G j).u) ∧ ((nk G j).k ≠ 4 → (nk G j).k ≠ 3 → (wkF G i p false).1 = 0 ∧ lst (wkF G i p false).2 = j) := by
  unfold plF at h
  by_cases c0 : beg G i p = 0
  · rw [if_neg (by simp [c0])] at h
    by_cases c1 : prt p = []
    · rw [if_pos c1] at h; cases h
    · rw [if_neg c1] at h
      obtain ⟨l, x, hlx⟩ : ∃ l x, prt p = l ++ [x] := ⟨_, _, (List.dropLast_concat_getLast c1).symm⟩
      rw [hlx, List.getLast?_concat, List.dropLast_concat] at h
      simp only [Option.getD_some] at h
      by_cases c2 : nameOk (ba x) = false
      · rw [if_pos c2] at h; cases h
      · rw [if_neg c2] at h
        have hn : nameOk (ba x) = true := by simpa using c2
        by_cases c3 : (wlk G true 16 l [([], i)]).1 = 0
        · rw [if_neg (by simp [c3])] at h
          by_cases c4 : (nk G (lst (wlk G true 16 l [([], i)]).2)).k = 1
          · rw [if_neg (by simp [c4])] at h
            injection h with _ h
            injection h with hd hx
            subst hx
            obtain ⟨row, hrow⟩ : ∃ row, row = (wlk G true 16 l [([], i)]).2 := ⟨_, rfl⟩
            rw [← hrow] at c4 hd
            have hw : wlk G true 16 l [([], i)] = (0, row) := by rw [hrow, ← c3]
            obtain ⟨r, hr, hc⟩ := wlk_chn 16 l i [] row (by unfold Chn; trivial) hw
            have hdl : d < G.length := by rw [← hd, hr]; exact hc.last hG hi
            have hwk : wkF G i p false = wlk G false 0 [x] row := by
              unfold wkF
              rw [if_neg (by simp [c0]), hlx, wlk_snoc, hw]
              rfl
            rw [hd] at c4
            have c4' : (nk G (lst row)).k = 1 := by rw [hd]; exact c4
            refine ⟨hdl, hn, c4, fun hl => ?_, fun j hj => ⟨hG.kid _ _ _ hj, fun hk => ?_, fun hk => ?_, fun hk4 hk3 => ?_⟩⟩
            · rw [hwk, wlk_none false 0 [] c4' (ok_ne hn).1 hn (by rw [hd]; exact hl)]
            · rw [hwk, wlk_some false 0 [] c4' (ok_ne hn).1 hn (by rw [hd]; exact hj), if_pos hk]
            · rw [hwk, wlk_some false 0 [] c4' (ok_ne hn).1 hn (by rw [hd]; exact hj), if_neg (by rw [hk]; decide), if_pos hk, wlk_nil]
              exact ⟨rfl, lst_snoc _ _ _⟩
            · rw [hwk, wlk_some false 0 [] c4' (ok_ne hn).1 hn (by rw [hd]; exact hj), if_neg hk4, if_neg hk3]
              by_cases k2 : (nk G j).k = 2
              · rw [if_pos k2, if_pos ⟨rfl, rfl⟩]
                exact ⟨rfl, lst_snoc _ _ _⟩
              · rw [if_neg k2, wlk_nil]
                exact ⟨rfl, lst_snoc _ _ _⟩
          · rw [if_pos c4] at h; cases h
        · rw [if_pos c3] at h
          injection h with h1
          exact absurd h1 c3
  · rw [if_pos c0] at h
    injection h with h1
    exact absurd h1 c0
theorem place_none {G : Gr} {i : Nat} {p : B} (h : (plF G i p).1 ≠ 0) : (plF G i p).2.2 = [] := by
  unfold plF at h ⊢
  split at h <;> rename_i c
  · rw [if_pos c]
  · rw [if_neg c]
    split at h <;> rename_i c
    · rw [if_pos c]
    · rw [if_neg c]
      split at h <;> rename_i c
      · rw [if_pos c]
      · rw [if_neg c]
        split at h <;> rename_i c
        · rw [if_pos c]
        · rw [if_neg c]
          split at h <;> rename_i c
          · rw [if_pos c]
          · exact absurd rfl h
end Go.Proofs.YtknjclekfmmfeaaGreatDoor
