/- Real is where a path leads. -/
import Derived.Test.YtknjclekfmmfeaaGreatDoorQLon
import Derived.Test.YtknjclekfmmfeaaGreatDoorQPrl
import Derived.Test.YtknjclekfmmfeaaGreatDoorQPwo
namespace Go.Proofs.YtknjclekfmmfeaaGreatDoor
open Go.RowKit Go.ChangeMaps Go.Shelf

/-- A chain stays among the nodes. -/
theorem Chn.last {w : World} {G : Gr} {ad : Nat → Nat} (h : GAt w G ad) : ∀ {r : Row} {a : Nat} {x : B}, a < G.length → Chn G a r → lst ((x, a) :: r) < G.length
  | [], a, x, ha, _ => by simpa [lst] using ha
  | (y, i) :: r, a, x, ha, hc => by
    obtain ⟨-, -, ⟨j, hj, -, -, hi⟩, hc⟩ := hc
    have e : lst ((x, a) :: (y, i) :: r) = lst ((y, i) :: r) := by simp [lst]
    rw [e]
    refine Chn.last h ?_ hc
    rcases hi with ⟨hk, rfl⟩ | ⟨-, rfl⟩
    · exact (h.und j hk).1
    · exact h.kid _ _ _ hj
theorem real_again {G : Gr} {i : Nat} {p s : B} (h : (reF (wkF G i p true)).1 = 0) (hs : s = (reF (wkF G i p true)).2) : (wkF G i p true).1 = 0 ∧ (∀ f, wkF G i s f = (0, (wkF G i p true).2)) ∧ clA s = .tuple #[.string (ba s), .int .i64 0] ∧ reF (wkF G i s true) = (0, s) ∧ s.length ≤ 4096 ∧ ∃ r, (wkF G i p true).2 = ([], i) :: r ∧ Chn G i r := by
  obtain ⟨R, hR⟩ : ∃ R, R = wkF G i p true := ⟨_, rfl⟩
  rw [← hR] at h hs ⊢
  have h0 : R.1 = 0 := by
    unfold reF at h
    by_cases c : R.1 = 0
    · exact c
    · rw [if_pos c] at h; exact h
  have hlen : ¬ 4096 < (pth (R.2.tail.map (·.1))).length := fun c => by
    unfold reF at h
    rw [if_neg (by simp [h0]), if_pos c] at h
    cases h
  have hs2 : s = pth (R.2.tail.map (·.1)) := by
    unfold reF at hs
    rw [if_neg (by simp [h0]), if_neg hlen] at hs
    exact hs
  have hb : beg G i p = 0 := by
    by_cases c : beg G i p = 0
    · exact c
    · unfold wkF at hR
      rw [if_pos c] at hR
      rw [hR] at h0
      exact absurd h0 c
  have hk : (nk G i).k = 1 := by
    by_cases c : (nk G i).k = 1
    · exact c
    · unfold beg at hb
      rw [if_pos c] at hb
      cases hb
  have hbs : beg G i s = 0 := by
    unfold beg
    rw [if_neg (by simp [hk]), if_neg (by rw [hs2]; exact hlen)]
  unfold wkF at hR
  rw [if_neg (by simp [hb])] at hR
  have hw : wlk G true 16 (prt p) [([], i)] = (0, R.2) := by rw [← hR, ← h0]
  obtain ⟨r, hr, hc⟩ := wlk_chn 16 (prt p) i [] R.2 (by unfold Chn; trivial) hw
  have hn : R.2.tail.map (·.1) = r.map (·.1) := by rw [hr]; rfl
  rw [hn] at hs2 hlen
  have hp : prt s = r.map (·.1) := by rw [hs2]; exact prt_pth hc.oks
  have hall : ∀ f, wkF G i s f = (0, R.2) := fun f => by
    unfold wkF
    rw [if_neg (by simp [hbs]), hp, wlk_again f 16 r [([], i)] hc, hr]
    rfl
  have hsl : ¬ 4096 < s.length := by rw [hs2]; exact hlen
  refine ⟨h0, hall, ?_, ?_, by omega, r, hr, hc⟩
  · unfold clA
    rw [if_neg hsl, hp, cln_oks hc.oks]
    simp only [List.nil_append]
    rw [← hs2]
  · rw [hall]
    unfold reF
    simp only
    rw [if_neg (by simp), hn, if_neg hlen, ← hs2]
end Go.Proofs.YtknjclekfmmfeaaGreatDoor
