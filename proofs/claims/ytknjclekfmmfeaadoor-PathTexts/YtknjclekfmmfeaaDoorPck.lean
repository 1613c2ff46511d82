/- Check. -/
import Derived.Test.YtknjclekfmmfeaaDoorPmb
namespace Go.Proofs.YtknjclekfmmfeaaDoor
open Go.RowKit Go.ChangeMaps

set_option maxRecDepth 20000 in
set_option maxHeartbeats 1000000 in
theorem check_any (s : ByteArray) (w : World) : Calls Tryd.prog 8 #[.string s] w fun e w' => e = .returned (.int .i64 (if nameOk s = true then 0 else 190)) ∧ Below w.heap.size w w' := by
  obtain ⟨r, hr⟩ : ∃ r : Int, r = if nameOk s = true then 0 else 190 := ⟨_, rfl⟩
  have AR := aside hr
  rw [← hr]
  clear hr
  go_enter Tryd.func8, Tryd.ntmps8
  go_wp2_with fail
  · next h => go_ret; exact ⟨by rw [AR.out, nameNo (.inl h)]; rfl, Below.refl _ _⟩
  · next h => go_ret; exact ⟨by rw [AR.out, nameNo (.inr (.inr (.inl h)))]; rfl, Below.refl _ _⟩
  · next h1 h2 h3 h =>
    go_ret
    refine ⟨?_, Below.refl _ _⟩
    rcases h with ((h | h) | h) | h
    · exact absurd (List.isEmpty_iff.1 h) h1
    · omega
    · exact absurd (beq_iff_eq.1 h) h3
    · rw [AR.out, nameNo (.inr (.inr (.inr (beq_iff_eq.1 h))))]; rfl
  · next h1 h2 h3 h _ _ _ _ _ _ =>
    have h4 := beq_eq_false_iff_ne.1 h.2
    refine (containsAny_any s w (by omega)).mono ?_
    rintro e w' ⟨rfl, hb⟩
    have AY := aside (nameYes h1 (by omega) h3 h4)
    cases hz : decide (0 ≤ Lib.indexAny s.data.toList [0, 47])
    · go_wp2
      go_ret
      exact ⟨by rw [AR.out, AY.out, hz]; rfl, hb⟩
    · go_wp2
      go_ret
      exact ⟨by rw [AR.out, AY.out, hz]; rfl, hb⟩
  · next h => go_ret; exact ⟨by rw [AR.out, nameNo (.inr (.inl (by omega)))]; rfl, Below.refl _ _⟩
end Go.Proofs.YtknjclekfmmfeaaDoor
