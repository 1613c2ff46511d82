/- The world of the chapter's examples. -/
import Derived.Test.YtknjclekfmmfeabGreatDoorQKwf
import Derived.Test.YtknjclekfmmfeabGreatDoorQKnb
namespace Go.Proofs.YtknjclekfmmfeabGreatDoor
open Go.RowKit Go.ChangeMaps

set_option maxRecDepth 20000 in
theorem only_known {w : World} (a : Option Addr) (ca : Nat) (h : SpAt w a L5) :
    Calls Tryz.prog 4 #[.slice a 5 ca] w fun r w' => ∃ S g c, r = .returned (.slice (some ⟨g, 0, none⟩) 6 c) ∧ S.map kn = Kn 5 ∧ GX w.heap.size w' S ∧ Below w.heap.size w w' ∧ ∀ (i : Nat) (e : Ne), S[i]? = some e → w'.cell? ⟨g, i, none⟩ = some (Pt e.nb) := by
  have A := aside (laid_good a L5 ca h (by decide) (fun s hs => by
    simp only [L5, List.mem_cons, List.not_mem_nil, or_false] at hs
    rcases hs with rfl | rfl | rfl | rfl | rfl <;> exact ⟨by decide, by decide⟩) (fun s hs => by
    simp only [L5, List.mem_cons, List.not_mem_nil, or_false] at hs
    rcases hs with rfl | rfl | rfl | rfl | rfl
    · exact .inr (.inl rfl)
    · exact .inl rfl
    · exact .inr (.inr ⟨rfl, by decide, by decide⟩)
    · exact .inr (.inr ⟨rfl, by decide, by decide⟩)
    · exact .inr (.inr ⟨rfl, by decide, by decide⟩)) (fun i S => S.map kn = Kn i) (fun _ _ _ _ => rfl) known_step)
  rw [show L5.length = 5 from rfl] at A
  clear h
  go_enter Tryz.func4, Tryz.ntmps4
  go_wp2_with fail
  refine A.out.mono ?_
  rintro e w1 ⟨wb, S, rfl, hld, hkn⟩
  have hlen : S.length = 6 := by
    have := congrArg List.length hkn
    rw [List.length_map] at this
    exact this
  obtain ⟨g, c, g', c', h0, -, hat, -, -⟩ := hld.lw.stay
  rw [hlen] at h0
  have Al := aside hld
  have Aat := aside hat
  have Ak := aside hkn
  clear hld hat hkn hlen A
  go_wp2_with fail
  go_ret
  exact ⟨S, g, c, rfl, Ak.out, Al.out.gx, Al.out.bel, fun i e he => (Aat.out i e he).1⟩
end Go.Proofs.YtknjclekfmmfeabGreatDoor
