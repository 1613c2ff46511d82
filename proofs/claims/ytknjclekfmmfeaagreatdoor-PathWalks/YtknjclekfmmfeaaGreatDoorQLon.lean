/- A world of specs whose nodes are the program's alone. -/
import Derived.Test.YtknjclekfmmfeaaGreatDoorQLbe
namespace Go.Proofs.YtknjclekfmmfeaaGreatDoor
open Go.RowKit Go.ChangeMaps

def OnlyP (w : World) (L : List Spx) (r : Ending) (w' : World) : Prop := ∃ wb S g c, r = .returned (.slice (some ⟨g, 0, none⟩) S.length c) ∧ Ld w wb L L.length w' S ∧ ∀ (i : Nat) (e : Ne), S[i]? = some e → w'.cell? ⟨g, i, none⟩ = some (Pt e.nb)
set_option maxRecDepth 20000 in
theorem only_any {w : World} (a : Option Addr) (L : List Spx) (ca : Nat) (h : SpAt w a L) (hL : L.length ≤ 1000) (hto : ∀ s ∈ L, s.to.length ≤ 1048576 ∧ s.nm.length ≤ 1048576) :
    Calls Tryz.prog 18 #[.slice a L.length ca] w fun r w' => OnlyP w L r w' := by
  have A := aside (laid_any a L ca h hL hto)
  obtain ⟨n, hn⟩ : ∃ n, n = L.length := ⟨_, rfl⟩
  have An := aside hn
  rw [← hn] at A ⊢
  clear h hL hto hn
  go_enter Tryz.func18, Tryz.ntmps18
  go_wp2_with fail
  refine A.out.mono ?_
  rintro e w1 ⟨wb, S, rfl, hld⟩
  obtain ⟨g, c, g', c', h0, -, hat, -, -⟩ := hld.lw.stay
  have Al := aside hld
  have Aat := aside hat
  obtain ⟨sl, hsl⟩ : ∃ sl, sl = S.length := ⟨_, rfl⟩
  have Asl := aside hsl
  rw [← hsl] at h0
  clear hld hat hsl A
  go_wp2_with fail
  go_ret
  exact ⟨wb, S, g, c, by rw [← Asl.out]; rfl, by rw [← An.out]; exact Al.out, fun i e he => (Aat.out i e he).1⟩
end Go.Proofs.YtknjclekfmmfeaaGreatDoor
