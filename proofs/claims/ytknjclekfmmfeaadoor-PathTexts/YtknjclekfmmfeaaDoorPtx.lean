/- PathTexts, walked. -/
import Derived.Test.YtknjclekfmmfeaaDoorPrr
import Derived.Test.YtknjclekfmmfeaaDoorPwo
namespace Go.Proofs.YtknjclekfmmfeaaDoor
open Go.RowKit Go.ChangeMaps

set_option maxRecDepth 20000 in
set_option maxHeartbeats 4000000 in
theorem pathTexts_walk (s : ByteArray) (w : World) (hM : Mxl w) : Calls Tryd.prog 3 #[.string s] w fun e w' => e = .returned (.bool true) ∧ Below w.heap.size w w' := by
  have AM := aside hM
  have AW := aside (fun W (hW : Below w.heap.size w W) => works_any W (hM.below hW hM.lt))
  obtain ⟨p, hp⟩ : ∃ p, p = s.data.toList := ⟨_, rfl⟩
  obtain rfl : s = ba p := by rw [hp, ba_of]
  have hps : (ba p).size = p.length := ba_size p
  clear hM hp
  by_cases hl : 1048576 < p.length
  · have hl2 : (1048576 : Int) < ((ba p).size : Int) := by omega
    obtain ⟨P, hP⟩ : ∃ P, P = ba p := ⟨_, rfl⟩
    rw [← hP] at hl2 hps ⊢
    clear hP
    go_enter Tryd.func3, Tryd.ntmps3
    go_wp2_with fail
    refine (AW.out _ (Below.refl _ _)).mono ?_
    rintro e w1 ⟨rfl, hb1⟩
    have A1 := aside hb1
    clear hb1
    go_wp2_with fail
    refine (AW.out _ A1.out).mono ?_
    rintro e w2 ⟨rfl, hb2⟩
    have A2 := aside (below_tr A1.out hb2)
    clear hb2
    go_wp2_with fail
    go_ret
    exact ⟨rfl, A2.out⟩
  · have hl2 : ¬ (1048576 : Int) < ((ba p).size : Int) := by omega
    obtain ⟨x, y, hxy⟩ : ∃ x y, clA p = .tuple #[.string x, .int .i64 y] := by
      unfold clA
      split
      · exact ⟨_, _, rfl⟩
      · cases cln (prt p) [] with
        | none => exact ⟨_, _, rfl⟩
        | some b => exact ⟨_, _, rfl⟩
    have AC := aside (fun W hW => clean_any p W hW)
    have AR := aside (fun W => rClean_any p W)
    have AK := aside (fun W => check_any (ba p) W)
    have AQ := aside (fun W => rCheck_any p W (by omega))
    rw [hxy] at AC AR
    obtain ⟨r, hr⟩ : ∃ r : Int, r = if nameOk (ba p) = true then 0 else 190 := ⟨_, rfl⟩
    rw [← hr] at AK AQ
    obtain ⟨P, hP⟩ : ∃ P, P = ba p := ⟨_, rfl⟩
    rw [← hP] at hl2 hps AC AR AK AQ ⊢
    clear hP hr hxy
    go_enter Tryd.func3, Tryd.ntmps3
    go_wp2_with fail
    refine (AW.out _ (Below.refl _ _)).mono ?_
    rintro e w1 ⟨rfl, hb1⟩
    have A1 := aside hb1
    clear hb1
    go_wp2_with fail
    refine (AC.out _ (AM.out.below A1.out AM.out.lt)).mono ?_
    rintro e w2 ⟨rfl, hb2⟩
    have A2 := aside (below_tr A1.out hb2)
    clear hb2
    go_wp2_with fail
    refine (AR.out _).mono ?_
    rintro e w3 ⟨rfl, hb3⟩
    have A3 := aside (below_tr A2.out hb3)
    clear hb3
    go_wp2_with fail
    refine (AK.out _).mono ?_
    rintro e w4 ⟨rfl, hb4⟩
    have A4 := aside (below_tr A3.out hb4)
    clear hb4
    go_wp2_with fail
    refine (AQ.out _).mono ?_
    rintro e w5 ⟨rfl, rfl⟩
    go_wp2_with fail
    go_ret
    exact ⟨by first | rfl | simp, A4.out⟩
end Go.Proofs.YtknjclekfmmfeaaDoor
