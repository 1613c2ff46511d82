/- Specs and a path that are too long. -/
import Derived.Test.YtknjclekfmmfeaaGreatDoorQLwf
namespace Go.Proofs.YtknjclekfmmfeaaGreatDoor
open Go.RowKit Go.ChangeMaps

/-- How many bytes the first specs hold. -/
def blk (L : List Spx) : Nat := (L.map fun s => s.nm.length + s.to.length).sum
theorem blk_take : ∀ {L : List Spx} {i : Nat} {s : Spx}, L[i]? = some s → blk (L.take (i + 1)) = blk (L.take i) + (s.nm.length + s.to.length)
  | [], _, _, h => by simp at h
  | q :: L, 0, s, h => by simp at h; subst h; simp [blk]
  | q :: L, i + 1, s, h => by
    simp only [List.getElem?_cons_succ] at h
    have ih := blk_take h
    simp only [blk, List.take_succ_cons, List.map_cons, List.sum_cons] at ih ⊢
    omega
theorem blk_mem : ∀ {L : List Spx} {s : Spx}, s ∈ L → s.nm.length + s.to.length ≤ blk L
  | q :: L, s, h => by
    rcases List.mem_cons.1 h with rfl | h
    · simp only [blk, List.map_cons, List.sum_cons]; omega
    · have ih := blk_mem h
      simp only [blk, List.map_cons, List.sum_cons] at ih ⊢; omega
theorem SpAt.at {w : World} {a : Option Addr} {L : List Spx} (h : SpAt w a L) {i : Nat} {s : Spx} (hs : L[i]? = some s) : ∃ g o, a = some ⟨g, o, none⟩ ∧ w.cell? ⟨g, o + i * 5 + 2, none⟩ = some (.string (ba s.nm)) ∧ w.cell? ⟨g, o + i * 5 + 4, none⟩ = some (.string (ba s.to)) := by
  obtain ⟨g, o, e, h1⟩ := h (fun e => by rw [e] at hs; simp at hs)
  obtain ⟨-, -, t2, -, t4⟩ := spc_at hs
  have a2 := h1 _ _ t2
  have a4 := h1 _ _ t4
  rw [← Nat.add_assoc] at a2 a4
  exact ⟨g, o, e, a2, a4⟩
theorem SpAt.old {w w' : World} {a : Option Addr} {L : List Spx} (h : SpAt w a L) (b : Below w.heap.size w w') : SpAt w' a L := h.below b fun _ _ _ hv => World.block_lt_of_cell? w _ hv
def BeyP (L : List Spx) (p : B) (w : World) (e : Ending) (w' : World) : Prop := Below w.heap.size w w' ∧ ∃ t : Bool, e = .returned (.bool t) ∧ (t = false → L.length ≤ 200 ∧ p.length ≤ 65536 ∧ ∀ s ∈ L, s.to.length ≤ 1048576 ∧ s.nm.length ≤ 1048576)
set_option maxRecDepth 20000 in
set_option maxHeartbeats 4000000 in
theorem beyond_any {w : World} (a : Option Addr) (L : List Spx) (ca : Nat) (h : SpAt w a L) (hL : L.length ≤ 140737488351232) (hz : ∀ s ∈ L, s.to.length ≤ 140737488351232 ∧ s.nm.length ≤ 140737488351232) (pb : Nat) (p : B) (hp : w.cell? ⟨pb, 0, none⟩ = some (.string (ba p))) :
    Calls Tryz.prog 8 #[.slice a L.length ca, .slice (some ⟨pb, 0, none⟩) 1 1] w fun e w' => BeyP L p w e w' := by
  obtain ⟨n, hn⟩ : ∃ n, n = L.length := ⟨_, rfl⟩
  have AI := aside h
  have AN := aside hn
  have AF := aside hz
  have Ap := aside hp
  rw [← hn] at hL ⊢
  clear h hn hz hp
  go_enter Tryz.func8, Tryz.ntmps8
  go_wp2_with fail
  go_loopg [5, 6] (n + 1) (fun g s5 s6 wx => ∃ i y : Nat, i + g = n + 1 ∧ i ≤ n ∧ s6 = .int .i64 (i : Int) ∧ s5 = .int .i64 (y : Int) ∧ Below w.heap.size w wx ∧ y = blk (L.take i) ∧ y ≤ 281474977751040)
  case atStart => exact ⟨0, 0, by omega, by omega, rfl, rfl, Below.refl _ _, rfl, by omega⟩
  case round =>
    obtain ⟨i, y, hig, hin, rfl, rfl, hbl, hy, hyl⟩ := hrel
    have ABl := aside hbl
    have Ay := aside hy
    clear hbl hy
    by_cases c1 : i < n
    · have d1 : (i : Int) < (n : Int) := by omega
      by_cases c3 : y ≤ 1048576
      · have d3 : (y : Int) ≤ 1048576 := by omega
        obtain ⟨x, hxi⟩ : ∃ x, L[i]? = some x := ⟨_, List.getElem?_eq_getElem (by rw [← AN.out]; exact c1)⟩
        obtain ⟨g, o, rfl, e0, e2⟩ := (AI.out.old ABl.out).at hxi
        obtain ⟨f1, f2⟩ := AF.out x (List.mem_of_getElem? hxi)
        have hbt := blk_take hxi
        rw [← Ay.out] at hbt
        have Abt := aside hbt
        have E0 := fun dd os => ext_cell e0 dd os
        have E2 := fun dd os => ext_cell e2 dd os
        have z0 := ba_size x.nm
        have z2 := ba_size x.to
        obtain ⟨P, hP⟩ : ∃ P, P = ba x.nm := ⟨_, rfl⟩
        obtain ⟨T, hT⟩ : ∃ T, T = ba x.to := ⟨_, rfl⟩
        rw [← hP] at E0 z0
        rw [← hT] at E2 z2
        obtain ⟨u, hu⟩ : ∃ u, u = P.size + T.size := ⟨_, rfl⟩
        obtain ⟨v, hv⟩ : ∃ v, v = y + u := ⟨_, rfl⟩
        have hw1 : IntKind.i64.wrap ((P.size : Int) + (T.size : Int)) = (u : Int) := by rw [wrap_small _ (by omega) (by omega), hu]; simp
        have hw2 : IntKind.i64.wrap ((y : Int) + (u : Int)) = (v : Int) := by rw [wrap_small _ (by omega) (by omega), hv]; simp
        have hwi : IntKind.i64.wrap ((i : Int) + 1) = ((i + 1 : Nat) : Int) := by rw [wrap_small _ (by omega) (by omega)]; simp
        have Av : Aside (v = blk (L.take (i + 1)) ∧ v ≤ 281474977751040) := ⟨by rw [Abt.out]; omega, by omega⟩
        have hi0 : (0 : Int) ≤ (i : Int) := by omega
        clear e0 e2 hxi hbt hP hT hu hv z0 z2
        go_wp2_with fail
        refine region_ext (by kernel_rfl) (by kernel_rfl) ?_
        repeat (any_goals (first | go_big_quiet_step (fail) | quiet_step (fail)))
        refine wpQuiet_nil ?_
        intro w5 hw5
        have AB5 := aside hw5
        clear hw5
        go_wp2_with fail
        go_roundg (gk - 1)
        case measure => omega
        case rel => exact ⟨i + 1, v, by omega, by omega, by first | rfl | simp, rfl, below_tr ABl.out AB5.out, Av.out.1, Av.out.2⟩
      · have d3 : ¬ (y : Int) ≤ 1048576 := by omega
        have d4 : (1048576 : Int) < (y : Int) := by omega
        go_wp2_with fail
        go_loopg [4, 7, 35] 1 (fun g s4 _ s35 wx => s4 = .bool false ∧ ∃ j : Nat, j + g = 1 ∧ s35 = .int .i64 (j : Int) ∧ Below w.heap.size w wx ∧ (j = 1 → p.length ≤ 65536))
        case atStart => exact ⟨rfl, 0, rfl, rfl, ABl.out, fun h => by cases h⟩
        case round =>
          obtain ⟨rfl, j, hj, rfl, hbl2, hpl⟩ := hrel
          have AB2 := aside hbl2
          have Apl := aside hpl
          clear hbl2 hpl
          cases gk with
          | zero =>
            obtain rfl : j = 1 := by omega
            have dj : ¬ ((1 : Nat) : Int) < 1 := by omega
            go_wp2_with fail
            go_ret
            exact ⟨AB2.out, true, rfl, fun h => by cases h⟩
          | succ gk =>
            obtain rfl : j = 0 := by omega
            have hcp := (AB2.out.cell (p := ⟨pb, 0, none⟩) (World.block_lt_of_cell? w _ Ap.out)).trans Ap.out
            have zp := ba_size p
            obtain ⟨P, hP⟩ : ∃ P, P = ba p := ⟨_, rfl⟩
            rw [← hP] at hcp zp
            clear hP
            by_cases c5 : 65536 < p.length
            · have d5 : (65536 : Int) < (P.size : Int) := by omega
              clear zp
              go_wp2_with fail
              go_ret
              exact ⟨AB2.out, true, rfl, fun h => by cases h⟩
            · have d5 : ¬ (65536 : Int) < (P.size : Int) := by omega
              clear zp
              go_wp2_with fail
              go_roundg gk
              case measure => omega
              case rel => exact ⟨rfl, 1, by omega, by first | rfl | simp, AB2.out, fun _ => by omega⟩
    · obtain rfl : i = n := by omega
      have d1 : ¬ (i : Int) < (i : Int) := by omega
      go_wp2_with fail
      go_loopg [4, 7, 35] 1 (fun g s4 _ s35 wx => s4 = .bool false ∧ ∃ j : Nat, j + g = 1 ∧ s35 = .int .i64 (j : Int) ∧ Below w.heap.size w wx ∧ (j = 1 → p.length ≤ 65536))
      case atStart => exact ⟨rfl, 0, rfl, rfl, ABl.out, fun h => by cases h⟩
      case round =>
        obtain ⟨rfl, j, hj, rfl, hbl2, hpl⟩ := hrel
        have AB2 := aside hbl2
        have Apl := aside hpl
        clear hbl2 hpl
        cases gk with
        | zero =>
          obtain rfl : j = 1 := by omega
          have dj : ¬ ((1 : Nat) : Int) < 1 := by omega
          by_cases c3 : 1048576 < y
          · have d5 : (1048576 : Int) < (y : Int) := by omega
            go_wp2_with fail
            go_ret
            exact ⟨AB2.out, true, rfl, fun h => by cases h⟩
          · have d5 : ¬ (1048576 : Int) < (y : Int) := by omega
            by_cases c4 : 200 < i
            · have d6 : (200 : Int) < (i : Int) := by omega
              go_wp2_with fail
              go_ret
              exact ⟨AB2.out, true, rfl, fun h => by cases h⟩
            · have d6 : ¬ (200 : Int) < (i : Int) := by omega
              go_wp2_with fail
              go_ret
              refine ⟨AB2.out, false, rfl, fun _ => ⟨by rw [← AN.out]; omega, by first | exact Apl.out rfl | exact Apl.out trivial, fun s hs => ?_⟩⟩
              have h1 := blk_mem hs
              have h2 := Ay.out
              rw [AN.out, List.take_length] at h2
              omega
        | succ gk =>
          obtain rfl : j = 0 := by omega
          have hcp := (AB2.out.cell (p := ⟨pb, 0, none⟩) (World.block_lt_of_cell? w _ Ap.out)).trans Ap.out
          have zp := ba_size p
          obtain ⟨P, hP⟩ : ∃ P, P = ba p := ⟨_, rfl⟩
          rw [← hP] at hcp zp
          clear hP
          by_cases c5 : 65536 < p.length
          · have d5 : (65536 : Int) < (P.size : Int) := by omega
            clear zp
            go_wp2_with fail
            go_ret
            exact ⟨AB2.out, true, rfl, fun h => by cases h⟩
          · have d5 : ¬ (65536 : Int) < (P.size : Int) := by omega
            clear zp
            go_wp2_with fail
            go_roundg gk
            case measure => omega
            case rel => exact ⟨rfl, 1, by omega, by first | rfl | simp, AB2.out, fun _ => by omega⟩
end Go.Proofs.YtknjclekfmmfeaaGreatDoor
