/- The chapter's examples: what its three questions answer. -/
import Derived.Test.YtknjclekfmmfeabGreatDoorQKnz
namespace Go.Proofs.YtknjclekfmmfeabGreatDoor
open Go.RowKit Go.ChangeMaps Go.Shelf

theorem wk_fact {p : B} {f : Bool} {c : Int} {a : Nat} (hl : p.length ≤ 4096) (h : (wlf 200 G5 f 16 (prt p) [([], 0)]).map (fun R => (R.1, if R.1 = 0 then lst R.2 else 0)) = some (c, a)) : (wkF G5 0 p f).1 = c ∧ (c = 0 → lst (wkF G5 0 p f).2 = a) := by
  obtain ⟨R, hR, he⟩ := Option.map_eq_some_iff.1 h
  rw [wk_at hl hR]
  simp only [Prod.mk.injEq] at he
  obtain ⟨rfl, h2⟩ := he
  exact ⟨rfl, fun h0 => by rw [if_pos h0] at h2; exact h2⟩
theorem re_fact {p s : B} (hl : p.length ≤ 4096) (h : (wlf 200 G5 true 16 (prt p) [([], 0)]).map reF = some (0, s)) : reF (wkF G5 0 p true) = (0, s) := by
  obtain ⟨R, hR, he⟩ := Option.map_eq_some_iff.1 h
  rw [wk_at hl hR]
  exact he
theorem pl_fact {p : B} {X : Int × Nat × B} (hl : p.length ≤ 4096) (h : (if prt p = [] then some (190, 0, []) else if nameOk (ba ((prt p).getLast?.getD [])) = false then some (190, 0, []) else (wlf 200 G5 true 16 (prt p).dropLast [([], 0)]).map fun Q => if Q.1 ≠ 0 then (Q.1, 0, []) else if (nk G5 (lst Q.2)).k ≠ 1 then (193, 0, []) else (0, lst Q.2, (prt p).getLast?.getD [])) = some X) : plF G5 0 p = X := by
  unfold plF beg
  rw [if_neg (by rw [if_neg (by decide), if_neg (by omega)]; decide)]
  by_cases h1 : prt p = []
  · rw [if_pos h1] at h ⊢
    cases h; rfl
  · rw [if_neg h1] at h ⊢
    by_cases h2 : nameOk (ba ((prt p).getLast?.getD [])) = false
    · rw [if_pos h2] at h ⊢
      cases h; rfl
    · rw [if_neg h2] at h ⊢
      obtain ⟨Q, hQ, he⟩ := Option.map_eq_some_iff.1 h
      rw [wlf_eq hQ]
      exact he
/-- The row of nodes, in a box. -/
structure Kw (W : World) (lo nb g c : Nat) (S : List Ne) : Prop where
  box : W.cell? ⟨nb, 0, none⟩ = some (.slice (some ⟨g, 0, none⟩) 6 c)
  row : ∀ (i : Nat) (e : Ne), S[i]? = some e → W.cell? ⟨g, i, none⟩ = some (Pt e.nb)
  kn : S.map kn = Kn 5
  gx : GX lo W S
  mx : Mxl W
theorem Kw.below {W W' : World} {lo nb g c : Nat} {S : List Ne} (h : Kw W lo nb g c S) (b : Below W.heap.size W W') : Kw W' lo nb g c S :=
  ⟨(b.cell (World.block_lt_of_cell? W _ h.box)).trans h.box, fun i e he => (b.cell (World.block_lt_of_cell? W _ (h.row i e he))).trans (h.row i e he), h.kn, h.gx.below b, h.mx.below b h.mx.lt⟩
theorem Kw.len {W : World} {lo nb g c : Nat} {S : List Ne} (h : Kw W lo nb g c S) : S.length = 6 := by
  have := congrArg List.length h.kn
  rw [List.length_map] at this
  exact this
theorem Kw.cell {W : World} {lo nb g c : Nat} {S : List Ne} (h : Kw W lo nb g c S) {i : Nat} (hi : i < 6) : W.cell? ⟨g, i, none⟩ = some (Pt (adr S i)) := by
  obtain ⟨e, he⟩ : ∃ e, S[i]? = some e := ⟨_, List.getElem?_eq_getElem (by rw [h.len]; exact hi)⟩
  rw [adr_of he]
  exact h.row i e he
theorem Kw.eq {W : World} {lo nb g c : Nat} {S : List Ne} (h : Kw W lo nb g c S) {i : Nat} (hi : i < 6) : (binOp .eql 29 (Pt (adr S i)) (Pt (adr S i))).run Tryz.prog W = .ok (.bool true) W := by
  obtain ⟨nt, nbk, hnd⟩ := h.gx.gat.nd (i := i) (by unfold gr; rw [List.length_map, h.len]; exact hi)
  have heq := eq_node hnd hnd
  rw [decide_eq_true rfl] at heq
  exact heq
set_option maxRecDepth 20000 in
set_option maxHeartbeats 4000000 in
theorem kwalk_any {W : World} {lo nb g c : Nat} {S : List Ne} (h : Kw W lo nb g c S) (P : ByteArray) (p : B) (hP : P = ba p) (f : Bool) (a : Nat) (ha : a < 6) (cd : Int) (hR : (wkF G5 0 p f).1 = cd ∧ (cd = 0 → lst (wkF G5 0 p f).2 = a)) :
    Calls Tryz.prog 5 #[.string P, .bool f, .int .i64 (a : Int), .int .i64 cd, Pt nb] W fun e w' => e = .returned (.bool true) ∧ Below W.heap.size W w' := by
  have AK := aside h
  have hb := h.box
  have h0 := h.cell (i := 0) (by decide)
  have AW := aside (walk_any h.gx.gat h.mx (i := 0) (by unfold gr; rw [List.length_map, h.len]; decide) p f)
  rw [gr_known h.kn, ← hP] at AW
  obtain ⟨R, hRe⟩ : ∃ R, R = wkF G5 0 p f := ⟨_, rfl⟩
  rw [← hRe] at AW hR
  obtain ⟨hR1, hR2⟩ := hR
  unfold WalkA at AW
  rw [hR1] at AW
  obtain ⟨a0, ha0⟩ : ∃ a0, a0 = adr S 0 := ⟨_, rfl⟩
  rw [← ha0] at AW h0
  have hi0 : (0 : Int) ≤ (a : Int) := by omega
  have hi1 : (a : Int) < 6 := by omega
  by_cases hc : cd = 0
  · subst hc
    rw [if_pos rfl, hR2 rfl] at AW
    obtain ⟨ax, hax⟩ : ∃ ax, ax = adr S a := ⟨_, rfl⟩
    rw [← hax] at AW
    have Aax := aside hax
    clear hRe hR1 hR2 ha0 h hax hP
    go_enter Tryz.func5, Tryz.ntmps5
    go_wp2_with fail
    refine AW.out.mono ?_
    rintro e w1 ⟨rfl, b1⟩
    have A1 := aside b1
    have K1 := AK.out.below b1
    have hb1 := K1.box
    have hc1 := K1.cell ha
    have heq := K1.eq ha
    rw [← Aax.out] at hc1 heq
    clear b1 K1 AW
    go_wp2_with fail
    go_ret
    exact ⟨rfl, A1.out⟩
  · rw [if_neg hc] at AW
    have hcb : (cd == 0) = false := beq_eq_false_iff_ne.2 hc
    clear hRe hR1 hR2 ha0 h hP
    go_enter Tryz.func5, Tryz.ntmps5
    go_wp2_with fail
    refine AW.out.mono ?_
    rintro e w1 ⟨rfl, b1⟩
    have A1 := aside b1
    clear b1 AW
    go_wp2_with fail
    go_ret
    exact ⟨rfl, A1.out⟩
set_option maxRecDepth 20000 in
set_option maxHeartbeats 4000000 in
theorem kplace_any {W : World} {lo nb g c : Nat} {S : List Ne} (h : Kw W lo nb g c S) (P : ByteArray) (p : B) (hP : P = ba p) (a : Nat) (ha : a < 6) (Q : ByteArray) (q : B) (hQ : Q = ba q) (cd : Int) (hR : plF G5 0 p = (cd, a, q)) :
    Calls Tryz.prog 7 #[.string P, .int .i64 (a : Int), .string Q, .int .i64 cd, Pt nb] W fun e w' => e = .returned (.bool true) ∧ Below W.heap.size W w' := by
  have AK := aside h
  have hb := h.box
  have h0 := h.cell (i := 0) (by decide)
  have AW := aside (place_any h.gx.gat h.mx (i := 0) (by unfold gr; rw [List.length_map, h.len]; decide) p)
  rw [gr_known h.kn, ← hP, hR] at AW
  unfold PlaceA at AW
  simp only at AW
  rw [← hQ] at AW
  obtain ⟨a0, ha0⟩ : ∃ a0, a0 = adr S 0 := ⟨_, rfl⟩
  rw [← ha0] at AW h0
  have hi0 : (0 : Int) ≤ (a : Int) := by omega
  have hi1 : (a : Int) < 6 := by omega
  by_cases hc : cd = 0
  · subst hc
    rw [if_pos rfl] at AW
    obtain ⟨ax, hax⟩ : ∃ ax, ax = adr S a := ⟨_, rfl⟩
    rw [← hax] at AW
    have Aax := aside hax
    clear hR ha0 h hax hP hQ
    go_enter Tryz.func7, Tryz.ntmps7
    go_wp2_with fail
    refine AW.out.mono ?_
    rintro e w1 ⟨rfl, b1⟩
    have A1 := aside b1
    have K1 := AK.out.below b1
    have hb1 := K1.box
    have hc1 := K1.cell ha
    have heq := K1.eq ha
    rw [← Aax.out] at hc1 heq
    clear b1 K1 AW
    go_wp2_with fail
    go_ret
    exact ⟨rfl, A1.out⟩
  · rw [if_neg hc] at AW
    have hcb : (cd == 0) = false := beq_eq_false_iff_ne.2 hc
    clear hR ha0 h hP hQ
    go_enter Tryz.func7, Tryz.ntmps7
    go_wp2_with fail
    refine AW.out.mono ?_
    rintro e w1 ⟨rfl, b1⟩
    have A1 := aside b1
    clear b1 AW
    go_wp2_with fail
    go_ret
    exact ⟨rfl, A1.out⟩
set_option maxRecDepth 20000 in
set_option maxHeartbeats 4000000 in
theorem kreal_any {W : World} {lo nb g c : Nat} {S : List Ne} (h : Kw W lo nb g c S) (P : ByteArray) (p : B) (hP : P = ba p) (Q : ByteArray) (q : B) (hQ : Q = ba q) (hR : reF (wkF G5 0 p true) = (0, q)) :
    Calls Tryz.prog 9 #[.string P, .string Q, Pt nb] W fun e w' => e = .returned (.bool true) ∧ Below W.heap.size W w' := by
  have hb := h.box
  have h0 := h.cell (i := 0) (by decide)
  have AW := aside (real_any h.gx.gat h.mx (i := 0) (by unfold gr; rw [List.length_map, h.len]; decide) p)
  rw [gr_known h.kn, ← hP, hR] at AW
  simp only at AW
  rw [← hQ] at AW
  obtain ⟨a0, ha0⟩ : ∃ a0, a0 = adr S 0 := ⟨_, rfl⟩
  rw [← ha0] at AW h0
  clear hR ha0 h hP hQ
  go_enter Tryz.func9, Tryz.ntmps9
  go_wp2_with fail
  refine AW.out.mono ?_
  rintro e w1 ⟨rfl, b1⟩
  have A1 := aside b1
  clear b1 AW
  go_wp2_with fail
  go_ret
  exact ⟨rfl, A1.out⟩
end Go.Proofs.YtknjclekfmmfeabGreatDoor
