/- start, Walk. -/
import Derived.Test.YtknjclekfmmfeabGreatDoorQPal
namespace Go.Proofs.YtknjclekfmmfeabGreatDoor
open Go.RowKit Go.ChangeMaps Go.Shelf

/-- With what a walk begins: an error, or none. -/
def beg (G : Gr) (i : Nat) (p : B) : Int := if (nk G i).k ≠ 1 then 193 else if 4096 < p.length then 3 else 0
/-- A walk from a root. -/
def wkF (G : Gr) (i : Nat) (p : B) (f : Bool) : Int × Row := if beg G i p ≠ 0 then (beg G i p, []) else wlk G f 16 (prt p) [([], i)]
set_option maxRecDepth 20000 in
set_option maxHeartbeats 2000000 in
theorem start_nil (p : ByteArray) (w : World) : Calls Tryz.prog 14 #[.pointer none, .string p] w fun e w' => e = .returned (.tuple #[.pointer none, .int .i64 1]) ∧ w' = w := by
  go_enter Tryz.func14, Tryz.ntmps14
  go_wp2_with fail
  refine (kind_nil w).mono ?_
  rintro e w' ⟨rfl, rfl⟩
  go_wp2_with fail
  go_ret2
  exact ⟨rfl, rfl⟩
/-- What start leaves. -/
def StartP (G : Gr) (ad : Nat → Nat) (i : Nat) (p : B) (w : World) (e : Ending) (w' : World) : Prop :=
  Below w.heap.size w w' ∧ (beg G i p ≠ 0 → e = .returned (.tuple #[.pointer none, .int .i64 (beg G i p)])) ∧ (beg G i p = 0 → ∃ wb, e = .returned (.tuple #[Pt wb, .int .i64 0]) ∧ WkAt w' w.heap.size wb ad [([], i)] (prt p) 0)
set_option maxRecDepth 20000 in
set_option maxHeartbeats 4000000 in
theorem start_any {w : World} {G : Gr} {ad : Nat → Nat} (h : GAt w G ad) (hM : Mxl w) {i : Nat} (hi : i < G.length) (p : B) :
    Calls Tryz.prog 14 #[Pt (ad i), .string (ba p)] w fun e w' => StartP G ad i p w e w' := by
  have AK := aside (kind_at h hi)
  obtain ⟨k, hk⟩ : ∃ k, k = (nk G i).k := ⟨_, rfl⟩
  rw [← hk] at AK
  have Ak := aside hk
  have hk5 : 0 ≤ k := by
    rw [hk]
    rcases h.nod i hi with ⟨e, -⟩ | ⟨e, -⟩ | ⟨e, -⟩ | ⟨e, -⟩ | ⟨e, -⟩ <;> omega
  have hk6 : ¬ k < 0 := by omega
  have hps : (ba p).size = p.length := ba_size p
  have AP := aside (fun W hW hl => parts_any p W hW hl)
  have AM := aside hM
  obtain ⟨P, hP⟩ : ∃ P, P = ba p := ⟨_, rfl⟩
  rw [← hP] at AP hps ⊢
  obtain ⟨D, hD⟩ : ∃ D, D = ad i := ⟨_, rfl⟩
  rw [← hD] at AK ⊢
  have AD := aside hD
  clear h hk hP hD hM
  go_enter Tryz.func14, Tryz.ntmps14
  go_wp2_with fail
  refine AK.out.mono ?_
  rintro e w' ⟨rfl, rfl⟩
  clear AK
  by_cases h1 : k = 1
  · subst h1
    by_cases hl : 4096 < p.length
    · have hl2 : (4096 : Int) < (P.size : Int) := by omega
      have hb : beg G i p = 3 := by unfold beg; rw [if_neg (by rw [← Ak.out]; decide), if_pos hl]
      go_wp2_with fail
      go_ret2
      exact ⟨Below.refl _ _, (fun _ => by rw [hb]; rfl), (fun e => by rw [hb] at e; cases e)⟩
    · have hl2 : ¬ (4096 : Int) < (P.size : Int) := by omega
      have hb : beg G i p = 0 := by unfold beg; rw [if_neg (by rw [← Ak.out]; decide), if_neg hl]
      obtain ⟨W, hW⟩ : ∃ W, W = (w'.alloc (.cells #[.string ⟨#[]⟩, Pt D] 71)).alloc (.cells #[Pt w'.heap.size] 69) := ⟨_, rfl⟩
      have hB : Below w'.heap.size w' W := by rw [hW]; exact below_tr (below_al _ _) (below_al _ _)
      have AB := aside hB
      have hm0 : W.heap[w'.heap.size]? = some (.cells #[.string ⟨#[]⟩, Pt D] 71 (0, 0)) := by
        rw [hW, (below_al _ _).block _ (by simp)]; exact heap_alloc_new w' _
      have hs0 : W.heap[w'.heap.size + 1]? = some (.cells #[Pt w'.heap.size] 69 (0, 0)) := by rw [hW]; exact heap_alloc2_new w' _ _
      have Am := aside hm0
      have As := aside hs0
      have AW := aside (AP.out W (AM.out.below hB AM.out.lt) (by omega))
      clear hm0 hs0 hB
      go_wp2_with fail
      rw [← hW]
      refine AW.out.mono ?_
      rintro e w2 ⟨c, rfl, hb2, ho2⟩
      have A2 := aside hb2
      have AO := aside ho2
      clear hb2 ho2 hW AW
      go_wp2_with fail
      go_ret2
      obtain ⟨V, hV⟩ : ∃ V, V = w2.alloc (.cells #[.slice (some ⟨w'.heap.size + 1, 0, none⟩) 1 1, .slice (some ⟨W.heap.size, 0, none⟩) (prt p).length c, .int .i64 0] 74) := ⟨_, rfl⟩
      have hBV : Below w2.heap.size w2 V := by rw [hV]; exact below_al _ _
      have hBB : Below W.heap.size W V := below_tr A2.out hBV
      have hsz := AB.out.size
      have hsz2 := A2.out.size
      have hwl := (Array.getElem?_eq_some_iff.1 As.out).1
      refine ⟨below_tr AB.out (below_tr A2.out (below_al _ _)), fun e => absurd hb e, fun _ => ⟨w2.heap.size, rfl, ?_⟩⟩
      have hgoal : WkAt V w'.heap.size w2.heap.size ad [([], i)] (prt p) 0 := by
        refine ⟨by omega, _, _, [w'.heap.size], by rw [hV]; exact heap_alloc_new w2 _, ?_, ?_, ?_⟩
        · exact ⟨w'.heap.size + 1, 1, #[Pt w'.heap.size], rfl, by omega, (hBB.block _ hwl).trans As.out, Nat.le_refl _, by decide, .inl rfl, rfl⟩
        · refine ⟨rfl, fun j m q h1 h2 => ?_⟩
          cases j with
          | zero =>
            simp only [List.getElem?_cons_zero, Option.some.injEq] at h1 h2
            subst h1; subst h2
            have := (hBB.block _ (by omega)).trans Am.out
            rw [AD.out] at this
            exact this
          | succ j => simp at h1
        · exact (StAt.of_own AO.out).keep (fun g _ hg => hBV.block g (Array.getElem?_eq_some_iff.1 hg).1)
      rw [hV] at hgoal
      exact hgoal
  · have h2 : (k == 1) = false := beq_eq_false_iff_ne.2 h1
    have hb : beg G i p = 193 := by unfold beg; rw [if_pos (by rw [← Ak.out]; exact h1)]
    go_wp2_with fail
    go_ret2
    exact ⟨Below.refl _ _, (fun _ => by rw [hb]; rfl), (fun e => by rw [hb] at e; cases e)⟩
set_option maxRecDepth 20000 in
set_option maxHeartbeats 2000000 in
theorem walk_nil (p : ByteArray) (f : Bool) (w : World) : Calls Tryz.prog 6 #[.pointer none, .string p, .bool f] w fun e w' => e = .returned (.tuple #[.pointer none, .int .i64 1]) ∧ w' = w := by
  go_enter Tryz.func6, Tryz.ntmps6
  go_wp2_with fail
  refine (start_nil p w).mono ?_
  rintro e w' ⟨rfl, rfl⟩
  go_wp2_with fail
  go_ret2
  exact ⟨rfl, rfl⟩
theorem one_in {G : Gr} {i : Nat} (hi : i < G.length) : ∀ p ∈ ([([], i)] : Row), p.2 < G.length := fun p hp => by
  simp only [List.mem_singleton] at hp
  subst hp
  exact hi
theorem start_along {w w1 : World} {G : Gr} {ad : Nat → Nat} (h : GAt w G ad) (hM : Mxl w) {i : Nat} (hi : i < G.length) {p : B} (hb : beg G i p = 0) (hB : Below w.heap.size w w1) {wb : Nat} {l : List B} (hl : l.length ≤ p.length + 1) (hk : WkAt w1 w.heap.size wb ad [([], i)] l 0) (f : Bool) :
    Calls Tryz.prog 15 #[Pt wb, .bool f] w1 fun e w' => AlongP G w1 w.heap.size wb ad (wlk G f 16 l [([], i)]) e w' := by
  have hpl : p.length ≤ 4096 := by
    unfold beg at hb
    by_cases h1 : (nk G i).k ≠ 1
    · rw [if_pos h1] at hb; omega
    · rw [if_neg h1] at hb
      by_cases h2 : 4096 < p.length
      · rw [if_pos h2] at hb; omega
      · omega
  exact along_any hk (fun W hW => h.below (hB.trans hW)) (fun W hW => hM.below (hB.trans hW) hM.lt) (by omega) (by simp) (one_in hi) (by simp; omega) f
/-- What Walk answers. -/
def WalkA (ad : Nat → Nat) (R : Int × Row) : Value := .tuple #[if R.1 = 0 then Pt (ad (lst R.2)) else .pointer none, .int .i64 R.1]
set_option maxRecDepth 20000 in
set_option maxHeartbeats 4000000 in
theorem walk_any {w : World} {G : Gr} {ad : Nat → Nat} (h : GAt w G ad) (hM : Mxl w) {i : Nat} (hi : i < G.length) (p : B) (f : Bool) :
    Calls Tryz.prog 6 #[Pt (ad i), .string (ba p), .bool f] w fun e w' => e = .returned (WalkA ad (wkF G i p f)) ∧ Below w.heap.size w w' := by
  obtain ⟨V, hV⟩ : ∃ V, V = WalkA ad (wkF G i p f) := ⟨_, rfl⟩
  have AV := aside hV
  rw [← hV]
  clear hV
  have AS := aside (start_any h hM hi p)
  have AH := aside h
  have AM := aside hM
  obtain ⟨P, hP⟩ : ∃ P, P = ba p := ⟨_, rfl⟩
  rw [← hP] at AS ⊢
  obtain ⟨D, hD⟩ : ∃ D, D = ad i := ⟨_, rfl⟩
  rw [← hD] at AS ⊢
  clear h hM hP hD
  go_enter Tryz.func6, Tryz.ntmps6
  go_wp2_with fail
  refine AS.out.mono ?_
  rintro e w1 ⟨hb1, hno, hyes⟩
  have A1 := aside hb1
  clear AS hb1
  by_cases hb : beg G i p = 0
  · obtain ⟨wb, rfl, hk⟩ := hyes hb
    have AA := aside (start_along AH.out AM.out hi hb A1.out (prt_len p) hk f)
    have hF : wkF G i p f = wlk G f 16 (prt p) [([], i)] := by unfold wkF; rw [if_neg (fun e => e hb)]
    rw [hF] at AV
    obtain ⟨R, hR⟩ : ∃ R, R = wlk G f 16 (prt p) [([], i)] := ⟨_, rfl⟩
    rw [← hR] at AA AV
    have AR := aside hR
    clear hk hyes hno hR hF
    go_wp2_with fail
    refine AA.out.mono ?_
    rintro e w2 ⟨rfl, hk2, hb2⟩
    have A2 := aside hb2
    clear hb2 AA
    by_cases hz : R.1 = 0
    · obtain ⟨hne, hle, -, l', n', hk3⟩ := hk2 hz
      rw [hz]
      have AT := aside (at_any hk3 hne (by omega))
      clear hk2 hk3
      go_wp2_with fail
      refine AT.out.mono ?_
      rintro e w3 ⟨rfl, hb3⟩
      go_wp2_with fail
      go_ret2
      exact ⟨by rw [AV.out]; unfold WalkA; rw [hz, if_pos rfl]; rfl, below_tr (A1.out.trans A2.out) hb3⟩
    · have hz2 : (R.1 == 0) = false := beq_eq_false_iff_ne.2 hz
      obtain ⟨c, hc⟩ : ∃ c, c = R.1 := ⟨_, rfl⟩
      rw [← hc] at hz2 ⊢
      have Ac := aside hc
      clear hc
      go_wp2_with fail
      go_ret2
      exact ⟨by rw [AV.out]; unfold WalkA; rw [if_neg hz, Ac.out]; rfl, A1.out.trans A2.out⟩
  · have he := hno hb
    subst he
    have hF : wkF G i p f = (beg G i p, []) := by unfold wkF; rw [if_pos hb]
    rw [hF] at AV
    have hz2 : (beg G i p == 0) = false := beq_eq_false_iff_ne.2 hb
    obtain ⟨c, hc⟩ : ∃ c, c = beg G i p := ⟨_, rfl⟩
    rw [← hc] at hz2 hb AV ⊢
    clear hc hF
    clear hno hyes
    go_wp2_with fail
    go_ret2
    exact ⟨by rw [AV.out]; unfold WalkA; rw [if_neg hb]; rfl, A1.out⟩
end Go.Proofs.YtknjclekfmmfeabGreatDoor
