/- The tree of the chapter's examples: its records, exactly; walks over it, computed. -/
import Derived.Test.YtknjclekfmmfeabGreatDoorQKwe
import Derived.Test.YtknjclekfmmfeabGreatDoorQPpl
import Derived.Test.YtknjclekfmmfeabGreatDoorQPrl
namespace Go.Proofs.YtknjclekfmmfeabGreatDoor
open Go.RowKit Go.ChangeMaps

/-- One part: its code, the row behind it, the parts that come ahead of the rest, how many links are left. -/
def stp (G : Gr) (f : Bool) (k : Nat) (x : B) (row : Row) : Int × Row × List B × Nat :=
  if (nk G (lst row)).k ≠ 1 then (193, [], [], k)
  else if x = dd then (0, row.take (max (row.length - 1) 1), [], k)
  else if nameOk (ba x) = false then (190, [], [], k)
  else match lkp (nk G (lst row)).L x with
    | none => (192, [], [], k)
    | some i =>
      if (nk G i).k = 4 then (192, [], [], k)
      else if (nk G i).k = 3 then (0, row ++ [(x, (nk G i).u)], [], k)
      else if (nk G i).k = 2 then
        if f = false then (0, row ++ [(x, i)], [], k)
        else match k with
          | 0 => (200, [], [], 0)
          | k + 1 => (0, if abso (nk G i).to = true then row.take 1 else row, prt (nk G i).to, k)
      else (0, row ++ [(x, i)], [], k)
theorem stp_notdir {G : Gr} {row : Row} (f : Bool) (k : Nat) (x : B) (h : (nk G (lst row)).k ≠ 1) : stp G f k x row = (193, [], [], k) := by unfold stp; rw [if_pos h]
theorem stp_dd {G : Gr} {row : Row} (f : Bool) (k : Nat) (h : (nk G (lst row)).k = 1) : stp G f k dd row = (0, row.take (max (row.length - 1) 1), [], k) := by unfold stp; rw [if_neg (by simp [h]), if_pos rfl]
theorem stp_noname {G : Gr} {row : Row} (f : Bool) (k : Nat) {x : B} (h : (nk G (lst row)).k = 1) (hd : x ≠ dd) (hn : nameOk (ba x) = false) : stp G f k x row = (190, [], [], k) := by unfold stp; rw [if_neg (by simp [h]), if_neg hd, if_pos hn]
theorem stp_none {G : Gr} {row : Row} (f : Bool) (k : Nat) {x : B} (h : (nk G (lst row)).k = 1) (hd : x ≠ dd) (hn : nameOk (ba x) = true) (hl : lkp (nk G (lst row)).L x = none) : stp G f k x row = (192, [], [], k) := by unfold stp; rw [if_neg (by simp [h]), if_neg hd, if_neg (by rw [hn]; decide), hl]
theorem stp_some {G : Gr} {row : Row} (f : Bool) (k : Nat) {x : B} {i : Nat} (h : (nk G (lst row)).k = 1) (hd : x ≠ dd) (hn : nameOk (ba x) = true) (hl : lkp (nk G (lst row)).L x = some i) : stp G f k x row =
    (if (nk G i).k = 4 then (192, [], [], k)
    else if (nk G i).k = 3 then (0, row ++ [(x, (nk G i).u)], [], k)
    else if (nk G i).k = 2 then
      if f = false then (0, row ++ [(x, i)], [], k)
      else match k with
        | 0 => (200, [], [], 0)
        | k + 1 => (0, if abso (nk G i).to = true then row.take 1 else row, prt (nk G i).to, k)
    else (0, row ++ [(x, i)], [], k) : Int × Row × List B × Nat) := by unfold stp; rw [if_neg (by simp [h]), if_neg hd, if_neg (by rw [hn]; decide), hl]
theorem wlk_stp (G : Gr) (f : Bool) (k : Nat) (x : B) (l : List B) (row : Row) : wlk G f k (x :: l) row = if (stp G (f || !l.isEmpty) k x row).1 ≠ 0 then ((stp G (f || !l.isEmpty) k x row).1, []) else wlk G f (stp G (f || !l.isEmpty) k x row).2.2.2 ((stp G (f || !l.isEmpty) k x row).2.2.1 ++ l) (stp G (f || !l.isEmpty) k x row).2.1 := by
  obtain ⟨g, hg⟩ : ∃ g, g = (f || !l.isEmpty) := ⟨_, rfl⟩
  rw [← hg]
  by_cases h1 : (nk G (lst row)).k = 1
  · by_cases hd : x = dd
    · subst hd
      have e : stp G g k dd row = (0, row.take (max (row.length - 1) 1), [], k) := by unfold stp; rw [if_neg (by simp [h1]), if_pos rfl]
      rw [e, wlk_dd f k l h1]; rfl
    · cases hn : nameOk (ba x) with
      | false =>
        have e : stp G g k x row = (190, [], [], k) := by unfold stp; rw [if_neg (by simp [h1]), if_neg hd, if_pos hn]
        rw [e, wlk_noname f k l h1 hd hn]; rfl
      | true =>
        cases hl : lkp (nk G (lst row)).L x with
        | none =>
          have e : stp G g k x row = (192, [], [], k) := by unfold stp; rw [if_neg (by simp [h1]), if_neg hd, if_neg (by rw [hn]; decide), hl]
          rw [e, wlk_none f k l h1 hd hn hl]; rfl
        | some i =>
          rw [wlk_some f k l h1 hd hn hl, stp_some g k h1 hd hn hl]
          by_cases h4 : (nk G i).k = 4
          · rw [if_pos h4, if_pos h4]; rfl
          · rw [if_neg h4, if_neg h4]
            by_cases h3 : (nk G i).k = 3
            · rw [if_pos h3, if_pos h3]; rfl
            · rw [if_neg h3, if_neg h3]
              by_cases h2 : (nk G i).k = 2
              · rw [if_pos h2, if_pos h2]
                by_cases hf : f = false ∧ l = []
                · obtain ⟨rfl, rfl⟩ := hf
                  have : g = false := by rw [hg]; rfl
                  rw [if_pos ⟨rfl, rfl⟩, if_pos this]
                  simp [wlk_nil]
                · have : ¬ g = false := by
                    intro e
                    rw [hg] at e
                    simp only [Bool.or_eq_false_iff, Bool.not_eq_false', List.isEmpty_iff] at e
                    exact hf e
                  rw [if_neg hf, if_neg this]
                  cases k with
                  | zero => rfl
                  | succ k => rfl
              · rw [if_neg h2, if_neg h2]; rfl
  · have e : stp G g k x row = (193, [], [], k) := by unfold stp; rw [if_pos h1]
    rw [e, wlk_notdir f k x l h1]; rfl
/-- A walk with so many parts at most. -/
def wlf : Nat → Gr → Bool → Nat → List B → Row → Option (Int × Row)
  | 0, _, _, _, _, _ => none
  | _ + 1, _, _, _, [], row => some (0, row)
  | n + 1, G, f, k, x :: l, row => if (stp G (f || !l.isEmpty) k x row).1 ≠ 0 then some ((stp G (f || !l.isEmpty) k x row).1, []) else wlf n G f (stp G (f || !l.isEmpty) k x row).2.2.2 ((stp G (f || !l.isEmpty) k x row).2.2.1 ++ l) (stp G (f || !l.isEmpty) k x row).2.1
theorem wlf_eq : ∀ {n : Nat} {G : Gr} {f : Bool} {k : Nat} {l : List B} {row : Row} {R : Int × Row}, wlf n G f k l row = some R → wlk G f k l row = R
  | 0, _, _, _, _, _, _, h => by cases h
  | n + 1, G, f, k, [], row, R, h => by
    unfold wlf at h
    cases h
    exact wlk_nil G f k row
  | n + 1, G, f, k, x :: l, row, R, h => by
    unfold wlf at h
    rw [wlk_stp]
    by_cases h0 : (stp G (f || !l.isEmpty) k x row).1 = 0
    · rw [if_neg (by simp [h0])] at h ⊢
      exact wlf_eq h
    · rw [if_pos h0] at h ⊢
      cases h
      rfl
/-- A record without its blocks. -/
def kn (e : Ne) : Nk × Option Nat := (e.nk, e.par)
def L5 : List Spx := [⟨0, 0, [97], 1, []⟩, ⟨1, 0, [102], 0, []⟩, ⟨1, 0, [108], 2, [102]⟩, ⟨1, 0, [109], 2, [47, 97]⟩, ⟨0, 0, [114], 2, [114]⟩]
def Kn : Nat → List (Nk × Option Nat)
  | 0 => [(⟨1, [], [], 0⟩, none)]
  | 1 => [(⟨1, [([97], 1)], [], 0⟩, none), (⟨1, [], [], 0⟩, some 0)]
  | 2 => [(⟨1, [([97], 1)], [], 0⟩, none), (⟨1, [([102], 2)], [], 0⟩, some 0), (⟨0, [], [], 0⟩, none)]
  | 3 => [(⟨1, [([97], 1)], [], 0⟩, none), (⟨1, [([102], 2), ([108], 3)], [], 0⟩, some 0), (⟨0, [], [], 0⟩, none), (⟨2, [], [102], 0⟩, none)]
  | 4 => [(⟨1, [([97], 1)], [], 0⟩, none), (⟨1, [([102], 2), ([108], 3), ([109], 4)], [], 0⟩, some 0), (⟨0, [], [], 0⟩, none), (⟨2, [], [102], 0⟩, none), (⟨2, [], [47, 97], 0⟩, none)]
  | _ => [(⟨1, [([97], 1), ([114], 5)], [], 0⟩, none), (⟨1, [([102], 2), ([108], 3), ([109], 4)], [], 0⟩, some 0), (⟨0, [], [], 0⟩, none), (⟨2, [], [102], 0⟩, none), (⟨2, [], [47, 97], 0⟩, none), (⟨2, [], [114], 0⟩, none)]
theorem kn_cons {S : List Ne} {n : Nk} {p : Option Nat} {K : List (Nk × Option Nat)} (h : S.map kn = (n, p) :: K) : ∃ nb db mb rb T, S = ⟨n.k, n.L, n.to, n.u, p, nb, db, mb, rb⟩ :: T ∧ T.map kn = K := by
  cases S with
  | nil => cases h
  | cons e T =>
    rw [List.map_cons] at h
    injection h with h1 h2
    obtain ⟨k, L, to, u, par, nb, db, mb, rb⟩ := e
    unfold kn Ne.nk at h1
    simp only [Prod.mk.injEq] at h1
    obtain ⟨rfl, rfl⟩ := h1
    exact ⟨nb, db, mb, rb, T, rfl, h2⟩
theorem kn_nil {S : List Ne} (h : S.map kn = []) : S = [] := by
  cases S with
  | nil => rfl
  | cons e T => cases h
theorem known_step (i : Nat) (s : Spx) (S : List Ne) (e d : Ne) (q : Nat) (hs : L5[i]? = some s) (hS : S.map kn = Kn i) (hk : e.k = s.k) (hL : e.L = []) (hp : e.par = none) (ht : e.to = if s.k = 2 then s.to else []) (hu : e.u = 0) (hq : (dls S S.length)[pk s.i (dls S S.length).length]? = some q) (hd : S[q]? = some d) :
    adc (S ++ [e]) q d s.nm S.length e = 0 ∧ (sadd (S ++ [e]) q S.length s.nm).map kn = Kn (i + 1) := by
  obtain ⟨k, L, to, u, par, nb, db, mb, rb⟩ := e
  simp only at hk hL hp ht hu
  subst hL hp hu
  match i, hs with
  | 0, hs =>
    cases hs
    subst hk ht
    obtain ⟨n0, d0, m0, r0, T0, rfl, hT0⟩ := kn_cons hS
    obtain rfl := kn_nil hT0
    cases hq
    cases hd
    exact ⟨by kernel_rfl, rfl⟩
  | 1, hs =>
    cases hs
    subst hk ht
    obtain ⟨n0, d0, m0, r0, T0, rfl, hT0⟩ := kn_cons hS
    obtain ⟨n1, d1, m1, r1, T1, rfl, hT1⟩ := kn_cons hT0
    obtain rfl := kn_nil hT1
    cases hq
    cases hd
    exact ⟨by kernel_rfl, rfl⟩
  | 2, hs =>
    cases hs
    subst hk ht
    obtain ⟨n0, d0, m0, r0, T0, rfl, hT0⟩ := kn_cons hS
    obtain ⟨n1, d1, m1, r1, T1, rfl, hT1⟩ := kn_cons hT0
    obtain ⟨n2, d2, m2, r2, T2, rfl, hT2⟩ := kn_cons hT1
    obtain rfl := kn_nil hT2
    cases hq
    cases hd
    exact ⟨by kernel_rfl, rfl⟩
  | 3, hs =>
    cases hs
    subst hk ht
    obtain ⟨n0, d0, m0, r0, T0, rfl, hT0⟩ := kn_cons hS
    obtain ⟨n1, d1, m1, r1, T1, rfl, hT1⟩ := kn_cons hT0
    obtain ⟨n2, d2, m2, r2, T2, rfl, hT2⟩ := kn_cons hT1
    obtain ⟨n3, d3, m3, r3, T3, rfl, hT3⟩ := kn_cons hT2
    obtain rfl := kn_nil hT3
    cases hq
    cases hd
    exact ⟨by kernel_rfl, rfl⟩
  | 4, hs =>
    cases hs
    subst hk ht
    obtain ⟨n0, d0, m0, r0, T0, rfl, hT0⟩ := kn_cons hS
    obtain ⟨n1, d1, m1, r1, T1, rfl, hT1⟩ := kn_cons hT0
    obtain ⟨n2, d2, m2, r2, T2, rfl, hT2⟩ := kn_cons hT1
    obtain ⟨n3, d3, m3, r3, T3, rfl, hT3⟩ := kn_cons hT2
    obtain ⟨n4, d4, m4, r4, T4, rfl, hT4⟩ := kn_cons hT3
    obtain rfl := kn_nil hT4
    cases hq
    cases hd
    exact ⟨by kernel_rfl, rfl⟩
  | i + 5, hs => simp [L5] at hs
/-- The tree. -/
def G5 : Gr := (Kn 5).map (·.1)
theorem gr_known {S : List Ne} (h : S.map kn = Kn 5) : gr S = G5 := by
  unfold G5
  rw [← h, List.map_map]
  rfl
theorem wk_at {p : B} {f : Bool} {R : Int × Row} (hl : p.length ≤ 4096) (h : wlf 200 G5 f 16 (prt p) [([], 0)] = some R) : wkF G5 0 p f = R := by
  unfold wkF beg
  rw [if_neg (by rw [if_neg (by decide), if_neg (by omega)]; decide)]
  exact wlf_eq h
end Go.Proofs.YtknjclekfmmfeabGreatDoor
