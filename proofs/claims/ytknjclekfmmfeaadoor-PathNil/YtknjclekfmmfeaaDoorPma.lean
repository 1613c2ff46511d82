/- Paths as lists of parts, and walks over nodes that are known by their places in a row. -/
import Derived.Test.YtknjclekfmmfeaaDoorTm
import Derived.Test.YtknjclekfmmfeaaDoorNam2
namespace Go.Proofs.YtknjclekfmmfeaaDoor

def drp (x : B) : Bool := x == [] || x == [46]
/-- The parts of a path. -/
def prt (s : B) : List B := (spl s).filter fun x => !drp x
abbrev dd : B := [46, 46]
/-- What Clean leaves. -/
def cln : List B → List B → Option (List B)
  | [], a => some a
  | x :: l, a => if x = dd then cln l a.dropLast else if nameOk (ba x) = true then cln l (a ++ [x]) else none

/-- A node: its kind; what it holds, by names; where it leads; what is under it. -/
structure Nk where
  k : Int
  L : List (B × Nat)
  to : B
  u : Nat
abbrev Gr := List Nk
def nk (G : Gr) (i : Nat) : Nk := G[i]?.getD ⟨-1, [], [], 0⟩
def lkp : List (B × Nat) → B → Option Nat
  | [], _ => none
  | p :: L, s => if s = p.1 then some p.2 else lkp L s
abbrev Row := List (B × Nat)
/-- Where a row ends. -/
def lst (row : Row) : Nat := (row.getLast?.map (·.2)).getD 0
def abso (s : B) : Bool := s.head? == some 47
/-- A walk: k links may still be followed, l is left, row is behind it. -/
def wlk (G : Gr) (f : Bool) (k : Nat) (l : List B) (row : Row) : Int × Row :=
  match l with
  | [] => (0, row)
  | x :: l =>
    if (nk G (lst row)).k ≠ 1 then (193, [])
    else if x = dd then wlk G f k l (row.take (max (row.length - 1) 1))
    else if nameOk (ba x) = false then (190, [])
    else match lkp (nk G (lst row)).L x with
      | none => (192, [])
      | some i =>
        if (nk G i).k = 4 then (192, [])
        else if (nk G i).k = 3 then wlk G f k l (row ++ [(x, (nk G i).u)])
        else if (nk G i).k = 2 then
          if f = false ∧ l = [] then (0, row ++ [(x, i)])
          else match k with
            | 0 => (200, [])
            | k + 1 => wlk G f k (prt (nk G i).to ++ l) (if abso (nk G i).to = true then row.take 1 else row)
        else wlk G f k l (row ++ [(x, i)])
  termination_by (k, l.length)

theorem wlk_nil (G : Gr) (f : Bool) (k : Nat) (row : Row) : wlk G f k [] row = (0, row) := by rw [wlk]
theorem wlk_notdir {G : Gr} {row : Row} (f : Bool) (k : Nat) (x : B) (l : List B) (h : (nk G (lst row)).k ≠ 1) : wlk G f k (x :: l) row = (193, []) := by rw [wlk, if_pos h]
theorem wlk_dd {G : Gr} {row : Row} (f : Bool) (k : Nat) (l : List B) (h : (nk G (lst row)).k = 1) : wlk G f k (dd :: l) row = wlk G f k l (row.take (max (row.length - 1) 1)) := by
  rw [wlk, if_neg (by rw [h]; decide), if_pos rfl]
theorem wlk_noname {G : Gr} {row : Row} (f : Bool) (k : Nat) {x : B} (l : List B) (h : (nk G (lst row)).k = 1) (hd : x ≠ dd) (hn : nameOk (ba x) = false) : wlk G f k (x :: l) row = (190, []) := by
  rw [wlk, if_neg (by rw [h]; decide), if_neg hd, if_pos hn]
theorem wlk_none {G : Gr} {row : Row} (f : Bool) (k : Nat) {x : B} (l : List B) (h : (nk G (lst row)).k = 1) (hd : x ≠ dd) (hn : nameOk (ba x) = true) (hl : lkp (nk G (lst row)).L x = none) : wlk G f k (x :: l) row = (192, []) := by
  rw [wlk, if_neg (by rw [h]; decide), if_neg hd, if_neg (by rw [hn]; decide), hl]
theorem wlk_some {G : Gr} {row : Row} (f : Bool) (k : Nat) {x : B} (l : List B) {i : Nat} (h : (nk G (lst row)).k = 1) (hd : x ≠ dd) (hn : nameOk (ba x) = true) (hl : lkp (nk G (lst row)).L x = some i) : wlk G f k (x :: l) row =
    if (nk G i).k = 4 then (192, [])
    else if (nk G i).k = 3 then wlk G f k l (row ++ [(x, (nk G i).u)])
    else if (nk G i).k = 2 then
      if f = false ∧ l = [] then (0, row ++ [(x, i)])
      else match k with
        | 0 => (200, [])
        | k + 1 => wlk G f k (prt (nk G i).to ++ l) (if abso (nk G i).to = true then row.take 1 else row)
    else wlk G f k l (row ++ [(x, i)]) := by
  rw [wlk, if_neg (by rw [h]; decide), if_neg hd, if_neg (by rw [hn]; decide), hl]
theorem lst_snoc (row : Row) (x : B) (i : Nat) : lst (row ++ [(x, i)]) = i := by simp [lst]

theorem ok_ne {x : B} (h : nameOk (ba x) = true) : x ≠ dd ∧ x ≠ [] ∧ x ≠ [46] := by
  refine ⟨?_, ?_, ?_⟩
  · rintro rfl; simp [nameOk, Lib.toList_data, ba_list] at h
  · rintro rfl; simp [nameOk, Lib.toList_data, ba_list] at h
  · rintro rfl; simp [nameOk, Lib.toList_data, ba_list] at h
theorem ok_drp {x : B} (h : nameOk (ba x) = true) : drp x = false := by
  obtain ⟨-, h1, h2⟩ := ok_ne h
  unfold drp
  rw [beq_eq_false_iff_ne.2 h1, beq_eq_false_iff_ne.2 h2]; rfl
end Go.Proofs.YtknjclekfmmfeaaDoor
