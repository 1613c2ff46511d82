/- Paths as lists of parts, and walks over nodes that are known by their places in a row. What follows of walks: a row is walked again by its names; without links a row is what Clean leaves; the last part. Check. Rows that grow, and rows that were cut: what an append to either leaves. -/
import Derived.Test.YtknjclekfmmfeabGreatDoorGA
import Derived.Test.YtknjclekfmmfeabGreatDoorGB
namespace Go.Proofs.YtknjclekfmmfeabGreatDoor

def drp (x : B) : Bool := x == [] || x == [46]
/-- The parts of a path. -/
def prt (s : B) : List B := (spl s).filter fun x => !drp x
abbrev dd : B := [46, 46]
/-- What Clean leaves. -/
def cln : List B → List B → Option (List B)
  | [], a => some a
  | x :: l, a => if x = dd then cln l a.dropLast else if nameOk (ba x) = true then cln l (a ++ [x]) else none

/-- A node: its kind; what it holds, by names; where it leads; what is under it. -/
structure Nk where
  k : Int
  L : List (B × Nat)
  to : B
  u : Nat
abbrev Gr := List Nk
def nk (G : Gr) (i : Nat) : Nk := G[i]?.getD ⟨-1, [], [], 0⟩
def lkp : List (B × Nat) → B → Option Nat
  | [], _ => none
  | p :: L, s => if s = p.1 then some p.2 else lkp L s
abbrev Row := List (B × Nat)
/-- Where a row ends. -/
def lst (row : Row) : Nat := (row.getLast?.map (·.2)).getD 0
def abso (s : B) : Bool := s.head? == some 47
/-- A walk: k links may still be followed, l is left, row is behind it. -/
def wlk (G : Gr) (f : Bool) (k : Nat) (l : List B) (row : Row) : Int × Row :=
  match l with
  | [] => (0, row)
  | x :: l =>
    if (nk G (lst row)).k ≠ 1 then (193, [])
    else if x = dd then wlk G f k l (row.take (max (row.length - 1) 1))
    else if nameOk (ba x) = false then (190, [])
    else match lkp (nk G (lst row)).L x with
      | none => (192, [])
      | some i =>
        if (nk G i).k = 4 then (192, [])
        else if (nk G i).k = 3 then wlk G f k l (row ++ [(x, (nk G i).u)])
        else if (nk G i).k = 2 then
          if f = false ∧ l = [] then (0, row ++ [(x, i)])
          else match k with
            | 0 => (200, [])
            | k + 1 => wlk G f k (prt (nk G i).to ++ l) (if abso (nk G i).to = true then row.take 1 else row)
        else wlk G f k l (row ++ [(x, i)])
  termination_by (k, l.length)

theorem wlk_nil (G : Gr) (f : Bool) (k : Nat) (row : Row) : wlk G f k [] row = (0, row) := by rw [wlk]
theorem wlk_notdir {G : Gr} {row : Row} (f : Bool) (k : Nat) (x : B) (l : List B) (h : (nk G (lst row)).k ≠ 1) : wlk G f k (x :: l) row = (193, []) := by rw [wlk, if_pos h]
theorem wlk_dd {G : Gr} {row : Row} (f : Bool) (k : Nat) (l : List B) (h : (nk G (lst row)).k = 1) : wlk G f k (dd :: l) row = wlk G f k l (row.take (max (row.length - 1) 1)) := by
  rw [wlk, if_neg (by rw [h]; decide), if_pos rfl]
theorem wlk_noname {G : Gr} {row : Row} (f : Bool) (k : Nat) {x : B} (l : List B) (h : (nk G (lst row)).k = 1) (hd : x ≠ dd) (hn : nameOk (ba x) = false) : wlk G f k (x :: l) row = (190, []) := by
  rw [wlk, if_neg (by rw [h]; decide), if_neg hd, if_pos hn]
theorem wlk_none {G : Gr} {row : Row} (f : Bool) (k : Nat) {x : B} (l : List B) (h : (nk G (lst row)).k = 1) (hd : x ≠ dd) (hn : nameOk (ba x) = true) (hl : lkp (nk G (lst row)).L x = none) : wlk G f k (x :: l) row = (192, []) := by
  rw [wlk, if_neg (by rw [h]; decide), if_neg hd, if_neg (by rw [hn]; decide), hl]
theorem wlk_some {G : Gr} {row : Row} (f : Bool) (k : Nat) {x : B} (l : List B) {i : Nat} (h : (nk G (lst row)).k = 1) (hd : x ≠ dd) (hn : nameOk (ba x) = true) (hl : lkp (nk G (lst row)).L x = some i) : wlk G f k (x :: l) row =
    if (nk G i).k = 4 then (192, [])
    else if (nk G i).k = 3 then wlk G f k l (row ++ [(x, (nk G i).u)])
    else if (nk G i).k = 2 then
      if f = false ∧ l = [] then (0, row ++ [(x, i)])
      else match k with
        | 0 => (200, [])
        | k + 1 => wlk G f k (prt (nk G i).to ++ l) (if abso (nk G i).to = true then row.take 1 else row)
    else wlk G f k l (row ++ [(x, i)]) := by
  rw [wlk, if_neg (by rw [h]; decide), if_neg hd, if_neg (by rw [hn]; decide), hl]
theorem lst_snoc (row : Row) (x : B) (i : Nat) : lst (row ++ [(x, i)]) = i := by simp [lst]

theorem ok_ne {x : B} (h : nameOk (ba x) = true) : x ≠ dd ∧ x ≠ [] ∧ x ≠ [46] := by
  refine ⟨?_, ?_, ?_⟩
  · rintro rfl; simp [nameOk, Lib.toList_data, ba_list] at h
  · rintro rfl; simp [nameOk, Lib.toList_data, ba_list] at h
  · rintro rfl; simp [nameOk, Lib.toList_data, ba_list] at h
theorem ok_drp {x : B} (h : nameOk (ba x) = true) : drp x = false := by
  obtain ⟨-, h1, h2⟩ := ok_ne h
  unfold drp
  rw [beq_eq_false_iff_ne.2 h1, beq_eq_false_iff_ne.2 h2]; rfl
end Go.Proofs.YtknjclekfmmfeabGreatDoor

namespace Go.Proofs.YtknjclekfmmfeabGreatDoor

theorem any_no {l : B} : ∀ {cs : B}, ¬ (0 ≤ Lib.indexAny l cs) → ∀ c ∈ l, c ∉ cs := by
  induction l with
  | nil => intro cs _ c hc; simp at hc
  | cons b l ih =>
    intro cs h c hc
    unfold Lib.indexAny at h
    by_cases hb : cs.contains b
    · rw [if_pos hb] at h; omega
    · rw [if_neg hb] at h
      have hl : ¬ (0 ≤ Lib.indexAny l cs) := by
        intro h2
        have hne : (Lib.indexAny l cs == -1) = false := by rw [beq_eq_false_iff_ne]; omega
        rw [hne] at h
        simp only [Bool.false_eq_true, ↓reduceIte] at h
        omega
      rcases List.mem_cons.1 hc with rfl | hc
      · simpa using hb
      · exact ih hl c hc
/-- Names that may be, in a row. -/
def Oks (l : List B) : Prop := ∀ x ∈ l, nameOk (ba x) = true
theorem ok_nostroke {x : B} (h : nameOk (ba x) = true) : (47 : UInt8) ∉ x := by
  unfold nameOk at h
  simp only [Bool.and_eq_true, Bool.not_eq_true', decide_eq_false_iff_not, ba_list] at h
  exact fun hm => any_no h.2 47 hm (by simp)
theorem Oks.nostroke {l : List B} (h : Oks l) : nostroke l := fun x hx => ok_nostroke (h x hx)
theorem prt_pth {l : List B} (h : Oks l) : prt (pth l) = l := by
  by_cases hl : l = []
  · subst hl; decide
  · unfold prt
    rw [spl_pth h.nostroke hl]
    exact List.filter_eq_self.2 fun x hx => by rw [ok_drp (h x hx)]; rfl
theorem cln_oks : ∀ {l a : List B}, Oks l → cln l a = some (a ++ l)
  | [], a, _ => by simp [cln]
  | x :: l, a, h => by
    have hx := h x (by simp)
    unfold cln
    rw [if_neg (ok_ne hx).1, if_pos hx, cln_oks (fun y hy => h y (by simp [hy]))]
    simp
theorem oks_cln : ∀ {l a b : List B}, Oks a → cln l a = some b → Oks b
  | [], a, b, ha, h => by
    unfold cln at h
    cases h; exact ha
  | x :: l, a, b, ha, h => by
    unfold cln at h
    by_cases hx : x = dd
    · rw [if_pos hx] at h
      exact oks_cln (fun y hy => ha y ((List.dropLast_sublist _).mem hy)) h
    · rw [if_neg hx] at h
      by_cases hn : nameOk (ba x) = true
      · rw [if_pos hn] at h
        exact oks_cln (fun y hy => by
          rcases List.mem_append.1 hy with hy | hy
          · exact ha y hy
          · simp only [List.mem_singleton] at hy; exact hy ▸ hn) h
      · rw [if_neg hn] at h; cases h
theorem cln_cln {l b : List B} (h : cln l [] = some b) : cln (prt (pth b)) [] = some b := by
  have ho : Oks b := oks_cln (by intro x hx; simp at hx) h
  rw [prt_pth ho, cln_oks ho]; simp

/-- How long a path of parts is. -/
def wid (l : List B) : Nat := (l.map fun n => n.length + 1).sum
theorem wid_cons (x : B) (l : List B) : wid (x :: l) = x.length + 1 + wid l := by simp [wid]
theorem wid_app (a b : List B) : wid (a ++ b) = wid a + wid b := by simp [wid]
theorem ahd_wid : ∀ l : List B, (ahd l).length = wid l
  | [] => rfl
  | x :: l => by
    have := ahd_wid l
    unfold ahd at this ⊢
    rw [List.flatMap_cons, List.length_append, this, wid_cons]
    simp
theorem pth_wid (l : List B) : (pth l).length = wid l - 1 := by
  unfold pth
  rw [List.length_dropLast, ahd_wid]
theorem wid_dropLast (l : List B) : wid l.dropLast ≤ wid l := by
  by_cases hl : l = []
  · subst hl; exact Nat.le_refl _
  · have := List.dropLast_concat_getLast hl
    have h2 := wid_app l.dropLast [l.getLast hl]
    rw [this] at h2
    omega
theorem cln_wid : ∀ {l a b : List B}, cln l a = some b → wid b ≤ wid a + wid l
  | [], a, b, h => by
    unfold cln at h
    cases h; omega
  | x :: l, a, b, h => by
    unfold cln at h
    rw [wid_cons]
    by_cases hx : x = dd
    · rw [if_pos hx] at h
      have := cln_wid h
      have := wid_dropLast a
      omega
    · rw [if_neg hx] at h
      by_cases hn : nameOk (ba x) = true
      · rw [if_pos hn] at h
        have := cln_wid h
        rw [wid_app, wid_cons] at this
        have h0 : wid [] = 0 := rfl
        omega
      · rw [if_neg hn] at h; cases h
theorem wid_filter (p : B → Bool) : ∀ l : List B, wid (l.filter p) ≤ wid l
  | [] => Nat.le_refl _
  | x :: l => by
    have := wid_filter p l
    rw [List.filter_cons, wid_cons]
    split
    · rw [wid_cons]; omega
    · omega
theorem wid_spl (s : B) : wid (spl s) = s.length + 1 := by
  have h1 := pth_wid (spl s)
  rw [pth_spl] at h1
  have h2 : wid (spl s) ≠ 0 := by
    have := spl_ne s
    cases e : spl s with
    | nil => exact absurd e this
    | cons x l => rw [wid_cons]; omega
  omega
theorem wid_prt (s : B) : wid (prt s) ≤ s.length + 1 := by
  have := wid_filter (fun x => !drp x) (spl s)
  rw [wid_spl] at this
  exact this
theorem prt_len (s : B) : (prt s).length ≤ s.length + 1 := by
  have h1 := List.length_filter_le (fun x => !drp x) (spl s)
  have h2 := spl_len s
  have h3 := List.count_le_length (a := (47 : UInt8)) (l := s)
  unfold prt
  omega
theorem cln_len {s : B} {b : List B} (h : cln (prt s) [] = some b) : (pth b).length ≤ s.length := by
  have h1 := cln_wid h
  have h2 := wid_prt s
  have h3 : wid [] = 0 := rfl
  rw [pth_wid]
  omega

/-- Nodes that stand in a row as a walk meets them. -/
def Chn (G : Gr) : Nat → Row → Prop
  | _, [] => True
  | a, (x, i) :: r => (nk G a).k = 1 ∧ nameOk (ba x) = true ∧ (∃ j, lkp (nk G a).L x = some j ∧ (nk G j).k ≠ 4 ∧ (nk G j).k ≠ 2 ∧ ((nk G j).k = 3 ∧ i = (nk G j).u ∨ (nk G j).k ≠ 3 ∧ i = j)) ∧ Chn G i r
theorem Chn.app {G : Gr} : ∀ {r s : Row} {a : Nat}, Chn G a r → Chn G (lst ((([] : B), a) :: r)) s → Chn G a (r ++ s)
  | [], s, a, _, h => by simpa [lst] using h
  | (x, i) :: r, s, a, h, h2 => by
    refine ⟨h.1, h.2.1, h.2.2.1, Chn.app h.2.2.2 ?_⟩
    have e : lst ((([] : B), a) :: (x, i) :: r) = lst ((([] : B), i) :: r) := by
      unfold lst
      cases r with
      | nil => rfl
      | cons y r => simp [List.getLast?_cons_cons]
    rwa [e] at h2
theorem Chn.take {G : Gr} : ∀ {r : Row} {a : Nat} (n : Nat), Chn G a r → Chn G a (r.take n)
  | [], a, n, h => by simpa using h
  | (x, i) :: r, a, 0, h => trivial
  | (x, i) :: r, a, n + 1, h => ⟨h.1, h.2.1, h.2.2.1, h.2.2.2.take n⟩
theorem Chn.oks {G : Gr} : ∀ {r : Row} {a : Nat}, Chn G a r → Oks (r.map (·.1))
  | [], a, _ => by intro x hx; simp at hx
  | (x, i) :: r, a, h => by
    intro y hy
    rcases List.mem_cons.1 hy with rfl | hy
    · exact h.2.1
    · exact h.2.2.2.oks y hy
/-- A row is walked again by its names. -/
theorem wlk_again {G : Gr} (f : Bool) (k : Nat) : ∀ (r : Row) (pre : Row), Chn G (lst pre) r → wlk G f k (r.map (·.1)) pre = (0, pre ++ r)
  | [], pre, _ => by simp [wlk_nil]
  | (x, i) :: r, pre, h => by
    obtain ⟨h1, h2, ⟨j, h3, h4, h5, h6⟩, h7⟩ := h
    rw [List.map_cons, wlk_some f k _ h1 (ok_ne h2).1 h2 h3, if_neg h4]
    rcases h6 with ⟨e3, rfl⟩ | ⟨e3, rfl⟩
    · rw [if_pos e3, wlk_again f k r _ (by rw [lst_snoc]; exact h7)]; simp
    · rw [if_neg e3, if_neg h5, wlk_again f k r _ (by rw [lst_snoc]; exact h7)]; simp
theorem take_max (p : B × Nat) (r : Row) : (p :: r).take (max ((p :: r).length - 1) 1) = p :: r.dropLast := by
  cases r with
  | nil => rfl
  | cons q r =>
    have : max ((p :: q :: r).length - 1) 1 = (r.length) + 1 := by simp
    rw [this, List.take_succ_cons, List.dropLast_eq_take]
    simp
/-- A walk with all links followed keeps its row so. -/
theorem wlk_chn {G : Gr} : ∀ (k : Nat) (l : List B) (a : Nat) (r row : Row), Chn G a r → wlk G true k l ((([] : B), a) :: r) = (0, row) → ∃ r', row = ([], a) :: r' ∧ Chn G a r'
  | k, [], a, r, row, hc, h => by
    rw [wlk_nil] at h
    cases h
    exact ⟨r, rfl, hc⟩
  | k, x :: l, a, r, row, hc, h => by
    by_cases h1 : (nk G (lst (([], a) :: r))).k = 1
    · by_cases hd : x = dd
      · subst hd
        rw [wlk_dd true k l h1, take_max] at h
        exact wlk_chn k l a _ row (by rw [List.dropLast_eq_take]; exact hc.take _) h
      · by_cases hn : nameOk (ba x) = true
        · cases hl : lkp (nk G (lst (([], a) :: r))).L x with
          | none => rw [wlk_none true k l h1 hd hn hl] at h; cases h
          | some i =>
            rw [wlk_some true k l h1 hd hn hl] at h
            by_cases h4 : (nk G i).k = 4
            · rw [if_pos h4] at h; cases h
            · rw [if_neg h4] at h
              by_cases h3 : (nk G i).k = 3
              · rw [if_pos h3] at h
                exact wlk_chn k l a (r ++ [(x, (nk G i).u)]) row (hc.app ⟨h1, hn, ⟨i, hl, h4, by rw [h3]; decide, .inl ⟨h3, rfl⟩⟩, trivial⟩) h
              · rw [if_neg h3] at h
                by_cases h2 : (nk G i).k = 2
                · rw [if_pos h2, if_neg (by rintro ⟨e, -⟩; cases e)] at h
                  cases k with
                  | zero => cases h
                  | succ k =>
                    simp only at h
                    by_cases ha : abso (nk G i).to = true
                    · rw [if_pos ha] at h
                      exact wlk_chn k (prt (nk G i).to ++ l) a [] row trivial h
                    · rw [if_neg ha] at h
                      exact wlk_chn k (prt (nk G i).to ++ l) a r row hc h
                · rw [if_neg h2] at h
                  exact wlk_chn k l a (r ++ [(x, i)]) row (hc.app ⟨h1, hn, ⟨i, hl, h4, h2, .inr ⟨h3, rfl⟩⟩, trivial⟩) h
        · rw [wlk_noname true k l h1 hd (by simpa using hn)] at h; cases h
    · rw [wlk_notdir true k x l h1] at h; cases h
  termination_by k l => (k, l.length)

/-- Without links a row is what Clean leaves. -/
theorem wlk_cln {G : Gr} (hG : ∀ i, (nk G i).k ≠ 2) (k : Nat) : ∀ (l : List B) (a : Nat) (r row : Row), wlk G true k l ((([] : B), a) :: r) = (0, row) → ∃ r', row = ([], a) :: r' ∧ cln l (r.map (·.1)) = some (r'.map (·.1))
  | [], a, r, row, h => by
    rw [wlk_nil] at h
    cases h
    exact ⟨r, rfl, rfl⟩
  | x :: l, a, r, row, h => by
    by_cases h1 : (nk G (lst (([], a) :: r))).k = 1
    · by_cases hd : x = dd
      · subst hd
        rw [wlk_dd true k l h1, take_max] at h
        obtain ⟨r', e, h5⟩ := wlk_cln hG k l a _ row h
        refine ⟨r', e, ?_⟩
        unfold cln
        rw [if_pos rfl, ← h5, List.map_dropLast]
      · by_cases hn : nameOk (ba x) = true
        · unfold cln
          rw [if_neg hd, if_pos hn]
          cases hl : lkp (nk G (lst (([], a) :: r))).L x with
          | none => rw [wlk_none true k l h1 hd hn hl] at h; cases h
          | some i =>
            rw [wlk_some true k l h1 hd hn hl] at h
            by_cases h4 : (nk G i).k = 4
            · rw [if_pos h4] at h; cases h
            · rw [if_neg h4] at h
              by_cases h3 : (nk G i).k = 3
              · rw [if_pos h3] at h
                obtain ⟨r', e, h5⟩ := wlk_cln hG k l a (r ++ [(x, (nk G i).u)]) row h
                exact ⟨r', e, by rw [← h5]; simp⟩
              · rw [if_neg h3, if_neg (hG i)] at h
                obtain ⟨r', e, h5⟩ := wlk_cln hG k l a (r ++ [(x, i)]) row h
                exact ⟨r', e, by rw [← h5]; simp⟩
        · rw [wlk_noname true k l h1 hd (by simpa using hn)] at h; cases h
    · rw [wlk_notdir true k x l h1] at h; cases h

/-- A walk over one part that follows no link. -/
theorem wlk_one {G : Gr} (k k' : Nat) (x : B) (row : Row) : wlk G false k [x] row = wlk G false k' [x] row := by
  by_cases h1 : (nk G (lst row)).k = 1
  · by_cases hd : x = dd
    · subst hd; rw [wlk_dd false k _ h1, wlk_dd false k' _ h1, wlk_nil, wlk_nil]
    · by_cases hn : nameOk (ba x) = true
      · cases hl : lkp (nk G (lst row)).L x with
        | none => rw [wlk_none false k _ h1 hd hn hl, wlk_none false k' _ h1 hd hn hl]
        | some i =>
          rw [wlk_some false k _ h1 hd hn hl, wlk_some false k' _ h1 hd hn hl]
          simp only [wlk_nil, and_self, ↓reduceIte]
      · rw [wlk_noname false k _ h1 hd (by simpa using hn), wlk_noname false k' _ h1 hd (by simpa using hn)]
  · rw [wlk_notdir false k x _ h1, wlk_notdir false k' x _ h1]
/-- The last part behind all others. -/
theorem wlk_snoc {G : Gr} : ∀ (k : Nat) (l : List B) (x : B) (row : Row), wlk G false k (l ++ [x]) row = if (wlk G true k l row).1 = 0 then wlk G false 0 [x] (wlk G true k l row).2 else ((wlk G true k l row).1, [])
  | k, [], x, row => by
    rw [wlk_nil, List.nil_append, if_pos rfl]
    exact wlk_one k 0 x row
  | k, y :: l, x, row => by
    rw [List.cons_append]
    by_cases h1 : (nk G (lst row)).k = 1
    · by_cases hd : y = dd
      · subst hd
        rw [wlk_dd false k _ h1, wlk_dd true k _ h1]
        exact wlk_snoc k l x _
      · by_cases hn : nameOk (ba y) = true
        · cases hl : lkp (nk G (lst row)).L y with
          | none =>
            rw [wlk_none false k _ h1 hd hn hl, wlk_none true k _ h1 hd hn hl]
            rfl
          | some i =>
            rw [wlk_some false k _ h1 hd hn hl, wlk_some true k _ h1 hd hn hl]
            by_cases h4 : (nk G i).k = 4
            · rw [if_pos h4, if_pos h4]; rfl
            · rw [if_neg h4, if_neg h4]
              by_cases h3 : (nk G i).k = 3
              · rw [if_pos h3, if_pos h3]
                exact wlk_snoc k l x _
              · rw [if_neg h3, if_neg h3]
                by_cases h2 : (nk G i).k = 2
                · rw [if_pos h2, if_pos h2, if_neg (c := false = false ∧ l ++ [x] = []) (by rintro ⟨-, e⟩; simp at e), if_neg (c := true = false ∧ l = []) (by rintro ⟨e, -⟩; cases e)]
                  cases k with
                  | zero => rfl
                  | succ k =>
                    simp only
                    rw [← List.append_assoc]
                    exact wlk_snoc k (prt (nk G i).to ++ l) x _
                · rw [if_neg h2, if_neg h2]
                  exact wlk_snoc k l x _
        · rw [wlk_noname false k _ h1 hd (by simpa using hn), wlk_noname true k _ h1 hd (by simpa using hn)]; rfl
    · rw [wlk_notdir false k y _ h1, wlk_notdir true k y _ h1]; rfl
  termination_by k l => (k, l.length)
end Go.Proofs.YtknjclekfmmfeabGreatDoor

namespace Go.Proofs.YtknjclekfmmfeabGreatDoor
open Go.RowKit Go.ChangeMaps

set_option maxRecDepth 20000 in
set_option maxHeartbeats 1000000 in
theorem check_any (s : ByteArray) (w : World) : Calls Tryz.prog 22 #[.string s] w fun e w' => e = .returned (.int .i64 (if nameOk s = true then 0 else 190)) ∧ Below w.heap.size w w' := by
  obtain ⟨r, hr⟩ : ∃ r : Int, r = if nameOk s = true then 0 else 190 := ⟨_, rfl⟩
  have AR := aside hr
  rw [← hr]
  clear hr
  go_enter Tryz.func22, Tryz.ntmps22
  go_wp2_with fail
  · next h => go_ret; exact ⟨by rw [AR.out, nameNo (.inl h)]; rfl, Below.refl _ _⟩
  · next h => go_ret; exact ⟨by rw [AR.out, nameNo (.inr (.inr (.inl h)))]; rfl, Below.refl _ _⟩
  · next h1 h2 h3 h =>
    go_ret
    refine ⟨?_, Below.refl _ _⟩
    rcases h with ((h | h) | h) | h
    · exact absurd (List.isEmpty_iff.1 h) h1
    · omega
    · exact absurd (beq_iff_eq.1 h) h3
    · rw [AR.out, nameNo (.inr (.inr (.inr (beq_iff_eq.1 h))))]; rfl
  · next h1 h2 h3 h _ _ _ _ _ _ =>
    have h4 := beq_eq_false_iff_ne.1 h.2
    refine (containsAny_any s w (by omega)).mono ?_
    rintro e w' ⟨rfl, hb⟩
    have AY := aside (nameYes h1 (by omega) h3 h4)
    cases hz : decide (0 ≤ Lib.indexAny s.data.toList [0, 47])
    · go_wp2
      go_ret
      exact ⟨by rw [AR.out, AY.out, hz]; rfl, hb⟩
    · go_wp2
      go_ret
      exact ⟨by rw [AR.out, AY.out, hz]; rfl, hb⟩
  · next h => go_ret; exact ⟨by rw [AR.out, nameNo (.inr (.inl (by omega)))]; rfl, Below.refl _ _⟩
end Go.Proofs.YtknjclekfmmfeabGreatDoor

namespace Go.Proofs.YtknjclekfmmfeabGreatDoor
open Go.RowKit Go.ChangeMaps

/-- An append to a slice without room: a new row. -/
theorem run_append_tight {P : Program} (w : World) (t ty e : TypeId) (z : Value) (bytes : Nat) (ht : P.underlying t = some (.slice e)) (hinfo : (P.info? e).map (fun i => (i.zero, i.size, i.bytes)) = some (some z, 1, bytes))
    (hzs : z.cells.size = 1) (g : Nat) (xs : List Value) (hxs : ∀ j u, xs[j]? = some u → w.cell? ⟨g, j, none⟩ = some u)
    (a : Addr) (m c : Nat) (news : List Value) (hl : news.length = m) (hnews : ∀ j u, news[j]? = some u → w.cell? (a.add j) = some u)
    (h63 : xs.length + m ≤ maxLen) (hbytes : (xs.length + m) * bytes ≤ 140737488355328) (hm : 0 < m) :
    ∃ v' w', (Builtin.append_ #[t, t] ty #[.slice (some ⟨g, 0, none⟩) xs.length xs.length, .slice (some a) m c]).run P w = .ok v' w' ∧ w'.ownsRow w.heap.size e 1 v' (xs.length + m) (xs ++ news) ∧ Below w.heap.size w w' := by
  obtain ⟨i, hi, hz, hs, hb⟩ := info_parts hinfo
  have hx := run_append_grow (P := P) w t ty e i z ht hi hz ⟨g, 0, none⟩ xs.length xs.length xs (by rw [hs]; omega) (fun j u hj => by rw [Addr.add_lit, Nat.zero_add]; exact hxs j u hj) a m c news (by rw [hs]; omega) hnews (by omega) (by have h := h63; unfold maxLen at h; omega) (by rw [hb]; exact growslice_fits (by omega) hbytes)
  refine ⟨_, _, hx, ⟨by simp [hl], .inr ⟨w.heap.size, _, _, rfl, Nat.le_refl _, heap_alloc_new w.drew _, grownCap_ge w _ _ e, grownCap_le_maxLen w _ _ e h63, ?_, ?_⟩⟩, below_tr (below_dr w) (below_al w.drew _)⟩
  · have hge := grownCap_ge w (xs.length + m) xs.length e
    simp only [Array.size_append, List.size_toArray, size_zeroCells, hzs, hl]
    omega
  · simp only [Array.toList_append, List.append_assoc]
    rw [← List.append_assoc, Nat.mul_one, ← hl, ← List.length_append]
    exact List.take_left

/-- A row of one's own from lo on, whose room may have been cut. -/
def RwAt (w : World) (lo : Nat) (e : TypeId) (rv : Value) (xs : List Value) : Prop :=
  ∃ g c cs, rv = .slice (some ⟨g, 0, none⟩) xs.length c ∧ lo ≤ g ∧ w.heap[g]? = some (.cells cs e (0, 0)) ∧ xs.length ≤ c ∧ c ≤ maxLen ∧ (c = cs.size ∨ c = xs.length) ∧ cs.toList.take xs.length = xs
theorem RwAt.of_own {w : World} {lo : Nat} {e : TypeId} {rv : Value} {xs : List Value} (h : w.ownsRow lo e 1 rv xs.length xs) (hx : xs ≠ []) : RwAt w lo e rv xs := by
  rcases h.2 with ⟨rfl, h0⟩ | ⟨g, c, cs, rfl, h1, h2, h3, h4, h5, h6⟩
  · exact absurd (List.eq_nil_of_length_eq_zero h0) hx
  · exact ⟨g, c, cs, rfl, h1, h2, h3, h4, .inl (by omega), by simpa using h6⟩
theorem RwAt.keep {w w' : World} {lo : Nat} {e : TypeId} {rv : Value} {xs : List Value} (h : RwAt w lo e rv xs) (hk : ∀ (g : Nat) (cs : Array Value), w.heap[g]? = some (Obj.cells cs e (0, 0)) → w'.heap[g]? = w.heap[g]?) : RwAt w' lo e rv xs := by
  obtain ⟨g, c, cs, h0, h1, h2, h3⟩ := h
  exact ⟨g, c, cs, h0, h1, (hk g cs h2).trans h2, h3⟩
theorem RwAt.cell {w : World} {lo : Nat} {e : TypeId} {g n c : Nat} {xs : List Value} (h : RwAt w lo e (.slice (some ⟨g, 0, none⟩) n c) xs) {j : Nat} {u : Value} (hj : xs[j]? = some u) : w.cell? ⟨g, j, none⟩ = some u := by
  obtain ⟨g', c', cs, h0, h1, h2, h3, h4, h5, h6⟩ := h
  injection h0 with e1 e2 e3
  injection e1 with e1
  injection e1 with e1
  subst e1
  rw [cell_of_row w g j _ _ _ h2]
  rw [← h6, List.getElem?_take] at hj
  split at hj
  · simpa using hj
  · cases hj
/-- The first of a row. -/
theorem RwAt.take {w : World} {lo : Nat} {e : TypeId} {g n c : Nat} {xs : List Value} (h : RwAt w lo e (.slice (some ⟨g, 0, none⟩) n c) xs) (k : Nat) (hk : k ≤ xs.length) : RwAt w lo e (.slice (some ⟨g, 0, none⟩) k k) (xs.take k) := by
  obtain ⟨g', c', cs, h0, h1, h2, h3, h4, h5, h6⟩ := h
  injection h0 with e1 e2 e3
  injection e1 with e1
  injection e1 with e1
  subst e1
  have hl : (xs.take k).length = k := by rw [List.length_take]; omega
  refine ⟨g, k, cs, by rw [hl], h1, h2, by omega, by omega, .inr hl.symm, ?_⟩
  rw [hl, ← h6, List.take_take, Nat.min_eq_left hk]
theorem RwAt.append {P : Program} {w : World} {lo : Nat} {e : TypeId} {rv : Value} {xs : List Value} (h : RwAt w lo e rv xs) (hlo : lo ≤ w.heap.size) (t ty : TypeId) (z : Value) (bytes : Nat) (ht : P.underlying t = some (.slice e)) (hinfo : (P.info? e).map (fun i => (i.zero, i.size, i.bytes)) = some (some z, 1, bytes))
    (hzs : z.cells.size = 1) (a : Addr) (c : Nat) (u : Value) (hu : w.cell? a = some u) (h1 : u.oneCell' = true) (h63 : xs.length ≤ 1000000) (hby : bytes ≤ 100) :
    ∃ v' w', (Builtin.append_ #[t, t] ty #[rv, .slice (some a) 1 c]).run P w = .ok v' w' ∧ RwAt w' lo e v' (xs ++ [u]) ∧ Upd (fun k => lo ≤ k ∧ ∃ cs, w.heap[k]? = some (Obj.cells cs e (0, 0))) w w' := by
  obtain ⟨g, c', cs, rfl, g1, g2, g3, g4, g5, g6⟩ := h
  have hb : (xs.length + 1) * bytes ≤ 140737488355328 := by
    have : (xs.length + 1) * bytes ≤ 1000001 * 100 := Nat.mul_le_mul (by omega) hby
    omega
  have hn : ∀ (j : Nat) (x : Value), ([u] : List Value)[j]? = some x → w.cell? (a.add j) = some x := fun j x hj => by
    cases j with
    | zero => simp only [List.getElem?_cons_zero, Option.some.injEq] at hj; rw [show a.add 0 = a by unfold Addr.add; rw [if_pos rfl], hu, hj]
    | succ j => simp at hj
  rcases g5 with g5 | g5
  · have hown : w.ownsRow 0 e 1 (.slice (some ⟨g, 0, none⟩) xs.length c') xs.length xs := ⟨by omega, .inr ⟨g, c', cs, rfl, Nat.zero_le _, g2, g3, g4, by omega, by simpa using g6⟩⟩
    obtain ⟨v', w', hr, h2, h3, h4⟩ := run_append_where (P := P) w t ty e z 1 bytes ht hinfo hzs (by omega) _ _ xs hown a 1 c [u] rfl hn (by simpa using h1) (by unfold maxLen; omega) hb (by omega)
    refine ⟨v', w', hr, ?_, ?_⟩
    · rcases h2.2 with ⟨-, h0⟩ | ⟨k, c2, cs2, rfl, -, k2, k3, k4, k5, k6⟩
      · omega
      · refine ⟨k, c2, cs2, by simp, ?_, k2, by simpa using k3, k4, .inl (by omega), by simpa using k6⟩
        rcases h4 with ⟨h4, -⟩ | ⟨h4, -⟩
        · simp only [Value.ownBlock, Option.some.injEq] at h4; omega
        · simp only [Value.ownBlock, Option.some.injEq] at h4; omega
    · refine Upd.of_grown h3 fun k hk => ?_
      simp only [Value.ownBlock, Option.some.injEq] at hk
      subst hk
      exact ⟨g1, cs, g2⟩
  · subst g5
    obtain ⟨v', w', hr, h2, h3⟩ := run_append_tight (P := P) w t ty e z bytes ht hinfo hzs g xs (fun j x hj => by
      rw [cell_of_row w g j _ _ _ g2]
      rw [← g6, List.getElem?_take] at hj
      split at hj
      · simpa using hj
      · cases hj) a 1 c [u] rfl hn (by unfold maxLen; omega) hb (by omega)
    refine ⟨v', w', hr, ?_, Upd.of_below h3⟩
    rcases h2.2 with ⟨-, h0⟩ | ⟨k, c2, cs2, rfl, k1, k2, k3, k4, k5, k6⟩
    · omega
    · exact ⟨k, c2, cs2, by simp, by omega, k2, by simpa using k3, k4, .inl (by omega), by simpa using k6⟩
end Go.Proofs.YtknjclekfmmfeabGreatDoor
