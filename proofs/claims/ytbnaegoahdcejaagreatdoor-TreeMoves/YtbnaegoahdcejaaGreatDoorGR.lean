/- Paths as lists of parts, and walks over nodes that are known by their places in a row. What follows of walks: a row is walked again by its names; without links a row is what Clean leaves; the last part. The document's own nodes: names. The document's own nodes: kinds, places among the kids. The document's own nodes: Get, Dir, Link, File. The document's own nodes: the way up. The document's own nodes: Link; a node without kids has no height. The document's own nodes: Add. The document's own nodes: Add, walked. -/
import Derived.Test.YtbnaegoahdcejaaGreatDoorGA
import Derived.Test.YtbnaegoahdcejaaGreatDoorGB
import Derived.Sort.Walk0
namespace Go.Proofs.YtbnaegoahdcejaaGreatDoor

def drp (x : B) : Bool := x == [] || x == [46]
/-- The parts of a path. -/
def prt (s : B) : List B := (spl s).filter fun x => !drp x
abbrev dd : B := [46, 46]
/-- What Clean leaves. -/
def cln : List B → List B → Option (List B)
  | [], a => some a
  | x :: l, a => if x = dd then cln l a.dropLast else if nameOk (ba x) = true then cln l (a ++ [x]) else none

/-- A node: its kind; what it holds, by names; where it leads; what is under it. -/
structure Nk where
  k : Int
  L : List (B × Nat)
  to : B
  u : Nat
abbrev Gr := List Nk
def nk (G : Gr) (i : Nat) : Nk := G[i]?.getD ⟨-1, [], [], 0⟩
def lkp : List (B × Nat) → B → Option Nat
  | [], _ => none
  | p :: L, s => if s = p.1 then some p.2 else lkp L s
abbrev Row := List (B × Nat)
/-- Where a row ends. -/
def lsr (row : Row) : Nat := (row.getLast?.map (·.2)).getD 0
def abso (s : B) : Bool := s.head? == some 47
/-- A walk: k links may still be followed, l is left, row is behind it. -/
def wlk (G : Gr) (f : Bool) (k : Nat) (l : List B) (row : Row) : Int × Row :=
  match l with
  | [] => (0, row)
  | x :: l =>
    if (nk G (lsr row)).k ≠ 1 then (193, [])
    else if x = dd then wlk G f k l (row.take (max (row.length - 1) 1))
    else if nameOk (ba x) = false then (190, [])
    else match lkp (nk G (lsr row)).L x with
      | none => (192, [])
      | some i =>
        if (nk G i).k = 4 then (192, [])
        else if (nk G i).k = 3 then wlk G f k l (row ++ [(x, (nk G i).u)])
        else if (nk G i).k = 2 then
          if f = false ∧ l = [] then (0, row ++ [(x, i)])
          else match k with
            | 0 => (200, [])
            | k + 1 => wlk G f k (prt (nk G i).to ++ l) (if abso (nk G i).to = true then row.take 1 else row)
        else wlk G f k l (row ++ [(x, i)])
  termination_by (k, l.length)

theorem wlk_nil (G : Gr) (f : Bool) (k : Nat) (row : Row) : wlk G f k [] row = (0, row) := by rw [wlk]
theorem wlk_notdir {G : Gr} {row : Row} (f : Bool) (k : Nat) (x : B) (l : List B) (h : (nk G (lsr row)).k ≠ 1) : wlk G f k (x :: l) row = (193, []) := by rw [wlk, if_pos h]
theorem wlk_dd {G : Gr} {row : Row} (f : Bool) (k : Nat) (l : List B) (h : (nk G (lsr row)).k = 1) : wlk G f k (dd :: l) row = wlk G f k l (row.take (max (row.length - 1) 1)) := by
  rw [wlk, if_neg (by rw [h]; decide), if_pos rfl]
theorem wlk_noname {G : Gr} {row : Row} (f : Bool) (k : Nat) {x : B} (l : List B) (h : (nk G (lsr row)).k = 1) (hd : x ≠ dd) (hn : nameOk (ba x) = false) : wlk G f k (x :: l) row = (190, []) := by
  rw [wlk, if_neg (by rw [h]; decide), if_neg hd, if_pos hn]
theorem wlk_none {G : Gr} {row : Row} (f : Bool) (k : Nat) {x : B} (l : List B) (h : (nk G (lsr row)).k = 1) (hd : x ≠ dd) (hn : nameOk (ba x) = true) (hl : lkp (nk G (lsr row)).L x = none) : wlk G f k (x :: l) row = (192, []) := by
  rw [wlk, if_neg (by rw [h]; decide), if_neg hd, if_neg (by rw [hn]; decide), hl]
theorem wlk_some {G : Gr} {row : Row} (f : Bool) (k : Nat) {x : B} (l : List B) {i : Nat} (h : (nk G (lsr row)).k = 1) (hd : x ≠ dd) (hn : nameOk (ba x) = true) (hl : lkp (nk G (lsr row)).L x = some i) : wlk G f k (x :: l) row =
    if (nk G i).k = 4 then (192, [])
    else if (nk G i).k = 3 then wlk G f k l (row ++ [(x, (nk G i).u)])
    else if (nk G i).k = 2 then
      if f = false ∧ l = [] then (0, row ++ [(x, i)])
      else match k with
        | 0 => (200, [])
        | k + 1 => wlk G f k (prt (nk G i).to ++ l) (if abso (nk G i).to = true then row.take 1 else row)
    else wlk G f k l (row ++ [(x, i)]) := by
  rw [wlk, if_neg (by rw [h]; decide), if_neg hd, if_neg (by rw [hn]; decide), hl]
theorem lsr_snoc (row : Row) (x : B) (i : Nat) : lsr (row ++ [(x, i)]) = i := by simp [lsr]

theorem ok_ne {x : B} (h : nameOk (ba x) = true) : x ≠ dd ∧ x ≠ [] ∧ x ≠ [46] := by
  refine ⟨?_, ?_, ?_⟩
  · rintro rfl; simp [nameOk, Lib.toList_data, ba_list] at h
  · rintro rfl; simp [nameOk, Lib.toList_data, ba_list] at h
  · rintro rfl; simp [nameOk, Lib.toList_data, ba_list] at h
theorem ok_drp {x : B} (h : nameOk (ba x) = true) : drp x = false := by
  obtain ⟨-, h1, h2⟩ := ok_ne h
  unfold drp
  rw [beq_eq_false_iff_ne.2 h1, beq_eq_false_iff_ne.2 h2]; rfl
end Go.Proofs.YtbnaegoahdcejaaGreatDoor

namespace Go.Proofs.YtbnaegoahdcejaaGreatDoor

theorem anyn_no {l : B} : ∀ {cs : B}, ¬ (0 ≤ Lib.indexAny l cs) → ∀ c ∈ l, c ∉ cs := by
  induction l with
  | nil => intro cs _ c hc; simp at hc
  | cons b l ih =>
    intro cs h c hc
    unfold Lib.indexAny at h
    by_cases hb : cs.contains b
    · rw [if_pos hb] at h; omega
    · rw [if_neg hb] at h
      have hl : ¬ (0 ≤ Lib.indexAny l cs) := by
        intro h2
        have hne : (Lib.indexAny l cs == -1) = false := by rw [beq_eq_false_iff_ne]; omega
        rw [hne] at h
        simp only [Bool.false_eq_true, ↓reduceIte] at h
        omega
      rcases List.mem_cons.1 hc with rfl | hc
      · simpa using hb
      · exact ih hl c hc
/-- Names that may be, in a row. -/
def Oks (l : List B) : Prop := ∀ x ∈ l, nameOk (ba x) = true
theorem ok_nostroke {x : B} (h : nameOk (ba x) = true) : (47 : UInt8) ∉ x := by
  unfold nameOk at h
  simp only [Bool.and_eq_true, Bool.not_eq_true', decide_eq_false_iff_not, ba_list] at h
  exact fun hm => anyn_no h.2 47 hm (by simp)
theorem Oks.nostroke {l : List B} (h : Oks l) : nostroke l := fun x hx => ok_nostroke (h x hx)
theorem prt_pth {l : List B} (h : Oks l) : prt (pth l) = l := by
  by_cases hl : l = []
  · subst hl; decide
  · unfold prt
    rw [spl_pth h.nostroke hl]
    exact List.filter_eq_self.2 fun x hx => by rw [ok_drp (h x hx)]; rfl
theorem cln_oks : ∀ {l a : List B}, Oks l → cln l a = some (a ++ l)
  | [], a, _ => by simp [cln]
  | x :: l, a, h => by
    have hx := h x (by simp)
    unfold cln
    rw [if_neg (ok_ne hx).1, if_pos hx, cln_oks (fun y hy => h y (by simp [hy]))]
    simp
theorem oks_cln : ∀ {l a b : List B}, Oks a → cln l a = some b → Oks b
  | [], a, b, ha, h => by
    unfold cln at h
    cases h; exact ha
  | x :: l, a, b, ha, h => by
    unfold cln at h
    by_cases hx : x = dd
    · rw [if_pos hx] at h
      exact oks_cln (fun y hy => ha y ((List.dropLast_sublist _).mem hy)) h
    · rw [if_neg hx] at h
      by_cases hn : nameOk (ba x) = true
      · rw [if_pos hn] at h
        exact oks_cln (fun y hy => by
          rcases List.mem_append.1 hy with hy | hy
          · exact ha y hy
          · simp only [List.mem_singleton] at hy; exact hy ▸ hn) h
      · rw [if_neg hn] at h; cases h
theorem cln_cln {l b : List B} (h : cln l [] = some b) : cln (prt (pth b)) [] = some b := by
  have ho : Oks b := oks_cln (by intro x hx; simp at hx) h
  rw [prt_pth ho, cln_oks ho]; simp

/-- How long a path of parts is. -/
def wid (l : List B) : Nat := (l.map fun n => n.length + 1).sum
theorem wid_cons (x : B) (l : List B) : wid (x :: l) = x.length + 1 + wid l := by simp [wid]
theorem wid_app (a b : List B) : wid (a ++ b) = wid a + wid b := by simp [wid]
theorem ahd_wid : ∀ l : List B, (ahd l).length = wid l
  | [] => rfl
  | x :: l => by
    have := ahd_wid l
    unfold ahd at this ⊢
    rw [List.flatMap_cons, List.length_append, this, wid_cons]
    simp
theorem pth_wid (l : List B) : (pth l).length = wid l - 1 := by
  unfold pth
  rw [List.length_dropLast, ahd_wid]
theorem wid_dropLast (l : List B) : wid l.dropLast ≤ wid l := by
  by_cases hl : l = []
  · subst hl; exact Nat.le_refl _
  · have := List.dropLast_concat_getLast hl
    have h2 := wid_app l.dropLast [l.getLast hl]
    rw [this] at h2
    omega
theorem cln_wid : ∀ {l a b : List B}, cln l a = some b → wid b ≤ wid a + wid l
  | [], a, b, h => by
    unfold cln at h
    cases h; omega
  | x :: l, a, b, h => by
    unfold cln at h
    rw [wid_cons]
    by_cases hx : x = dd
    · rw [if_pos hx] at h
      have := cln_wid h
      have := wid_dropLast a
      omega
    · rw [if_neg hx] at h
      by_cases hn : nameOk (ba x) = true
      · rw [if_pos hn] at h
        have := cln_wid h
        rw [wid_app, wid_cons] at this
        have h0 : wid [] = 0 := rfl
        omega
      · rw [if_neg hn] at h; cases h
theorem wid_filter (p : B → Bool) : ∀ l : List B, wid (l.filter p) ≤ wid l
  | [] => Nat.le_refl _
  | x :: l => by
    have := wid_filter p l
    rw [List.filter_cons, wid_cons]
    split
    · rw [wid_cons]; omega
    · omega
theorem wid_spl (s : B) : wid (spl s) = s.length + 1 := by
  have h1 := pth_wid (spl s)
  rw [pth_spl] at h1
  have h2 : wid (spl s) ≠ 0 := by
    have := spl_ne s
    cases e : spl s with
    | nil => exact absurd e this
    | cons x l => rw [wid_cons]; omega
  omega
theorem wid_prt (s : B) : wid (prt s) ≤ s.length + 1 := by
  have := wid_filter (fun x => !drp x) (spl s)
  rw [wid_spl] at this
  exact this
theorem prt_len (s : B) : (prt s).length ≤ s.length + 1 := by
  have h1 := List.length_filter_le (fun x => !drp x) (spl s)
  have h2 := spl_len s
  have h3 := List.count_le_length (a := (47 : UInt8)) (l := s)
  unfold prt
  omega
theorem cln_len {s : B} {b : List B} (h : cln (prt s) [] = some b) : (pth b).length ≤ s.length := by
  have h1 := cln_wid h
  have h2 := wid_prt s
  have h3 : wid [] = 0 := rfl
  rw [pth_wid]
  omega

/-- Nodes that stand in a row as a walk meets them. -/
def Chn (G : Gr) : Nat → Row → Prop
  | _, [] => True
  | a, (x, i) :: r => (nk G a).k = 1 ∧ nameOk (ba x) = true ∧ (∃ j, lkp (nk G a).L x = some j ∧ (nk G j).k ≠ 4 ∧ (nk G j).k ≠ 2 ∧ ((nk G j).k = 3 ∧ i = (nk G j).u ∨ (nk G j).k ≠ 3 ∧ i = j)) ∧ Chn G i r
theorem Chn.app {G : Gr} : ∀ {r s : Row} {a : Nat}, Chn G a r → Chn G (lsr ((([] : B), a) :: r)) s → Chn G a (r ++ s)
  | [], s, a, _, h => by simpa [lsr] using h
  | (x, i) :: r, s, a, h, h2 => by
    refine ⟨h.1, h.2.1, h.2.2.1, Chn.app h.2.2.2 ?_⟩
    have e : lsr ((([] : B), a) :: (x, i) :: r) = lsr ((([] : B), i) :: r) := by
      unfold lsr
      cases r with
      | nil => rfl
      | cons y r => simp [List.getLast?_cons_cons]
    rwa [e] at h2
theorem Chn.take {G : Gr} : ∀ {r : Row} {a : Nat} (n : Nat), Chn G a r → Chn G a (r.take n)
  | [], a, n, h => by simpa using h
  | (x, i) :: r, a, 0, h => trivial
  | (x, i) :: r, a, n + 1, h => ⟨h.1, h.2.1, h.2.2.1, h.2.2.2.take n⟩
theorem Chn.oks {G : Gr} : ∀ {r : Row} {a : Nat}, Chn G a r → Oks (r.map (·.1))
  | [], a, _ => by intro x hx; simp at hx
  | (x, i) :: r, a, h => by
    intro y hy
    rcases List.mem_cons.1 hy with rfl | hy
    · exact h.2.1
    · exact h.2.2.2.oks y hy
/-- A row is walked again by its names. -/
theorem wlk_again {G : Gr} (f : Bool) (k : Nat) : ∀ (r : Row) (pre : Row), Chn G (lsr pre) r → wlk G f k (r.map (·.1)) pre = (0, pre ++ r)
  | [], pre, _ => by simp [wlk_nil]
  | (x, i) :: r, pre, h => by
    obtain ⟨h1, h2, ⟨j, h3, h4, h5, h6⟩, h7⟩ := h
    rw [List.map_cons, wlk_some f k _ h1 (ok_ne h2).1 h2 h3, if_neg h4]
    rcases h6 with ⟨e3, rfl⟩ | ⟨e3, rfl⟩
    · rw [if_pos e3, wlk_again f k r _ (by rw [lsr_snoc]; exact h7)]; simp
    · rw [if_neg e3, if_neg h5, wlk_again f k r _ (by rw [lsr_snoc]; exact h7)]; simp
theorem take_max (p : B × Nat) (r : Row) : (p :: r).take (max ((p :: r).length - 1) 1) = p :: r.dropLast := by
  cases r with
  | nil => rfl
  | cons q r =>
    have : max ((p :: q :: r).length - 1) 1 = (r.length) + 1 := by simp
    rw [this, List.take_succ_cons, List.dropLast_eq_take]
    simp
/-- A walk with all links followed keeps its row so. -/
theorem wlk_chn {G : Gr} : ∀ (k : Nat) (l : List B) (a : Nat) (r row : Row), Chn G a r → wlk G true k l ((([] : B), a) :: r) = (0, row) → ∃ r', row = ([], a) :: r' ∧ Chn G a r'
  | k, [], a, r, row, hc, h => by
    rw [wlk_nil] at h
    cases h
    exact ⟨r, rfl, hc⟩
  | k, x :: l, a, r, row, hc, h => by
    by_cases h1 : (nk G (lsr (([], a) :: r))).k = 1
    · by_cases hd : x = dd
      · subst hd
        rw [wlk_dd true k l h1, take_max] at h
        exact wlk_chn k l a _ row (by rw [List.dropLast_eq_take]; exact hc.take _) h
      · by_cases hn : nameOk (ba x) = true
        · cases hl : lkp (nk G (lsr (([], a) :: r))).L x with
          | none => rw [wlk_none true k l h1 hd hn hl] at h; cases h
          | some i =>
            rw [wlk_some true k l h1 hd hn hl] at h
            by_cases h4 : (nk G i).k = 4
            · rw [if_pos h4] at h; cases h
            · rw [if_neg h4] at h
              by_cases h3 : (nk G i).k = 3
              · rw [if_pos h3] at h
                exact wlk_chn k l a (r ++ [(x, (nk G i).u)]) row (hc.app ⟨h1, hn, ⟨i, hl, h4, by rw [h3]; decide, .inl ⟨h3, rfl⟩⟩, trivial⟩) h
              · rw [if_neg h3] at h
                by_cases h2 : (nk G i).k = 2
                · rw [if_pos h2, if_neg (by rintro ⟨e, -⟩; cases e)] at h
                  cases k with
                  | zero => cases h
                  | succ k =>
                    simp only at h
                    by_cases ha : abso (nk G i).to = true
                    · rw [if_pos ha] at h
                      exact wlk_chn k (prt (nk G i).to ++ l) a [] row trivial h
                    · rw [if_neg ha] at h
                      exact wlk_chn k (prt (nk G i).to ++ l) a r row hc h
                · rw [if_neg h2] at h
                  exact wlk_chn k l a (r ++ [(x, i)]) row (hc.app ⟨h1, hn, ⟨i, hl, h4, h2, .inr ⟨h3, rfl⟩⟩, trivial⟩) h
        · rw [wlk_noname true k l h1 hd (by simpa using hn)] at h; cases h
    · rw [wlk_notdir true k x l h1] at h; cases h
  termination_by k l => (k, l.length)

/-- Without links a row is what Clean leaves. -/
theorem wlk_cln {G : Gr} (hG : ∀ i, (nk G i).k ≠ 2) (k : Nat) : ∀ (l : List B) (a : Nat) (r row : Row), wlk G true k l ((([] : B), a) :: r) = (0, row) → ∃ r', row = ([], a) :: r' ∧ cln l (r.map (·.1)) = some (r'.map (·.1))
  | [], a, r, row, h => by
    rw [wlk_nil] at h
    cases h
    exact ⟨r, rfl, rfl⟩
  | x :: l, a, r, row, h => by
    by_cases h1 : (nk G (lsr (([], a) :: r))).k = 1
    · by_cases hd : x = dd
      · subst hd
        rw [wlk_dd true k l h1, take_max] at h
        obtain ⟨r', e, h5⟩ := wlk_cln hG k l a _ row h
        refine ⟨r', e, ?_⟩
        unfold cln
        rw [if_pos rfl, ← h5, List.map_dropLast]
      · by_cases hn : nameOk (ba x) = true
        · unfold cln
          rw [if_neg hd, if_pos hn]
          cases hl : lkp (nk G (lsr (([], a) :: r))).L x with
          | none => rw [wlk_none true k l h1 hd hn hl] at h; cases h
          | some i =>
            rw [wlk_some true k l h1 hd hn hl] at h
            by_cases h4 : (nk G i).k = 4
            · rw [if_pos h4] at h; cases h
            · rw [if_neg h4] at h
              by_cases h3 : (nk G i).k = 3
              · rw [if_pos h3] at h
                obtain ⟨r', e, h5⟩ := wlk_cln hG k l a (r ++ [(x, (nk G i).u)]) row h
                exact ⟨r', e, by rw [← h5]; simp⟩
              · rw [if_neg h3, if_neg (hG i)] at h
                obtain ⟨r', e, h5⟩ := wlk_cln hG k l a (r ++ [(x, i)]) row h
                exact ⟨r', e, by rw [← h5]; simp⟩
        · rw [wlk_noname true k l h1 hd (by simpa using hn)] at h; cases h
    · rw [wlk_notdir true k x l h1] at h; cases h

/-- A walk over one part that follows no link. -/
theorem wlk_one {G : Gr} (k k' : Nat) (x : B) (row : Row) : wlk G false k [x] row = wlk G false k' [x] row := by
  by_cases h1 : (nk G (lsr row)).k = 1
  · by_cases hd : x = dd
    · subst hd; rw [wlk_dd false k _ h1, wlk_dd false k' _ h1, wlk_nil, wlk_nil]
    · by_cases hn : nameOk (ba x) = true
      · cases hl : lkp (nk G (lsr row)).L x with
        | none => rw [wlk_none false k _ h1 hd hn hl, wlk_none false k' _ h1 hd hn hl]
        | some i =>
          rw [wlk_some false k _ h1 hd hn hl, wlk_some false k' _ h1 hd hn hl]
          simp only [wlk_nil, and_self, ↓reduceIte]
      · rw [wlk_noname false k _ h1 hd (by simpa using hn), wlk_noname false k' _ h1 hd (by simpa using hn)]
  · rw [wlk_notdir false k x _ h1, wlk_notdir false k' x _ h1]
/-- The last part behind all others. -/
theorem wlk_snoc {G : Gr} : ∀ (k : Nat) (l : List B) (x : B) (row : Row), wlk G false k (l ++ [x]) row = if (wlk G true k l row).1 = 0 then wlk G false 0 [x] (wlk G true k l row).2 else ((wlk G true k l row).1, [])
  | k, [], x, row => by
    rw [wlk_nil, List.nil_append, if_pos rfl]
    exact wlk_one k 0 x row
  | k, y :: l, x, row => by
    rw [List.cons_append]
    by_cases h1 : (nk G (lsr row)).k = 1
    · by_cases hd : y = dd
      · subst hd
        rw [wlk_dd false k _ h1, wlk_dd true k _ h1]
        exact wlk_snoc k l x _
      · by_cases hn : nameOk (ba y) = true
        · cases hl : lkp (nk G (lsr row)).L y with
          | none =>
            rw [wlk_none false k _ h1 hd hn hl, wlk_none true k _ h1 hd hn hl]
            rfl
          | some i =>
            rw [wlk_some false k _ h1 hd hn hl, wlk_some true k _ h1 hd hn hl]
            by_cases h4 : (nk G i).k = 4
            · rw [if_pos h4, if_pos h4]; rfl
            · rw [if_neg h4, if_neg h4]
              by_cases h3 : (nk G i).k = 3
              · rw [if_pos h3, if_pos h3]
                exact wlk_snoc k l x _
              · rw [if_neg h3, if_neg h3]
                by_cases h2 : (nk G i).k = 2
                · rw [if_pos h2, if_pos h2, if_neg (c := false = false ∧ l ++ [x] = []) (by rintro ⟨-, e⟩; simp at e), if_neg (c := true = false ∧ l = []) (by rintro ⟨e, -⟩; cases e)]
                  cases k with
                  | zero => rfl
                  | succ k =>
                    simp only
                    rw [← List.append_assoc]
                    exact wlk_snoc k (prt (nk G i).to ++ l) x _
                · rw [if_neg h2, if_neg h2]
                  exact wlk_snoc k l x _
        · rw [wlk_noname false k _ h1 hd (by simpa using hn), wlk_noname true k _ h1 hd (by simpa using hn)]; rfl
    · rw [wlk_notdir false k y _ h1, wlk_notdir true k y _ h1]; rfl
  termination_by k l => (k, l.length)
end Go.Proofs.YtbnaegoahdcejaaGreatDoor

namespace Go.Proofs.YtbnaegoahdcejaaGreatDoor
open Go.RowKit Go.ChangeMaps

theorem any_none {cs : B} : ∀ {l : B}, (∀ c ∈ l, c ∉ cs) → Lib.indexAny l cs = -1
  | [], _ => by simp [Lib.indexAny]
  | c :: l, h => by
    have ih := any_none (l := l) (fun d hd => h d (by simp [hd]))
    have hc : cs.contains c = false := by
      have := h c (by simp)
      simpa using this
    unfold Lib.indexAny
    rw [if_neg (by rw [hc]; decide), ih]
    rfl
theorem any_yes {cs l : B} (h : ∀ c ∈ l, c ∉ cs) : ¬ (0 ≤ Lib.indexAny l cs) := by rw [any_none h]; decide
theorem nameOk_iff {s : B} (h1 : s ≠ []) (h2 : s.length ≤ 64) (h3 : s ≠ [46]) (h4 : s ≠ [46, 46]) : (nameOk (ba s) = true ↔ ∀ c ∈ s, c ∉ ([0, 47] : B)) := by
  have hl : (ba s).toList = s := by rw [Lib.toList_data, ba_list]
  have e1 : (s == ([] : B)) = false := beq_eq_false_iff_ne.2 h1
  have e3 : (s == ([46] : B)) = false := beq_eq_false_iff_ne.2 h3
  have e4 : (s == ([46, 46] : B)) = false := beq_eq_false_iff_ne.2 h4
  unfold nameOk
  rw [hl, ba_list, ba_size, e1, e3, e4, decide_eq_true h2]
  simp only [Bool.not_false, Bool.true_and, Bool.not_eq_true', decide_eq_false_iff_not]
  exact ⟨fun h => anyn_no h, fun h => any_yes h⟩
set_option maxRecDepth 20000 in
set_option maxHeartbeats 2000000 in
theorem rName_any (s : B) (w : World) (hs : s.length ≤ 1000000000) : Calls Tryz.prog 70 #[.string (ba s)] w fun e w' => e = .returned (.bool (nameOk (ba s))) ∧ w' = w := by
  obtain ⟨S, hS⟩ : ∃ S, S = ba s := ⟨_, rfl⟩
  have hsz : S.size = s.length := by rw [hS, ba_size]
  have hSl : S.toList = s := by rw [hS, Lib.toList_data, ba_list]
  have AS := aside hS
  obtain ⟨n, hn⟩ : ∃ n, n = s.length := ⟨_, rfl⟩
  have AN := aside hn
  rw [← hn] at hsz
  obtain ⟨b, hb⟩ : ∃ b, b = nameOk (ba s) := ⟨_, rfl⟩
  have Ab := aside hb
  rw [← hb, ← hS]
  have hnl : n ≤ 1000000000 := by rw [hn]; exact hs
  have hno : s = [] ∨ 64 < s.length ∨ s = [46] ∨ s = [46, 46] → b = false := fun h => by
    rw [hb]
    refine nameNo ?_
    rw [← hS, hSl, hS, ba_size]
    exact h
  have Ano := aside hno
  have hok := fun h1 h2 h3 h4 => nameOk_iff (s := s) h1 h2 h3 h4
  rw [← hb] at hok
  have Aok := aside hok
  have ASl := aside hSl
  clear hS hn hb hno hok
  by_cases h0 : n = 0
  · subst h0
    have hbf : b = false := Ano.out (.inl (List.eq_nil_of_length_eq_zero AN.out.symm))
    go_enter Tryz.func70, Tryz.ntmps70
    go_wp2_with fail
    go_ret
    exact ⟨by first | rfl | (rw [hbf]; rfl), rfl⟩
  · have h0b : ((n : Int) == 0) = false := beq_eq_false_iff_ne.2 (by omega)
    by_cases h64 : 64 < n
    · have h64i : (64 : Int) < (n : Int) := by omega
      have hbf : b = false := Ano.out (.inr (.inl (by rw [← AN.out]; exact h64)))
      go_enter Tryz.func70, Tryz.ntmps70
      go_wp2_with fail
      go_ret
      exact ⟨by first | rfl | (rw [hbf]; rfl), rfl⟩
    · have h64i : ¬ (64 : Int) < (n : Int) := by omega
      by_cases h46 : s = [46]
      · have hbf : b = false := Ano.out (.inr (.inr (.inl h46)))
        have he : (S.toList == [46]) = true := by rw [hSl, h46]; rfl
        clear hSl
        go_enter Tryz.func70, Tryz.ntmps70
        go_wp2_with fail
        go_ret
        exact ⟨by first | rfl | (rw [hbf]; rfl), rfl⟩
      · have he : (S.toList == [46]) = false := by rw [hSl]; exact beq_eq_false_iff_ne.2 h46
        by_cases h462 : s = [46, 46]
        · have hbf : b = false := Ano.out (.inr (.inr (.inr h462)))
          have he2 : (S.toList == [46, 46]) = true := by rw [hSl, h462]; rfl
          clear hSl
          go_enter Tryz.func70, Tryz.ntmps70
          go_wp2_with fail
          go_ret
          exact ⟨by first | rfl | (rw [hbf]; rfl), rfl⟩
        · have he2 : (S.toList == [46, 46]) = false := by rw [hSl]; exact beq_eq_false_iff_ne.2 h462
          have Ai := aside (Aok.out (fun e => h0 (by rw [AN.out, e]; rfl)) (by have := AN.out; omega) h46 h462)
          clear hSl h46 h462
          go_enter Tryz.func70, Tryz.ntmps70
          go_wp2_with fail
          go_loopg [3] n (fun g s3 wx => ∃ i : Nat, i + g = n ∧ s3 = .int .i64 (i : Int) ∧ wx = w ∧ ∀ c ∈ s.take i, c ∉ ([0, 47] : B))
          case atStart => exact ⟨0, by omega, rfl, rfl, by simp⟩
          case round =>
            obtain ⟨i, hig, rfl, rfl, hall⟩ := hrel
            have Aall := aside hall
            clear hall
            cases gk with
            | zero =>
              obtain rfl : i = n := by omega
              have hi : ¬ (i : Int) < (i : Int) := by omega
              go_wp2_with fail
              go_ret
              have : b = true := Ai.out.2 (by have := Aall.out; rw [AN.out, List.take_length] at this; exact this)
              exact ⟨by rw [this]; rfl, rfl⟩
            | succ gk =>
              have hi : (i : Int) < (n : Int) := by omega
              have hi0 : (0 : Int) ≤ (i : Int) := by omega
              have hi1 : i < S.size := by omega
              have hi2 : (i : Int) < (S.size : Int) := by omega
              have hil : i < s.length := by have := AN.out; omega
              have hSi : S[i]'hi1 = s[i]'hil := by
                have := AS.out
                subst this
                rfl
              have hwi : IntKind.i64.wrap ((i : Int) + 1) = ((i + 1 : Nat) : Int) := by rw [wrap_small _ (by omega) (by omega)]; simp
              have hmem : s[i]'hil ∈ s := List.getElem_mem hil
              have hu : ∀ (c : UInt8) (k : Nat), k < 256 → (((c.toNat : Int) == (k : Int)) = true ↔ c = UInt8.ofNat k) := fun c k hk => by
                rw [beq_iff_eq]
                constructor
                · intro e
                  apply UInt8.toNat_inj.1
                  rw [UInt8.toNat_ofNat']
                  omega
                · rintro rfl
                  rw [UInt8.toNat_ofNat']
                  omega
              by_cases hz : s[i]'hil = 0
              · have hc : (((S[i]'hi1).toNat : Int) == 0) = true := by rw [hSi]; exact (hu _ 0 (by omega)).2 hz
                have hbf : b = false := by
                  cases hb : b with
                  | false => rfl
                  | true => exact absurd (show s[i]'hil ∈ ([0, 47] : B) by rw [hz]; simp) (Ai.out.1 hb _ hmem)
                clear hu hSi hz hmem
                go_wp2_with fail
                go_ret
                exact ⟨by first | rfl | (rw [hbf]; rfl), rfl⟩
              · have hc : (((S[i]'hi1).toNat : Int) == 0) = false := by rw [hSi, ← Bool.not_eq_true]; exact fun e => hz ((hu _ 0 (by omega)).1 e)
                by_cases hz2 : s[i]'hil = 47
                · have hc2 : (((S[i]'hi1).toNat : Int) == 47) = true := by rw [hSi]; exact (hu _ 47 (by omega)).2 hz2
                  have hbf : b = false := by
                    cases hb : b with
                    | false => rfl
                    | true => exact absurd (show s[i]'hil ∈ ([0, 47] : B) by rw [hz2]; simp) (Ai.out.1 hb _ hmem)
                  clear hu hSi hz hz2 hmem
                  go_wp2_with fail
                  go_ret
                  exact ⟨by first | rfl | (rw [hbf]; rfl), rfl⟩
                · have hc2 : (((S[i]'hi1).toNat : Int) == 47) = false := by rw [hSi, ← Bool.not_eq_true]; exact fun e => hz2 ((hu _ 47 (by omega)).1 e)
                  have Anx : Aside (∀ c ∈ s.take (i + 1), c ∉ ([0, 47] : B)) := fun c hc => by
                    rw [List.take_add_one, List.getElem?_eq_getElem hil] at hc
                    rcases List.mem_append.1 hc with hc | hc
                    · exact Aall.out c hc
                    · simp only [Option.toList_some, List.mem_singleton] at hc
                      rw [hc]
                      simp only [List.mem_cons, List.not_mem_nil, or_false, not_or]
                      exact ⟨hz, hz2⟩
                  clear hu hSi hz hz2 hmem
                  go_wp2_with fail
                  go_roundg gk
                  case measure => omega
                  case rel => exact ⟨i + 1, by omega, by first | rfl | simp, rfl, Anx.out⟩
end Go.Proofs.YtbnaegoahdcejaaGreatDoor

namespace Go.Proofs.YtbnaegoahdcejaaGreatDoor
open Go.RowKit Go.ChangeMaps

abbrev RK := B × Nat
def kcs (L : List RK) : List Value := L.flatMap fun p => [.string (ba p.1), Pt p.2]
theorem kcs_at : ∀ {L : List RK} {i : Nat} {p : RK}, L[i]? = some p → (kcs L)[i * 2]? = some (.string (ba p.1)) ∧ (kcs L)[i * 2 + 1]? = some (Pt p.2)
  | [], i, p, h => by simp at h
  | q :: L, 0, p, h => by
    simp only [List.getElem?_cons_zero, Option.some.injEq] at h
    subst h
    exact ⟨rfl, rfl⟩
  | q :: L, i + 1, p, h => by
    simp only [List.getElem?_cons_succ] at h
    have ih := kcs_at h
    have e : kcs (q :: L) = [.string (ba q.1), Pt q.2] ++ kcs L := rfl
    rw [e, show (i + 1) * 2 = i * 2 + 2 by omega, show i * 2 + 2 + 1 = (i * 2 + 1) + 2 by omega]
    exact ih
/-- A node of the document's, whatever its kind: its cells. -/
structure Rc (w : World) (nb : Nat) (k : Int) (f : Value) (to : ByteArray) (m : Value) (L : List RK) (up : Value) : Prop where
  cel : ∃ a c, w.heap[nb]? = some (.cells #[.int .i8 k, f, .string to, m, .slice a L.length c, up] 127 (0, 0)) ∧ L.length ≤ c ∧ (L ≠ [] → ∃ g o cs, a = some ⟨g, o, none⟩ ∧ w.heap[g]? = some (.cells cs 132 (0, 0)) ∧ ∀ (j : Nat) (v : Value), (kcs L)[j]? = some v → cs[o + j]? = some v)
theorem Rc.cells {w : World} {nb : Nat} {k : Int} {f : Value} {to : ByteArray} {m : Value} {L : List RK} {up : Value} (h : Rc w nb k f to m L up) : ∃ a c, w.heap[nb]? = some (.cells #[.int .i8 k, f, .string to, m, .slice a L.length c, up] 127 (0, 0)) ∧ L.length ≤ c ∧ (L ≠ [] → ∃ g o, a = some ⟨g, o, none⟩ ∧ ∀ j v, (kcs L)[j]? = some v → w.cell? ⟨g, o + j, none⟩ = some v) := by
  obtain ⟨a, c, h1, hlc, h2⟩ := h.cel
  refine ⟨a, c, h1, hlc, fun hL => ?_⟩
  obtain ⟨g, o, cs, e, h3, h4⟩ := h2 hL
  exact ⟨g, o, e, fun j v hj => by rw [cell_of_row w g _ _ _ _ h3]; exact h4 j v hj⟩
theorem Rc.keep {w w' : World} {nb : Nat} {k : Int} {f : Value} {to : ByteArray} {m : Value} {L : List RK} {up : Value} (h : Rc w nb k f to m L up) (h0 : w'.heap[nb]? = w.heap[nb]?) (hk : ∀ (g : Nat) (cs : Array Value), w.heap[g]? = some (Obj.cells cs 132 (0, 0)) → w'.heap[g]? = w.heap[g]?) : Rc w' nb k f to m L up := by
  obtain ⟨a, c, h1, hlc, h2⟩ := h.cel
  refine ⟨a, c, h0.trans h1, hlc, fun hL => ?_⟩
  obtain ⟨g, o, cs, e, h3, h4⟩ := h2 hL
  exact ⟨g, o, cs, e, (hk g cs h3).trans h3, h4⟩
theorem Rc.lt {w : World} {nb : Nat} {k : Int} {f : Value} {to : ByteArray} {m : Value} {L : List RK} {up : Value} (h : Rc w nb k f to m L up) : nb < w.heap.size := by
  obtain ⟨a, c, h1, -⟩ := h.cel
  exact (Array.getElem?_eq_some_iff.1 h1).1
theorem Rc.below {w w' : World} {nb : Nat} {k : Int} {f : Value} {to : ByteArray} {m : Value} {L : List RK} {up : Value} (h : Rc w nb k f to m L up) (b : Below w.heap.size w w') : Rc w' nb k f to m L up :=
  h.keep (b.block _ h.lt) (fun g _ hg => b.block g (Array.getElem?_eq_some_iff.1 hg).1)
set_option maxRecDepth 20000 in
theorem ris_any {w : World} {nb : Nat} {k : Int} {f : Value} {to : ByteArray} {m : Value} {L : List RK} {up : Value} (h : Rc w nb k f to m L up) (j : Int) : Calls Tryz.prog 71 #[Pt nb, .int .i8 j] w fun e w' => e = .returned (.int .i64 (if k = j then 0 else 193)) ∧ w' = w := by
  obtain ⟨a, c, h1, -⟩ := h.cells
  have hc : w.cell? ⟨nb, 0, none⟩ = some (.int .i8 k) := by rw [cell_of_row w nb 0 _ _ _ h1]; rfl
  clear h h1
  by_cases hk : k = j
  · subst hk
    rw [if_pos rfl]
    go_enter Tryz.func71, Tryz.ntmps71
    go_wp2_with fail
    go_ret
    exact ⟨rfl, rfl⟩
  · have hb : (k == j) = false := beq_eq_false_iff_ne.2 hk
    rw [if_neg hk]
    go_enter Tryz.func71, Tryz.ntmps71
    go_wp2_with fail
    go_ret
    exact ⟨rfl, rfl⟩
/-- The place of a name among the kids, and whether it stands there. -/
def rpl : List RK → B → Nat
  | [], _ => 0
  | p :: L, s => if p.1 < s then rpl L s + 1 else 0
def rth (L : List RK) (s : B) : Bool := match L[rpl L s]? with | some p => decide (p.1 = s) | none => false
theorem rpl_le (s : B) : ∀ L : List RK, rpl L s ≤ L.length
  | [] => Nat.le_refl _
  | p :: L => by
    have := rpl_le s L
    unfold rpl
    split
    · simp only [List.length_cons]; omega
    · exact Nat.zero_le _
theorem rpl_lt {s : B} : ∀ {L : List RK} {i : Nat} {p : RK}, L[i]? = some p → i < rpl L s → p.1 < s
  | [], i, p, h, _ => by simp at h
  | q :: L, i, p, h, hi => by
    unfold rpl at hi
    split at hi
    · next hq =>
      cases i with
      | zero =>
        simp only [List.getElem?_cons_zero, Option.some.injEq] at h
        exact h ▸ hq
      | succ i =>
        simp only [List.getElem?_cons_succ] at h
        exact rpl_lt h (by omega)
    · omega
theorem rpl_ge {s : B} : ∀ {L : List RK} {p : RK}, L[rpl L s]? = some p → ¬ p.1 < s
  | [], p, h => by simp at h
  | q :: L, p, h => by
    unfold rpl at h
    split at h
    · simp only [List.getElem?_cons_succ] at h
      exact rpl_ge h
    · next hq =>
      simp only [List.getElem?_cons_zero, Option.some.injEq] at h
      exact h ▸ hq
set_option maxRecDepth 20000 in
set_option maxHeartbeats 2000000 in
theorem rat_any {w : World} {nb : Nat} {k : Int} {f : Value} {to : ByteArray} {m : Value} {L : List RK} {up : Value} (h : Rc w nb k f to m L up) (s : B) (hL : L.length ≤ 1000000) :
    Calls Tryz.prog 72 #[Pt nb, .string (ba s)] w fun e w' => e = .returned (.tuple #[.int .i64 (rpl L s : Int), .bool (rth L s)]) ∧ Below w.heap.size w w' := by
  have AH := aside h
  obtain ⟨a, c, h1, -, h2⟩ := h.cells
  have hc4 : w.cell? ⟨nb, 4, none⟩ = some (.slice a L.length c) := by rw [cell_of_row w nb 4 _ _ _ h1]; rfl
  obtain ⟨n, hn⟩ : ∃ n, n = L.length := ⟨_, rfl⟩
  have AN := aside hn
  rw [← hn] at hc4
  have hnl : n ≤ 1000000 := by rw [hn]; exact hL
  have A2 := aside h2
  obtain ⟨Z, hZ⟩ : ∃ Z, Z = ba s := ⟨_, rfl⟩
  have AZ := aside hZ
  rw [← hZ]
  obtain ⟨q, hq⟩ : ∃ q, q = rpl L s := ⟨_, rfl⟩
  have hqn : q ≤ n := by rw [hq, hn]; exact rpl_le s L
  have Aq := aside hq
  obtain ⟨b, hb⟩ : ∃ b, b = rth L s := ⟨_, rfl⟩
  have Ab := aside hb
  rw [← hq, ← hb]
  clear h h1 h2 hn hZ hq hL hb
  go_enter Tryz.func72, Tryz.ntmps72
  go_wp2_with fail
  go_loopg [6] q (fun g s6 wx => ∃ i : Nat, i + g = q ∧ s6 = .int .i64 (i : Int) ∧ wx = w)
  case atStart => exact ⟨0, by omega, rfl, rfl⟩
  case round =>
    obtain ⟨i, hig, rfl, rfl⟩ := hrel
    have hwi : IntKind.i64.wrap ((i : Int) + 1) = ((i + 1 : Nat) : Int) := by rw [wrap_small _ (by omega) (by omega)]; simp
    have hi0 : (0 : Int) ≤ (i : Int) := by omega
    cases gk with
    | succ gk =>
      have hi : (i : Int) < (n : Int) := by omega
      obtain ⟨p, hp⟩ : ∃ p, L[i]? = some p := ⟨_, List.getElem?_eq_getElem (by rw [← AN.out]; omega)⟩
      obtain ⟨g, o, rfl, h3⟩ := A2.out (fun e => by rw [e] at hp; simp at hp)
      have e0 := h3 _ _ (kcs_at hp).1
      have hlt : Op.bytesLess (ba p.1).toList Z.toList = true := by
        rw [bytesLess_eq, Lib.toList_data, Lib.toList_data, ba_list, AZ.out, ba_list]
        exact decide_eq_true (rpl_lt hp (by rw [← Aq.out]; omega))
      obtain ⟨P, hP⟩ : ∃ P, P = ba p.1 := ⟨_, rfl⟩
      rw [← hP] at e0 hlt
      clear hP hp h3
      go_wp2_with fail
      go_roundg gk
      case measure => omega
      case rel => exact ⟨i + 1, by omega, by first | rfl | simp, rfl⟩
    | zero =>
      obtain rfl : i = q := by omega
      by_cases hin : i = n
      · subst hin
        have hi : ¬ (i : Int) < (i : Int) := by omega
        have E4 := fun dd os => ext_cell hc4 dd os
        have hrt : rth L s = false := by
          unfold rth
          rw [List.getElem?_eq_none (by rw [← Aq.out, AN.out]; exact Nat.le_refl _)]
        have Abf := aside (Ab.out.trans hrt)
        clear hrt
        go_wp2_with fail
        refine region_ext (by kernel_rfl) (by kernel_rfl) ?_
        repeat (any_goals (first | go_big_quiet_step (fail) | quiet_step (fail)))
        refine wpQuiet_nil ?_
        intro w7 hw7
        have AB := aside hw7
        clear hw7 E4
        go_wp2_with fail
        go_ret2
        exact ⟨by rw [Abf.out]; rfl, AB.out⟩
      · have hi : (i : Int) < (n : Int) := by omega
        obtain ⟨p, hp⟩ : ∃ p, L[i]? = some p := ⟨_, List.getElem?_eq_getElem (by rw [← AN.out]; omega)⟩
        obtain ⟨g, o, rfl, h3⟩ := A2.out (fun e => by rw [e] at hp; simp at hp)
        have e0 := h3 _ _ (kcs_at hp).1
        have hlt : Op.bytesLess (ba p.1).toList Z.toList = false := by
          rw [bytesLess_eq, Lib.toList_data, Lib.toList_data, ba_list, AZ.out, ba_list]
          exact decide_eq_false (rpl_ge (by rw [← Aq.out]; exact hp))
        have hrt : rth L s = ((ba p.1).toList == Z.toList) := by
          unfold rth
          rw [← Aq.out, hp, Lib.toList_data, Lib.toList_data, ba_list, AZ.out, ba_list]
          show decide (p.1 = s) = (p.1 == s)
          rw [Bool.eq_iff_iff, decide_eq_true_iff, beq_iff_eq]
        have Abf := aside (Ab.out.trans hrt)
        have E4 := fun dd os => ext_cell hc4 dd os
        have E0 := fun dd os => ext_cell e0 dd os
        obtain ⟨P, hP⟩ : ∃ P, P = ba p.1 := ⟨_, rfl⟩
        rw [← hP] at e0 hlt E0 Abf
        clear hP hp h3 hrt
        go_wp2_with fail
        refine region_ext (by kernel_rfl) (by kernel_rfl) ?_
        repeat (any_goals (first | go_big_quiet_step (fail) | quiet_step (fail)))
        refine wpQuiet_nil ?_
        intro w7 hw7
        have AB := aside hw7
        clear hw7 E4 E0
        go_wp2_with fail
        go_ret2
        exact ⟨by rw [Abf.out]; rfl, AB.out⟩
end Go.Proofs.YtbnaegoahdcejaaGreatDoor

namespace Go.Proofs.YtbnaegoahdcejaaGreatDoor
open Go.RowKit Go.ChangeMaps

theorem rth_some {L : List RK} {s : B} (h : rth L s = true) : ∃ p, L[rpl L s]? = some p ∧ p.1 = s := by
  unfold rth at h
  cases hp : L[rpl L s]? with
  | none => rw [hp] at h; cases h
  | some p => rw [hp] at h; exact ⟨p, rfl, of_decide_eq_true h⟩
set_option maxRecDepth 20000 in
set_option maxHeartbeats 1000000 in
theorem rGet_yes {w : World} {nb : Nat} {f : Value} {to : ByteArray} {m : Value} {L : List RK} {up : Value} (h : Rc w nb 1 f to m L up) (s : B) (hL : L.length ≤ 1000000) {p : RK} (ht : rth L s = true) (hp : L[rpl L s]? = some p) :
    Calls Tryz.prog 38 #[Pt nb, .string (ba s)] w fun e w' => e = .returned (.tuple #[Pt p.2, .int .i64 0]) ∧ Below w.heap.size w w' := by
  have AI := aside (ris_any h 1)
  rw [if_pos rfl] at AI
  have AA := aside (rat_any h s hL)
  rw [ht] at AA
  have AH := aside h
  have hlt := (List.getElem?_eq_some_iff.1 hp).1
  have Ap := aside hp
  obtain ⟨q, hq⟩ : ∃ q, q = rpl L s := ⟨_, rfl⟩
  rw [← hq] at AA Ap hlt
  obtain ⟨Z, hZ⟩ : ∃ Z, Z = ba s := ⟨_, rfl⟩
  rw [← hZ] at AA ⊢
  obtain ⟨r, hr⟩ : ∃ r, r = p.2 := ⟨_, rfl⟩
  have Ar := aside hr
  rw [← hr]
  clear h hq hZ hr hp ht
  go_enter Tryz.func38, Tryz.ntmps38
  go_wp2_with fail
  refine AI.out.mono ?_
  rintro e w1 ⟨rfl, rfl⟩
  go_wp2_with fail
  refine AA.out.mono ?_
  rintro e w2 ⟨rfl, hb2⟩
  obtain ⟨a, c, h1, -, h2⟩ := (AH.out.below hb2).cells
  have AB := aside hb2
  obtain ⟨g, o, rfl, h3⟩ := h2 (fun e => by rw [e] at hlt; simp at hlt)
  have e1 := h3 _ _ (kcs_at Ap.out).2
  rw [← Ar.out, ← Nat.add_assoc] at e1
  have hc4 : w2.cell? ⟨nb, 4, none⟩ = some (.slice (some ⟨g, o, none⟩) L.length c) := by rw [cell_of_row w2 nb 4 _ _ _ h1]; rfl
  obtain ⟨n, hn⟩ : ∃ n, n = L.length := ⟨_, rfl⟩
  rw [← hn] at hc4 hlt
  have hi0 : (0 : Int) ≤ (q : Int) := by omega
  have hi1 : (q : Int) < (n : Int) := by omega
  clear h1 h2 h3 hb2 hn
  go_wp2_with fail
  go_ret2
  exact ⟨rfl, AB.out⟩
set_option maxRecDepth 20000 in
set_option maxHeartbeats 1000000 in
theorem rGet_no {w : World} {nb : Nat} {f : Value} {to : ByteArray} {m : Value} {L : List RK} {up : Value} (h : Rc w nb 1 f to m L up) (s : B) (hL : L.length ≤ 1000000) (ht : rth L s = false) :
    Calls Tryz.prog 38 #[Pt nb, .string (ba s)] w fun e w' => e = .returned (.tuple #[.pointer none, .int .i64 192]) ∧ Below w.heap.size w w' := by
  have AI := aside (ris_any h 1)
  rw [if_pos rfl] at AI
  have AA := aside (rat_any h s hL)
  rw [ht] at AA
  obtain ⟨q, hq⟩ : ∃ q, q = rpl L s := ⟨_, rfl⟩
  rw [← hq] at AA
  obtain ⟨Z, hZ⟩ : ∃ Z, Z = ba s := ⟨_, rfl⟩
  rw [← hZ] at AA ⊢
  clear h hq hZ ht
  go_enter Tryz.func38, Tryz.ntmps38
  go_wp2_with fail
  refine AI.out.mono ?_
  rintro e w1 ⟨rfl, rfl⟩
  go_wp2_with fail
  refine AA.out.mono ?_
  rintro e w2 ⟨rfl, hb2⟩
  have AB := aside hb2
  clear hb2
  go_wp2_with fail
  go_ret2
  exact ⟨rfl, AB.out⟩
set_option maxRecDepth 20000 in
set_option maxHeartbeats 1000000 in
theorem rGet_leaf {w : World} {nb : Nat} {k : Int} {f : Value} {to : ByteArray} {m : Value} {L : List RK} {up : Value} (h : Rc w nb k f to m L up) (hk : k ≠ 1) (Z : ByteArray) :
    Calls Tryz.prog 38 #[Pt nb, .string Z] w fun e w' => e = .returned (.tuple #[.pointer none, .int .i64 193]) ∧ w' = w := by
  have AI := aside (ris_any h 1)
  rw [if_neg hk] at AI
  clear h
  go_enter Tryz.func38, Tryz.ntmps38
  go_wp2_with fail
  refine AI.out.mono ?_
  rintro e w1 ⟨rfl, rfl⟩
  go_wp2_with fail
  go_ret2
  exact ⟨rfl, rfl⟩
set_option maxRecDepth 20000 in
theorem rDir_any (w : World) : Calls Tryz.prog 33 #[] w fun e w' => e = .returned (Pt w.heap.size) ∧ Rc w' w.heap.size 1 (.pointer none) ⟨#[]⟩ (.pointer none) [] (.pointer none) ∧ Below w.heap.size w w' := by
  go_enter Tryz.func33, Tryz.ntmps33
  go_wp2_with fail
  go_ret
  exact ⟨rfl, ⟨none, 0, heap_alloc_new w _, Nat.le_refl _, fun h => absurd rfl h⟩, below_al w _⟩
set_option maxRecDepth 20000 in
theorem rFile_any (w : World) (fb : Nat) : Calls Tryz.prog 75 #[Pt fb] w fun e w' => e = .returned (Pt w.heap.size) ∧ Rc w' w.heap.size 0 (Pt fb) ⟨#[]⟩ (.pointer none) [] (.pointer none) ∧ Below w.heap.size w w' := by
  go_enter Tryz.func75, Tryz.ntmps75
  go_wp2_with fail
  go_ret
  exact ⟨rfl, ⟨none, 0, heap_alloc_new w _, Nat.le_refl _, fun h => absurd rfl h⟩, below_al w _⟩
end Go.Proofs.YtbnaegoahdcejaaGreatDoor

namespace Go.Proofs.YtbnaegoahdcejaaGreatDoor
open Go.RowKit Go.ChangeMaps

/-- The document's nodes from v up. -/
def RUp (w : World) : Value → List Nat → Prop
  | v, [] => v = .pointer none
  | v, d :: l => v = Pt d ∧ ∃ a b c e f u, w.heap[d]? = some (.cells #[a, b, c, e, f, u] 127 (0, 0)) ∧ RUp w u l
theorem RUp.below {w w' : World} : ∀ {l : List Nat} {v : Value}, RUp w v l → Below w.heap.size w w' → RUp w' v l
  | [], _, h, _ => h
  | _ :: _, _, ⟨e, a, b, c, g, f, u, h1, h2⟩, hb => ⟨e, a, b, c, g, f, u, (hb.block _ (Array.getElem?_eq_some_iff.1 h1).1).trans h1, RUp.below h2 hb⟩
theorem eq_rnode {w : World} {a b : Nat} {ca cb : Array Value} {ta tb : TypeId} (ha : w.heap[a]? = some (.cells ca ta (0, 0))) (hb : w.heap[b]? = some (.cells cb tb (0, 0))) : (binOp .eql 31 (Pt a) (Pt b)).run Tryz.prog w = .ok (.bool (decide (a = b))) w := by
  by_cases h : a = b
  · subst h
    rw [decide_eq_true rfl]
    exact run_eql_ptr_same w ⟨a, 0, none⟩ Tryz.underlying31 (Option.eq_some_of_isSome (o := Tryz.prog.info? 127) (by kernel_rfl))
  · rw [decide_eq_false h]
    obtain ⟨i, hi, hs⟩ := Option.map_eq_some_iff.1 (show (Tryz.prog.info? 127).map (fun i => decide (i.size = 0)) = some false by kernel_rfl)
    exact run_eql_ptr_other w Tryz.underlying31 hi (of_decide_eq_false hs) (fun e => h (congrArg Addr.block e)) ha hb
set_option maxRecDepth 20000 in
set_option maxHeartbeats 1000000 in
theorem rdepth_any (d : Nat) (l : List Nat) (w : World) (h : RUp w (Pt d) (d :: l)) (hl : l.length ≤ 1000000) : Calls Tryz.prog 77 #[Pt d] w fun e w' => e = .returned (.int .i64 (l.length : Int)) ∧ w' = w := by
  obtain ⟨-, a, b, c, e, f, u, hd, hu⟩ := h
  have hc : w.cell? ⟨d, 5, none⟩ = some u := by rw [cell_of_row w d 5 _ _ _ hd]; rfl
  clear hd
  have HU := aside hu
  clear hu
  go_enter Tryz.func77, Tryz.ntmps77
  go_wp2_with fail
  go_loopg [3, 4] l.length (fun g s3 s4 wx => ∃ (l' : List Nat) (k : Nat), l'.length = g ∧ k + g = l.length ∧ s3 = .int .i64 (k : Int) ∧ RUp w s4 l' ∧ wx = w)
  case atStart => exact ⟨l, 0, rfl, by omega, rfl, HU.out, rfl⟩
  case round =>
    obtain ⟨l', k, hg, hk, rfl, hu, rfl⟩ := hrel
    cases l' with
    | nil =>
      obtain rfl : _ = Value.pointer none := hu
      simp at hg
      subst hg
      obtain rfl : k = l.length := by omega
      go_wp2_with fail
      go_ret
      exact ⟨rfl, rfl⟩
    | cons d2 l2 =>
      obtain ⟨rfl, a2, b2, c2, e2, f2, u2, hd2, hu2⟩ := hu
      have hc2 : wr.cell? ⟨d2, 5, none⟩ = some u2 := by rw [cell_of_row wr d2 5 _ _ _ hd2]; rfl
      clear hd2
      have HU2 := aside hu2
      simp at hg
      have hw : IntKind.i64.wrap ((k : Int) + 1) = ((k + 1 : Nat) : Int) := by rw [wrap_small _ (by omega) (by omega)]; simp
      clear hu2
      go_wp2_with fail
      go_roundg l2.length
      case measure => omega
      case rel => exact ⟨l2, k + 1, rfl, by omega, by first | rfl | simp, HU2.out, rfl⟩
set_option maxRecDepth 20000 in
set_option maxHeartbeats 1000000 in
theorem rbelow_any (v : Value) (l : List Nat) (top : Nat) (w : World) {ct : Array Value} {tt : TypeId} (ht : w.heap[top]? = some (.cells ct tt (0, 0))) (h : RUp w v l) : Calls Tryz.prog 76 #[v, Pt top] w fun e w' => e = .returned (.bool (decide (top ∈ l))) ∧ w' = w := by
  have HU := aside h
  clear h
  go_enter Tryz.func76, Tryz.ntmps76
  go_wp2_with fail
  go_loopg [5] l.length (fun g s5 wx => ∃ l', l'.length = g ∧ RUp w s5 l' ∧ wx = w ∧ (top ∈ l ↔ top ∈ l'))
  case atStart => exact ⟨l, rfl, HU.out, rfl, Iff.rfl⟩
  case round =>
    obtain ⟨l', hl, hu, rfl, hm⟩ := hrel
    cases l' with
    | nil =>
      obtain rfl : _ = Value.pointer none := hu
      go_wp2_with fail
      go_ret
      exact ⟨by rw [decide_eq_false (by rw [hm]; simp)]; rfl, rfl⟩
    | cons d l2 =>
      obtain ⟨rfl, a, b, c, e, f, u, hd, hu2⟩ := hu
      have hc : wr.cell? ⟨d, 5, none⟩ = some u := by rw [cell_of_row wr d 5 _ _ _ hd]; rfl
      have heq := eq_rnode hd ht
      have HU2 := aside hu2
      have HM := aside hm
      clear hu2 hm hd
      by_cases hd : d = top
      · subst hd
        rw [decide_eq_true rfl] at heq
        go_wp2_with fail
        go_ret
        exact ⟨by rw [decide_eq_true (by rw [HM.out]; simp)]; rfl, rfl⟩
      · rw [decide_eq_false hd] at heq
        go_wp2_with fail
        go_roundg l2.length
        case measure => simp at hl; omega
        case rel => exact ⟨l2, rfl, HU2.out, rfl, by rw [HM.out, List.mem_cons]; exact ⟨fun h => h.resolve_left (fun e => hd e.symm), .inr⟩⟩
end Go.Proofs.YtbnaegoahdcejaaGreatDoor

namespace Go.Proofs.YtbnaegoahdcejaaGreatDoor
open Go.RowKit Go.ChangeMaps

set_option maxRecDepth 20000 in
theorem rLink_any (w : World) (s : ByteArray) (h0 : s.toList ≠ []) (h1 : s.size ≤ 4096) : Calls Tryz.prog 73 #[.string s] w fun e w' => e = .returned (.tuple #[Pt w.heap.size, .int .i64 0]) ∧ Rc w' w.heap.size 2 (.pointer none) s (.pointer none) [] (.pointer none) ∧ Below w.heap.size w w' := by
  have e1 : (s.toList == ([] : List UInt8)) = false := beq_eq_false_iff_ne.2 h0
  have e2 : s.toList.isEmpty = false := by cases e : s.toList with | nil => exact absurd e h0 | cons _ _ => rfl
  have e3 : ¬ (4096 : Int) < (s.size : Int) := by omega
  clear h0 h1
  go_enter Tryz.func73, Tryz.ntmps73
  go_wp2_with fail
  go_ret2
  exact ⟨rfl, ⟨none, 0, heap_alloc_new w _, Nat.le_refl _, fun h => absurd rfl h⟩, below_al w _⟩
set_option maxRecDepth 20000 in
set_option maxHeartbeats 1000000 in
theorem rheight_none {w : World} {nb : Nat} {k : Int} {f : Value} {to : ByteArray} {m : Value} {up : Value} (h : Rc w nb k f to m [] up) : Calls Tryz.prog 78 #[Pt nb] w fun e w' => e = .returned (.int .i64 0) ∧ w' = w := by
  obtain ⟨a, c, h1, -⟩ := h.cells
  have hc : w.cell? ⟨nb, 4, none⟩ = some (.slice a 0 c) := by rw [cell_of_row w nb 4 _ _ _ h1]; rfl
  clear h h1
  go_enter Tryz.func78, Tryz.ntmps78
  go_wp2_with fail
  go_loopg [3, 4, 5] 0 (fun g s3 s4 _ wx => g = 0 ∧ s3 = .int .i64 0 ∧ s4 = .int .i64 0 ∧ wx = w)
  case atStart => exact ⟨rfl, rfl, rfl, rfl⟩
  case round =>
    obtain ⟨-, rfl, rfl, rfl⟩ := hrel
    go_wp2_with fail
    go_ret
    exact ⟨rfl, rfl⟩
end Go.Proofs.YtbnaegoahdcejaaGreatDoor

namespace Go.Proofs.YtbnaegoahdcejaaGreatDoor
open Go.RowKit Go.ChangeMaps

theorem elemK : Tryz.prog.underlying 125 = some (.slice (Tryz.prog.elem 125)) := by kernel_rfl
theorem sizeK (w : World) : (sizeOf (Tryz.prog.elem 125)).run Tryz.prog w = .ok 2 w := by kernel_rfl
theorem infoK : (Tryz.prog.info? 132).map (fun i => (i.zero, i.size, i.bytes)) = some (some (.agg #[.string ByteArray.empty, .pointer none]), 2, 24) := by kernel_rfl
theorem kcs_len (L : List RK) : (kcs L).length = L.length * 2 := by
  induction L with
  | nil => rfl
  | cons p L ih =>
    have e : kcs (p :: L) = [.string (ba p.1), Pt p.2] ++ kcs L := rfl
    rw [e, List.length_append, ih, List.length_cons, List.length_cons, List.length_cons, List.length_nil]
    omega
theorem kcs_app (a b : List RK) : kcs (a ++ b) = kcs a ++ kcs b := by unfold kcs; rw [List.flatMap_append]
theorem kcs_one (L : List RK) : ∀ u ∈ kcs L, u.oneCell' = true := fun u hu => by
  unfold kcs at hu
  obtain ⟨p, -, hu⟩ := List.mem_flatMap.1 hu
  simp only [List.mem_cons, List.not_mem_nil, or_false] at hu
  rcases hu with rfl | rfl <;> rfl
/-- Kids that can be read. -/
def KsAt (w : World) (a : Option Addr) (L : List RK) : Prop := L ≠ [] → ∃ g o cs, a = some ⟨g, o, none⟩ ∧ w.heap[g]? = some (.cells cs 132 (0, 0)) ∧ ∀ (j : Nat) (v : Value), (kcs L)[j]? = some v → cs[o + j]? = some v
theorem KsAt.keep {w w' : World} {a : Option Addr} {L : List RK} (h : KsAt w a L) (hk : ∀ (g : Nat) (cs : Array Value), w.heap[g]? = some (Obj.cells cs 132 (0, 0)) → w'.heap[g]? = w.heap[g]?) : KsAt w' a L := fun hL => by
  obtain ⟨g, o, cs, e, h3, h4⟩ := h hL
  exact ⟨g, o, cs, e, (hk g cs h3).trans h3, h4⟩
theorem KsAt.src {w : World} {a : Option Addr} {L : List RK} (h : KsAt w a L) (c : Nat) : SrcAt w (.slice a L.length c) L.length (kcs L) := ⟨a, c, rfl, fun h0 => by
  obtain ⟨g, o, cs, rfl, h3, h4⟩ := h (fun e => by rw [e] at h0; simp at h0)
  refine ⟨_, rfl, fun j u hj => ?_⟩
  rw [Addr.add_lit, cell_of_row w g _ _ _ _ h3]
  exact h4 j u hj⟩
theorem KsAt.of_own {w : World} {a : Option Addr} {n c b : Nat} {L : List RK} (h : w.ownsRow b 132 2 (.slice a n c) n (kcs L)) : KsAt w a L ∧ n = L.length ∧ n ≤ c := by
  have hn : n = L.length := by have := h.1; rw [kcs_len] at this; omega
  refine ⟨fun hL => ?_, hn, ?_⟩
  · rcases h.2 with ⟨-, h0⟩ | ⟨g, c', cs, e, -, h2, h3, h4, h5, h6⟩
    · exact absurd (List.eq_nil_of_length_eq_zero (by omega)) hL
    · injection e with e1 e2 e3
      refine ⟨g, 0, cs, e1, h2, fun j v hj => ?_⟩
      rw [← h6, List.getElem?_take] at hj
      split at hj
      · rw [Nat.zero_add]; simpa using hj
      · cases hj
  · rcases h.2 with ⟨e, h0⟩ | ⟨g, c', cs, e, -, h2, h3, -⟩
    · injection e with e1 e2 e3; omega
    · injection e with e1 e2 e3; omega
/-- kids[:i] -/
theorem slice_hK (a : Option Addr) (n c j : Nat) (hj : j ≤ c) :
    ∀ W, (Instr.slice 125 (.slice a n c) none (some (.int .i64 (j : Int))) none).run Tryz.prog W = .ok (.slice a j c) W := by
  intro W
  rw [run_slice_h W 125 a n c elemK .i64 _ (by omega) (by omega), sizeK]
  simp only [Result.andThen, sliced, Int.toNat_natCast, Nat.sub_zero, Nat.zero_mul]
  have e : (if c = 0 then a else a.map fun x => x.add 0) = a := by
    split
    · rfl
    · cases a with
      | none => rfl
      | some x => simp [Addr.add]
  rw [e]
theorem KsAt.take {w : World} {a : Option Addr} {L : List RK} (h : KsAt w a L) (i : Nat) : KsAt w a (L.take i) := fun hL => by
  obtain ⟨g, o, cs, e, h3, h4⟩ := h (fun e => hL (by rw [e]; simp))
  refine ⟨g, o, cs, e, h3, fun j v hj => h4 j v ?_⟩
  have : kcs L = kcs (L.take i) ++ kcs (L.drop i) := by rw [← kcs_app, List.take_append_drop]
  rw [this, List.getElem?_append_left (List.getElem?_eq_some_iff.1 hj).1]
  exact hj
/-- kids[i:] -/
theorem slice_lK (a : Option Addr) (L : List RK) (c i : Nat) (hi : i ≤ L.length) (hc : L.length ≤ c) :
    ∃ a', (∀ W, (Instr.slice 125 (.slice a L.length c) (some (.int .i64 (i : Int))) none none).run Tryz.prog W = .ok (.slice a' (L.length - i) (c - i)) W) ∧ ∀ w, KsAt w a L → KsAt w a' (L.drop i) := by
  refine ⟨if c = i then a else a.map (·.add (i * 2)), fun W => ?_, fun w h hL => ?_⟩
  · rw [run_slice_l W 125 a L.length c elemK .i64 _ (by omega) (by omega), sizeK]
    simp only [Result.andThen, sliced, Int.toNat_natCast]
  · have hlt : i < L.length := by
      by_cases h0 : i < L.length
      · exact h0
      · exact absurd (List.drop_of_length_le (by omega)) hL
    obtain ⟨g, o, cs, rfl, h3, h4⟩ := h (fun e => by rw [e] at hlt; simp at hlt)
    rw [if_neg (by omega), Option.map_some, Addr.add_lit]
    refine ⟨g, o + i * 2, cs, rfl, h3, fun j v hj => ?_⟩
    have e : kcs L = kcs (L.take i) ++ kcs (L.drop i) := by rw [← kcs_app, List.take_append_drop]
    have hl : (kcs (L.take i)).length = i * 2 := by rw [kcs_len, List.length_take]; omega
    have := h4 (i * 2 + j) v (by rw [e, List.getElem?_append_right (by omega), hl, show i * 2 + j - i * 2 = j by omega]; exact hj)
    rw [show o + i * 2 + j = o + (i * 2 + j) by omega]
    exact this
/-- What Add answers there. -/
def rcd (x : B) (L : List RK) (k2 : Int) (inw : Prop) [Decidable inw] (stands : Bool) (dep : Nat) : Int :=
  if nameOk (ba x) = false then 190 else if rth L x = true then 191 else if 4096 ≤ L.length then 4 else if k2 = 1 ∧ inw then 200 else if k2 = 1 ∧ stands = true then 191 else tcode dep 0
def ins (L : List RK) (x : B) (b : Nat) : List RK := L.take (rpl L x) ++ [(x, b)] ++ L.drop (rpl L x)
theorem set_node {w : World} {nb : Nat} {cs : Array Value} {T : TypeId} (h : w.heap[nb]? = some (.cells cs T (0, 0))) (i : Nat) (v : Value) : (w.setCell ⟨nb, i, none⟩ v).heap[nb]? = some (.cells (cs.setIfInBounds i v) T (0, 0)) := by
  have := set_same (i := i) (v := v) h
  simpa using this
/-- A growing row of kids. -/
def GwK (w : World) (lo : Nat) (v : Value) (L : List RK) : Prop := w.ownsRow 0 132 2 v L.length (kcs L) ∧ ∀ k, v.ownBlock = some k → lo ≤ k
theorem GwK.nil (w : World) (lo : Nat) : GwK w lo (.slice none 0 0) [] := ⟨⟨rfl, .inl ⟨rfl, rfl⟩⟩, fun k hk => by simp [Value.ownBlock] at hk⟩
theorem GwK.below {w w' : World} {lo : Nat} {v : Value} {L : List RK} (h : GwK w lo v L) (b : Below w.heap.size w w') : GwK w' lo v L := ⟨row_below h.1 b, h.2⟩
theorem GwK.more {w w' : World} {lo : Nat} {v v' : Value} {L R : List RK} {n : Nat} (h : GwK w lo v L) (hlo : lo ≤ w.heap.size) (ho : w'.ownsRow 0 132 2 v' n (kcs L ++ kcs R)) (hu : Upd (fun k => v.ownBlock = some k) w w') (hv : v'.ownBlock = v.ownBlock ∨ v'.ownBlock = some w.heap.size) : GwK w' lo v' (L ++ R) ∧ Below lo w w' := by
  have hn : n = (L ++ R).length := by have := ho.1; rw [← kcs_app, kcs_len] at this; omega
  refine ⟨⟨by rw [kcs_app, ← hn]; exact ho, fun k hk => ?_⟩, hu.below hlo (fun k hk => h.2 k hk)⟩
  rcases hv with e | e
  · exact h.2 k (e ▸ hk)
  · rw [e] at hk
    simp only [Option.some.injEq] at hk
    omega
theorem GwK.ks {w : World} {lo : Nat} {v : Value} {L : List RK} (h : GwK w lo v L) : ∃ a c, v = .slice a L.length c ∧ L.length ≤ c ∧ KsAt w a L := by
  obtain ⟨a, c, rfl, -⟩ := own_slice h.1
  obtain ⟨h1, -, h3⟩ := KsAt.of_own h.1
  exact ⟨a, c, rfl, h3, h1⟩
theorem kid_src (w : World) {X : ByteArray} {x : B} (h : X = ba x) (eb : Nat) : SrcAt (w.alloc (.cells #[.string X, Pt eb] 132)) (.slice (some ⟨w.heap.size, 0, none⟩) 1 1) 1 (kcs [(x, eb)]) := ⟨_, _, rfl, fun _ => ⟨_, rfl, fun j u hj => by
  have hj' : ([.string (ba x), Pt eb] : List Value)[j]? = some u := hj
  rw [Addr.add_lit, Nat.zero_add, cell_of_row _ _ j _ _ _ (heap_alloc_new w _), h]
  simpa using hj'⟩⟩
theorem rAdd_end {w w3 w6 : World} {nb eb : Nat} {f1 : Value} {to1 : ByteArray} {m1 s1 up1 : Value} {k2 : Int} {f2 : Value} {to2 : ByteArray} {m2 s2 up2 : Value} {L2 : List RK} {I : List RK} {a6 : Option Addr} {n6 c6 : Nat} (B2 : Below w.heap.size w w3) (B6 : Below w3.heap.size w3 w6) (hne : eb ≠ nb)
    (N1 : w3.heap[nb]? = some (.cells #[.int .i8 1, f1, .string to1, m1, s1, up1] 127 (0, 0))) (N2 : w3.heap[eb]? = some (.cells #[.int .i8 k2, f2, .string to2, m2, s2, up2] 127 (0, 0))) (hE : Rc w3 eb k2 f2 to2 m2 L2 up2) (K6 : KsAt w6 a6 I) (An : n6 = I.length) (hc : n6 ≤ c6) :
    (Rc (w6.setCell ⟨nb, 4, none⟩ (.slice a6 n6 c6)) nb 1 f1 to1 m1 I up1 ∧ Upd (fun k => k = nb) w (w6.setCell ⟨nb, 4, none⟩ (.slice a6 n6 c6))) ∧
    (Rc ((w6.setCell ⟨nb, 4, none⟩ (.slice a6 n6 c6)).setCell ⟨eb, 5, none⟩ (Pt nb)) nb 1 f1 to1 m1 I up1 ∧ Rc ((w6.setCell ⟨nb, 4, none⟩ (.slice a6 n6 c6)).setCell ⟨eb, 5, none⟩ (Pt nb)) eb k2 f2 to2 m2 L2 (Pt nb) ∧ Upd (fun k => k = nb ∨ k = eb) w ((w6.setCell ⟨nb, 4, none⟩ (.slice a6 n6 c6)).setCell ⟨eb, 5, none⟩ (Pt nb))) := by
  have p1 := (B6.block _ (Array.getElem?_eq_some_iff.1 N1).1).trans N1
  have p2 := (B6.block _ (Array.getElem?_eq_some_iff.1 N2).1).trans N2
  obtain ⟨U, hU⟩ : ∃ U, U = w6.setCell ⟨nb, 4, none⟩ (.slice a6 n6 c6) := ⟨_, rfl⟩
  have u1 : U.heap[nb]? = some (.cells #[.int .i8 1, f1, .string to1, m1, .slice a6 n6 c6, up1] 127 (0, 0)) := by rw [hU]; exact set_node p1 4 _
  have u2 : U.heap[eb]? = some (.cells #[.int .i8 k2, f2, .string to2, m2, s2, up2] 127 (0, 0)) := by rw [hU]; exact set_far p2 hne
  have far : ∀ (T : TypeId) (hT : T ≠ 127) (g : Nat) (cs : Array Value), w6.heap[g]? = some (Obj.cells cs T (0, 0)) → U.heap[g]? = w6.heap[g]? := fun T hT g cs hg => by
    rw [hU]
    exact (set_far hg (fun e => by rw [e, p1] at hg; injection hg with hg; injection hg with h1 h2; exact hT h2.symm)).trans hg.symm
  have hB : Upd (fun k => k = nb) w U := by
    rw [hU]
    exact (Upd.of_below (below_tr B2 B6)).trans (Upd.setCell (F := fun k => k = nb) (p := ⟨nb, 4, none⟩) rfl _) (fun _ _ h => h)
  have kU := K6.keep (fun g cs => far _ (by decide) g cs)
  have r1 : Rc U nb 1 f1 to1 m1 I up1 := ⟨a6, c6, by rw [← An]; exact u1, by omega, kU⟩
  obtain ⟨V, hV⟩ : ∃ V, V = U.setCell ⟨eb, 5, none⟩ (Pt nb) := ⟨_, rfl⟩
  have v1 : V.heap[nb]? = U.heap[nb]? := by rw [hV]; exact set_far rfl (fun e => hne e.symm)
  have v2 : V.heap[eb]? = some (.cells #[.int .i8 k2, f2, .string to2, m2, s2, Pt nb] 127 (0, 0)) := by rw [hV]; exact set_node u2 5 _
  have farV : ∀ (T : TypeId) (hT : T ≠ 127) (g : Nat) (cs : Array Value), U.heap[g]? = some (Obj.cells cs T (0, 0)) → V.heap[g]? = U.heap[g]? := fun T hT g cs hg => by
    rw [hV]
    exact (set_far hg (fun e => by rw [e, u2] at hg; injection hg with hg; injection hg with h1 h2; exact hT h2.symm)).trans hg.symm
  rw [← hU]
  refine ⟨⟨r1, hB⟩, ?_⟩
  rw [← hV]
  refine ⟨r1.keep v1 (fun g cs => farV _ (by decide) g cs), ?_, ?_⟩
  · obtain ⟨a2, c2, q1, q2, q3⟩ := hE.cel
    have es : s2 = .slice a2 L2.length c2 := by
      rw [N2] at q1
      injection q1 with q1
      injection q1 with q1
      simpa using q1
    have k3 : KsAt w3 a2 L2 := q3
    refine ⟨a2, c2, by rw [← es]; exact v2, q2, ?_⟩
    exact ((k3.keep (fun g _ hg => B6.block g (Array.getElem?_eq_some_iff.1 hg).1)).keep (fun g cs => far _ (by decide) g cs)).keep (fun g cs => farV _ (by decide) g cs)
  · rw [hV]
    exact (hB.mono (G := fun k => k = nb ∨ k = eb) (fun _ _ h => .inl h)).trans (Upd.setCell (F := fun k => k = eb) (p := ⟨eb, 5, none⟩) rfl _) (fun _ _ h => .inr h)
end Go.Proofs.YtbnaegoahdcejaaGreatDoor

namespace Go.Proofs.YtbnaegoahdcejaaGreatDoor
open Go.RowKit Go.ChangeMaps

/-- What Add leaves there. -/
def RAddP (w : World) (nb eb : Nat) (f1 : Value) (to1 : ByteArray) (m1 : Value) (L : List RK) (up1 : Value) (k2 : Int) (f2 : Value) (to2 : ByteArray) (m2 : Value) (L2 : List RK) (x : B) (c : Int) (r : Ending) (w' : World) : Prop :=
  r = .returned (.int .i64 c) ∧ (c ≠ 0 → Below w.heap.size w w') ∧ (c = 0 → Rc w' nb 1 f1 to1 m1 (ins L x eb) up1 ∧ (k2 = 1 → Rc w' eb 1 f2 to2 m2 L2 (Pt nb)) ∧ Upd (fun k => k = nb ∨ k2 = 1 ∧ k = eb) w w')
set_option maxRecDepth 20000 in
set_option maxHeartbeats 8000000 in
theorem rAdd_any {w : World} {nb eb : Nat} {f1 : Value} {to1 : ByteArray} {m1 : Value} {L : List RK} {up1 : Value} {k2 : Int} {f2 : Value} {to2 : ByteArray} {m2 : Value} {L2 : List RK} {up2 : Value} (hD : Rc w nb 1 f1 to1 m1 L up1) (hE : Rc w eb k2 f2 to2 m2 L2 up2) (x : B) (hx : x.length ≤ 1000000000) (l : List Nat) (hU : RUp w (Pt nb) (nb :: l)) (hl : l.length ≤ 1000000) (hL : L.length ≤ 1000000)
    (st : Bool) (hst : (st = false ∧ up2 = .pointer none) ∨ (st = true ∧ ∃ u, up2 = Pt u)) (hh : k2 = 1 → eb ∈ nb :: l ∨ st = true ∨ L2 = []) (hh2 : k2 ≠ 1 → L2 = []) :
    Calls Tryz.prog 40 #[Pt nb, .string (ba x), Pt eb] w fun r w' => RAddP w nb eb f1 to1 m1 L up1 k2 f2 to2 m2 L2 x (rcd x L k2 (eb ∈ nb :: l) st l.length) r w' := by
  obtain ⟨a1, c1, hn1, hlc, hks⟩ := hD.cel
  obtain ⟨a2, c2, hn2, -, -⟩ := hE.cel
  have e0 : w.cell? ⟨nb, 0, none⟩ = some (.int .i8 1) := by rw [cell_of_row w nb 0 _ _ _ hn1]; rfl
  have AN := aside (rName_any x w hx)
  have AT := aside (rat_any hD x hL)
  obtain ⟨X, hX⟩ : ∃ X, X = ba x := ⟨_, rfl⟩
  have AX := aside hX
  obtain ⟨C, hC⟩ : ∃ C, C = rcd x L k2 (eb ∈ nb :: l) st l.length := ⟨_, rfl⟩
  rw [← hC]
  have AC := aside hC
  rw [← hX] at AN AT ⊢
  have AD := aside hD
  have AE := aside hE
  have AU := aside hU
  have A1 := aside hn1
  have A2 := aside hn2
  have AK : Aside (KsAt w a1 L) := hks
  clear hC hX hD hE hU hn1 hn2 hks
  go_enter Tryz.func40, Tryz.ntmps40
  by_cases hok : nameOk X = true
  · rw [hok] at AN
    have AC1 : Aside (C = if rth L x = true then 191 else if 4096 ≤ L.length then 4 else if k2 = 1 ∧ eb ∈ nb :: l then 200 else if k2 = 1 ∧ st = true then 191 else tcode l.length 0) := by
      rw [AC.out]
      unfold rcd
      rw [if_neg (by rw [← AX.out, hok]; decide)]
      exact rfl
    clear AC hok
    go_wp2_with fail
    refine AN.out.mono ?_
    rintro e w1 ⟨rfl, rfl⟩
    clear AN
    obtain ⟨q, hq⟩ : ∃ q, q = rpl L x := ⟨_, rfl⟩
    have Aq := aside hq
    have hqL : q ≤ L.length := by rw [hq]; exact rpl_le x L
    rw [← hq] at AT
    clear hq
    cases hth : rth L x with
    | true =>
      rw [hth] at AT AC1
      have AV : Aside (C = 191) := AC1.out
      clear AC1 hth
      go_wp2_with fail
      refine AT.out.mono ?_
      rintro e w2 ⟨rfl, hb2⟩
      have B2 := aside hb2
      clear hb2 AT
      go_wp2_with fail
      go_ret
      exact ⟨by rw [AV.out]; rfl, fun _ => B2.out, fun e => by rw [AV.out] at e; cases e⟩
    | false =>
      rw [hth, if_neg (by decide)] at AC1
      rw [hth] at AT
      clear hth
      go_wp2_with fail
      refine AT.out.mono ?_
      rintro e w2 ⟨rfl, hb2⟩
      have B2 := aside hb2
      have n1 := (hb2.block _ (Array.getElem?_eq_some_iff.1 A1.out).1).trans A1.out
      have n2 := (hb2.block _ (Array.getElem?_eq_some_iff.1 A2.out).1).trans A2.out
      have d4 : w2.cell? ⟨nb, 4, none⟩ = some (.slice a1 L.length c1) := by rw [cell_of_row w2 nb 4 _ _ _ n1]; rfl
      have g0 : w2.cell? ⟨eb, 0, none⟩ = some (.int .i8 k2) := by rw [cell_of_row w2 eb 0 _ _ _ n2]; rfl
      have g5 : w2.cell? ⟨eb, 5, none⟩ = some up2 := by rw [cell_of_row w2 eb 5 _ _ _ n2]; rfl
      have AU2 := aside (AU.out.below hb2)
      have AE2 := aside (AE.out.below hb2)
      have AD2 := aside (AD.out.below hb2)
      have N1 := aside n1
      have N2 := aside n2
      clear hb2 AT n1 n2
      obtain ⟨k, hk⟩ : ∃ k, k = L.length := ⟨_, rfl⟩
      have Ak := aside hk
      rw [← hk] at d4 AC1 hlc hqL hL
      clear hk
      by_cases hfu : 4096 ≤ k
      · have hfu2 : (4096 : Int) ≤ (k : Int) := by omega
        have AV : Aside (C = 4) := by rw [AC1.out, if_pos hfu]; exact rfl
        clear hfu AC1
        go_wp2_with fail
        go_ret
        exact ⟨by rw [AV.out]; rfl, fun _ => B2.out, fun e => by rw [AV.out] at e; cases e⟩
      · have hfu2 : ¬ (4096 : Int) ≤ (k : Int) := by omega
        rw [if_neg hfu] at AC1
        clear hfu
        by_cases hk1 : k2 = 1
        · subst hk1
          have ABl := aside (rbelow_any (Pt nb) (nb :: l) eb w2 N2.out AU2.out)
          by_cases hin : eb ∈ nb :: l
          · have AV : Aside (C = 200) := by rw [AC1.out, if_pos ⟨rfl, hin⟩]; exact rfl
            rw [decide_eq_true hin] at ABl
            clear hin AC1 hh
            go_wp2_with fail
            refine ABl.out.mono ?_
            rintro e w3 ⟨rfl, rfl⟩
            go_wp2_with fail
            go_ret
            exact ⟨by rw [AV.out]; rfl, fun _ => B2.out, fun e => by rw [AV.out] at e; cases e⟩
          · rw [decide_eq_false hin] at ABl
            rw [if_neg (fun e => hin e.2)] at AC1
            have hne : eb ≠ nb := fun e => hin (by rw [e]; simp)
            rcases hst with ⟨rfl, rfl⟩ | ⟨rfl, u, rfl⟩
            · have AL2 : Aside (L2 = []) := by
                rcases hh rfl with e | e | e
                · exact absurd e hin
                · cases e
                · exact e
              have AC2 : Aside (C = tcode l.length 0) := by rw [AC1.out, if_neg (fun e => by cases e.2)]; exact rfl
              clear hin AC1 hh
              have AH := aside (rheight_none (by have := AE2.out; rw [AL2.out] at this; exact this))
              have ADp := aside (rdepth_any nb l w2 AU2.out hl)
              obtain ⟨d, hd⟩ : ∃ d, d = l.length := ⟨_, rfl⟩
              rw [← hd] at ADp AC2 hl
              have Ad := aside hd
              have hwA : IntKind.i64.wrap (d : Int) = (d : Int) := wrap_small _ (by omega) (by omega)
              have hwB : IntKind.i64.wrap ((d : Int) + 1) = (d : Int) + 1 := wrap_small _ (by omega) (by omega)
              have hwC : IntKind.i64.wrap ((d : Int) + 0) = (d : Int) := wrap_small _ (by omega) (by omega)
              clear hd
              by_cases h64 : 64 < d + 0 + 1
              · have h642 : (64 : Int) < (d : Int) + 1 := by omega
                have AV : Aside (C = 3) := by rw [AC2.out]; unfold tcode; rw [if_pos h64]; exact rfl
                clear h64
                go_wp2_with fail
                refine ABl.out.mono ?_
                rintro e w3 ⟨rfl, rfl⟩
                go_wp2_with fail
                refine ADp.out.mono ?_
                rintro e w3 ⟨rfl, rfl⟩
                go_wp2_with fail
                refine AH.out.mono ?_
                rintro e w3 ⟨rfl, rfl⟩
                go_wp2_with fail
                go_ret
                exact ⟨by rw [AV.out]; rfl, fun _ => B2.out, fun e => by rw [AV.out] at e; cases e⟩
              · have h642 : ¬ (64 : Int) < (d : Int) + 1 := by omega
                have AV : Aside (C = 0) := by rw [AC2.out]; unfold tcode; rw [if_neg h64]; exact rfl
                clear h64
                have hsl1 := slice_hK a1 k c1 q (by omega)
                obtain ⟨a', hsl2, hks2⟩ := slice_lK a1 L c1 q (by have := Ak.out; omega) (by have := Ak.out; omega)
                rw [← Ak.out] at hsl2
                have AG0 : Aside (GwK w2 w2.heap.size (.slice none 0 0) []) := GwK.nil _ _
                have ANq : Aside ((L.take q).length = q) := by show (L.take q).length = q; rw [List.length_take]; have := Ak.out; omega
                have AK2 : Aside (KsAt w2 a1 L) := AK.out.keep (fun g _ hg => B2.out.block g (Array.getElem?_eq_some_iff.1 hg).1)
                have AS1 : Aside (SrcAt w2 (.slice a1 q c1) q (kcs (L.take q))) := by have := (AK2.out.take q).src c1; rw [ANq.out] at this; exact this
                have Al1 : Aside ((kcs (L.take q)).length = q * 2) := by show (kcs (L.take q)).length = q * 2; rw [kcs_len, ANq.out]
                have ANd : Aside ((L.drop q).length = k - q) := by show (L.drop q).length = k - q; rw [List.length_drop, ← Ak.out]
                have Al3 : Aside ((kcs (L.drop q)).length = (k - q) * 2) := by show (kcs (L.drop q)).length = (k - q) * 2; rw [kcs_len, ANd.out]
                have hqi : (0 : Int) ≤ (q : Int) := by omega
                have hqk : (q : Int) ≤ (k : Int) := by omega
                go_wp2_with fail
                refine ABl.out.mono ?_
                rintro e w3 ⟨rfl, rfl⟩
                go_wp2_with fail
                refine ADp.out.mono ?_
                rintro e w3 ⟨rfl, rfl⟩
                go_wp2_with fail
                refine AH.out.mono ?_
                rintro e w3 ⟨rfl, rfl⟩
                clear ADp AH
                go_wp2_with (at_builtin; first
                  | (refine wpList_append_any w5 rfl _ _ 125 rfl 132 (.agg #[.string ByteArray.empty, .pointer none]) 2 24 Tryz.underlying125 infoK rfl (by omega) v5 (q + 1) (kcs (L.take q ++ [(x, eb)])) rfl O5.out (.slice a' (k - q) (c1 - q)) (k - q) (kcs (L.drop q)) rfl Al3.out S5.out (kcs_one _) (by unfold maxLen; omega) (by omega) ?_; intro v6 w6 ho6 hu6 hv6; obtain ⟨h7, h8⟩ := G5.out.more (R := L.drop q) B5.out.size ho6 hu6 hv6; obtain ⟨a6, c6, hv6e, hlc6, hks6⟩ := h7.ks; obtain ⟨n6, hn6⟩ : ∃ n6, n6 = (L.take q ++ [(x, eb)] ++ L.drop q).length := ⟨_, rfl⟩; rw [← hn6] at hv6e hlc6; have An6 := aside hn6; subst hv6e; have B6 := aside (B5.out.trans h8); have K6 := aside hks6; have L6 := aside hlc6; have m1 := (B6.out.block _ (Array.getElem?_eq_some_iff.1 N1.out).1).trans N1.out; have m2 := (B6.out.block _ (Array.getElem?_eq_some_iff.1 N2.out).1).trans N2.out; have s4 : w6.cell? ⟨nb, 4, none⟩ = some (.slice a1 L.length c1) := (by rw [cell_of_row w6 nb 4 _ _ _ m1]; rfl); have s4f := frozen_of_row w6 nb 4 _ _ m1; have t2 := set_far (v := Value.slice a6 n6 c6) (i := 4) m2 hne; have t0 : (w6.setCell ⟨nb, 4, none⟩ (.slice a6 n6 c6)).cell? ⟨eb, 0, none⟩ = some (.int .i8 1) := (by rw [cell_of_row _ eb 0 _ _ _ t2]; rfl); have t5 : (w6.setCell ⟨nb, 4, none⟩ (.slice a6 n6 c6)).cell? ⟨eb, 5, none⟩ = some (.pointer none) := (by rw [cell_of_row _ eb 5 _ _ _ t2]; rfl); have t5f := frozen_of_row _ eb 5 _ _ t2; clear hn6 ho6 hu6 hv6 h7 h8 hks6 hlc6 m1 m2 t2)
                  | (refine wpList_append_any (w4.alloc (.cells #[.string X, Pt eb] 132)) rfl _ _ 125 rfl 132 (.agg #[.string ByteArray.empty, .pointer none]) 2 24 Tryz.underlying125 infoK rfl (by omega) v4 q (kcs (L.take q)) rfl O4.out (.slice (some ⟨w4.heap.size, 0, none⟩) 1 1) 1 (kcs [(x, eb)]) rfl rfl S4.out (kcs_one _) (by unfold maxLen; omega) (by omega) ?_; intro v5 w5 ho5 hu5 hv5; obtain ⟨h7, h8⟩ := G4a.out.more (R := [(x, eb)]) B4a.out.size ho5 hu5 hv5; have G5 := aside h7; have B5 := aside (B4a.out.trans h8); have O5 : Aside (w5.ownsRow 0 132 2 v5 (q + 1) (kcs (L.take q ++ [(x, eb)]))) := (by have := G5.out.1; rw [List.length_append, ANq.out] at this; exact this); have S5 : Aside (SrcAt w5 (.slice a' (k - q) (c1 - q)) (k - q) (kcs (L.drop q))) := (by have := ((hks2 _ AK2.out).keep (fun g _ hg => B5.out.block g (Array.getElem?_eq_some_iff.1 hg).1)).src (c1 - q); rw [ANd.out] at this; exact this); have r4 : w5.cell? ⟨nb, 4, none⟩ = some (.slice a1 k c1) := (by rw [(B5.out.cell (p := ⟨nb, 4, none⟩) (Array.getElem?_eq_some_iff.1 N1.out).1)]; exact d4); clear ho5 hu5 hv5 h7 h8)
                  | (refine wpList_append_any w3 rfl _ _ 125 rfl 132 (.agg #[.string ByteArray.empty, .pointer none]) 2 24 Tryz.underlying125 infoK rfl (by omega) (.slice none 0 0) 0 [] rfl AG0.out.1 (.slice a1 q c1) q (kcs (L.take q)) rfl Al1.out AS1.out (kcs_one _) (by unfold maxLen; omega) (by omega) ?_; intro v4 w4 ho4 hu4 hv4; obtain ⟨h7, h8⟩ := AG0.out.more (R := L.take q) (Nat.le_refl _) ho4 hu4 hv4; rw [List.nil_append] at h7; have G4 := aside h7; have B4 := aside h8; have G4a := aside (G4.out.below (below_al w4 (.cells #[.string X, Pt eb] 132))); have B4a := aside (B4.out.trans ((below_al w4 (.cells #[.string X, Pt eb] 132)).mono B4.out.size)); have O4 : Aside ((w4.alloc (.cells #[.string X, Pt eb] 132)).ownsRow 0 132 2 v4 q (kcs (L.take q))) := (by have := G4a.out.1; rw [ANq.out] at this; exact this); have S4 := aside (kid_src w4 AX.out eb); clear ho4 hu4 hv4 h7 h8))
                go_ret
                obtain ⟨-, z1, z2, z3⟩ := rAdd_end B2.out B6.out hne N1.out N2.out AE2.out K6.out An6.out L6.out
                exact ⟨by rw [AV.out]; rfl, fun e => absurd AV.out e, fun _ => ⟨by unfold ins; rw [← Aq.out]; exact z1, fun _ => z2, z3.mono (fun _ _ h => h.elim .inl (fun h => .inr ⟨rfl, h⟩))⟩⟩
            · have AV : Aside (C = 191) := by rw [AC1.out, if_pos ⟨rfl, rfl⟩]; exact rfl
              clear hin AC1 hh
              go_wp2_with fail
              refine ABl.out.mono ?_
              rintro e w3 ⟨rfl, rfl⟩
              go_wp2_with fail
              go_ret
              exact ⟨by rw [AV.out]; rfl, fun _ => B2.out, fun e => by rw [AV.out] at e; cases e⟩
        · have q1 : (k2 == 1) = false := beq_eq_false_iff_ne.2 hk1
          have AL2 : Aside (L2 = []) := hh2 hk1
          have AC2 : Aside (C = tcode l.length 0) := by rw [AC1.out, if_neg (fun e => hk1 e.1), if_neg (fun e => hk1 e.1)]; exact rfl
          have hne : eb ≠ nb := fun e => by
            have h1 := N1.out
            rw [← e, N2.out] at h1
            injection h1 with h1
            injection h1 with h1
            simp at h1
            exact hk1 h1.1
          clear AC1 hh hh2 hst
          have AH := aside (rheight_none (by have := AE2.out; rw [AL2.out] at this; exact this))
          have ADp := aside (rdepth_any nb l w2 AU2.out hl)
          obtain ⟨d, hd⟩ : ∃ d, d = l.length := ⟨_, rfl⟩
          rw [← hd] at ADp AC2 hl
          have Ad := aside hd
          have hwA : IntKind.i64.wrap (d : Int) = (d : Int) := wrap_small _ (by omega) (by omega)
          have hwB : IntKind.i64.wrap ((d : Int) + 1) = (d : Int) + 1 := wrap_small _ (by omega) (by omega)
          have hwC : IntKind.i64.wrap ((d : Int) + 0) = (d : Int) := wrap_small _ (by omega) (by omega)
          clear hd
          by_cases h64 : 64 < d + 0 + 1
          · have h642 : (64 : Int) < (d : Int) + 1 := by omega
            have AV : Aside (C = 3) := by rw [AC2.out]; unfold tcode; rw [if_pos h64]; exact rfl
            clear h64
            go_wp2_with fail
            refine ADp.out.mono ?_
            rintro e w3 ⟨rfl, rfl⟩
            go_wp2_with fail
            refine AH.out.mono ?_
            rintro e w3 ⟨rfl, rfl⟩
            go_wp2_with fail
            go_ret
            exact ⟨by rw [AV.out]; rfl, fun _ => B2.out, fun e => by rw [AV.out] at e; cases e⟩
          · have h642 : ¬ (64 : Int) < (d : Int) + 1 := by omega
            have AV : Aside (C = 0) := by rw [AC2.out]; unfold tcode; rw [if_neg h64]; exact rfl
            clear h64
            have hsl1 := slice_hK a1 k c1 q (by omega)
            obtain ⟨a', hsl2, hks2⟩ := slice_lK a1 L c1 q (by have := Ak.out; omega) (by have := Ak.out; omega)
            rw [← Ak.out] at hsl2
            have AG0 : Aside (GwK w2 w2.heap.size (.slice none 0 0) []) := GwK.nil _ _
            have ANq : Aside ((L.take q).length = q) := by show (L.take q).length = q; rw [List.length_take]; have := Ak.out; omega
            have AK2 : Aside (KsAt w2 a1 L) := AK.out.keep (fun g _ hg => B2.out.block g (Array.getElem?_eq_some_iff.1 hg).1)
            have AS1 : Aside (SrcAt w2 (.slice a1 q c1) q (kcs (L.take q))) := by have := (AK2.out.take q).src c1; rw [ANq.out] at this; exact this
            have Al1 : Aside ((kcs (L.take q)).length = q * 2) := by show (kcs (L.take q)).length = q * 2; rw [kcs_len, ANq.out]
            have ANd : Aside ((L.drop q).length = k - q) := by show (L.drop q).length = k - q; rw [List.length_drop, ← Ak.out]
            have Al3 : Aside ((kcs (L.drop q)).length = (k - q) * 2) := by show (kcs (L.drop q)).length = (k - q) * 2; rw [kcs_len, ANd.out]
            have hqi : (0 : Int) ≤ (q : Int) := by omega
            have hqk : (q : Int) ≤ (k : Int) := by omega
            go_wp2_with fail
            refine ADp.out.mono ?_
            rintro e w3 ⟨rfl, rfl⟩
            go_wp2_with fail
            refine AH.out.mono ?_
            rintro e w3 ⟨rfl, rfl⟩
            clear ADp AH
            go_wp2_with (at_builtin; first
              | (refine wpList_append_any w5 rfl _ _ 125 rfl 132 (.agg #[.string ByteArray.empty, .pointer none]) 2 24 Tryz.underlying125 infoK rfl (by omega) v5 (q + 1) (kcs (L.take q ++ [(x, eb)])) rfl O5.out (.slice a' (k - q) (c1 - q)) (k - q) (kcs (L.drop q)) rfl Al3.out S5.out (kcs_one _) (by unfold maxLen; omega) (by omega) ?_; intro v6 w6 ho6 hu6 hv6; obtain ⟨h7, h8⟩ := G5.out.more (R := L.drop q) B5.out.size ho6 hu6 hv6; obtain ⟨a6, c6, hv6e, hlc6, hks6⟩ := h7.ks; obtain ⟨n6, hn6⟩ : ∃ n6, n6 = (L.take q ++ [(x, eb)] ++ L.drop q).length := ⟨_, rfl⟩; rw [← hn6] at hv6e hlc6; have An6 := aside hn6; subst hv6e; have B6 := aside (B5.out.trans h8); have K6 := aside hks6; have L6 := aside hlc6; have m1 := (B6.out.block _ (Array.getElem?_eq_some_iff.1 N1.out).1).trans N1.out; have m2 := (B6.out.block _ (Array.getElem?_eq_some_iff.1 N2.out).1).trans N2.out; have s4 : w6.cell? ⟨nb, 4, none⟩ = some (.slice a1 L.length c1) := (by rw [cell_of_row w6 nb 4 _ _ _ m1]; rfl); have s4f := frozen_of_row w6 nb 4 _ _ m1; have t2 := set_far (v := Value.slice a6 n6 c6) (i := 4) m2 hne; have t0 : (w6.setCell ⟨nb, 4, none⟩ (.slice a6 n6 c6)).cell? ⟨eb, 0, none⟩ = some (.int .i8 k2) := (by rw [cell_of_row _ eb 0 _ _ _ t2]; rfl); have t5 : (w6.setCell ⟨nb, 4, none⟩ (.slice a6 n6 c6)).cell? ⟨eb, 5, none⟩ = some up2 := (by rw [cell_of_row _ eb 5 _ _ _ t2]; rfl); have t5f := frozen_of_row _ eb 5 _ _ t2; clear hn6 ho6 hu6 hv6 h7 h8 hks6 hlc6 m1 m2 t2)
              | (refine wpList_append_any (w4.alloc (.cells #[.string X, Pt eb] 132)) rfl _ _ 125 rfl 132 (.agg #[.string ByteArray.empty, .pointer none]) 2 24 Tryz.underlying125 infoK rfl (by omega) v4 q (kcs (L.take q)) rfl O4.out (.slice (some ⟨w4.heap.size, 0, none⟩) 1 1) 1 (kcs [(x, eb)]) rfl rfl S4.out (kcs_one _) (by unfold maxLen; omega) (by omega) ?_; intro v5 w5 ho5 hu5 hv5; obtain ⟨h7, h8⟩ := G4a.out.more (R := [(x, eb)]) B4a.out.size ho5 hu5 hv5; have G5 := aside h7; have B5 := aside (B4a.out.trans h8); have O5 : Aside (w5.ownsRow 0 132 2 v5 (q + 1) (kcs (L.take q ++ [(x, eb)]))) := (by have := G5.out.1; rw [List.length_append, ANq.out] at this; exact this); have S5 : Aside (SrcAt w5 (.slice a' (k - q) (c1 - q)) (k - q) (kcs (L.drop q))) := (by have := ((hks2 _ AK2.out).keep (fun g _ hg => B5.out.block g (Array.getElem?_eq_some_iff.1 hg).1)).src (c1 - q); rw [ANd.out] at this; exact this); have r4 : w5.cell? ⟨nb, 4, none⟩ = some (.slice a1 k c1) := (by rw [(B5.out.cell (p := ⟨nb, 4, none⟩) (Array.getElem?_eq_some_iff.1 N1.out).1)]; exact d4); clear ho5 hu5 hv5 h7 h8)
              | (refine wpList_append_any w3 rfl _ _ 125 rfl 132 (.agg #[.string ByteArray.empty, .pointer none]) 2 24 Tryz.underlying125 infoK rfl (by omega) (.slice none 0 0) 0 [] rfl AG0.out.1 (.slice a1 q c1) q (kcs (L.take q)) rfl Al1.out AS1.out (kcs_one _) (by unfold maxLen; omega) (by omega) ?_; intro v4 w4 ho4 hu4 hv4; obtain ⟨h7, h8⟩ := AG0.out.more (R := L.take q) (Nat.le_refl _) ho4 hu4 hv4; rw [List.nil_append] at h7; have G4 := aside h7; have B4 := aside h8; have G4a := aside (G4.out.below (below_al w4 (.cells #[.string X, Pt eb] 132))); have B4a := aside (B4.out.trans ((below_al w4 (.cells #[.string X, Pt eb] 132)).mono B4.out.size)); have O4 : Aside ((w4.alloc (.cells #[.string X, Pt eb] 132)).ownsRow 0 132 2 v4 q (kcs (L.take q))) := (by have := G4a.out.1; rw [ANq.out] at this; exact this); have S4 := aside (kid_src w4 AX.out eb); clear ho4 hu4 hv4 h7 h8))
            go_ret
            obtain ⟨⟨z1, z3⟩, -⟩ := rAdd_end B2.out B6.out hne N1.out N2.out AE2.out K6.out An6.out L6.out
            exact ⟨by rw [AV.out]; rfl, fun e => absurd AV.out e, fun _ => ⟨by unfold ins; rw [← Aq.out]; exact z1, fun e => absurd e hk1, z3.mono (fun _ _ h => .inl h)⟩⟩
  · have hok2 : nameOk X = false := by simpa using hok
    rw [hok2] at AN
    have AV : Aside (C = 190) := by
      rw [AC.out]
      unfold rcd
      rw [if_pos (by rw [← AX.out]; exact hok2)]
      exact rfl
    clear AC hok hok2
    go_wp2_with fail
    refine AN.out.mono ?_
    rintro e w1 ⟨rfl, rfl⟩
    go_wp2_with fail
    go_ret
    exact ⟨by rw [AV.out]; rfl, fun _ => Below.refl _ _, fun e => by rw [AV.out] at e; cases e⟩
end Go.Proofs.YtbnaegoahdcejaaGreatDoor
