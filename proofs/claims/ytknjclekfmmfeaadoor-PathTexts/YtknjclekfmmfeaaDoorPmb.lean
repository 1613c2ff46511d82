/- What follows of walks: a row is walked again by its names; without links a row is what Clean leaves; the last part. -/
import Derived.Test.YtknjclekfmmfeaaDoorPma
namespace Go.Proofs.YtknjclekfmmfeaaDoor

theorem any_no {l : B} : ∀ {cs : B}, ¬ (0 ≤ Lib.indexAny l cs) → ∀ c ∈ l, c ∉ cs := by
  induction l with
  | nil => intro cs _ c hc; simp at hc
  | cons b l ih =>
    intro cs h c hc
    unfold Lib.indexAny at h
    by_cases hb : cs.contains b
    · rw [if_pos hb] at h; omega
    · rw [if_neg hb] at h
      have hl : ¬ (0 ≤ Lib.indexAny l cs) := by
        intro h2
        have hne : (Lib.indexAny l cs == -1) = false := by rw [beq_eq_false_iff_ne]; omega
        rw [hne] at h
        simp only [Bool.false_eq_true, ↓reduceIte] at h
        omega
      rcases List.mem_cons.1 hc with rfl | hc
      · simpa using hb
      · exact ih hl c hc
/-- Names that may be, in a row. -/
def Oks (l : List B) : Prop := ∀ x ∈ l, nameOk (ba x) = true
theorem ok_nostroke {x : B} (h : nameOk (ba x) = true) : (47 : UInt8) ∉ x := by
  unfold nameOk at h
  simp only [Bool.and_eq_true, Bool.not_eq_true', decide_eq_false_iff_not, ba_list] at h
  exact fun hm => any_no h.2 47 hm (by simp)
theorem Oks.nostroke {l : List B} (h : Oks l) : nostroke l := fun x hx => ok_nostroke (h x hx)
theorem prt_pth {l : List B} (h : Oks l) : prt (pth l) = l := by
  by_cases hl : l = []
  · subst hl; decide
  · unfold prt
    rw [spl_pth h.nostroke hl]
    exact List.filter_eq_self.2 fun x hx => by rw [ok_drp (h x hx)]; rfl
theorem cln_oks : ∀ {l a : List B}, Oks l → cln l a = some (a ++ l)
  | [], a, _ => by simp [cln]
  | x :: l, a, h => by
    have hx := h x (by simp)
    unfold cln
    rw [if_neg (ok_ne hx).1, if_pos hx, cln_oks (fun y hy => h y (by simp [hy]))]
    simp
theorem oks_cln : ∀ {l a b : List B}, Oks a → cln l a = some b → Oks b
  | [], a, b, ha, h => by
    unfold cln at h
    cases h; exact ha
  | x :: l, a, b, ha, h => by
    unfold cln at h
    by_cases hx : x = dd
    · rw [if_pos hx] at h
      exact oks_cln (fun y hy => ha y ((List.dropLast_sublist _).mem hy)) h
    · rw [if_neg hx] at h
      by_cases hn : nameOk (ba x) = true
      · rw [if_pos hn] at h
        exact oks_cln (fun y hy => by
          rcases List.mem_append.1 hy with hy | hy
          · exact ha y hy
          · simp only [List.mem_singleton] at hy; exact hy ▸ hn) h
      · rw [if_neg hn] at h; cases h
theorem cln_cln {l b : List B} (h : cln l [] = some b) : cln (prt (pth b)) [] = some b := by
  have ho : Oks b := oks_cln (by intro x hx; simp at hx) h
  rw [prt_pth ho, cln_oks ho]; simp

/-- How long a path of parts is. -/
def wid (l : List B) : Nat := (l.map fun n => n.length + 1).sum
theorem wid_cons (x : B) (l : List B) : wid (x :: l) = x.length + 1 + wid l := by simp [wid]
theorem wid_app (a b : List B) : wid (a ++ b) = wid a + wid b := by simp [wid]
theorem ahd_wid : ∀ l : List B, (ahd l).length = wid l
  | [] => rfl
  | x :: l => by
    have := ahd_wid l
    unfold ahd at this ⊢
    rw [List.flatMap_cons, List.length_append, this, wid_cons]
    simp
theorem pth_wid (l : List B) : (pth l).length = wid l - 1 := by
  unfold pth
  rw [List.length_dropLast, ahd_wid]
theorem wid_dropLast (l : List B) : wid l.dropLast ≤ wid l := by
  by_cases hl : l = []
  · subst hl; exact Nat.le_refl _
  · have := List.dropLast_concat_getLast hl
    have h2 := wid_app l.dropLast [l.getLast hl]
    rw [this] at h2
    omega
theorem cln_wid : ∀ {l a b : List B}, cln l a = some b → wid b ≤ wid a + wid l
  | [], a, b, h => by
    unfold cln at h
    cases h; omega
  | x :: l, a, b, h => by
    unfold cln at h
    rw [wid_cons]
    by_cases hx : x = dd
    · rw [if_pos hx] at h
      have := cln_wid h
      have := wid_dropLast a
      omega
    · rw [if_neg hx] at h
      by_cases hn : nameOk (ba x) = true
      · rw [if_pos hn] at h
        have := cln_wid h
        rw [wid_app, wid_cons] at this
        have h0 : wid [] = 0 := rfl
        omega
      · rw [if_neg hn] at h; cases h
theorem wid_filter (p : B → Bool) : ∀ l : List B, wid (l.filter p) ≤ wid l
  | [] => Nat.le_refl _
  | x :: l => by
    have := wid_filter p l
    rw [List.filter_cons, wid_cons]
    split
    · rw [wid_cons]; omega
    · omega
theorem wid_spl (s : B) : wid (spl s) = s.length + 1 := by
  have h1 := pth_wid (spl s)
  rw [pth_spl] at h1
  have h2 : wid (spl s) ≠ 0 := by
    have := spl_ne s
    cases e : spl s with
    | nil => exact absurd e this
    | cons x l => rw [wid_cons]; omega
  omega
theorem wid_prt (s : B) : wid (prt s) ≤ s.length + 1 := by
  have := wid_filter (fun x => !drp x) (spl s)
  rw [wid_spl] at this
  exact this
theorem prt_len (s : B) : (prt s).length ≤ s.length + 1 := by
  have h1 := List.length_filter_le (fun x => !drp x) (spl s)
  have h2 := spl_len s
  have h3 := List.count_le_length (a := (47 : UInt8)) (l := s)
  unfold prt
  omega
theorem cln_len {s : B} {b : List B} (h : cln (prt s) [] = some b) : (pth b).length ≤ s.length := by
  have h1 := cln_wid h
  have h2 := wid_prt s
  have h3 : wid [] = 0 := rfl
  rw [pth_wid]
  omega

/-- Nodes that stand in a row as a walk meets them. -/
def Chn (G : Gr) : Nat → Row → Prop
  | _, [] => True
  | a, (x, i) :: r => (nk G a).k = 1 ∧ nameOk (ba x) = true ∧ (∃ j, lkp (nk G a).L x = some j ∧ (nk G j).k ≠ 4 ∧ (nk G j).k ≠ 2 ∧ ((nk G j).k = 3 ∧ i = (nk G j).u ∨ (nk G j).k ≠ 3 ∧ i = j)) ∧ Chn G i r
theorem Chn.app {G : Gr} : ∀ {r s : Row} {a : Nat}, Chn G a r → Chn G (lst ((([] : B), a) :: r)) s → Chn G a (r ++ s)
  | [], s, a, _, h => by simpa [lst] using h
  | (x, i) :: r, s, a, h, h2 => by
    refine ⟨h.1, h.2.1, h.2.2.1, Chn.app h.2.2.2 ?_⟩
    have e : lst ((([] : B), a) :: (x, i) :: r) = lst ((([] : B), i) :: r) := by
      unfold lst
      cases r with
      | nil => rfl
      | cons y r => simp [List.getLast?_cons_cons]
    rwa [e] at h2
theorem Chn.take {G : Gr} : ∀ {r : Row} {a : Nat} (n : Nat), Chn G a r → Chn G a (r.take n)
  | [], a, n, h => by simpa using h
  | (x, i) :: r, a, 0, h => trivial
  | (x, i) :: r, a, n + 1, h => ⟨h.1, h.2.1, h.2.2.1, h.2.2.2.take n⟩
theorem Chn.oks {G : Gr} : ∀ {r : Row} {a : Nat}, Chn G a r → Oks (r.map (·.1))
  | [], a, _ => by intro x hx; simp at hx
  | (x, i) :: r, a, h => by
    intro y hy
    rcases List.mem_cons.1 hy with rfl | hy
    · exact h.2.1
    · exact h.2.2.2.oks y hy
/-- A row is walked again by its names. -/
theorem wlk_again {G : Gr} (f : Bool) (k : Nat) : ∀ (r : Row) (pre : Row), Chn G (lst pre) r → wlk G f k (r.map (·.1)) pre = (0, pre ++ r)
  | [], pre, _ => by simp [wlk_nil]
  | (x, i) :: r, pre, h => by
    obtain ⟨h1, h2, ⟨j, h3, h4, h5, h6⟩, h7⟩ := h
    rw [List.map_cons, wlk_some f k _ h1 (ok_ne h2).1 h2 h3, if_neg h4]
    rcases h6 with ⟨e3, rfl⟩ | ⟨e3, rfl⟩
    · rw [if_pos e3, wlk_again f k r _ (by rw [lst_snoc]; exact h7)]; simp
    · rw [if_neg e3, if_neg h5, wlk_again f k r _ (by rw [lst_snoc]; exact h7)]; simp
theorem take_max (p : B × Nat) (r : Row) : (p :: r).take (max ((p :: r).length - 1) 1) = p :: r.dropLast := by
  cases r with
  | nil => rfl
  | cons q r =>
    have : max ((p :: q :: r).length - 1) 1 = (r.length) + 1 := by simp
    rw [this, List.take_succ_cons, List.dropLast_eq_take]
    simp
/-- A walk with all links followed keeps its row so. -/
theorem wlk_chn {G : Gr} : ∀ (k : Nat) (l : List B) (a : Nat) (r row : Row), Chn G a r → wlk G true k l ((([] : B), a) :: r) = (0, row) → ∃ r', row = ([], a) :: r' ∧ Chn G a r'
  | k, [], a, r, row, hc, h => by
    rw [wlk_nil] at h
    cases h
    exact ⟨r, rfl, hc⟩
  | k, x :: l, a, r, row, hc, h => by
    by_cases h1 : (nk G (lst (([], a) :: r))).k = 1
    · by_cases hd : x = dd
      · subst hd
        rw [wlk_dd true k l h1, take_max] at h
        exact wlk_chn k l a _ row (by rw [List.dropLast_eq_take]; exact hc.take _) h
      · by_cases hn : nameOk (ba x) = true
        · cases hl : lkp (nk G (lst (([], a) :: r))).L x with
          | none => rw [wlk_none true k l h1 hd hn hl] at h; cases h
          | some i =>
            rw [wlk_some true k l h1 hd hn hl] at h
            by_cases h4 : (nk G i).k = 4
            · rw [if_pos h4] at h; cases h
            · rw [if_neg h4] at h
              by_cases h3 : (nk G i).k = 3
              · rw [if_pos h3] at h
                exact wlk_chn k l a (r ++ [(x, (nk G i).u)]) row (hc.app ⟨h1, hn, ⟨i, hl, h4, by rw [h3]; decide, .inl ⟨h3, rfl⟩⟩, trivial⟩) h
              · rw [if_neg h3] at h
                by_cases h2 : (nk G i).k = 2
                · rw [if_pos h2, if_neg (by rintro ⟨e, -⟩; cases e)] at h
                  cases k with
                  | zero => cases h
                  | succ k =>
                    simp only at h
                    by_cases ha : abso (nk G i).to = true
                    · rw [if_pos ha] at h
                      exact wlk_chn k (prt (nk G i).to ++ l) a [] row trivial h
                    · rw [if_neg ha] at h
                      exact wlk_chn k (prt (nk G i).to ++ l) a r row hc h
                · rw [if_neg h2] at h
                  exact wlk_chn k l a (r ++ [(x, i)]) row (hc.app ⟨h1, hn, ⟨i, hl, h4, h2, .inr ⟨h3, rfl⟩⟩, trivial⟩) h
        · rw [wlk_noname true k l h1 hd (by simpa using hn)] at h; cases h
    · rw [wlk_notdir true k x l h1] at h; cases h
  termination_by k l => (k, l.length)

/-- Without links a row is what Clean leaves. -/
theorem wlk_cln {G : Gr} (hG : ∀ i, (nk G i).k ≠ 2) (k : Nat) : ∀ (l : List B) (a : Nat) (r row : Row), wlk G true k l ((([] : B), a) :: r) = (0, row) → ∃ r', row = ([], a) :: r' ∧ cln l (r.map (·.1)) = some (r'.map (·.1))
  | [], a, r, row, h => by
    rw [wlk_nil] at h
    cases h
    exact ⟨r, rfl, rfl⟩
  | x :: l, a, r, row, h => by
    by_cases h1 : (nk G (lst (([], a) :: r))).k = 1
    · by_cases hd : x = dd
      · subst hd
        rw [wlk_dd true k l h1, take_max] at h
        obtain ⟨r', e, h5⟩ := wlk_cln hG k l a _ row h
        refine ⟨r', e, ?_⟩
        unfold cln
        rw [if_pos rfl, ← h5, List.map_dropLast]
      · by_cases hn : nameOk (ba x) = true
        · unfold cln
          rw [if_neg hd, if_pos hn]
          cases hl : lkp (nk G (lst (([], a) :: r))).L x with
          | none => rw [wlk_none true k l h1 hd hn hl] at h; cases h
          | some i =>
            rw [wlk_some true k l h1 hd hn hl] at h
            by_cases h4 : (nk G i).k = 4
            · rw [if_pos h4] at h; cases h
            · rw [if_neg h4] at h
              by_cases h3 : (nk G i).k = 3
              · rw [if_pos h3] at h
                obtain ⟨r', e, h5⟩ := wlk_cln hG k l a (r ++ [(x, (nk G i).u)]) row h
                exact ⟨r', e, by rw [← h5]; simp⟩
              · rw [if_neg h3, if_neg (hG i)] at h
                obtain ⟨r', e, h5⟩ := wlk_cln hG k l a (r ++ [(x, i)]) row h
                exact ⟨r', e, by rw [← h5]; simp⟩
        · rw [wlk_noname true k l h1 hd (by simpa using hn)] at h; cases h
    · rw [wlk_notdir true k x l h1] at h; cases h

/-- A walk over one part that follows no link. -/
theorem wlk_one {G : Gr} (k k' : Nat) (x : B) (row : Row) : wlk G false k [x] row = wlk G false k' [x] row := by
  by_cases h1 : (nk G (lst row)).k = 1
  · by_cases hd : x = dd
    · subst hd; rw [wlk_dd false k _ h1, wlk_dd false k' _ h1, wlk_nil, wlk_nil]
    · by_cases hn : nameOk (ba x) = true
      · cases hl : lkp (nk G (lst row)).L x with
        | none => rw [wlk_none false k _ h1 hd hn hl, wlk_none false k' _ h1 hd hn hl]
        | some i =>
          rw [wlk_some false k _ h1 hd hn hl, wlk_some false k' _ h1 hd hn hl]
          simp only [wlk_nil, and_self, ↓reduceIte]
      · rw [wlk_noname false k _ h1 hd (by simpa using hn), wlk_noname false k' _ h1 hd (by simpa using hn)]
  · rw [wlk_notdir false k x _ h1, wlk_notdir false k' x _ h1]
/-- The last part behind all others. -/
theorem wlk_snoc {G : Gr} : ∀ (k : Nat) (l : List B) (x : B) (row : Row), wlk G false k (l ++ [x]) row = if (wlk G true k l row).1 = 0 then wlk G false 0 [x] (wlk G true k l row).2 else ((wlk G true k l row).1, [])
  | k, [], x, row => by
    rw [wlk_nil, List.nil_append, if_pos rfl]
    exact wlk_one k 0 x row
  | k, y :: l, x, row => by
    rw [List.cons_append]
    by_cases h1 : (nk G (lst row)).k = 1
    · by_cases hd : y = dd
      · subst hd
        rw [wlk_dd false k _ h1, wlk_dd true k _ h1]
        exact wlk_snoc k l x _
      · by_cases hn : nameOk (ba y) = true
        · cases hl : lkp (nk G (lst row)).L y with
          | none =>
            rw [wlk_none false k _ h1 hd hn hl, wlk_none true k _ h1 hd hn hl]
            rfl
          | some i =>
            rw [wlk_some false k _ h1 hd hn hl, wlk_some true k _ h1 hd hn hl]
            by_cases h4 : (nk G i).k = 4
            · rw [if_pos h4, if_pos h4]; rfl
            · rw [if_neg h4, if_neg h4]
              by_cases h3 : (nk G i).k = 3
              · rw [if_pos h3, if_pos h3]
                exact wlk_snoc k l x _
              · rw [if_neg h3, if_neg h3]
                by_cases h2 : (nk G i).k = 2
                · rw [if_pos h2, if_pos h2, if_neg (c := false = false ∧ l ++ [x] = []) (by rintro ⟨-, e⟩; simp at e), if_neg (c := true = false ∧ l = []) (by rintro ⟨e, -⟩; cases e)]
                  cases k with
                  | zero => rfl
                  | succ k =>
                    simp only
                    rw [← List.append_assoc]
                    exact wlk_snoc k (prt (nk G i).to ++ l) x _
                · rw [if_neg h2, if_neg h2]
                  exact wlk_snoc k l x _
        · rw [wlk_noname false k _ h1 hd (by simpa using hn), wlk_noname true k _ h1 hd (by simpa using hn)]; rfl
    · rw [wlk_notdir false k y _ h1, wlk_notdir true k y _ h1]; rfl
  termination_by k l => (k, l.length)
end Go.Proofs.YtknjclekfmmfeaaDoor
