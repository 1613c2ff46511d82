/- Reads through a cache of at most two blocks over 200 bytes of memory: the first ten bytes (missed), then eight from 60 on (a hit, a miss). -/
import Derived.Test.YtppeiljpechenaaCacU
namespace Go.Proofs.Ytppeiljpechenaa
open Go.RowKit Go.MapLit Go.ChangeMaps
attribute [local simp] lcells_nil readB_length bcells_length

/-- A slice of 64 bytes of its own. -/
structure Dat (w : World) (g cap : Nat) : Prop where
  own : ∃ l, w.ownsRow 0 5 1 (.slice (some ⟨g, 0, none⟩) 64 cap) 64 (bcells l)

theorem Dat.ne {w : World} {g cap b : Nat} {cs : Array Value} {T : TypeId} (h : Dat w g cap) (hb : w.heap[b]? = some (.cells cs T (0, 0))) (hT : T ≠ 5) : ¬ g = b := by
  rintro rfl
  obtain ⟨l, -, h⟩ := h.own
  rcases h with ⟨h0, -⟩ | ⟨g', cap', cur, h0, -, hh, -⟩
  · simp at h0
  · simp only [Value.slice.injEq, Option.some.injEq, Addr.mk.injEq] at h0
    rw [← h0.1.1, hb] at hh
    simp only [Option.some.injEq, Obj.cells.injEq] at hh
    exact hT hh.2.1
theorem Dat.neM {w : World} {g cap b : Nat} {es : Array MapEntry} {t : Nat} (h : Dat w g cap) (hb : w.heap[b]? = some (.map es t)) : ¬ g = b := by
  rintro rfl
  obtain ⟨l, -, h⟩ := h.own
  rcases h with ⟨h0, -⟩ | ⟨g', cap', cur, h0, -, hh, -⟩
  · simp at h0
  · simp only [Value.slice.injEq, Option.some.injEq, Addr.mk.injEq] at h0
    rw [← h0.1.1, hb] at hh
    simp at hh
theorem Dat.cap {w : World} {g cap : Nat} (h : Dat w g cap) : 64 ≤ cap ∧ cap ≤ maxLen := by
  obtain ⟨l, -, h⟩ := h.own
  rcases h with ⟨h0, -⟩ | ⟨g', cap', cur, h0, -, hh, h1, h2, -⟩
  · simp at h0
  · simp only [Value.slice.injEq] at h0
    rw [h0.2.2]; exact ⟨h1, h2⟩
theorem Dat.upd {w w' : World} {g cap : Nat} {F : Nat → Prop} (h : Dat w g cap) (k : Upd F w w') (hn : ¬ F g) : Dat w' g cap := by
  obtain ⟨l, h⟩ := h.own
  exact ⟨l, k.row h (fun j hj => by simp only [Value.ownBlock, Option.some.injEq] at hj; rw [← hj]; exact hn)⟩
theorem Dat.cells {w : World} {g cap : Nat} (h : Dat w g cap) : ∃ l : List UInt8, l.length = 64 ∧ ∀ j v, (bcells l)[j]? = some v → w.cell? ⟨g, j, none⟩ = some v := by
  obtain ⟨l, h⟩ := h.own
  have hl : (bcells l).length = 64 := by have := h.1; omega
  refine ⟨l, by simpa using hl, fun j v hj => ?_⟩
  have hjl : j < (bcells l).length := (List.getElem?_eq_some_iff.1 hj).1
  rw [h.cellAt j (by omega)]; exact hj

/-- One block is kept, block 0. -/
structure One (w : World) (c mb b g cap h t : Nat) : Prop where
  cac : Cac w c mb (pt b) (pt b) h 1
  blk : Blk w b 0 (.slice (some ⟨g, 0, none⟩) 64 cap) (.pointer none) (.pointer none)
  map : w.heap[mb]? = some (.map #[⟨.int .i64 0, pt b, t⟩] (t + 1))
  dat : Dat w g cap

/-- Two are kept: block 1, used last, and block 0. -/
structure Two (w : World) (c mb b b' : Nat) (h m : Nat) : Prop where
  cac : Cac w c mb (pt b') (pt b) h m
  new : ∃ dv, Blk w b' 1 dv (.pointer none) (pt b)
  old : ∃ dv, Blk w b 0 dv (pt b') (.pointer none)

theorem use1 (w0 : World) (f c mb d ha ms s : Nat) (lv : Value) (L : List Piece) (w : World) (hm0 : Mem0 w0 ha d ms s lv L) (hbel : Below w0.heap.size w0 w) (hc0 : w0.heap.size ≤ c) (hF : Fl w f d c) (hC : Cac w c mb (.pointer none) (.pointer none) 0 0) (hM : w.heap[mb]? = some (.map #[] 0)) :
    Calls Try.prog 112 #[pt f, .int .i64 0] w fun e w' => ∃ b g cap, e = .returned (.tuple #[.slice (some ⟨g, 0, none⟩) 64 cap, .int .i64 0]) ∧ w.heap.size ≤ b ∧ w.heap.size ≤ g ∧ One w' c mb b g cap 0 0 ∧ Upd (fun j => j = c ∨ j = mb) w w' := by
  have hcl : c < w.heap.size := (Array.getElem?_eq_some_iff.1 hC).1
  have hml : mb < w.heap.size := (Array.getElem?_eq_some_iff.1 hM).1
  have ncm : ¬ mb = c := by rintro rfl; rw [Cac, hM] at hC; simp at hC
  refine (use_of w0 f c mb d ha ms s 0 0 0 lv L _ _ #[] 0 w hm0 hbel hc0 hF hC hM (by decide) (by decide) rfl
    (fun b dv w' => Cac w' c mb (pt b) (pt b) 0 1 ∧ Blk w' b 0 dv (.pointer none) (.pointer none) ∧ w'.heap[mb]? = some (.map #[⟨.int .i64 0, pt b, 0⟩] 1))
    (fun b j => j = b ∨ j = c ∨ j = mb) (fun j => j = c ∨ j = mb) (fun b j hj => ?_) (fun b j hb hl hj => ?_) (.inl rfl) ?_).mono ?_
  · rcases hj with e | e | e
    · exact .inl e
    · exact .inr (by omega)
    · exact .inr (by omega)
  · rcases hj with e | e | e
    · omega
    · exact .inl e
    · exact .inr e
  · intro W b dv hb hU hCW hBW
    have hMW : W.heap[mb]? = some (.map #[] 0) := (hU.block mb hml ncm).trans hM
    refine (keep_of c mb b 0 dv _ _ _ _ 0 1 #[] 0 W hCW hBW hMW (by decide) rfl (fun w' => (Cac w' c mb (pt b) (pt b) 0 1 ∧ Blk w' b 0 dv (.pointer none) (.pointer none) ∧ w'.heap[mb]? = some (.map #[⟨.int .i64 0, pt b, 0⟩] 1)) ∧ w'.cell? ⟨b, 1, none⟩ = some dv ∧ Upd (fun j => j = b ∨ j = c ∨ j = mb) W w') (pt b) (pt b) #[⟨.int .i64 0, pt b, 0⟩] 1 (by simp) ?_ ?_).mono ?_
    · refine (put_first c mb b 0 dv _ _ _ 0 1 #[] 0 W.drew hCW hBW hMW (by decide) rfl).mono ?_
      rintro e w' ⟨rfl, h1, h2, h3, h4⟩
      exact ⟨rfl, ⟨⟨h1, h2, h3⟩, h2.cells.2.1, (Upd.of_below (F := fun j => j = b ∨ j = c ∨ j = mb) (below_dr W)).trans h4 (fun _ _ h => h)⟩, h1, h3⟩
    · rintro w' ⟨⟨h1, h2, h3⟩, h4, h5⟩
      exact ⟨⟨h1, h2, h3⟩, h4, h5.trans (Upd.of_below (F := fun j => j = b ∨ j = c ∨ j = mb) (below_dr w')) (fun _ _ h => h)⟩
    · rintro e w' ⟨rfl, h1, h2, h3⟩
      exact ⟨rfl, h1, h2, h3⟩
  · rintro e w' ⟨b, g, cap, l, rfl, h1, h2, h3, ⟨h4, h5, h6⟩, h7⟩
    exact ⟨b, g, cap, rfl, h1, h2, ⟨h4, h5, h6, ⟨l, h3⟩⟩, h7⟩

theorem use2 (w0 : World) (f c mb d ha ms s : Nat) (lv : Value) (L : List Piece) (b g cap t : Nat) (w : World) (hm0 : Mem0 w0 ha d ms s lv L) (hbel : Below w0.heap.size w0 w) (hc0 : w0.heap.size ≤ c) (hF : Fl w f d c) (hO : One w c mb b g cap 1 t) :
    Calls Try.prog 112 #[pt f, .int .i64 1] w fun e w' => ∃ b' g' cap', e = .returned (.tuple #[.slice (some ⟨g', 0, none⟩) 64 cap', .int .i64 0]) ∧ w.heap.size ≤ g' ∧ Dat w' g' cap' ∧ Two w' c mb b b' 1 2 ∧ Upd (fun j => j = b ∨ j = c ∨ j = mb) w w' := by
  have hcl : c < w.heap.size := (Array.getElem?_eq_some_iff.1 hO.cac).1
  have hml : mb < w.heap.size := (Array.getElem?_eq_some_iff.1 hO.map).1
  have hbl : b < w.heap.size := (Array.getElem?_eq_some_iff.1 hO.blk).1
  have ncm : ¬ mb = c := by rintro rfl; have h1 := hO.map; have h2 := hO.cac; rw [Cac, h1] at h2; simp at h2
  have nbc : ¬ b = c := by rintro rfl; have h1 := hO.blk; have h2 := hO.cac; rw [Cac, h1] at h2; simp at h2
  refine (use_of w0 f c mb d ha ms s 1 1 1 lv L _ _ #[⟨.int .i64 0, pt b, t⟩] (t + 1) w hm0 hbel hc0 hF hO.cac hO.map (by decide) (by decide) rfl
    (fun b' dv w' => Two w' c mb b b' 1 2)
    (fun b' j => j = b' ∨ j = b ∨ j = c ∨ j = mb) (fun j => j = b ∨ j = c ∨ j = mb) (fun b' j hj => ?_) (fun b' j hb hl hj => ?_) (.inr (.inl rfl)) ?_).mono ?_
  · rcases hj with e | e | e | e
    · exact .inl e
    · exact .inr (by omega)
    · exact .inr (by omega)
    · exact .inr (by omega)
  · rcases hj with e | e
    · omega
    · exact e
  · intro W b' dv hb hU hCW hBW
    have hMW : W.heap[mb]? = some (.map #[⟨.int .i64 0, pt b, t⟩] (t + 1)) := (hU.block mb hml ncm).trans hO.map
    have hDW : Blk W b 0 (.slice (some ⟨g, 0, none⟩) 64 cap) (.pointer none) (.pointer none) := (hU.block b hbl nbc).trans hO.blk
    refine (keep_of c mb b' 1 dv _ _ _ _ 1 2 _ (t + 1) W hCW hBW hMW (by decide) rfl (fun w' => Two w' c mb b b' 1 2 ∧ w'.cell? ⟨b', 1, none⟩ = some dv ∧ Upd (fun j => j = b' ∨ j = b ∨ j = c ∨ j = mb) W w') (pt b') (pt b) #[⟨.int .i64 0, pt b, t⟩, ⟨.int .i64 1, pt b', t + 1⟩] (t + 2) (by simp) ?_ ?_).mono ?_
    · refine (put_next c mb b' 1 b 0 dv _ _ _ _ _ _ 1 2 _ (t + 1) W.drew hCW hBW hDW (by omega) hMW (by decide) rfl).mono ?_
      rintro e w' ⟨rfl, h1, h2, h3, h4, h5⟩
      exact ⟨rfl, ⟨⟨h1, ⟨_, h2⟩, ⟨_, h3⟩⟩, h2.cells.2.1, (Upd.of_below (F := fun j => j = b' ∨ j = b ∨ j = c ∨ j = mb) (below_dr W)).trans h5 (fun _ _ h => h)⟩, h1, h4⟩
    · rintro w' ⟨⟨h1, h2, h3⟩, h4, h5⟩
      exact ⟨⟨h1, h2, h3⟩, h4, h5.trans (Upd.of_below (F := fun j => j = b' ∨ j = b ∨ j = c ∨ j = mb) (below_dr w')) (fun _ _ h => h)⟩
    · rintro e w' ⟨rfl, h1, h2, h3⟩
      exact ⟨rfl, h1, h2, h3⟩
  · rintro e w' ⟨b', g', cap', l, rfl, h1, h2, h3, h4, h5⟩
    exact ⟨b', g', cap', rfl, h2, ⟨l, h3⟩, h4, h5⟩

theorem use_again (f d c mb b g cap : Nat) (w : World) (hF : Fl w f d c) (hO : One w c mb b g cap 0 0) :
    Calls Try.prog 112 #[pt f, .int .i64 0] w fun e w' => e = .returned (.tuple #[.slice (some ⟨g, 0, none⟩) 64 cap, .int .i64 0]) ∧ One w' c mb b g cap 1 1 ∧ Upd (fun j => j = b ∨ j = c ∨ j = mb) w w' := by
  have m1 := hO.dat.ne hO.blk (by decide)
  have m2 := hO.dat.ne hO.cac (by decide)
  have m3 := hO.dat.neM hO.map
  have he : (#[(⟨.int .i64 0, pt b, 0⟩ : MapEntry)]).eraseIdxIfInBounds 0 = #[] := by simp [Array.eraseIdxIfInBounds]
  refine (use_hit f d c mb 0 b _ 0 1 _ 1 0 w hF hO.cac hO.blk hO.map (by decide) (by decide) rfl (by rw [he]; rfl)).mono ?_
  rintro e w' ⟨rfl, h1, h2, h3, h4⟩
  rw [he] at h3
  exact ⟨rfl, ⟨h1, h2, h3, hO.dat.upd h4 (by rintro (e | e | e) <;> contradiction)⟩, h4⟩
end Go.Proofs.Ytppeiljpechenaa
