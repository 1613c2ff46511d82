/- Reads through the file of a cache: ten bytes at 0, eight at 60. -/
import Derived.Test.YtppeiljpechenaaCacR
import Derived.LoopN
namespace Go.Proofs.Ytppeiljpechenaa
open Go.RowKit Go.MapLit Go.ChangeMaps
attribute [local simp] lcells_nil readB_length bcells_length

theorem One.upd {w w' : World} {c mb b g cap h t : Nat} {F : Nat → Prop} (H : One w c mb b g cap h t) (k : Upd F w w') (h1 : ¬ F c) (h2 : ¬ F mb) (h3 : ¬ F b) (h4 : ¬ F g) : One w' c mb b g cap h t :=
  ⟨(k.block c (Array.getElem?_eq_some_iff.1 H.cac).1 h1).trans H.cac, (k.block b (Array.getElem?_eq_some_iff.1 H.blk).1 h3).trans H.blk, (k.block mb (Array.getElem?_eq_some_iff.1 H.map).1 h2).trans H.map, H.dat.upd k h4⟩
theorem Two.upd {w w' : World} {c mb b b' h m : Nat} {F : Nat → Prop} (H : Two w c mb b b' h m) (k : Upd F w w') (h1 : ¬ F c) (h2 : ¬ F b) (h3 : ¬ F b') : Two w' c mb b b' h m := by
  obtain ⟨d1, n1⟩ := H.new
  obtain ⟨d2, n2⟩ := H.old
  exact ⟨(k.block c (Array.getElem?_eq_some_iff.1 H.cac).1 h1).trans H.cac, ⟨d1, (k.block b' (Array.getElem?_eq_some_iff.1 n1).1 h3).trans n1⟩, ⟨d2, (k.block b (Array.getElem?_eq_some_iff.1 n2).1 h2).trans n2⟩⟩

theorem row_ne {w : World} {g n cap b : Nat} {xs : List Value} {cs : Array Value} {T : TypeId} (h : w.ownsRow 0 5 1 (.slice (some ⟨g, 0, none⟩) n cap) n xs) (hb : w.heap[b]? = some (.cells cs T (0, 0))) (hT : T ≠ 5) : ¬ g = b := by
  rintro rfl
  rcases h.2 with ⟨h0, -⟩ | ⟨g', cap', cur, h0, -, hh, -⟩
  · simp at h0
  · simp only [Value.slice.injEq, Option.some.injEq, Addr.mk.injEq] at h0
    rw [← h0.1.1, hb] at hh
    simp only [Option.some.injEq, Obj.cells.injEq] at hh
    exact hT hh.2.1
theorem row_neM {w : World} {g n cap b : Nat} {xs : List Value} {es : Array MapEntry} {t : Nat} (h : w.ownsRow 0 5 1 (.slice (some ⟨g, 0, none⟩) n cap) n xs) (hb : w.heap[b]? = some (.map es t)) : ¬ g = b := by
  rintro rfl
  rcases h.2 with ⟨h0, -⟩ | ⟨g', cap', cur, h0, -, hh, -⟩
  · simp at h0
  · simp only [Value.slice.injEq, Option.some.injEq, Addr.mk.injEq] at h0
    rw [← h0.1.1, hb] at hh
    simp at hh

/-- A part of a slice's bytes, as an append reads them. -/
theorem part_cells {w : World} {g : Nat} {l : List UInt8} (i n : Nat) (hl : l.length = 64) (h : ∀ j v, (bcells l)[j]? = some v → w.cell? ⟨g, j, none⟩ = some v) (hin : i + n ≤ 64) :
    ∃ l' : List UInt8, l'.length = n ∧ (bcells l').length = n * 1 ∧ ∀ j v, (bcells l')[j]? = some v → w.cell? ((⟨g, i, none⟩ : Addr).add j) = some v := by
  refine ⟨(l.drop i).take n, ?_, ?_, fun j v hj => ?_⟩
  · rw [List.length_take, List.length_drop, hl]; omega
  · rw [bcells_length, List.length_take, List.length_drop, hl]; omega
  · rw [Addr.add_lit]
    refine h (i + j) v ?_
    rw [show bcells ((l.drop i).take n) = ((bcells l).drop i).take n by simp [bcells, List.map_take, List.map_drop], List.getElem?_take] at hj
    split at hj
    · rwa [List.getElem?_drop] at hj
    · cases hj

set_option maxRecDepth 20000 in
set_option maxHeartbeats 1000000 in
theorem read1 (w0 : World) (f c mb d ha ms s : Nat) (lv : Value) (L : List Piece) (w : World) (hm0 : Mem0 w0 ha d ms s lv L) (hbel : Below w0.heap.size w0 w) (hc0 : w0.heap.size ≤ c) (hF : Fl w f d c) (hC : Cac w c mb (.pointer none) (.pointer none) 0 0) (hM : w.heap[mb]? = some (.map #[] 0)) :
    Calls Try.prog 109 #[pt f, .int .i64 0, .int .i64 10] w fun e w' => ∃ b g cap o ocap l, e = .returned (.tuple #[.slice (some ⟨o, 0, none⟩) 10 ocap, .int .i64 0]) ∧ w.heap.size ≤ b ∧ One w' c mb b g cap 0 0 ∧ w'.ownsRow 0 5 1 (.slice (some ⟨o, 0, none⟩) 10 ocap) 10 (bcells l) ∧ Upd (fun j => j = c ∨ j = mb) w w' := by
  have f0 := hF.cells.1
  have hme := meth15_Size w d ⟨ms, 0, none⟩ (hm0.all.below hbel).c0
  have F1 : Aside (Calls Try.prog 120 #[.pointer (some ⟨ms, 0, none⟩)] w fun e w' => e = .returned (.int .i64 200) ∧ w' = w) := fSize_any ms s 200 lv L w (hm0.fil.below hbel) (hm0.rep.below hbel)
  have F2 := aside (use1 w0 f c mb d ha ms s lv L w hm0 hbel hc0 hF hC hM)
  clear hm0 hbel hF hC hM
  go_enter Try.func109, Try.ntmps109
  go_wp2_with fail
  refine F1.out.mono ?_
  rintro e w1 ⟨rfl, rfl⟩
  go_wp2_with fail
  refine wp_loop_rounds 2 ?_
  rw [rounds_succ]
  go_wp2_with fail
  refine F2.out.mono ?_
  rintro e w2 ⟨b, g, cap, rfl, hbb, hgg, hO, hU⟩
  obtain ⟨l, hl, hcell⟩ := hO.dat.cells
  have hcap := hO.dat.cap
  have HO := aside hO
  have HU := aside hU
  obtain ⟨l', hl', HL, HS⟩ := part_cells 0 10 hl hcell (by decide)
  have HL := aside HL
  have HS := aside HS
  have HN : Aside (w2.ownsRow 0 5 1 (.slice none 0 0) 0 []) := ⟨rfl, .inl ⟨rfl, rfl⟩⟩
  have hc1 : (64 : Int) ≤ cap := by omega
  unfold maxLen at hcap
  clear hO hU hcell hl
  go_wp2_with (at_builtin; refine wpList_append_where _ rfl _ _ 22 rfl 5 (.int .u8 0) 1 1 Try.underlying22 info5 rfl (by decide) (.slice none 0 0) 0 [] rfl HN.out ⟨g, 0, none⟩ 10 _ (bcells l') rfl HL.out HS.out (bcells_one _) (by decide) (by decide) (by decide) ?_; intro v' w3 ho hg hwh)
  rw [rounds_succ]
  simp only [Nat.zero_add, List.nil_append] at ho
  obtain ⟨o, ocap, cur, rfl, r⟩ := ho.2.resolve_left (fun h => by omega)
  have HO3 := aside ho
  have HG3 := aside hg
  clear ho hg hwh r
  go_wp2_with fail
  go_ret2
  have hu := Upd.of_grown (F := fun _ => False) HG3.out (fun k hk => by simp [Value.ownBlock] at hk)
  exact ⟨b, g, cap, o, ocap, l', rfl, hbb, HO.out.upd hu (fun h => h) (fun h => h) (fun h => h) (fun h => h), HO3.out, HU.out.trans hu (fun _ _ h => h.elim)⟩

set_option maxRecDepth 20000 in
set_option maxHeartbeats 2000000 in
theorem read2 (w0 : World) (f c mb d ha ms s : Nat) (lv : Value) (L : List Piece) (b g cap : Nat) (w : World) (hm0 : Mem0 w0 ha d ms s lv L) (hbel : Below w0.heap.size w0 w) (hc0 : w0.heap.size ≤ c ∧ w0.heap.size ≤ mb ∧ w0.heap.size ≤ b) (hF : Fl w f d c) (hO : One w c mb b g cap 0 0) :
    Calls Try.prog 109 #[pt f, .int .i64 60, .int .i64 8] w fun e w' => ∃ b' o ocap l, e = .returned (.tuple #[.slice (some ⟨o, 0, none⟩) 8 ocap, .int .i64 0]) ∧ Two w' c mb b b' 1 2 ∧ w'.ownsRow 0 5 1 (.slice (some ⟨o, 0, none⟩) 8 ocap) 8 (bcells l) ∧ Upd (fun j => j = b ∨ j = c ∨ j = mb) w w' := by
  have nfb : ¬ f = b := by rintro rfl; have h1 := hO.blk; rw [Fl, h1] at hF; simp at hF
  have nfc : ¬ f = c := by rintro rfl; have h1 := hO.cac; rw [Fl, h1] at hF; simp at hF
  have nfm : ¬ f = mb := by rintro rfl; have h1 := hO.map; rw [Fl, h1] at hF; simp at hF
  have f0 := hF.cells.1
  have hme := meth15_Size w d ⟨ms, 0, none⟩ (hm0.all.below hbel).c0
  have F1 : Aside (Calls Try.prog 120 #[.pointer (some ⟨ms, 0, none⟩)] w fun e w' => e = .returned (.int .i64 200) ∧ w' = w) := fSize_any ms s 200 lv L w (hm0.fil.below hbel) (hm0.rep.below hbel)
  have F2 := aside (use_again f d c mb b g cap w hF hO)
  have HM0 := aside hm0
  have HBEL := aside hbel
  have HC0 := aside hc0
  have HFL := aside hF
  clear hm0 hbel hF hO hc0
  go_enter Try.func109, Try.ntmps109
  go_wp2_with fail
  refine F1.out.mono ?_
  rintro e w1 ⟨rfl, rfl⟩
  go_wp2_with fail
  refine wp_loop_rounds 3 ?_
  rw [rounds_succ]
  go_wp2_with fail
  refine F2.out.mono ?_
  rintro e w2 ⟨rfl, hO, hU⟩
  obtain ⟨l, hl, hcell⟩ := hO.dat.cells
  have hcap := hO.dat.cap
  have HO := aside hO
  have HU := aside hU
  obtain ⟨l', hl', HL, HS⟩ := part_cells 60 4 hl hcell (by decide)
  have HL := aside HL
  have HS := aside HS
  have HN : Aside (w2.ownsRow 0 5 1 (.slice none 0 0) 0 []) := ⟨rfl, .inl ⟨rfl, rfl⟩⟩
  have hc1 : (64 : Int) ≤ cap := by omega
  unfold maxLen at hcap
  clear hO hU hcell hl
  go_wp2_with (at_builtin; refine wpList_append_where _ rfl _ _ 22 rfl 5 (.int .u8 0) 1 1 Try.underlying22 info5 rfl (by decide) (.slice none 0 0) 0 [] rfl HN.out ⟨g, 60, none⟩ 4 _ (bcells l') rfl HL.out HS.out (bcells_one _) (by decide) (by decide) (by decide) ?_; intro v' w3 ho hg hwh)
  rw [rounds_succ]
  simp only [Nat.zero_add, List.nil_append] at ho
  obtain ⟨o, ocap, cur, rfl, r⟩ := ho.2.resolve_left (fun h => by omega)
  have hu := Upd.of_grown (F := fun _ => False) hg (fun k hk => by simp [Value.ownBlock] at hk)
  have ho2 : o = w2.heap.size := by
    rcases hwh with ⟨-, g0, e1⟩ | ⟨e1, -⟩
    · simp [Value.ownBlock] at e1
    · simpa [Value.ownBlock] using e1
  have hO3 := HO.out.upd hu (fun h => h) (fun h => h) (fun h => h) (fun h => h)
  have hU3 : Upd (fun j => j = b ∨ j = c ∨ j = mb) w1 w3 := HU.out.trans hu (fun _ _ h => h.elim)
  have hF3 : Fl w3 f d c := (hU3.block f (Array.getElem?_eq_some_iff.1 HFL.out).1 (by rintro (e | e | e) <;> contradiction)).trans HFL.out
  have hB3 : Below w0.heap.size w0 w3 := HBEL.out.trans (hU3.below HBEL.out.size (fun j hj => by have := HC0.out; omega))
  have m1 := row_ne ho hO3.blk (by decide)
  have m2 := row_ne ho hO3.cac (by decide)
  have m3 := row_neM ho hO3.map
  have F3 := aside (use2 w0 f c mb d ha ms s lv L b g cap 1 w3 HM0.out hB3 HC0.out.1 hF3 hO3)
  have HO3 := aside ho
  have HU3 := aside hU3
  have hlo : w1.heap.size ≤ o := by have := HU.out.size; omega
  clear ho hg hwh r hu hO3 hU3 hF3 hB3 F2 HL HS HN hcap hc1 ho2
  go_wp2_with fail
  refine F3.out.mono ?_
  rintro e w4 ⟨b', g', cap', rfl, hgg, hD, hT, hU⟩
  obtain ⟨q, hq, hcell⟩ := hD.cells
  have hcap := hD.cap
  obtain ⟨q', hq', HL, HS⟩ := part_cells 0 4 hq hcell (by decide)
  have HL := aside HL
  have HS := aside HS
  have hrow := hU.row HO3.out (fun j hj => by simp only [Value.ownBlock, Option.some.injEq] at hj; rw [← hj]; rintro (e | e | e) <;> contradiction)
  obtain ⟨dv, hnew⟩ := hT.new
  have m4 := row_ne hrow hnew (by decide)
  have HR4 := aside hrow
  have HT4 := aside hT
  have HU4 := aside (HU3.out.trans hU (fun _ _ h => h))
  have hc1 : (64 : Int) ≤ cap' := by omega
  unfold maxLen at hcap
  clear hgg hD hT hU hcell hq hrow hnew
  go_wp2_with (at_builtin; refine wpList_append_where _ rfl _ _ 22 rfl 5 (.int .u8 0) 1 1 Try.underlying22 info5 rfl (by decide) (.slice (some ⟨o, 0, none⟩) 4 ocap) 4 (bcells l') rfl HR4.out ⟨g', 0, none⟩ 4 _ (bcells q') rfl HL.out HS.out (bcells_one _) (by decide) (by decide) (by decide) ?_; intro v' w5 ho hg hwh)
  rw [rounds_succ]
  obtain ⟨o5, ocap5, cur, rfl, r⟩ := ho.2.resolve_left (fun h => by omega)
  have HO5 := aside ho
  have HG5 := aside hg
  clear ho hg hwh r
  go_wp2_with fail
  go_ret2
  have hu := Upd.of_grown (F := fun j => j = o) HG5.out (fun k hk => by simpa [Value.ownBlock, eq_comm] using hk)
  exact ⟨b', o5, ocap5, l' ++ q', rfl, HT4.out.upd hu (fun e => m2 e.symm) (fun e => m1 e.symm) (fun e => m4 e.symm), by have := HO5.out; rwa [show bcells l' ++ bcells q' = bcells (l' ++ q') by simp [bcells]] at this, HU4.out.trans hu (fun j hj e => by omega)⟩
end Go.Proofs.Ytppeiljpechenaa
