/- The file of a cache: what use answers, where the block is kept, and where it is read out of the file below. -/
import Derived.Test.YtppeiljpechenaaCacH
import Derived.Test.YtppeiljpechenaaFaceT
namespace Go.Proofs.Ytppeiljpechenaa
open Go.RowKit Go.MapLit Go.ChangeMaps
attribute [local simp] lcells_nil readB_length bcells_length

abbrev FSy (a : Nat) : Value := .iface 183 (.pointer (some ⟨a, 0, none⟩))

/-- A cache's file: the file below, as all that it can, and the cache. -/
def Fl (w : World) (f d c : Nat) : Prop := w.heap[f]? = some (.cells #[FSy d, FSy d, FSy d, FSy d, FSy d, pt c] 90 (0, 0))
theorem Fl.cells {w : World} {f d c : Nat} (h : Fl w f d c) : w.cell? ⟨f, 0, none⟩ = some (FSy d) ∧ w.cell? ⟨f, 5, none⟩ = some (pt c) := by
  refine ⟨?_, ?_⟩ <;> (rw [cell_of_row w f _ _ _ _ h]; rfl)

/-- The file below, in w0: 200 bytes of memory. -/
structure Mem0 (w0 : World) (ha d m b : Nat) (lv : Value) (L : List Piece) : Prop where
  all : All15 w0 ha d ⟨m, 0, none⟩
  fil : Fil w0 m b
  rep : Rep w0 b 200 lv L

set_option maxRecDepth 20000 in
set_option maxHeartbeats 1000000 in
theorem use_hit (f d c mb k b : Nat) (dv : Value) (h m : Nat) (es : Array MapEntry) (clock i : Nat) (w : World) (hF : Fl w f d c) (hC : Cac w c mb (pt b) (pt b) h m) (hB : Blk w b k dv (.pointer none) (.pointer none)) (hM : w.heap[mb]? = some (.map es clock))
    (hk : (Lit.int .i64 k).wf = true) (hh : h < 100) (hf : Instr.findNow (.int .i64) (.int .i64 k) es.toList 0 = some (some (i, pt b))) (hf2 : Instr.findNow (.int .i64) (.int .i64 k) (es.eraseIdxIfInBounds i).toList 0 = some none) :
    Calls Try.prog 112 #[pt f, .int .i64 k] w fun e w' => e = .returned (.tuple #[dv, .int .i64 0]) ∧ Cac w' c mb (pt b) (pt b) (h + 1) m ∧ Blk w' b k dv (.pointer none) (.pointer none) ∧ w'.heap[mb]? = some (.map ((es.eraseIdxIfInBounds i).push ⟨.int .i64 k, pt b, clock⟩) (clock + 1)) ∧ Upd (fun j => j = b ∨ j = c ∨ j = mb) w w' := by
  have f5 := hF.cells.2
  have F1 := aside (hit_found c mb k b dv h m es clock i w hC hB hM hk hh hf hf2)
  clear hF hC hB hM hk hf hf2
  go_enter Try.func112, Try.ntmps112
  go_wp2_with fail
  refine F1.out.mono ?_
  rintro e w1 ⟨rfl, h1, h2, h3, h4⟩
  have b1 := h2.cells.2.1
  have H1 := aside h1
  have H2 := aside h2
  have H3 := aside h3
  have H4 := aside h4
  clear h1 h2 h3 h4
  go_wp2_with fail
  go_ret2
  exact ⟨rfl, H1.out, H2.out, H3.out, H4.out⟩

set_option maxRecDepth 20000 in
set_option maxHeartbeats 1000000 in
theorem use_of (w0 : World) (f c mb d ha ms s k h m : Nat) (lv : Value) (L : List Piece) (nwc olc : Value) (es : Array MapEntry) (clock : Nat) (w : World)
    (hm0 : Mem0 w0 ha d ms s lv L) (hbel : Below w0.heap.size w0 w) (hc0 : w0.heap.size ≤ c) (hF : Fl w f d c) (hC : Cac w c mb nwc olc h m) (hM : w.heap[mb]? = some (.map es clock)) (hk : k ≤ 1) (hm : m < 100)
    (hf : Instr.findNow (.int .i64) (.int .i64 k) es.toList 0 = some none) (R : Nat → Value → World → Prop) (G : Nat → Nat → Prop) (H : Nat → Prop) (hG : ∀ b j, G b j → j = b ∨ j < w.heap.size) (hGH : ∀ b j, w.heap.size ≤ b → j < w.heap.size → G b j → H j) (hH : H c)
    (hkeep : ∀ W b dv, w.heap.size ≤ b → Upd (fun j => j = c) w W → Cac W c mb nwc olc h (m + 1) → Blk W b k dv (.pointer none) (.pointer none) → Calls Try.prog 115 #[pt c, pt b] W fun e w' => e = .returned (.tuple #[]) ∧ R b dv w' ∧ w'.cell? ⟨b, 1, none⟩ = some dv ∧ Upd (G b) W w') :
    Calls Try.prog 112 #[pt f, .int .i64 k] w fun e w' => ∃ b g cap l, e = .returned (.tuple #[.slice (some ⟨g, 0, none⟩) 64 cap, .int .i64 0]) ∧ w.heap.size ≤ b ∧ w.heap.size ≤ g ∧ w'.ownsRow 0 5 1 (.slice (some ⟨g, 0, none⟩) 64 cap) 64 (bcells l) ∧ R b (.slice (some ⟨g, 0, none⟩) 64 cap) w' ∧ Upd H w w' := by
  have hkw : (Lit.int .i64 k).wf = true := by
    have : k = 0 ∨ k = 1 := by omega
    rcases this with rfl | rfl <;> decide
  have n1 : ¬ f = c := by rintro rfl; rw [Fl, hC] at hF; simp at hF
  have f5 := hF.cells.2
  have f0 := hF.cells.1
  have c5 := hC.cells.2.2.2.2.2
  have fc := frozen_of_row w c 5 _ _ hC
  have F1 := aside (hit_miss c mb k nwc olc h m es clock w hC hM hkw hf)
  obtain ⟨W, hW⟩ : ∃ W, W = w.setCell ⟨c, 5, none⟩ (.int .i64 ((m + 1 : Nat) : Int)) := ⟨_, rfl⟩
  have hC1 : Cac W c mb nwc olc h (m + 1) := by rw [hW]; exact set_same hC
  have hF1 : Fl W f d c := by rw [hW]; exact set_far hF n1
  have hU1 : Upd (fun j => j = c) w W := by rw [hW]; exact Upd.setCell (F := fun j => j = c) rfl _
  have hbW : Below w0.heap.size w0 W := hbel.trans (hU1.below hbel.size (fun j hj => by omega))
  have hme := meth15_ReadAt W d ⟨ms, 0, none⟩ (hm0.all.below hbW).c0
  have F2 := aside (fRead_any ms s 200 lv L (64 * k) 64 W (hm0.fil.below hbW) (hm0.rep.below hbW) (by omega) (by decide) (by decide))
  have HKE := aside hkeep
  have HC1 := aside hC1
  have HF1 := aside hF1
  have HU1 := aside hU1
  have HG := aside hG
  have HGH := aside hGH
  have HH := aside hH
  have hmul : (((64 * k : Nat)) : Int) = (k : Int) * 64 := by omega
  have hcw : c < w.heap.size := (Array.getElem?_eq_some_iff.1 hC).1
  rw [show (((m + 1 : Nat) : Int)) = (m : Int) + 1 by omega] at hW
  clear hF hC hM hf hC1 hF1 hU1 hbW hm0 hbel hG hGH hkeep hkw
  rw [hW] at hme
  rw [hmul] at F2
  go_enter Try.func112, Try.ntmps112
  go_wp2_with fail
  refine F1.out.mono ?_
  rintro e w1 ⟨rfl, rfl⟩
  go_wp2_with fail
  rw [← hW]
  clear hW hme fc
  refine F2.out.mono ?_
  rintro e w2 ⟨k', hk', rfl, hrow, hb2⟩
  obtain rfl : k' = 64 := by omega
  have F3 := aside (bclone_any ⟨W.heap.size, 0, none⟩ (readB L (64 * k) 64) 64 w2 (by simp) (by simp) (fun j v hj => by rw [Addr.add_lit, Nat.zero_add, cell_of_row w2 W.heap.size j _ _ _ hrow]; simpa using hj))
  rw [readB_length] at F3
  have HB2 := aside hb2
  clear hrow hb2 hk' f5 f0 c5
  go_wp2_with fail
  refine F3.out.mono ?_
  rintro e w3 ⟨g, cap, rfl, hg, hown, hb3⟩
  have HB3 := aside (below_tr HB2.out hb3)
  obtain ⟨V, hV⟩ : ∃ V, V = w3.alloc (.cells #[.int .i64 k, .slice (some ⟨g, 0, none⟩) 64 cap, .pointer none, .pointer none] 110) := ⟨_, rfl⟩
  have hbV : Below W.heap.size W V := by rw [hV]; exact below_tr HB3.out (below_al w3 _)
  have hBV : Blk V w3.heap.size k (.slice (some ⟨g, 0, none⟩) 64 cap) (.pointer none) (.pointer none) := by rw [hV]; exact heap_alloc_new w3 _
  have hCV : Cac V c mb nwc olc h (m + 1) := (hbV.block c (Array.getElem?_eq_some_iff.1 HC1.out).1).trans HC1.out
  have hfl : Fl V f d c := (hbV.block f (Array.getElem?_eq_some_iff.1 HF1.out).1).trans HF1.out
  have f5 := hfl.cells.2
  rw [hV] at f5
  have hUV : Upd (fun j => j = c) w1 V := HU1.out.trans (Upd.of_below (F := fun j => j = c) hbV) (fun _ _ h => h)
  have hs1 := HU1.out.size
  have hs2 := HB2.out.size
  have hs3 := hb3.size
  have F4 := aside (HKE.out V w3.heap.size _ (by omega) hUV hCV hBV)
  have HU2 := aside hUV
  have HO : Aside (V.ownsRow 0 5 1 (.slice (some ⟨g, 0, none⟩) 64 cap) 64 (bcells (readB L (64 * k) 64))) := by rw [hV]; exact row_below hown (below_al w3 _)
  have hg3 : g < w3.heap.size := by
    rcases hown.2 with ⟨h0, -⟩ | ⟨g', cap', cur, h0, -, hh, -⟩
    · simp at h0
    · simp only [Value.slice.injEq, Option.some.injEq, Addr.mk.injEq] at h0
      rw [h0.1.1]; exact (Array.getElem?_eq_some_iff.1 hh).1
  have HS := aside (And.intro (show w1.heap.size ≤ w3.heap.size by omega) (show w1.heap.size ≤ g by omega))
  clear hbV hBV hCV hUV hown hb3 hfl hs1 hs2 hs3 hg
  go_wp2_with fail
  rw [← hV]
  refine F4.out.mono ?_
  rintro e w4 ⟨rfl, hR, hc1, hU4⟩
  have HR := aside hR
  have HU4 := aside hU4
  clear hR hU4 hV f5
  go_wp2_with fail
  go_ret2
  obtain ⟨s1, s2⟩ := HS.out
  refine ⟨w3.heap.size, g, cap, _, rfl, s1, s2, HU4.out.row HO.out (fun j hj hGj => ?_), HR.out, (HU2.out.mono (G := H) (fun j _ e => by rw [e]; exact HH.out)).trans HU4.out (fun j hj hGj => HGH.out _ j s1 hj hGj)⟩
  simp only [Value.ownBlock, Option.some.injEq] at hj
  rcases HG.out _ _ hGj with e | e <;> omega
end Go.Proofs.Ytppeiljpechenaa
