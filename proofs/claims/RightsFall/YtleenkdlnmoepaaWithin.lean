/- What a search over the stretches answers, and the stretches within two places as they are handed out to be read. -/
import Derived.Test.YtleenkdlnmoepaaSearch
namespace Go.Proofs.Ytleenkdlnmoepaa
open Go.RowKit
theorem aside {p : Prop} (h : p) : Aside p := h
set_option maxHeartbeats 1000000 in
theorem search_any (g : Nat) (cb : Array Value) (eg : ∀ args w, (callFunc g args).run Try.prog w = .ok (.enter g args) w) (b : Nat) (lv : Value) (L : List Piece) (q : Piece → Bool) (w : World)
    (hl : w.cell? ⟨b, 2, none⟩ = some lv) (hrow : w.ownsRow 0 179 2 lv L.length (lcells L)) (hn : L.length < 4611686018427387904)
    (hg : ∀ d, d ∈ L → ∀ W, Below w.heap.size w W → Calls Try.prog g (#[d.val] ++ cb) W fun e w' => e = .returned (.bool (q d)) ∧ Below W.heap.size W w')
    (hm : ∀ i j (hi : i < L.length) (hj : j < L.length), i ≤ j → q L[i] = true → q L[j] = true) :
    Calls Try.prog 47 #[.pointer (some ⟨b, 0, none⟩), .func (.func g) #[] cb] w fun e w' => e = .returned (.int .i64 (L.findIdx q)) ∧ Below w.heap.size w w' := by
  obtain ⟨la, cap, hv, -, -⟩ := row_form hrow
  obtain ⟨W0, hW0⟩ : ∃ W0, W0 = (w.alloc (.cells #[.pointer (some ⟨b, 0, none⟩)] 60)).alloc (.cells #[.func (.func g) #[] cb] 181) := ⟨_, rfl⟩
  have hB0 : Below w.heap.size w W0 := by rw [hW0]; exact (below_al w _).alloc (by simp) _
  have co : W0.cell? ⟨w.heap.size + 1, 0, none⟩ = some (.func (.func g) #[] cb) := by rw [hW0]; go_simp
  have cs : W0.cell? ⟨w.heap.size, 0, none⟩ = some (.pointer (some ⟨b, 0, none⟩)) := by rw [hW0]; go_simp
  have e54 : ∀ args w, (callFunc 55 args).run Try.prog w = .ok (.enter 55 args) w := enters_of Try.func55 (by kernel_rfl) rfl
  have hS := sortSearch_any 55 #[.pointer (some ⟨w.heap.size + 1, 0, none⟩), .pointer (some ⟨w.heap.size, 0, none⟩)] L.length (fun i => if h : i < L.length then q L[i] else false) W0 e54 hn
    (fun W i hi hW => by
      have hwW := below_tr hB0 hW
      obtain ⟨lg, cap2, hv2, h0, h1⟩ := row_at (row_below hrow hwW) hi
      have hbl := World.block_lt_of_cell? w _ hl
      have hb0 := World.block_lt_of_cell? W0 _ co
      have hb1 := World.block_lt_of_cell? W0 _ cs
      simp only [dif_pos hi]
      exact search1_any g cb eg (w.heap.size + 1) w.heap.size b i L.length cap2 lg L[i].org (some ⟨L[i].blk, 0, none⟩) L[i].bs.length L[i].cap (q L[i]) W hi
        ((hW.cell hb0).trans co) ((hW.cell hb1).trans cs) (by rw [hwW.cell hbl, hl, hv2]) h0 h1
        (fun d os => hg L[i] (List.getElem_mem hi) _ (below_tr hwW (below_ext _ _ _))))
    (fun a c hac hc h => by
      have ha : a < L.length := by omega
      simp only [dif_pos ha, dif_pos hc] at h ⊢
      exact hm a c ha hc hac h)
  have HS := aside hS
  have HM := aside hm
  have HR := aside hrow
  have HB0 := aside hB0
  clear hS hm hg hrow co cs hB0
  have hbl : b < w.heap.size := World.block_lt_of_cell? w _ hl
  subst hv
  go_enter Try.func47, Try.ntmps47
  go_wp2_with fail
  rw [← hW0]
  refine HS.out.mono ?_
  rintro e w' ⟨⟨k, rfl, hk, h1, h2⟩, hb⟩
  have hfi : L.findIdx q = k := findIdx_of q L k hk (fun t ht htk => by have := h1 t htk; simpa [dif_pos ht] using this) (fun t ht hkt => by have := h2 t hkt ht; simpa [dif_pos ht] using this)
  go_wp2
  go_ret
  exact ⟨by rw [hfi]; rfl, below_tr HB0.out hb⟩

/-- A piece of a row of stretches, as it is handed out to be read. -/
def View (w : World) (kb : Option Nat) (rv : Value) (M : List Piece) : Prop :=
  ∃ a cap, rv = .slice a M.length cap ∧ ∀ t (h : t < M.length), ∃ g o, a = some ⟨g, o, none⟩ ∧ kb = some g ∧ w.cell? ⟨g, o + t * 2, none⟩ = some (.int .i64 M[t].org) ∧ w.cell? ⟨g, o + t * 2 + 1, none⟩ = some M[t].dv

theorem view_row {w : World} {la : Option Addr} {cap : Nat} {L : List Piece} (h : w.ownsRow 0 179 2 (.slice la L.length cap) L.length (lcells L)) (i j : Nat) (hij : i ≤ j) (hj : j ≤ L.length) (a' : Option Addr) (c' : Nat)
    (ha : a' = la.map (fun x => x.add (i * 2)) ∨ j = i) : View w (Value.ownBlock (.slice la L.length cap)) (.slice a' (j - i) c') ((L.take j).drop i) := by
  have hlen : ((L.take j).drop i).length = j - i := by simp; omega
  refine ⟨a', c', by rw [hlen], fun t ht => ?_⟩
  rw [hlen] at ht
  rcases ha with rfl | ha
  · obtain ⟨g, cap2, hv, h0, h1⟩ := row_at h (i := i + t) (by omega)
    simp only [Value.slice.injEq] at hv
    obtain ⟨rfl, -, -⟩ := hv
    refine ⟨g, i * 2, by simp [Addr.add_lit], rfl, ?_, ?_⟩
    · rw [show i * 2 + t * 2 = (i + t) * 2 by omega, h0]; simp
    · rw [show i * 2 + t * 2 + 1 = (i + t) * 2 + 1 by omega, h1]; simp
  · omega

set_option maxHeartbeats 1000000 in
theorem within_any (b : Nat) (lv : Value) (L : List Piece) (x y : Int) (w : World)
    (hl : w.cell? ⟨b, 2, none⟩ = some lv) (hrow : w.ownsRow 0 179 2 lv L.length (lcells L)) (hn : L.length < 4611686018427387904)
    (hbd : ∀ d, d ∈ L → d.org ≤ 4294967296 ∧ d.bs.length ≤ 4294967296) (hso : ∀ i j (hi : i < L.length) (hj : j < L.length), i ≤ j → L[i].org ≤ L[j].org ∧ L[i].fin ≤ L[j].fin)
    (hij : L.findIdx (fun d => decide (x < d.fin)) ≤ L.findIdx (fun d => decide (y ≤ d.org))) :
    Calls Try.prog 45 #[.pointer (some ⟨b, 0, none⟩), .int .i64 x, .int .i64 y] w fun e w' => (∃ rv, e = .returned rv ∧ View w lv.ownBlock rv ((L.take (L.findIdx (fun d => decide (y ≤ d.org)))).drop (L.findIdx (fun d => decide (x < d.fin))))) ∧ Below w.heap.size w w' := by
  obtain ⟨i, hi⟩ : ∃ i, i = L.findIdx (fun d => decide (x < d.fin)) := ⟨_, rfl⟩
  obtain ⟨j, hj⟩ : ∃ j, j = L.findIdx (fun d => decide (y ≤ d.org)) := ⟨_, rfl⟩
  have hjn : j ≤ L.length := by rw [hj]; exact List.findIdx_le_length
  rw [← hi, ← hj] at hij ⊢
  obtain ⟨W0, hW0⟩ : ∃ W0, W0 = (w.alloc (.cells #[.int .i64 x] 2)).alloc (.cells #[.int .i64 y] 2) := ⟨_, rfl⟩
  have hB0 : Below w.heap.size w W0 := by rw [hW0]; exact (below_al w _).alloc (by simp) _
  have cx : W0.cell? ⟨w.heap.size, 0, none⟩ = some (.int .i64 x) := by rw [hW0]; go_simp
  have cy : W0.cell? ⟨w.heap.size + 1, 0, none⟩ = some (.int .i64 y) := by rw [hW0]; go_simp
  have bx := World.block_lt_of_cell? W0 _ cx
  have by' := World.block_lt_of_cell? W0 _ cy
  have hbl : b < w.heap.size := World.block_lt_of_cell? w _ hl
  have e51 : ∀ args w, (callFunc 52 args).run Try.prog w = .ok (.enter 52 args) w := enters_of Try.func52 (by kernel_rfl) rfl
  have e52 : ∀ args w, (callFunc 53 args).run Try.prog w = .ok (.enter 53 args) w := enters_of Try.func53 (by kernel_rfl) rfl
  have S1 : ∀ W, Below W0.heap.size W0 W → Calls Try.prog 47 #[.pointer (some ⟨b, 0, none⟩), .func (.func 52) #[] #[.pointer (some ⟨w.heap.size, 0, none⟩)]] W fun e w' => e = .returned (.int .i64 i) ∧ Below W.heap.size W w' := fun W hW => by
    have hwW := below_tr hB0 hW
    rw [hi]
    exact search_any 52 _ e51 b lv L (fun d => decide (x < d.fin)) W ((hwW.cell hbl).trans hl) (row_below hrow hwW) hn
      (fun d hd V hV => within1_any d.org (some ⟨d.blk, 0, none⟩) d.bs.length d.cap w.heap.size x V (by omega) (by have := (hbd d hd).1; omega) (hbd d hd).2 (((below_tr hW hV).cell bx).trans cx))
      (fun a c ha hc hac h => by have := (hso a c ha hc hac).2; simp at h ⊢; omega)
  have S2 : ∀ W, Below W0.heap.size W0 W → Calls Try.prog 47 #[.pointer (some ⟨b, 0, none⟩), .func (.func 53) #[] #[.pointer (some ⟨w.heap.size + 1, 0, none⟩)]] W fun e w' => e = .returned (.int .i64 j) ∧ Below W.heap.size W w' := fun W hW => by
    have hwW := below_tr hB0 hW
    rw [hj]
    exact search_any 53 _ e52 b lv L (fun d => decide (y ≤ d.org)) W ((hwW.cell hbl).trans hl) (row_below hrow hwW) hn
      (fun d hd V hV => within2_any d.org (some ⟨d.blk, 0, none⟩) d.bs.length d.cap (w.heap.size + 1) y V (((below_tr hW hV).cell by').trans cy))
      (fun a c ha hc hac h => by have := (hso a c ha hc hac).1; simp at h ⊢; omega)
  have HS1 := aside S1
  have HS2 := aside S2
  have HB0 := aside hB0
  have HR := aside hrow
  have HI := aside hi
  have HJ := aside hj
  obtain ⟨la, cap, hv, hc1, hc2⟩ := row_form hrow
  have HV := aside hv
  clear S1 S2 hB0 hrow cx cy hbd hso hi hj bx by'
  go_enter Try.func45, Try.ntmps45
  go_wp2_with fail
  rw [← hW0]
  refine (HS1.out _ (Below.refl _ _)).mono ?_
  rintro e w1 ⟨rfl, hb1⟩
  go_wp2_with fail
  refine (HS2.out _ hb1).mono ?_
  rintro e w2 ⟨rfl, hb2⟩
  have hb02 := below_tr HB0.out (below_tr hb1 hb2)
  have hl2 : w2.cell? ⟨b, 2, none⟩ = some lv := (hb02.cell hbl).trans hl
  rw [HV.out] at hl2
  have hr2 := HR.out
  rw [HV.out] at hr2
  have HR2 := aside hr2
  clear hr2 hv
  go_wp2
  all_goals go_ret
  · exact ⟨⟨_, rfl, by rw [HV.out]; exact view_row HR2.out i j hij hjn _ _ (.inr (by omega))⟩, hb02⟩
  · exact ⟨⟨_, rfl, by rw [HV.out]; exact view_row HR2.out i j hij hjn _ _ (.inl rfl)⟩, hb02⟩

end Go.Proofs.Ytleenkdlnmoepaa
