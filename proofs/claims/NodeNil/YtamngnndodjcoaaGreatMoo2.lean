/- Made: the statements' own file, and a handle over it that can all. -/
import Derived.Test.YtamngnndodjcoaaGreatMoo
import Derived.Test.YtamngnndodjcoaaGreatNod
namespace Go.Proofs.YtamngnndodjcoaaGreat
open Go.RowKit

/-- The document's bytes, all below hi. -/
structure Byt (w : World) (hi b : Nat) (l : List UInt8) : Prop where
  lb : b < hi
  lw : hi ≤ w.heap.size
  bd : l.length ≤ 4194304
  con : ∃ lv, w.heap[b]? = some (.cells #[lv, .int .i64 (l.length : Int)] 183 (0, 0)) ∧
    ((l = [] ∧ lv = .slice none 0 0) ∨ (0 < l.length ∧ ∃ g cap q cap2, lv = .slice (some ⟨g, 0, none⟩) 1 cap ∧ g < hi ∧ q < hi ∧ l.length ≤ cap2 ∧ w.cell? ⟨g, 0, none⟩ = some (.int .i64 0) ∧ w.cell? ⟨g, 1, none⟩ = some (.slice (some ⟨q, 0, none⟩) l.length cap2) ∧ ∀ j v, (bcells l)[j]? = some v → w.cell? ((⟨q, 0, none⟩ : Addr).add j) = some v))
theorem Byt.upd {w w' : World} {hi b : Nat} {l : List UInt8} {F : Nat → Prop} (h : Byt w hi b l) (u : Upd F w w') (hF : ∀ k, k < hi → ¬ F k) : Byt w' hi b l := by
  obtain ⟨lv, h1, h2⟩ := h.con
  have hl := h.lb; have hw := h.lw; have hs := u.size
  have hc : ∀ (p : Addr) (v : Value), p.block < hi → w.cell? p = some v → w'.cell? p = some v := fun p v hp hv => (World.cell?_of_block (u.block _ (by omega) (hF _ hp))).trans hv
  refine ⟨hl, by omega, h.bd, lv, (u.block _ (by omega) (hF _ hl)).trans h1, ?_⟩
  rcases h2 with h2 | ⟨h0, g, cap, q, cap2, e, hg, hq, hcc, c0, c1, c2⟩
  · exact .inl h2
  · exact .inr ⟨h0, g, cap, q, cap2, e, hg, hq, hcc, hc _ _ hg c0, hc _ _ hg c1, fun j v hj => hc _ _ (by rw [add_block]; exact hq) (c2 j v hj)⟩
theorem Byt.below {w w' : World} {hi b : Nat} {l : List UInt8} (h : Byt w hi b l) (u : Below w.heap.size w w') : Byt w' hi b l := h.upd (Upd.of_below (F := fun _ => False) u) (fun _ _ h => h)

set_option maxRecDepth 20000 in
set_option maxHeartbeats 1000000 in
theorem new1_any (ba : Option Addr) (l : List UInt8) (c : Nat) (w : World) (hs : BsAt w ba l) (hl : l.length ≤ 4194304) :
    Calls Tryz.prog 81 #[.slice ba l.length c] w fun e w' => ∃ b, e = .returned (Pt b) ∧ w.heap.size ≤ b ∧ Byt w' w'.heap.size b l ∧ Below w.heap.size w w' := by
  have hn : ¬ (4194304 : Int) < (l.length : Int) := by omega
  have AS := aside hs
  clear hs
  go_enter Tryz.func81, Tryz.ntmps81
  go_wp2_with fail
  obtain ⟨W, hW⟩ : ∃ W, W = w.alloc (.cells #[.slice none 0 0, .int .i64 (l.length : Int)] 183) := ⟨_, rfl⟩
  rw [← hW]
  have hb : W.heap[w.heap.size]? = some (.cells #[.slice none 0 0, .int .i64 (l.length : Int)] 183 (0, 0)) := by rw [hW]; exact heap_alloc_new w _
  have hB : Below w.heap.size w W := by rw [hW]; exact below_al w _
  clear hW
  have hsz := hB.size
  have hlt := (Array.getElem?_eq_some_iff.1 hb).1
  cases hlc : l with
  | nil =>
    subst hlc
    refine (layNone_any _ 0 ba c W).mono ?_
    rintro e w2 ⟨rfl, rfl⟩
    go_wp2_with fail
    go_ret
    exact ⟨_, rfl, Nat.le_refl _, ⟨hlt, Nat.le_refl _, by simp, _, hb, .inl ⟨rfl, rfl⟩⟩, hB⟩
  | cons x xs =>
    obtain ⟨ad, rfl, hcs⟩ := AS.out (by rw [hlc]; simp)
    rw [← hlc]
    have hl0 : 0 < l.length := by rw [hlc]; simp
    clear hlc
    refine (lay_new w.heap.size (l.length : Int) ad l c W hb hl0 hl (fun j v hj => (hB.cell (World.block_lt_of_cell? w _ (hcs j v hj))).trans (hcs j v hj))).mono ?_
    rintro e w2 ⟨rfl, g, cap, q, cap2, h1, h2, h3, h3c, h4, h5, h6, hu⟩
    have hu2 : Below w.heap.size w w2 := hB.trans (hu.below hsz (fun k hk => by omega))
    have hl2 := (Array.getElem?_eq_some_iff.1 h1).1
    have hlg := World.block_lt_of_cell? w2 _ h4
    have hlq : q < w2.heap.size := by
      have := World.block_lt_of_cell? w2 _ (h6 0 _ (by rw [List.getElem?_eq_getElem (by rw [bcells_length]; exact hl0)]))
      rw [add_block] at this
      exact this
    go_wp2_with fail
    go_ret
    exact ⟨_, rfl, Nat.le_refl _, ⟨hl2, Nat.le_refl _, hl, _, h1, .inr ⟨hl0, g, cap, q, cap2, rfl, hlg, hlq, h3c, h4, h5, h6⟩⟩, hu2⟩
end Go.Proofs.YtamngnndodjcoaaGreat
