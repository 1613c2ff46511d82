/- The document's edges: one step of the two loops that lay them. -/
import Derived.Test.YtfpegmmciphjiaaEdR
namespace Go.Proofs.Ytfpegmmciphjiaa
open Go.RowKit Relation

theorem LsAt.lockL {w w' : World} {a : Option Addr} {L : List Lk} (h : LsAt w a L) (hb : Below w.heap.size w w') {i : Nat} {l : Lk} (hi : L[i]? = some l) : ∃ g o, a = some ⟨g, o, none⟩ ∧ g < w.heap.size ∧ w'.cell? ⟨g, o + i * 4, none⟩ = some (.int .i64 l.who) ∧ w'.cell? ⟨g, o + i * 4 + 1, none⟩ = some (.int .i64 l.org) ∧ w'.cell? ⟨g, o + i * 4 + 2, none⟩ = some (.int .i64 l.len) ∧ w'.cell? ⟨g, o + i * 4 + 3, none⟩ = some (.bool l.sh) := by
  obtain ⟨g, o, rfl, hr⟩ := h (fun h0 => by rw [h0] at hi; simp at hi)
  have hg : g < w.heap.size := World.block_lt_of_cell? _ _ (hr.lock hi).1
  obtain ⟨h0, h1, h2, h3⟩ := (hr.below hb).lock hi
  exact ⟨g, o, rfl, hg, h0, h1, h2, h3⟩

theorem lit_one (wq : World) (z : Int) : [z] ≠ [] → ∃ g o, (some ⟨wq.heap.size, 0, none⟩ : Option Addr) = some ⟨g, o, none⟩ ∧ Rd (wq.alloc (.cells #[.int .i64 z] 3)).drew g o (nums [z]) := fun _ => ⟨_, _, rfl, fun j u hj => by
  match j, hj with
  | 0, hj =>
    simp [nums] at hj; subst hj
    exact cell_of_row (wq.alloc (.cells #[.int .i64 z] 3)) wq.heap.size 0 _ _ _ (heap_alloc_new wq _)
  | j + 1, hj => simp [nums] at hj⟩

theorem ed_prep {B : Nat} {wq : World} {eb : Nat} {vs : Nat → Value} {G : Nat → List Int} (EQ : EdV B wq eb vs G) {x : Nat} (hx : x < 256) {ea : Option Addr} {nG ec : Nat} (hve : vs x = .slice ea nG ec) (z : Int) :
    OwnI (wq.alloc (.cells #[.int .i64 z] 3)).drew (.slice ea nG ec) (G x) ∧ ∀ w3, Upd (fun k => (Value.slice ea nG ec).ownBlock = some k) (wq.alloc (.cells #[.int .i64 z] 3)).drew w3 →
      w3.cell? ⟨eb, x, none⟩ = some (.slice ea nG ec) ∧ w3.frozen? ⟨eb, x, none⟩ = false ∧ ∀ g off v, g < B → wq.cell? ⟨g, off, none⟩ = some v → w3.cell? ⟨g, off, none⟩ = some v := by
  have BA : Below wq.heap.size wq (wq.alloc (.cells #[.int .i64 z] 3)).drew := below_tr (below_al _ _) (below_dr _)
  have hne : ¬ (Value.slice ea nG ec).ownBlock = some eb := fun e => (EQ.low x eb hx (by rw [hve]; exact e)).2 rfl
  have ce := EQ.cell hx
  rw [hve] at ce
  refine ⟨by have := (EQ.own x hx).below BA; rw [hve] at this; exact this, fun w3 hu => ⟨hu.cell ((BA.cell (p := ⟨eb, x, none⟩) EQ.lt).trans ce) hne, ?_, fun g off v hg hc => hu.cell ((BA.cell (p := ⟨g, off, none⟩) (World.block_lt_of_cell? _ _ hc)).trans hc) (fun e => ?_)⟩⟩
  · have h1 : w3.heap[eb]? = wq.heap[eb]? := (hu.block eb (Nat.lt_of_lt_of_le EQ.lt BA.size) hne).trans (BA.block eb EQ.lt)
    obtain ⟨cur, h2, -⟩ := EQ.blk
    exact frozen_of_row w3 eb x _ _ (h1.trans h2)
  · have := (EQ.low x g hx (by rw [hve]; exact e)).1
    omega

theorem ed_step {w wq w3 : World} {eb : Nat} {vs : Nat → Value} {G : Nat → List Int} (EQ : EdV w.heap.size wq eb vs G) {x : Nat} (hx : x < 256) {ea : Option Addr} {nG ec : Nat} (hve : vs x = .slice ea nG ec) {z : Int} {v' : Value} (hB : Below w.heap.size w wq)
    (ho : OwnI w3 v' (G x ++ [z])) (hu : Upd (fun k => (Value.slice ea nG ec).ownBlock = some k) (wq.alloc (.cells #[.int .i64 z] 3)).drew w3) (hv : v'.ownBlock = (Value.slice ea nG ec).ownBlock ∨ v'.ownBlock = some (wq.alloc (.cells #[.int .i64 z] 3)).drew.heap.size ∧ Below (wq.alloc (.cells #[.int .i64 z] 3)).drew.heap.size (wq.alloc (.cells #[.int .i64 z] 3)).drew w3) :
    EdV w.heap.size (w3.setCell ⟨eb, x, none⟩ v') eb (fun j => if j = x then v' else vs j) (fun j => if j = x then G x ++ [z] else G j) ∧ Below w.heap.size w (w3.setCell ⟨eb, x, none⟩ v') := by
  have BA : Below wq.heap.size wq (wq.alloc (.cells #[.int .i64 z] 3)).drew := below_tr (below_al _ _) (below_dr _)
  rw [← hve] at hu hv
  have h2 := below_tr hB BA
  obtain ⟨k1, k2⟩ := (EQ.below BA).push hx ho hu h2.size hv
  exact ⟨k1, h2.trans (k2.below h2.size (fun k hk => hk.elim (fun e => by rw [e]; exact EQ.elb) (fun e => (EQ.low x k hx e).1)))⟩

/-- A row of numbers, read at a place. -/
theorem OwnI.at {w : World} {a : Option Addr} {n c : Nat} {q : List Int} (h : OwnI w (.slice a n c) q) {k : Nat} {x : Int} (hk : q[k]? = some x) : ∃ g, a = some ⟨g, 0, none⟩ ∧ w.cell? ⟨g, k, none⟩ = some (.int .i64 x) := by
  rcases h.2 with ⟨-, hz⟩ | ⟨g, c2, cur, he, -⟩
  · have := (List.getElem?_eq_some_iff.1 hk).1; omega
  · have h2 := h
    rw [he] at h2
    injection he with e1 e2 e3
    refine ⟨g, e1, ?_⟩
    have := rd_of_row h2 k (.int .i64 x) (by simp [nums, hk])
    simpa using this
theorem OwnI.rd {w : World} {a : Option Addr} {n c : Nat} {q : List Int} (h : OwnI w (.slice a n c) q) : q ≠ [] → ∃ g o, a = some ⟨g, o, none⟩ ∧ Rd w g o (nums q) := fun hq => by
  rcases h.2 with ⟨-, hz⟩ | ⟨g, c2, cur, he, -⟩
  · exact absurd (List.length_eq_zero_iff.1 hz) hq
  · have h2 := h
    rw [he] at h2
    injection he with e1 e2 e3
    exact ⟨g, 0, e1, rd_of_row h2⟩
theorem E_range {H W : List Lk} (hmw : ∀ x ∈ W, may x = true) {a b : Int} (h : E H W a b) : 0 ≤ a ∧ a < 256 := by
  obtain ⟨S, x, R, y, h1, -, -, h4, -⟩ := h
  have := may_iff.1 (hmw x (by rw [h1]; simp))
  omega
theorem E_rangeR {H W : List Lk} (hmh : ∀ x ∈ H, may x = true) (hmw : ∀ x ∈ W, may x = true) {a b : Int} (h : E H W a b) : 0 ≤ b ∧ b < 256 := by
  obtain ⟨S, x, R, y, h1, h2, -, -, h5⟩ := h
  have : may y = true := h2.elim (hmh y) (fun h => hmw y (by rw [h1]; simp [h]))
  have := may_iff.1 this
  omega
theorem tg_one {r : Int → Int → Prop} {a b : Int} (h : TransGen r a b) : ∃ c, r a c := by
  induction h with
  | single x => exact ⟨_, x⟩
  | tail _ _ ih => exact ih
theorem tg_last {r : Int → Int → Prop} {a b : Int} (h : TransGen r a b) : ∃ c, r c b := by
  cases h with
  | single x => exact ⟨_, x⟩
  | tail _ x => exact ⟨_, x⟩
theorem no_circ {H W : List Lk} (hmw : ∀ x ∈ W, may x = true) (h : ∀ a : Nat, a < 256 → ¬ TransGen (E H W) (a : Int) (a : Int)) : ¬ Circ H W := by
  rintro ⟨a, ta⟩
  obtain ⟨c, hc⟩ := tg_one ta
  have hr := E_range hmw hc
  exact h a.toNat (by omega) (by rw [Int.toNat_of_nonneg hr.1]; exact ta)
end Go.Proofs.Ytfpegmmciphjiaa
