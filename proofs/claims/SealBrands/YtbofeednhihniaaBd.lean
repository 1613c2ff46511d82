/- Brands as plain data: who is the same as whom; what Same and Open answer of them. -/
import Derived.Test.YtbofeednhihniaaBrand
namespace Go.Proofs.Ytbofeednhihniaa
open Go.RowKit

/-- A brand: its block, its maker (0 New, 1 Plain, any other Odd), the block of its own (New), its name, its list (Odd). -/
structure Bd where
  p : Nat
  k : Nat
  q : Nat
  s : ByteArray
  v : Value
def Bd.t (b : Bd) : TypeId := if b.k = 0 then 56 else if b.k = 1 then 9 else 40
def Bd.x (b : Bd) : Value := if b.k = 0 then .pointer (some ⟨b.q, 0, none⟩) else if b.k = 1 then .string b.s else b.v
structure Br (w : World) (b : Bd) : Prop where
  row : w.heap[b.p]? = some (.cells #[.iface b.t b.x] 55 (0, 0))
  own : b.k = 0 → w.heap[b.q]? = some (.cells #[.string b.s] 58 (0, 0))
/-- Are two the same? -/
def sm (a b : Bd) : Bool := if a.k = 0 ∧ b.k = 0 then decide (a.q = b.q) else if a.k = 1 ∧ b.k = 1 then a.s == b.s else false

theorem Br.below {w w' : World} {b : Bd} (h : Br w b) (k : Below w.heap.size w w') : Br w' b :=
  ⟨(k.block b.p (Array.getElem?_eq_some_iff.1 h.row).1).trans h.row, fun h0 => (k.block b.q (Array.getElem?_eq_some_iff.1 (h.own h0)).1).trans (h.own h0)⟩
theorem Br.lt {w : World} {b : Bd} (h : Br w b) : b.p < w.heap.size := (Array.getElem?_eq_some_iff.1 h.row).1
theorem Br.c0 {w : World} {b : Bd} (h : Br w b) : w.cell? ⟨b.p, 0, none⟩ = some (.iface b.t b.x) := by
  rw [cell_of_row w b.p _ _ _ _ h.row]; rfl

theorem cmp56 : (Try.prog.info? 56).map (fun i => i.comparable) = some true := by kernel_rfl
theorem cmp9 : (Try.prog.info? 9).map (fun i => i.comparable) = some true := by kernel_rfl
theorem siz58 : (Try.prog.info? 58).map (fun i => decide (i.size = 0)) = some false := by kernel_rfl
theorem siz77 : (Try.prog.info? 58).isSome = true := by kernel_rfl

theorem eql_own (q r : Nat) (w : World) (s u : ByteArray) (h1 : w.heap[q]? = some (.cells #[.string s] 58 (0, 0))) (h2 : w.heap[r]? = some (.cells #[.string u] 58 (0, 0))) :
    (binOp .eql 20 (.iface 56 (.pointer (some ⟨q, 0, none⟩))) (.iface 56 (.pointer (some ⟨r, 0, none⟩)))).run Try.prog w = .ok (.bool (decide (q = r))) w := by
  obtain ⟨i, hi, hc⟩ := Option.map_eq_some_iff.1 cmp56
  obtain ⟨j, hj, hz⟩ := Option.map_eq_some_iff.1 siz58
  by_cases e : q = r
  · subst e
    rw [run_eql_iface_ptr_same w ⟨q, 0, none⟩ Try.underlying20 Try.underlying56 hi hc hj]
    simp
  · rw [run_eql_iface_ptr_other w Try.underlying20 Try.underlying56 hi hc hj (by simpa using hz) (fun h => e (by injection h)) h1 h2]
    simp [e]

theorem eql_text (s u : ByteArray) (w : World) : (binOp .eql 20 (.iface 9 (.string s)) (.iface 9 (.string u))).run Try.prog w = .ok (.bool (s == u)) w := by
  obtain ⟨i, hi, hc⟩ := Option.map_eq_some_iff.1 cmp9
  have h : ∀ d : Nat, (Op.equalIn (d + 2) 20 (.iface 9 (.string s)) (.iface 9 (.string u))).run Try.prog w = .ok (s == u) w := fun d => by
    simp [Op.equalIn, run_underlying Try.underlying20, run_underlying Try.underlying9, typeInfo, hi, hc]
  simp only [binOp]
  simp [Op.equal, Op.maxDepth, h 9998]

theorem same_any (a b : Bd) (w : World) (ha : Br w a) (hb : Br w b) :
    Calls Try.prog 13 #[.pointer (some ⟨a.p, 0, none⟩), .pointer (some ⟨b.p, 0, none⟩)] w fun e w' => e = .returned (.bool (sm a b)) ∧ Below w.heap.size w w' := by
  have ca := ha.c0
  have cb := hb.c0
  by_cases h0 : a.k = 0 ∧ b.k = 0
  · have e : sm a b = decide (a.q = b.q) := by unfold sm; rw [if_pos h0]
    rw [e]
    unfold Bd.t Bd.x at ca cb
    rw [if_pos h0.1, if_pos h0.1] at ca
    rw [if_pos h0.2, if_pos h0.2] at cb
    exact same_of a.p b.p 56 56 _ _ _ w ca cb fun W hW => eql_own a.q b.q W a.s b.s ((ha.below hW).own h0.1) ((hb.below hW).own h0.2)
  by_cases h1 : a.k = 1 ∧ b.k = 1
  · have e : sm a b = (a.s == b.s) := by unfold sm; rw [if_neg h0, if_pos h1]
    rw [e]
    unfold Bd.t Bd.x at ca cb
    rw [if_neg (by omega), if_pos h1.1, if_neg (by omega), if_pos h1.1] at ca
    rw [if_neg (by omega), if_pos h1.2, if_neg (by omega), if_pos h1.2] at cb
    exact same_of a.p b.p 9 9 _ _ _ w ca cb fun W hW => eql_text a.s b.s W
  have e : sm a b = false := by unfold sm; rw [if_neg h0, if_neg h1]
  rw [e]
  by_cases ht : a.t = b.t
  · have h2 : a.t = 40 ∧ b.t = 40 := by
      unfold Bd.t at ht ⊢
      by_cases a0 : a.k = 0 <;> by_cases a1 : a.k = 1 <;> by_cases b0 : b.k = 0 <;> by_cases b1 : b.k = 1 <;> simp_all
    rw [h2.1] at ca
    rw [h2.2] at cb
    exact same_lists a.p b.p _ _ w ca cb
  · exact same_of a.p b.p a.t b.t _ _ _ w ca cb fun W _ => run_eql_iface_types a.t b.t a.x b.x Try.underlying20 ht W

/-- A box: its block, the brand that sealed it, the handle. -/
structure Bx (w : World) (x : Nat) (b : Bd) (h : Nat) : Prop where
  row : w.heap[x]? = some (.cells #[.pointer (some ⟨b.p, 0, none⟩), .pointer (some ⟨h, 0, none⟩)] 53 (0, 0))
theorem Bx.below {w w' : World} {x : Nat} {b : Bd} {h : Nat} (H : Bx w x b h) (k : Below w.heap.size w w') : Bx w' x b h :=
  ⟨(k.block x (Array.getElem?_eq_some_iff.1 H.row).1).trans H.row⟩
theorem Bx.c0 {w : World} {x : Nat} {b : Bd} {h : Nat} (H : Bx w x b h) : w.cell? ⟨x, 0, none⟩ = some (.pointer (some ⟨b.p, 0, none⟩)) := by
  rw [cell_of_row w x _ _ _ _ H.row]; rfl
theorem Bx.c1 {w : World} {x : Nat} {b : Bd} {h : Nat} (H : Bx w x b h) : w.cell? ⟨x, 1, none⟩ = some (.pointer (some ⟨h, 0, none⟩)) := by
  rw [cell_of_row w x _ _ _ _ H.row]; rfl

theorem open_any (a b : Bd) (x h : Nat) (w : World) (ha : Br w a) (hb : Br w b) (hx : Bx w x b h) :
    Calls Try.prog 12 #[.pointer (some ⟨a.p, 0, none⟩), .pointer (some ⟨x, 0, none⟩)] w fun e w' => e = .returned (.tuple #[opn (sm a b) h, .int .i64 (ope (sm a b))]) ∧ Below w.heap.size w w' :=
  open_of a.p x b.p h (sm a b) w hx.c0 hx.c1 (same_any a b w ha hb)

theorem seal_bx (b : Bd) (h : Nat) (w : World) : Calls Try.prog 10 #[.pointer (some ⟨b.p, 0, none⟩), .pointer (some ⟨h, 0, none⟩)] w fun e w' => ∃ x, e = .returned (.pointer (some ⟨x, 0, none⟩)) ∧ Bx w' x b h ∧ Below w.heap.size w w' ∧ w.heap.size ≤ x :=
  (seal_any b.p h w).mono (by
    rintro e w' ⟨rfl, rfl⟩
    exact ⟨_, rfl, ⟨heap_alloc_new w _⟩, below_al w _, Nat.le_refl _⟩)

theorem newB (s : ByteArray) (w : World) : Calls Try.prog 14 #[.string s] w fun e w' => ∃ b : Bd, b.k = 0 ∧ b.s = s ∧ e = .returned (.pointer (some ⟨b.p, 0, none⟩)) ∧ Br w' b ∧ Below w.heap.size w w' ∧ w.heap.size ≤ b.p ∧ w.heap.size ≤ b.q ∧ b.q < w'.heap.size :=
  (new_brand s w).mono (by
    rintro e w' ⟨rfl, rfl⟩
    refine ⟨⟨w.heap.size + 1, 0, w.heap.size, s, .nilIface⟩, rfl, rfl, rfl, ⟨?_, fun _ => ?_⟩, below_tr (below_al w _) (below_al _ _), by simp, Nat.le_refl _, by simp; omega⟩
    · exact heap_alloc2_new w _ _
    · rw [(below_al (w.alloc (.cells #[.string s] 58)) _).block w.heap.size (by simp)]; exact heap_alloc_new w _)
theorem plainB (s : ByteArray) (w : World) : Calls Try.prog 15 #[.string s] w fun e w' => ∃ b : Bd, b.k = 1 ∧ b.s = s ∧ e = .returned (.pointer (some ⟨b.p, 0, none⟩)) ∧ Br w' b ∧ Below w.heap.size w w' ∧ w.heap.size ≤ b.p :=
  (plain_brand s w).mono (by
    rintro e w' ⟨rfl, rfl⟩
    exact ⟨⟨w.heap.size, 1, 0, s, .nilIface⟩, rfl, rfl, rfl, ⟨heap_alloc_new w _, fun h => by simp at h⟩, below_al w _, Nat.le_refl _⟩)
theorem oddB (s : ByteArray) (w : World) : Calls Try.prog 16 #[.string s] w fun e w' => ∃ b : Bd, b.k = 2 ∧ b.s = s ∧ e = .returned (.pointer (some ⟨b.p, 0, none⟩)) ∧ Br w' b ∧ Below w.heap.size w w' ∧ w.heap.size ≤ b.p :=
  (odd_brand s w).mono (by
    rintro e w' ⟨p, v, rfl, h1, h2, h3⟩
    exact ⟨⟨p, 2, 0, s, v⟩, rfl, rfl, rfl, ⟨h1, fun h => by simp at h⟩, h3, h2⟩)
end Go.Proofs.Ytbofeednhihniaa
