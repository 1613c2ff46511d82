/- What it means that a pointer holds bytes with holes: the object's three cells, the row of stretches, the rows of their bytes, each in a block of its own. The searches of package span: the closures that are handed to sort.Search, the search itself, and what it answers over a list of stretches. What a search over the stretches answers, and the stretches within two places as they are handed out to be read. The plain arithmetic of stretches: which of them lie between two places, how many bytes they have there. How many bytes are written between two places: (*Bytes).written. The bytes that are read: what stands at a place, and how a copy lays a stretch over what was read so far. (*Bytes).Get: the bytes that are read are those that stand there, noughts in the holes, in new memory. slices.Clone of bytes and span.fit: where the new rows stand and what they hold. slices.Replace and slices.Insert where all is put at the end, and (*Bytes).replace over any answer of Replace; what a call may have changed. (*Bytes).lay where the bytes come behind all stretches, and the object over any answer of Replace. (*Bytes).Put over any answer of lay, Put behind all stretches, and the calls on no bytes. (*Bytes).Next and New. Handles over one part: what face.Make and Only lay, for all five parts and for the file alone. Handles: only, Only, and what memory.Of lays. What a file of memory answers by its methods, how the methods of a handle's file come up, and the copy of bytes. -/
import Derived.Test.YtbnaegoahdcejaaGreatDoorGA
import Derived.Shelf.Abstract
import Derived.Deep.LoopGhost
import Derived.Deep.Draws
import Derived.Laws.CopyOwn
import Derived.Deep.RegionHeld2
import Derived.Stop.Asserts
import Derived.Deep.RegionWith
namespace Go.Proofs.YtbnaegoahdcejaaGreatDoor.M
open Go.RowKit

/-- A stretch as it lies in memory: where it begins, its block, its room, its bytes. -/
structure Piece where
  org : Nat
  blk : Nat
  cap : Nat
  bs : List UInt8

def Piece.dv (d : Piece) : Value := .slice (some ⟨d.blk, 0, none⟩) d.bs.length d.cap
def Piece.val (d : Piece) : Value := .agg #[.int .i64 d.org, d.dv]
def Piece.fin (d : Piece) : Nat := d.org + d.bs.length
def lcells (L : List Piece) : List Value := L.flatMap fun d => [.int .i64 d.org, d.dv]

def heldOf (L : List Piece) : Nat := (L.map fun d => d.bs.length).sum

theorem lcells_nil : lcells [] = [] := rfl
attribute [local simp] lcells_nil
theorem lcells_cons (d : Piece) (L : List Piece) : lcells (d :: L) = .int .i64 d.org :: d.dv :: lcells L := rfl
theorem lcells_append (L M : List Piece) : lcells (L ++ M) = lcells L ++ lcells M := by simp [lcells, List.flatMap_append]
theorem lcells_length (L : List Piece) : (lcells L).length = L.length * 2 := by
  induction L with
  | nil => rfl
  | cons d L ih => rw [lcells_cons]; simp only [List.length_cons, ih]; omega
theorem lcells_at (L : List Piece) : ∀ i (h : i < L.length), (lcells L)[i * 2]? = some (.int .i64 L[i].org) ∧ (lcells L)[i * 2 + 1]? = some L[i].dv := by
  induction L with
  | nil => intro i h; simp at h
  | cons d L ih =>
    intro i h
    rw [lcells_cons]
    cases i with
    | zero => simp
    | succ i =>
      have := ih i (by simpa using h)
      rw [show (i + 1) * 2 = i * 2 + 1 + 1 by omega]
      simpa using this
theorem lcells_take (L : List Piece) : ∀ i, (lcells L).take (i * 2) = lcells (L.take i) := by
  induction L with
  | nil => intro i; simp
  | cons d L ih =>
    intro i
    cases i with
    | zero => simp
    | succ i => rw [lcells_cons, show (i + 1) * 2 = i * 2 + 1 + 1 by omega]; simp only [List.take_succ_cons, lcells_cons]; rw [ih i]
theorem lcells_drop (L : List Piece) : ∀ i, (lcells L).drop (i * 2) = lcells (L.drop i) := by
  induction L with
  | nil => intro i; simp
  | cons d L ih =>
    intro i
    cases i with
    | zero => simp
    | succ i => rw [lcells_cons, show (i + 1) * 2 = i * 2 + 1 + 1 by omega]; simp only [List.drop_succ_cons]; rw [ih i]

/-- The cells of the i-th stretch of a row. -/
theorem row_at {w : World} {lv : Value} {L : List Piece} (h : w.ownsRow 0 323 2 lv L.length (lcells L)) {i : Nat} (hi : i < L.length) :
    ∃ g cap, lv = .slice (some ⟨g, 0, none⟩) L.length cap ∧ w.cell? ⟨g, i * 2, none⟩ = some (.int .i64 L[i].org) ∧ w.cell? ⟨g, i * 2 + 1, none⟩ = some L[i].dv := by
  rcases h.2 with ⟨_, h0⟩ | ⟨g, cap, cur, rfl, _⟩
  · omega
  · refine ⟨g, cap, rfl, ?_, ?_⟩
    · rw [h.cellAt (i * 2) (by omega)]; exact (lcells_at L i hi).1
    · rw [h.cellAt (i * 2 + 1) (by omega)]; exact (lcells_at L i hi).2


theorem findIdx_of {α : Type} (q : α → Bool) (L : List α) (k : Nat) (hk : k ≤ L.length) (h1 : ∀ t (h : t < L.length), t < k → q L[t] = false) (h2 : ∀ t (h : t < L.length), k ≤ t → q L[t] = true) : L.findIdx q = k := by
  by_cases hlt : k < L.length
  · exact (List.findIdx_eq hlt).2 ⟨h2 k hlt (Nat.le_refl _), fun j hj => h1 j (by omega) hj⟩
  · have : k = L.length := by omega
    subst this
    refine List.findIdx_eq_length.2 fun x hx => ?_
    obtain ⟨t, ht, rfl⟩ := List.getElem_of_mem hx
    exact h1 t ht ht

end Go.Proofs.YtbnaegoahdcejaaGreatDoor.M

namespace Go.Proofs.YtbnaegoahdcejaaGreatDoor.M
open Go.RowKit

set_option maxHeartbeats 400000 in
theorem to_any (f : Int) (a : Option Addr) (n c : Nat) (w : World) (h0 : 0 ≤ f) (h1 : f ≤ 4294967296) (h2 : n ≤ 4294967296) :
    Calls Tryz.prog 179 #[.agg #[.int .i64 f, .slice a n c]] w fun e w' => e = .returned (.int .i64 (f + n)) ∧ Below w.heap.size w w' := by
  go_enter Tryz.func179, Tryz.ntmps179
  go_wp2
  go_ret
  exact ⟨rfl, (Below.refl _ _).alloc (Nat.le_refl _) _⟩

set_option maxHeartbeats 400000 in
theorem within1_any (f : Int) (a : Option Addr) (n c : Nat) (bx : Nat) (x : Int) (w : World) (h0 : 0 ≤ f) (h1 : f ≤ 4294967296) (h2 : n ≤ 4294967296) (hx : w.cell? ⟨bx, 0, none⟩ = some (.int .i64 x)) :
    Calls Tryz.prog 191 #[.agg #[.int .i64 f, .slice a n c], .pointer (some ⟨bx, 0, none⟩)] w fun e w' => e = .returned (.bool (decide (x < f + n))) ∧ Below w.heap.size w w' := by
  have hbx := World.block_lt_of_cell? w ⟨bx, 0, none⟩ hx
  have hA := below_al w (Obj.cells #[Value.int IntKind.i64 f, Value.slice a n c] 323)
  have hx1 : ∀ d os, (ext (w.alloc (Obj.cells #[Value.int IntKind.i64 f, Value.slice a n c] 323)) d os).cell? ⟨bx, 0, none⟩ = some (.int .i64 x) := fun d os => ext_cell ((hA.cell hbx).trans hx) d os
  have hr0 : ∀ d os, (ext (w.alloc (Obj.cells #[Value.int IntKind.i64 f, Value.slice a n c] 323)) d os).cell? ⟨w.heap.size, 0, none⟩ = some (.int .i64 f) := fun d os => ext_cell (by go_simp) d os
  have hr1 : ∀ d os, (ext (w.alloc (Obj.cells #[Value.int IntKind.i64 f, Value.slice a n c] 323)) d os).cell? ⟨w.heap.size, 1, none⟩ = some (.slice a n c) := fun d os => ext_cell (by go_simp) d os
  go_enter Tryz.func191, Tryz.ntmps191
  go_wp2
  refine region_ext (by kernel_rfl) (by kernel_rfl) ?_
  repeat (any_goals (first | go_big_quiet_step ((go_at_call 179; exact calls_ext (to_any _ _ _ _ _ h0 h1 h2))) | quiet_step ((go_at_call 179; exact calls_ext (to_any _ _ _ _ _ h0 h1 h2)))))
  refine wpQuiet_nil ?_
  intro wq hq
  go_wp2
  go_ret
  exact ⟨rfl, below_tr hA hq⟩

set_option maxHeartbeats 400000 in
theorem next1_any (f : Int) (a : Option Addr) (n c : Nat) (bx : Nat) (x : Int) (w : World) (h0 : 0 ≤ f) (h1 : f ≤ 4294967296) (h2 : n ≤ 4294967296) (hx : w.cell? ⟨bx, 0, none⟩ = some (.int .i64 x)) :
    Calls Tryz.prog 240 #[.agg #[.int .i64 f, .slice a n c], .pointer (some ⟨bx, 0, none⟩)] w fun e w' => e = .returned (.bool (decide (x < f + n))) ∧ Below w.heap.size w w' := by
  have hbx := World.block_lt_of_cell? w ⟨bx, 0, none⟩ hx
  have hA := below_al w (Obj.cells #[Value.int IntKind.i64 f, Value.slice a n c] 323)
  have hx1 : ∀ d os, (ext (w.alloc (Obj.cells #[Value.int IntKind.i64 f, Value.slice a n c] 323)) d os).cell? ⟨bx, 0, none⟩ = some (.int .i64 x) := fun d os => ext_cell ((hA.cell hbx).trans hx) d os
  have hr0 : ∀ d os, (ext (w.alloc (Obj.cells #[Value.int IntKind.i64 f, Value.slice a n c] 323)) d os).cell? ⟨w.heap.size, 0, none⟩ = some (.int .i64 f) := fun d os => ext_cell (by go_simp) d os
  have hr1 : ∀ d os, (ext (w.alloc (Obj.cells #[Value.int IntKind.i64 f, Value.slice a n c] 323)) d os).cell? ⟨w.heap.size, 1, none⟩ = some (.slice a n c) := fun d os => ext_cell (by go_simp) d os
  go_enter Tryz.func240, Tryz.ntmps240
  go_wp2
  refine region_ext (by kernel_rfl) (by kernel_rfl) ?_
  repeat (any_goals (first | go_big_quiet_step ((go_at_call 179; exact calls_ext (to_any _ _ _ _ _ h0 h1 h2))) | quiet_step ((go_at_call 179; exact calls_ext (to_any _ _ _ _ _ h0 h1 h2)))))
  refine wpQuiet_nil ?_
  intro wq hq
  go_wp2
  go_ret
  exact ⟨rfl, below_tr hA hq⟩

set_option maxHeartbeats 400000 in
theorem lay1_any (f : Int) (a : Option Addr) (n c : Nat) (bx : Nat) (x : Int) (w : World) (h0 : 0 ≤ f) (h1 : f ≤ 4294967296) (h2 : n ≤ 4294967296) (hx : w.cell? ⟨bx, 0, none⟩ = some (.int .i64 x)) :
    Calls Tryz.prog 181 #[.agg #[.int .i64 f, .slice a n c], .pointer (some ⟨bx, 0, none⟩)] w fun e w' => e = .returned (.bool (decide (x ≤ f + n))) ∧ Below w.heap.size w w' := by
  have hbx := World.block_lt_of_cell? w ⟨bx, 0, none⟩ hx
  have hA := below_al w (Obj.cells #[Value.int IntKind.i64 f, Value.slice a n c] 323)
  have hx1 : ∀ d os, (ext (w.alloc (Obj.cells #[Value.int IntKind.i64 f, Value.slice a n c] 323)) d os).cell? ⟨bx, 0, none⟩ = some (.int .i64 x) := fun d os => ext_cell ((hA.cell hbx).trans hx) d os
  have hr0 : ∀ d os, (ext (w.alloc (Obj.cells #[Value.int IntKind.i64 f, Value.slice a n c] 323)) d os).cell? ⟨w.heap.size, 0, none⟩ = some (.int .i64 f) := fun d os => ext_cell (by go_simp) d os
  have hr1 : ∀ d os, (ext (w.alloc (Obj.cells #[Value.int IntKind.i64 f, Value.slice a n c] 323)) d os).cell? ⟨w.heap.size, 1, none⟩ = some (.slice a n c) := fun d os => ext_cell (by go_simp) d os
  go_enter Tryz.func181, Tryz.ntmps181
  go_wp2
  refine region_ext (by kernel_rfl) (by kernel_rfl) ?_
  repeat (any_goals (first | go_big_quiet_step ((go_at_call 179; exact calls_ext (to_any _ _ _ _ _ h0 h1 h2))) | quiet_step ((go_at_call 179; exact calls_ext (to_any _ _ _ _ _ h0 h1 h2)))))
  refine wpQuiet_nil ?_
  intro wq hq
  go_wp2
  go_ret
  exact ⟨rfl, below_tr hA hq⟩

set_option maxHeartbeats 400000 in
theorem erase1_any (f : Int) (a : Option Addr) (n c : Nat) (bx : Nat) (x : Int) (w : World) (h0 : 0 ≤ f) (h1 : f ≤ 4294967296) (h2 : n ≤ 4294967296) (hx : w.cell? ⟨bx, 0, none⟩ = some (.int .i64 x)) :
    Calls Tryz.prog 241 #[.agg #[.int .i64 f, .slice a n c], .pointer (some ⟨bx, 0, none⟩)] w fun e w' => e = .returned (.bool (decide (x < f + n))) ∧ Below w.heap.size w w' := by
  have hbx := World.block_lt_of_cell? w ⟨bx, 0, none⟩ hx
  have hA := below_al w (Obj.cells #[Value.int IntKind.i64 f, Value.slice a n c] 323)
  have hx1 : ∀ d os, (ext (w.alloc (Obj.cells #[Value.int IntKind.i64 f, Value.slice a n c] 323)) d os).cell? ⟨bx, 0, none⟩ = some (.int .i64 x) := fun d os => ext_cell ((hA.cell hbx).trans hx) d os
  have hr0 : ∀ d os, (ext (w.alloc (Obj.cells #[Value.int IntKind.i64 f, Value.slice a n c] 323)) d os).cell? ⟨w.heap.size, 0, none⟩ = some (.int .i64 f) := fun d os => ext_cell (by go_simp) d os
  have hr1 : ∀ d os, (ext (w.alloc (Obj.cells #[Value.int IntKind.i64 f, Value.slice a n c] 323)) d os).cell? ⟨w.heap.size, 1, none⟩ = some (.slice a n c) := fun d os => ext_cell (by go_simp) d os
  go_enter Tryz.func241, Tryz.ntmps241
  go_wp2
  refine region_ext (by kernel_rfl) (by kernel_rfl) ?_
  repeat (any_goals (first | go_big_quiet_step ((go_at_call 179; exact calls_ext (to_any _ _ _ _ _ h0 h1 h2))) | quiet_step ((go_at_call 179; exact calls_ext (to_any _ _ _ _ _ h0 h1 h2)))))
  refine wpQuiet_nil ?_
  intro wq hq
  go_wp2
  go_ret
  exact ⟨rfl, below_tr hA hq⟩

set_option maxHeartbeats 400000 in
theorem within2_any (f : Int) (a : Option Addr) (n c : Nat) (bx : Nat) (x : Int) (w : World) (hx : w.cell? ⟨bx, 0, none⟩ = some (.int .i64 x)) :
    Calls Tryz.prog 192 #[.agg #[.int .i64 f, .slice a n c], .pointer (some ⟨bx, 0, none⟩)] w fun e w' => e = .returned (.bool (decide (x ≤ f))) ∧ Below w.heap.size w w' := by
  have hbx := World.block_lt_of_cell? w ⟨bx, 0, none⟩ hx
  have hA := below_al w (Obj.cells #[Value.int IntKind.i64 f, Value.slice a n c] 323)
  go_enter Tryz.func192, Tryz.ntmps192
  go_wp2
  go_ret
  exact ⟨rfl, hA⟩

set_option maxHeartbeats 400000 in
theorem lay2_any (f : Int) (a : Option Addr) (n c : Nat) (bx : Nat) (x : Int) (w : World) (hx : w.cell? ⟨bx, 0, none⟩ = some (.int .i64 x)) :
    Calls Tryz.prog 182 #[.agg #[.int .i64 f, .slice a n c], .pointer (some ⟨bx, 0, none⟩)] w fun e w' => e = .returned (.bool (decide (x < f))) ∧ Below w.heap.size w w' := by
  have hbx := World.block_lt_of_cell? w ⟨bx, 0, none⟩ hx
  have hA := below_al w (Obj.cells #[Value.int IntKind.i64 f, Value.slice a n c] 323)
  go_enter Tryz.func182, Tryz.ntmps182
  go_wp2
  go_ret
  exact ⟨rfl, hA⟩

set_option maxHeartbeats 400000 in
theorem erase2_any (f : Int) (a : Option Addr) (n c : Nat) (bx : Nat) (x : Int) (w : World) (hx : w.cell? ⟨bx, 0, none⟩ = some (.int .i64 x)) :
    Calls Tryz.prog 242 #[.agg #[.int .i64 f, .slice a n c], .pointer (some ⟨bx, 0, none⟩)] w fun e w' => e = .returned (.bool (decide (x ≤ f))) ∧ Below w.heap.size w w' := by
  have hbx := World.block_lt_of_cell? w ⟨bx, 0, none⟩ hx
  have hA := below_al w (Obj.cells #[Value.int IntKind.i64 f, Value.slice a n c] 323)
  go_enter Tryz.func242, Tryz.ntmps242
  go_wp2
  go_ret
  exact ⟨rfl, hA⟩

set_option maxHeartbeats 400000 in
theorem search1_any (g : Nat) (cb : Array Value) (eg : ∀ args w, (callFunc g args).run Tryz.prog w = .ok (.enter g args) w) (bo bs b i n cap lb : Nat) (f : Int) (a : Option Addr) (m c : Nat) (r : Bool) (w : World) (hi : i < n)
    (ho : w.cell? ⟨bo, 0, none⟩ = some (.func (.func g) #[] cb)) (hs : w.cell? ⟨bs, 0, none⟩ = some (.pointer (some ⟨b, 0, none⟩))) (hl : w.cell? ⟨b, 2, none⟩ = some (.slice (some ⟨lb, 0, none⟩) n cap))
    (h0 : w.cell? ⟨lb, i * 2, none⟩ = some (.int .i64 f)) (h1 : w.cell? ⟨lb, i * 2 + 1, none⟩ = some (.slice a m c))
    (hg : ∀ d os, Calls Tryz.prog g (#[.agg #[.int .i64 f, .slice a m c]] ++ cb) (ext w d os) fun e w' => e = .returned (.bool r) ∧ Below (ext w d os).heap.size (ext w d os) w') :
    Calls Tryz.prog 194 (#[.int .i64 i] ++ #[.pointer (some ⟨bo, 0, none⟩), .pointer (some ⟨bs, 0, none⟩)]) w fun e w' => e = .returned (.bool r) ∧ Below w.heap.size w w' := by
  have xo := fun d os => ext_cell ho d os
  have xs := fun d os => ext_cell hs d os
  have xl := fun d os => ext_cell hl d os
  have x0 := fun d os => ext_cell h0 d os
  have x1 := fun d os => ext_cell h1 d os
  have hiz : (i : Int) < (n : Int) := by omega
  have HG : Aside _ := hg
  clear hg
  go_enter Tryz.func194, Tryz.ntmps194
  go_wp2
  refine region_ext (by kernel_rfl) (by kernel_rfl) ?_
  repeat (any_goals (first | go_big_quiet_step ((go_at_fn g; exact calls_ext (HG.out _ _))) | quiet_step ((go_at_fn g; exact calls_ext (HG.out _ _)))))
  refine wpQuiet_nil ?_
  intro wq hq
  go_wp2
  go_ret
  exact ⟨rfl, hq⟩

set_option maxHeartbeats 4000000 in
set_option maxRecDepth 100000 in
theorem sortSearch_any (g : Nat) (cb : Array Value) (n : Nat) (p : Nat → Bool) (w : World) (eg : ∀ args w, (callFunc g args).run Tryz.prog w = .ok (.enter g args) w) (hsz : n < 4611686018427387904)
    (hf : ∀ (W : World) (i : Nat), i < n → Below w.heap.size w W → Calls Tryz.prog g (#[.int .i64 i] ++ cb) W fun e w' => e = .returned (.bool (p i)) ∧ Below W.heap.size W w')
    (hmono : ∀ a b, a ≤ b → b < n → p a = true → p b = true) :
    Calls Tryz.prog 193 #[.int .i64 n, .func (.func g) #[] cb] w fun e w' => (∃ k : Nat, e = .returned (.int .i64 k) ∧ k ≤ n ∧ (∀ t, t < k → p t = false) ∧ (∀ t, k ≤ t → t < n → p t = true)) ∧ Below w.heap.size w w' := by
  have HF : Aside _ := hf
  have M : Aside _ := hmono
  clear hf hmono
  go_enter Tryz.func193, Tryz.ntmps193
  go_wp2
  go_loopg [5, 6] n (fun kx s5 s6 wr => ∃ (lo hi : Nat), s5 = .int .i64 lo ∧ s6 = .int .i64 hi ∧ lo ≤ hi ∧ hi ≤ n ∧ hi - lo ≤ kx ∧ Aside (Below w.heap.size w wr) ∧
    Aside ((∀ t, t < lo → p t = false) ∧ (∀ t, hi ≤ t → t < n → p t = true)))
  case atStart => exact ⟨0, n, rfl, rfl, Nat.zero_le _, Nat.le_refl _, by omega, Below.refl _ _, (⟨fun t ht => absurd ht (Nat.not_lt_zero _), fun t h1 h2 => by omega⟩ : (∀ t, t < 0 → p t = false) ∧ (∀ t, n ≤ t → t < n → p t = true))⟩
  case round =>
    obtain ⟨lo, hi, rfl, rfl, hlh, hin, hg, hbw, I⟩ := hrel
    by_cases hlt : lo < hi
    · have hc := HF.out wr ((lo + hi) / 2) (by omega) hbw.out
      rw [show (((lo + hi) / 2 : Nat) : Int) = ((lo : Int) + (hi : Int)) / 2 by omega] at hc
      cases hp : p ((lo + hi) / 2) <;> rw [hp] at hc
      · have HP : Aside (p ((lo + hi) / 2) = false) := hp
        clear hp
        go_wp2_with (go_at_fn g; refine hc.mono ?_; rintro e w' ⟨rfl, hb⟩)
        go_roundg (hi - ((lo + hi) / 2 + 1))
        case measure => omega
        case rel =>
          have I2 : Aside ((∀ t, t < (lo + hi) / 2 + 1 → p t = false) ∧ (∀ t, hi ≤ t → t < n → p t = true)) := ⟨fun t ht => (by
            cases h : p t with
            | false => rfl
            | true => have := M.out t ((lo + hi) / 2) (by omega) (by omega) h; rw [HP.out] at this; cases this), I.out.2⟩
          exact ⟨(lo + hi) / 2 + 1, hi, by rw [show ((lo : Int) + (hi : Int)) / 2 + 1 = (((lo + hi) / 2 + 1 : Nat) : Int) by omega], rfl, by omega, hin, Nat.le_refl _, below_tr hbw.out hb, I2⟩
      · have HP : Aside (p ((lo + hi) / 2) = true) := hp
        clear hp
        go_wp2_with (go_at_fn g; refine hc.mono ?_; rintro e w' ⟨rfl, hb⟩)
        go_roundg ((lo + hi) / 2 - lo)
        case measure => omega
        case rel =>
          have I2 : Aside ((∀ t, t < lo → p t = false) ∧ (∀ t, (lo + hi) / 2 ≤ t → t < n → p t = true)) := ⟨I.out.1, fun t ht htn => M.out ((lo + hi) / 2) t ht htn HP.out⟩
          exact ⟨lo, (lo + hi) / 2, rfl, by rw [show ((lo : Int) + (hi : Int)) / 2 = (((lo + hi) / 2 : Nat) : Int) by omega], by omega, by omega, Nat.le_refl _, below_tr hbw.out hb, I2⟩
    · obtain rfl : hi = lo := by omega
      go_wp2
      go_ret
      exact ⟨⟨hi, rfl, hin, I.out.1, I.out.2⟩, hbw.out⟩
end Go.Proofs.YtbnaegoahdcejaaGreatDoor.M

namespace Go.Proofs.YtbnaegoahdcejaaGreatDoor.M
open Go.RowKit

set_option maxHeartbeats 1000000 in
theorem search_any (g : Nat) (cb : Array Value) (eg : ∀ args w, (callFunc g args).run Tryz.prog w = .ok (.enter g args) w) (b : Nat) (lv : Value) (L : List Piece) (q : Piece → Bool) (w : World)
    (hl : w.cell? ⟨b, 2, none⟩ = some lv) (hrow : w.ownsRow 0 323 2 lv L.length (lcells L)) (hn : L.length < 4611686018427387904)
    (hg : ∀ d, d ∈ L → ∀ W, Below w.heap.size w W → Calls Tryz.prog g (#[d.val] ++ cb) W fun e w' => e = .returned (.bool (q d)) ∧ Below W.heap.size W w')
    (hm : ∀ i j (hi : i < L.length) (hj : j < L.length), i ≤ j → q L[i] = true → q L[j] = true) :
    Calls Tryz.prog 180 #[.pointer (some ⟨b, 0, none⟩), .func (.func g) #[] cb] w fun e w' => e = .returned (.int .i64 (L.findIdx q)) ∧ Below w.heap.size w w' := by
  obtain ⟨la, cap, hv, -, -⟩ := row_form hrow
  obtain ⟨W0, hW0⟩ : ∃ W0, W0 = (w.alloc (.cells #[.pointer (some ⟨b, 0, none⟩)] 208)).alloc (.cells #[.func (.func g) #[] cb] 325) := ⟨_, rfl⟩
  have hB0 : Below w.heap.size w W0 := by rw [hW0]; exact (below_al w _).alloc (by simp) _
  have co : W0.cell? ⟨w.heap.size + 1, 0, none⟩ = some (.func (.func g) #[] cb) := by rw [hW0]; go_simp
  have cs : W0.cell? ⟨w.heap.size, 0, none⟩ = some (.pointer (some ⟨b, 0, none⟩)) := by rw [hW0]; go_simp
  have e54 : ∀ args w, (callFunc 194 args).run Tryz.prog w = .ok (.enter 194 args) w := enters_of Tryz.func194 (by kernel_rfl) rfl
  have hS := sortSearch_any 194 #[.pointer (some ⟨w.heap.size + 1, 0, none⟩), .pointer (some ⟨w.heap.size, 0, none⟩)] L.length (fun i => if h : i < L.length then q L[i] else false) W0 e54 hn
    (fun W i hi hW => by
      have hwW := below_tr hB0 hW
      obtain ⟨lg, cap2, hv2, h0, h1⟩ := row_at (row_below hrow hwW) hi
      have hbl := World.block_lt_of_cell? w _ hl
      have hb0 := World.block_lt_of_cell? W0 _ co
      have hb1 := World.block_lt_of_cell? W0 _ cs
      simp only [dif_pos hi]
      exact search1_any g cb eg (w.heap.size + 1) w.heap.size b i L.length cap2 lg L[i].org (some ⟨L[i].blk, 0, none⟩) L[i].bs.length L[i].cap (q L[i]) W hi
        ((hW.cell hb0).trans co) ((hW.cell hb1).trans cs) (by rw [hwW.cell hbl, hl, hv2]) h0 h1
        (fun d os => hg L[i] (List.getElem_mem hi) _ (below_tr hwW (below_ext _ _ _))))
    (fun a c hac hc h => by
      have ha : a < L.length := by omega
      simp only [dif_pos ha, dif_pos hc] at h ⊢
      exact hm a c ha hc hac h)
  have HS := aside hS
  have HM := aside hm
  have HR := aside hrow
  have HB0 := aside hB0
  clear hS hm hg hrow co cs hB0
  have hbl : b < w.heap.size := World.block_lt_of_cell? w _ hl
  subst hv
  go_enter Tryz.func180, Tryz.ntmps180
  go_wp2_with fail
  rw [← hW0]
  refine HS.out.mono ?_
  rintro e w' ⟨⟨k, rfl, hk, h1, h2⟩, hb⟩
  have hfi : L.findIdx q = k := findIdx_of q L k hk (fun t ht htk => by have := h1 t htk; simpa [dif_pos ht] using this) (fun t ht hkt => by have := h2 t hkt ht; simpa [dif_pos ht] using this)
  go_wp2
  go_ret
  exact ⟨by rw [hfi]; rfl, below_tr HB0.out hb⟩

/-- A piece of a row of stretches, as it is handed out to be read. -/
def View (w : World) (kb : Option Nat) (rv : Value) (M : List Piece) : Prop :=
  ∃ a cap, rv = .slice a M.length cap ∧ ∀ t (h : t < M.length), ∃ g o, a = some ⟨g, o, none⟩ ∧ kb = some g ∧ w.cell? ⟨g, o + t * 2, none⟩ = some (.int .i64 M[t].org) ∧ w.cell? ⟨g, o + t * 2 + 1, none⟩ = some M[t].dv

theorem view_row {w : World} {la : Option Addr} {cap : Nat} {L : List Piece} (h : w.ownsRow 0 323 2 (.slice la L.length cap) L.length (lcells L)) (i j : Nat) (hij : i ≤ j) (hj : j ≤ L.length) (a' : Option Addr) (c' : Nat)
    (ha : a' = la.map (fun x => x.add (i * 2)) ∨ j = i) : View w (Value.ownBlock (.slice la L.length cap)) (.slice a' (j - i) c') ((L.take j).drop i) := by
  have hlen : ((L.take j).drop i).length = j - i := by simp; omega
  refine ⟨a', c', by rw [hlen], fun t ht => ?_⟩
  rw [hlen] at ht
  rcases ha with rfl | ha
  · obtain ⟨g, cap2, hv, h0, h1⟩ := row_at h (i := i + t) (by omega)
    simp only [Value.slice.injEq] at hv
    obtain ⟨rfl, -, -⟩ := hv
    refine ⟨g, i * 2, by simp [Addr.add_lit], rfl, ?_, ?_⟩
    · rw [show i * 2 + t * 2 = (i + t) * 2 by omega, h0]; simp
    · rw [show i * 2 + t * 2 + 1 = (i + t) * 2 + 1 by omega, h1]; simp
  · omega

set_option maxHeartbeats 1000000 in
theorem within_any (b : Nat) (lv : Value) (L : List Piece) (x y : Int) (w : World)
    (hl : w.cell? ⟨b, 2, none⟩ = some lv) (hrow : w.ownsRow 0 323 2 lv L.length (lcells L)) (hn : L.length < 4611686018427387904)
    (hbd : ∀ d, d ∈ L → d.org ≤ 4294967296 ∧ d.bs.length ≤ 4294967296) (hso : ∀ i j (hi : i < L.length) (hj : j < L.length), i ≤ j → L[i].org ≤ L[j].org ∧ L[i].fin ≤ L[j].fin)
    (hij : L.findIdx (fun d => decide (x < d.fin)) ≤ L.findIdx (fun d => decide (y ≤ d.org))) :
    Calls Tryz.prog 178 #[.pointer (some ⟨b, 0, none⟩), .int .i64 x, .int .i64 y] w fun e w' => (∃ rv, e = .returned rv ∧ View w lv.ownBlock rv ((L.take (L.findIdx (fun d => decide (y ≤ d.org)))).drop (L.findIdx (fun d => decide (x < d.fin))))) ∧ Below w.heap.size w w' := by
  obtain ⟨i, hi⟩ : ∃ i, i = L.findIdx (fun d => decide (x < d.fin)) := ⟨_, rfl⟩
  obtain ⟨j, hj⟩ : ∃ j, j = L.findIdx (fun d => decide (y ≤ d.org)) := ⟨_, rfl⟩
  have hjn : j ≤ L.length := by rw [hj]; exact List.findIdx_le_length
  rw [← hi, ← hj] at hij ⊢
  obtain ⟨W0, hW0⟩ : ∃ W0, W0 = (w.alloc (.cells #[.int .i64 x] 2)).alloc (.cells #[.int .i64 y] 2) := ⟨_, rfl⟩
  have hB0 : Below w.heap.size w W0 := by rw [hW0]; exact (below_al w _).alloc (by simp) _
  have cx : W0.cell? ⟨w.heap.size, 0, none⟩ = some (.int .i64 x) := by rw [hW0]; go_simp
  have cy : W0.cell? ⟨w.heap.size + 1, 0, none⟩ = some (.int .i64 y) := by rw [hW0]; go_simp
  have bx := World.block_lt_of_cell? W0 _ cx
  have by' := World.block_lt_of_cell? W0 _ cy
  have hbl : b < w.heap.size := World.block_lt_of_cell? w _ hl
  have e51 : ∀ args w, (callFunc 191 args).run Tryz.prog w = .ok (.enter 191 args) w := enters_of Tryz.func191 (by kernel_rfl) rfl
  have e52 : ∀ args w, (callFunc 192 args).run Tryz.prog w = .ok (.enter 192 args) w := enters_of Tryz.func192 (by kernel_rfl) rfl
  have S1 : ∀ W, Below W0.heap.size W0 W → Calls Tryz.prog 180 #[.pointer (some ⟨b, 0, none⟩), .func (.func 191) #[] #[.pointer (some ⟨w.heap.size, 0, none⟩)]] W fun e w' => e = .returned (.int .i64 i) ∧ Below W.heap.size W w' := fun W hW => by
    have hwW := below_tr hB0 hW
    rw [hi]
    exact search_any 191 _ e51 b lv L (fun d => decide (x < d.fin)) W ((hwW.cell hbl).trans hl) (row_below hrow hwW) hn
      (fun d hd V hV => within1_any d.org (some ⟨d.blk, 0, none⟩) d.bs.length d.cap w.heap.size x V (by omega) (by have := (hbd d hd).1; omega) (hbd d hd).2 (((below_tr hW hV).cell bx).trans cx))
      (fun a c ha hc hac h => by have := (hso a c ha hc hac).2; simp at h ⊢; omega)
  have S2 : ∀ W, Below W0.heap.size W0 W → Calls Tryz.prog 180 #[.pointer (some ⟨b, 0, none⟩), .func (.func 192) #[] #[.pointer (some ⟨w.heap.size + 1, 0, none⟩)]] W fun e w' => e = .returned (.int .i64 j) ∧ Below W.heap.size W w' := fun W hW => by
    have hwW := below_tr hB0 hW
    rw [hj]
    exact search_any 192 _ e52 b lv L (fun d => decide (y ≤ d.org)) W ((hwW.cell hbl).trans hl) (row_below hrow hwW) hn
      (fun d hd V hV => within2_any d.org (some ⟨d.blk, 0, none⟩) d.bs.length d.cap (w.heap.size + 1) y V (((below_tr hW hV).cell by').trans cy))
      (fun a c ha hc hac h => by have := (hso a c ha hc hac).1; simp at h ⊢; omega)
  have HS1 := aside S1
  have HS2 := aside S2
  have HB0 := aside hB0
  have HR := aside hrow
  have HI := aside hi
  have HJ := aside hj
  obtain ⟨la, cap, hv, hc1, hc2⟩ := row_form hrow
  have HV := aside hv
  clear S1 S2 hB0 hrow cx cy hbd hso hi hj bx by'
  go_enter Tryz.func178, Tryz.ntmps178
  go_wp2_with fail
  rw [← hW0]
  refine (HS1.out _ (Below.refl _ _)).mono ?_
  rintro e w1 ⟨rfl, hb1⟩
  go_wp2_with fail
  refine (HS2.out _ hb1).mono ?_
  rintro e w2 ⟨rfl, hb2⟩
  have hb02 := below_tr HB0.out (below_tr hb1 hb2)
  have hl2 : w2.cell? ⟨b, 2, none⟩ = some lv := (hb02.cell hbl).trans hl
  rw [HV.out] at hl2
  have hr2 := HR.out
  rw [HV.out] at hr2
  have HR2 := aside hr2
  clear hr2 hv
  go_wp2
  all_goals go_ret
  · exact ⟨⟨_, rfl, by rw [HV.out]; exact view_row HR2.out i j hij hjn _ _ (.inr (by omega))⟩, hb02⟩
  · exact ⟨⟨_, rfl, by rw [HV.out]; exact view_row HR2.out i j hij hjn _ _ (.inl rfl)⟩, hb02⟩

end Go.Proofs.YtbnaegoahdcejaaGreatDoor.M

namespace Go.Proofs.YtbnaegoahdcejaaGreatDoor.M
open Go.RowKit
/-- What holds of the stretches of an object: rising, none empty, no two of them touching, none behind the size; the bounds. -/
structure Inv (sz : Nat) (L : List Piece) : Prop where
  sep : L.Pairwise (fun a b => a.fin < b.org)
  ne : ∀ d, d ∈ L → 0 < d.bs.length
  fin : ∀ d, d ∈ L → d.fin ≤ sz
  size : sz ≤ 1073741824
  held : heldOf L ≤ 4194304

theorem heldOf_cons (d : Piece) (L : List Piece) : heldOf (d :: L) = d.bs.length + heldOf L := by simp [heldOf]
theorem heldOf_append (L M : List Piece) : heldOf (L ++ M) = heldOf L + heldOf M := by simp [heldOf]
theorem length_le_held {L : List Piece} (h : ∀ d, d ∈ L → 0 < d.bs.length) : L.length ≤ heldOf L := by
  induction L with
  | nil => simp
  | cons d L ih =>
    rw [heldOf_cons, List.length_cons]
    have := h d (by simp)
    have := ih (fun e he => h e (by simp [he]))
    omega
theorem mem_le_held {L : List Piece} {d : Piece} (h : d ∈ L) : d.bs.length ≤ heldOf L := by
  induction L with
  | nil => simp at h
  | cons e L ih =>
    rw [heldOf_cons]
    rcases List.mem_cons.1 h with rfl | h
    · omega
    · have := ih h; omega

theorem Inv.len {sz : Nat} {L : List Piece} (h : Inv sz L) : L.length ≤ 4194304 := Nat.le_trans (length_le_held h.ne) h.held
theorem Inv.bd {sz : Nat} {L : List Piece} (h : Inv sz L) : ∀ d, d ∈ L → d.org ≤ 4294967296 ∧ d.bs.length ≤ 4294967296 := fun d hd => by
  have h1 := h.fin d hd; have h2 := h.size; unfold Piece.fin at h1; omega
theorem Inv.lt {sz : Nat} {L : List Piece} (h : Inv sz L) {i j : Nat} (hi : i < L.length) (hj : j < L.length) (hij : i < j) : L[i].fin < L[j].org :=
  List.pairwise_iff_getElem.1 h.sep i j hi hj hij
theorem Inv.so {sz : Nat} {L : List Piece} (h : Inv sz L) : ∀ i j (hi : i < L.length) (hj : j < L.length), i ≤ j → L[i].org ≤ L[j].org ∧ L[i].fin ≤ L[j].fin := fun i j hi hj hij => by
  rcases Nat.lt_or_eq_of_le hij with hlt | rfl
  · have := h.lt hi hj hlt; unfold Piece.fin at *; omega
  · exact ⟨Nat.le_refl _, Nat.le_refl _⟩
theorem findIdx_lt {α : Type} {q : α → Bool} {L : List α} {t : Nat} (h : t < L.findIdx q) : ∃ ht : t < L.length, q L[t] = false := by
  have h2 : L.findIdx q ≤ L.length := List.findIdx_le_length
  refine ⟨by omega, ?_⟩
  have := List.not_of_lt_findIdx h
  simpa using this
theorem findIdx_at {α : Type} {q : α → Bool} {L : List α} (h : L.findIdx q < L.length) : q L[L.findIdx q] = true := List.findIdx_getElem
theorem findIdx_ge {α : Type} {q : α → Bool} {L : List α} (hm : ∀ i j (hi : i < L.length) (hj : j < L.length), i ≤ j → q L[i] = true → q L[j] = true) {t : Nat} (ht : t < L.length) (h : L.findIdx q ≤ t) : q L[t] = true :=
  hm (L.findIdx q) t (by omega) ht h (findIdx_at (by omega))
/-- The first stretch behind x is not behind the first one from y on. -/
theorem Inv.ij {sz : Nat} {L : List Piece} (h : Inv sz L) {x y : Nat} (hxy : x ≤ y) : L.findIdx (fun d => decide ((x : Int) < d.fin)) ≤ L.findIdx (fun d => decide ((y : Int) ≤ d.org)) := by
  apply Nat.le_of_not_lt
  intro hlt
  obtain ⟨ht, h1⟩ := findIdx_lt hlt
  have h2 := findIdx_at ht
  have h3 := h.ne _ (List.getElem_mem ht)
  have h1 := of_decide_eq_false h1
  have h2 := of_decide_eq_true h2
  unfold Piece.fin at h1
  omega

/-- How many bytes of a stretch lie from x up to y. -/
def ovl (x y : Nat) (d : Piece) : Nat := min y d.fin - max x d.org
def ovls (x y : Nat) (L : List Piece) : Nat := (L.map (ovl x y)).sum
theorem ovls_cons (x y : Nat) (d : Piece) (L : List Piece) : ovls x y (d :: L) = ovl x y d + ovls x y L := by simp [ovls]
theorem ovls_append (x y : Nat) (L M : List Piece) : ovls x y (L ++ M) = ovls x y L + ovls x y M := by simp [ovls]
theorem ovls_zero {x y : Nat} {L : List Piece} (h : ∀ d, d ∈ L → ovl x y d = 0) : ovls x y L = 0 := by
  induction L with
  | nil => rfl
  | cons d L ih => rw [ovls_cons, h d (by simp), ih (fun e he => h e (by simp [he]))]
theorem ovls_le (x y : Nat) (L : List Piece) : ovls x y L ≤ heldOf L := by
  induction L with
  | nil => simp [ovls]
  | cons d L ih => rw [ovls_cons, heldOf_cons]; unfold ovl Piece.fin; omega

/-- The stretches that have bytes from x up to y. -/
def mid (x y : Nat) (L : List Piece) : List Piece := (L.take (L.findIdx (fun d => decide ((y : Int) ≤ d.org)))).drop (L.findIdx (fun d => decide ((x : Int) < d.fin)))

theorem mid_mem {sz : Nat} {L : List Piece} (h : Inv sz L) {x y : Nat} {d : Piece} (hd : d ∈ mid x y L) : d ∈ L ∧ x < d.fin ∧ d.org < y := by
  obtain ⟨t, ht, rfl⟩ := List.getElem_of_mem hd
  have hle : L.findIdx (fun d => decide ((y : Int) ≤ d.org)) ≤ L.length := List.findIdx_le_length
  simp only [mid, List.length_drop, List.length_take] at ht
  simp only [mid, List.getElem_drop, List.getElem_take]
  obtain ⟨h1, h2⟩ := findIdx_lt (q := fun d : Piece => decide ((y : Int) ≤ d.org)) (L := L) (t := L.findIdx (fun d => decide ((x : Int) < d.fin)) + t) (by omega)
  have h3 := findIdx_ge (q := fun d : Piece => decide ((x : Int) < d.fin)) (L := L) (fun a c ha hc hac h' => by have := (h.so a c ha hc hac).2; simp at h' ⊢; omega) h1 (by omega)
  refine ⟨List.getElem_mem _, ?_, ?_⟩
  · have h3 := of_decide_eq_true h3; omega
  · have h2 := of_decide_eq_false h2; omega

theorem mid_split {sz : Nat} {L : List Piece} (h : Inv sz L) {x y : Nat} (hxy : x ≤ y) : ∃ A B, L = A ++ mid x y L ++ B ∧ (∀ d, d ∈ A → d.fin ≤ x) ∧ (∀ d, d ∈ B → y ≤ d.org) ∧ A.length = L.findIdx (fun d => decide ((x : Int) < d.fin)) := by
  have hij := h.ij hxy
  have hle : L.findIdx (fun d => decide ((y : Int) ≤ d.org)) ≤ L.length := List.findIdx_le_length
  refine ⟨L.take (L.findIdx (fun d => decide ((x : Int) < d.fin))), L.drop (L.findIdx (fun d => decide ((y : Int) ≤ d.org))), ?_, ?_, ?_, ?_⟩
  · have e : L.take (L.findIdx (fun d => decide ((x : Int) < d.fin))) = (L.take (L.findIdx (fun d => decide ((y : Int) ≤ d.org)))).take (L.findIdx (fun d => decide ((x : Int) < d.fin))) := by
      rw [List.take_take, Nat.min_eq_left hij]
    rw [e, mid, List.take_append_drop, List.take_append_drop]
  · intro d hd
    obtain ⟨t, ht, rfl⟩ := List.getElem_of_mem hd
    simp only [List.length_take] at ht
    obtain ⟨h1, h2⟩ := findIdx_lt (q := fun d : Piece => decide ((x : Int) < d.fin)) (L := L) (t := t) (by omega)
    simp only [List.getElem_take]
    have h2 := of_decide_eq_false h2; omega
  · intro d hd
    obtain ⟨t, ht, rfl⟩ := List.getElem_of_mem hd
    simp only [List.length_drop] at ht
    have h3 := findIdx_ge (q := fun d : Piece => decide ((y : Int) ≤ d.org)) (L := L) (fun a c ha hc hac h' => by have := (h.so a c ha hc hac).1; simp at h' ⊢; omega) (t := L.findIdx (fun d => decide ((y : Int) ≤ d.org)) + t) (by omega) (by omega)
    simp only [List.getElem_drop]
    have h3 := of_decide_eq_true h3; omega
  · rw [List.length_take]; omega

theorem ovls_mid {sz : Nat} {L : List Piece} (h : Inv sz L) {x y : Nat} (hxy : x ≤ y) : ovls x y (mid x y L) = ovls x y L := by
  obtain ⟨A, B, e, hA, hB, -⟩ := mid_split h hxy
  have e2 : ovls x y L = ovls x y (A ++ mid x y L ++ B) := by rw [← e]
  rw [e2, ovls_append, ovls_append, ovls_zero (L := A) (fun d hd => by have := hA d hd; unfold ovl; omega), ovls_zero (L := B) (fun d hd => by have := hB d hd; unfold ovl; omega)]
  omega
end Go.Proofs.YtbnaegoahdcejaaGreatDoor.M

namespace Go.Proofs.YtbnaegoahdcejaaGreatDoor.M
open Go.RowKit
theorem view_below {w w' : World} {kb : Option Nat} {rv : Value} {M : List Piece} (h : View w kb rv M) (hb : Below w.heap.size w w') : View w' kb rv M := by
  obtain ⟨a, cap, rfl, h⟩ := h
  refine ⟨a, cap, rfl, fun t ht => ?_⟩
  obtain ⟨g, o, rfl, hk, h0, h1⟩ := h t ht
  exact ⟨g, o, rfl, hk, (hb.cell (World.block_lt_of_cell? w _ h0)).trans h0, (hb.cell (World.block_lt_of_cell? w _ h1)).trans h1⟩

theorem ovls_take_succ (x y : Nat) (M : List Piece) (k : Nat) (hk : k < M.length) : ovls x y (M.take (k + 1)) = ovls x y (M.take k) + ovl x y M[k] := by
  rw [List.take_succ_eq_append_getElem hk, ovls_append, ovls_cons]; simp [ovls]

set_option maxHeartbeats 1000000 in
theorem written_any (b : Nat) (lv : Value) (sz : Nat) (L : List Piece) (x y : Nat) (w : World) (hI : Inv sz L) (hxy : x ≤ y) (hy : y ≤ 1073741824)
    (hl : w.cell? ⟨b, 2, none⟩ = some lv) (hrow : w.ownsRow 0 323 2 lv L.length (lcells L)) :
    Calls Tryz.prog 158 #[.pointer (some ⟨b, 0, none⟩), .int .i64 x, .int .i64 y] w fun e w' => e = .returned (.int .i64 (ovls x y L)) ∧ Below w.heap.size w w' := by
  have hlen := hI.len
  have W1 := aside (within_any b lv L x y w hl hrow (by omega) hI.bd hI.so (hI.ij hxy))
  have HI := aside hI
  have HM := aside (ovls_mid hI hxy)
  have HMM : Aside (∀ d, d ∈ mid x y L → d ∈ L ∧ x < d.fin ∧ d.org < y) := fun d hd => mid_mem hI hd
  have HH := aside (hI.held)
  clear hrow hI
  go_enter Tryz.func158, Tryz.ntmps158
  go_wp2_with fail
  refine W1.out.mono ?_
  rintro e w1 ⟨⟨rv, rfl, hvw⟩, hb1⟩
  change View w lv.ownBlock rv (mid x y L) at hvw
  generalize hMid : mid x y L = M at *
  have HV := aside hvw
  obtain ⟨va, vcap, rfl, hvc⟩ := hvw
  have hml : M.length ≤ 4194304 := by
    have := length_le_held (L := M) (fun d hd => HI.out.ne d (HMM.out d hd).1)
    have h2 : heldOf M ≤ heldOf L := by
      obtain ⟨A, B, e, -⟩ := mid_split HI.out hxy
      rw [hMid] at e
      rw [e, heldOf_append, heldOf_append]; omega
    have := HH.out
    omega
  have HMh : heldOf M ≤ 4194304 := by
    have h2 : heldOf M ≤ heldOf L := by
      obtain ⟨A, B, e, -⟩ := mid_split HI.out hxy
      rw [hMid] at e
      rw [e, heldOf_append, heldOf_append]; omega
    have := HH.out
    omega
  clear hvc hMid
  go_wp2
  go_loopw [7, 15] (fun s i wr => ∃ k : Nat, k ≤ M.length ∧ i = .int .i64 k ∧ s = .int .i64 (ovls x y (M.take k)) ∧ Aside (Below w1.heap.size w1 wr)) (fun _ i _ => M.length - (intOf i).toNat)
  case atStart => exact ⟨0, Nat.zero_le _, rfl, rfl, Below.refl _ _⟩
  case round =>
    obtain ⟨k, hk, rfl, rfl, hbr⟩ := hrel
    by_cases hlt : k < M.length
    · obtain ⟨a, cap, he, hvw⟩ := view_below HV.out (below_tr hb1 hbr.out)
      obtain ⟨g, o, ha, -, h0, h1⟩ := hvw k hlt
      simp only [Value.slice.injEq, true_and] at he
      obtain ⟨rfl, rfl⟩ := he
      subst ha
      clear hvw
      unfold Piece.dv at h1
      have hltz : (k : Int) < (M.length : Int) := by omega
      have hmm := HMM.out M[k] (List.getElem_mem hlt)
      have hs1 := aside (ovls_take_succ x y M k hlt)
      have hs2 : ovls x y (M.take k) ≤ 4194304 := by
        have h1 := ovls_le x y (M.take k)
        have h2 : heldOf (M.take k) ≤ heldOf M := by
          have : heldOf M = heldOf (M.take k ++ M.drop k) := by rw [List.take_append_drop]
          rw [this, heldOf_append]; omega
        have h3 : heldOf M ≤ 4194304 := HMh
        omega
      have hbd := HI.out.bd M[k] hmm.1
      have hfi := HI.out.fin M[k] hmm.1
      have hsz := HI.out.size
      obtain ⟨-, hm1, hm2⟩ := hmm
      unfold ovl at hs1
      unfold Piece.fin at hs1 hm1 hfi
      generalize M[k].org = f at *
      generalize M[k].bs.length = n at *
      generalize M[k].blk = gb at *
      generalize M[k].cap = gc at *
      generalize ovls x y (M.take k) = S at *
      have hA := aside (below_al wr (Obj.cells #[Value.int IntKind.i64 f, Value.slice (some ⟨gb, 0, none⟩) n gc] 323))
      have hr0 : ∀ d os, (ext (wr.alloc (Obj.cells #[Value.int IntKind.i64 f, Value.slice (some ⟨gb, 0, none⟩) n gc] 323)) d os).cell? ⟨wr.heap.size, 0, none⟩ = some (.int .i64 f) := fun d os => ext_cell (by go_simp) d os
      have hr1 : ∀ d os, (ext (wr.alloc (Obj.cells #[Value.int IntKind.i64 f, Value.slice (some ⟨gb, 0, none⟩) n gc] 323)) d os).cell? ⟨wr.heap.size, 1, none⟩ = some (.slice (some ⟨gb, 0, none⟩) n gc) := fun d os => ext_cell (by go_simp) d os
      go_wp2
      refine region_ext (by kernel_rfl) (by kernel_rfl) ?_
      repeat (any_goals (first | go_big_quiet_step ((go_at_call 179; exact calls_ext (to_any _ _ _ _ _ (by omega) (by omega) (by omega)))) | quiet_step ((go_at_call 179; exact calls_ext (to_any _ _ _ _ _ (by omega) (by omega) (by omega))))))
      refine wpQuiet_nil ?_
      intro wq hq
      go_wp2
      go_roundw
      case rel =>
        exact ⟨k + 1, by omega, by go_num, congrArg (Value.int .i64) (by rw [hs1.out]; split <;> split <;> omega), below_tr hbr.out (below_tr hA.out hq)⟩
      case measure => simp [intOf]; omega
    · obtain rfl : k = M.length := by omega
      go_wp2
      go_ret
      rw [List.take_length]
      exact ⟨by rw [← HM.out]; rfl, below_tr hb1 hbr.out⟩
end Go.Proofs.YtbnaegoahdcejaaGreatDoor.M

namespace Go.Proofs.YtbnaegoahdcejaaGreatDoor.M
open Go.RowKit
def byteAt : List Piece → Nat → UInt8
  | [], _ => 0
  | d :: L, p => if d.org ≤ p ∧ p < d.fin then d.bs.getD (p - d.org) 0 else byteAt L p
def readB (L : List Piece) (x m : Nat) : List UInt8 := (List.range m).map fun i => byteAt L (x + i)

theorem readB_length (L : List Piece) (x m : Nat) : (readB L x m).length = m := by simp [readB]
attribute [local simp] readB_length
theorem readB_nil (x m : Nat) : readB [] x m = List.replicate m 0 := by
  apply List.ext_getElem
  · simp
  · intro i h1 h2; simp [readB, byteAt]
theorem byteAt_none {A : List Piece} {p : Nat} (h : ∀ d, d ∈ A → ¬ (d.org ≤ p ∧ p < d.fin)) : byteAt A p = 0 := by
  induction A with
  | nil => rfl
  | cons d A ih => rw [byteAt, if_neg (h d (by simp)), ih (fun e he => h e (by simp [he]))]
theorem byteAt_append_left {A B : List Piece} {p : Nat} (h : ∀ d, d ∈ B → ¬ (d.org ≤ p ∧ p < d.fin)) : byteAt (A ++ B) p = byteAt A p := by
  induction A with
  | nil => simpa [byteAt] using byteAt_none h
  | cons d A ih => simp only [List.cons_append, byteAt, ih]
theorem byteAt_append_right {A B : List Piece} {p : Nat} (h : ∀ d, d ∈ A → ¬ (d.org ≤ p ∧ p < d.fin)) : byteAt (A ++ B) p = byteAt B p := by
  induction A with
  | nil => rfl
  | cons d A ih => rw [List.cons_append, byteAt, if_neg (h d (by simp)), ih (fun e he => h e (by simp [he]))]
theorem byteAt_snoc {A : List Piece} {d : Piece} {p : Nat} (h : ∀ e, e ∈ A → e.fin ≤ d.org) : byteAt (A ++ [d]) p = if d.org ≤ p ∧ p < d.fin then d.bs.getD (p - d.org) 0 else byteAt A p := by
  by_cases hc : d.org ≤ p ∧ p < d.fin
  · rw [if_pos hc, byteAt_append_right (fun e he => by have := h e he; omega), byteAt, if_pos hc]
  · rw [if_neg hc, byteAt_append_left (fun e he => by rw [List.mem_singleton.1 he]; exact hc)]

theorem bcells_splice (l : List UInt8) (o : Nat) (c : List UInt8) : splice (bcells l) o (bcells c) = bcells (splice l o c) := by simp [splice, bcells]

attribute [local simp] bcells_length
theorem bcells_one (l : List UInt8) : ∀ v ∈ bcells l, v.oneCell' = true := by
  intro v hv
  obtain ⟨b, -, rfl⟩ := List.mem_map.1 hv
  rfl
theorem read_splice {A : List Piece} {d : Piece} {x m : Nat} (h : ∀ e, e ∈ A → e.fin ≤ d.org) (h1 : x < d.fin) (h2 : d.org < x + m ∨ m = 0 ∧ d.org ≤ x) :
    splice (readB A x m) (max x d.org - x) ((d.bs.drop (max x d.org - d.org)).take (m - (max x d.org - x))) = readB (A ++ [d]) x m := by
  have hl : ((d.bs.drop (max x d.org - d.org)).take (m - (max x d.org - x))).length = min (m - (max x d.org - x)) (d.bs.length - (max x d.org - d.org)) := by simp
  unfold Piece.fin at h1
  apply List.ext_getElem
  · rw [length_splice _ _ _ (by rw [hl, readB_length]; omega)]; simp
  · intro i hi1 hi2
    have him : i < m := by simpa using hi2
    have hR : (readB (A ++ [d]) x m)[i] = if d.org ≤ x + i ∧ x + i < d.fin then d.bs.getD (x + i - d.org) 0 else byteAt A (x + i) := by
      simp only [readB, List.getElem_map, List.getElem_range]; exact byteAt_snoc h
    rw [hR]
    unfold Piece.fin
    simp only [splice]
    by_cases c1 : i < max x d.org - x
    · rw [List.getElem_append_left (by simp; omega), List.getElem_take, if_neg (by omega)]
      simp [readB]
    · rw [List.getElem_append_right (by simp; omega)]
      have e0 : (List.take (max x d.org - x) (readB A x m)).length = max x d.org - x := by simp; omega
      by_cases c2 : i - (max x d.org - x) < min (m - (max x d.org - x)) (d.bs.length - (max x d.org - d.org))
      · rw [List.getElem_append_left (by rw [hl, e0]; exact c2), List.getElem_take, List.getElem_drop, if_pos (by omega)]
        rw [List.getD_eq_getElem?_getD, List.getElem?_eq_getElem (by omega)]
        simp only [Option.getD_some, e0]
        congr 1; omega
      · rw [List.getElem_append_right (by rw [hl, e0]; omega), if_neg (by omega)]
        have e1 : ∀ j (hj : j < (readB A x m).length), (readB A x m)[j] = byteAt A (x + j) := fun j hj => by simp [readB]
        rw [List.getElem_drop, e1]
        congr 1
        rw [hl, e0]
        omega

theorem setRow_same {W : World} {g : Nat} {cur : Array Value} {t : TypeId} {fr : Nat × Nat} (h : W.heap[g]? = some (.cells cur t fr)) : W.setRow g cur = W := by
  have hh : (W.setRow g cur).heap = W.heap := by
    apply Array.ext_getElem?
    intro k
    by_cases hk : k = g
    · subst hk; rw [setRow_heap W k cur cur t fr h, h]
    · exact setRow_other W g k cur hk
  have e : W.setRow g cur = { W with heap := (W.setRow g cur).heap } := rfl
  rw [e, hh]
theorem cell_setRow_far {W : World} {g : Nat} {cs : Array Value} {a : Addr} (h : a.block ≠ g) : (W.setRow g cs).cell? a = W.cell? a := World.cell?_of_block (setRow_other W g a.block cs h)

/-- copy(d, s) into a row that is known whole. -/
theorem run_copy_bytes (W : World) (ty : TypeId) (dp sp : Option Addr) (dLen dCap sLen sCap : Nat) (g off : Nat) (cur : List Value) (hg : W.heap[g]? = some (.cells cur.toArray 5 (0, 0))) (cs : List Value) (hn : cs.length = min sLen dLen)
    (hpos : 0 < cs.length → dp = some ⟨g, off, none⟩ ∧ ∃ ad, sp = some ad ∧ ∀ j v, cs[j]? = some v → W.cell? (ad.add j) = some v) (hfit : off + cs.length ≤ cur.length) (h1 : ∀ v ∈ cs, v.oneCell' = true) :
    (Builtin.copy_ #[48, 48] ty #[.slice dp dLen dCap, .slice sp sLen sCap]).run Tryz.prog W = .ok (goInt cs.length) (W.setRow g (splice cur off cs).toArray) := by
  have hsz : (Tryz.prog.info? 5).map (·.size) = some 1 := by kernel_rfl
  by_cases h0 : cs.length = 0
  · obtain rfl : cs = [] := List.eq_nil_of_length_eq_zero h0
    rw [run_copy_none (P := Tryz.prog) W 48 48 ty 5 dp sp dLen dCap sLen sCap Tryz.underlying48 hsz (by simpa [Nat.min_def] using hn.symm)]
    rw [show (splice cur off []).toArray = cur.toArray by simp [splice], setRow_same hg]
    rfl
  · obtain ⟨rfl, ad, rfl, hsrc⟩ := hpos (by omega)
    have := run_copy_row (P := Tryz.prog) W 48 48 ty 5 g off dLen dCap ad sLen sCap cur.toArray 5 cs Tryz.underlying48 hsz hg (by rw [hn]) hsrc (by simpa using hfit) h1
    rw [this]; simp [splice]
end Go.Proofs.YtbnaegoahdcejaaGreatDoor.M

namespace Go.Proofs.YtbnaegoahdcejaaGreatDoor.M
open Go.RowKit
attribute [local simp] lcells_nil readB_length bcells_length
theorem info5 : (Tryz.prog.info? 5).map (fun i => (i.zero, i.size, i.bytes)) = some (some (.int .u8 0), 1, 1) := by kernel_rfl
theorem info56 : (Tryz.prog.info? 323).map (fun i => (i.zero, i.size, i.bytes)) = some (some (.agg #[.int .i64 0, .slice none 0 0]), 2, 32) := by kernel_rfl

theorem wpList_min3 {P : Program} (w : World) {ops : Array Oper} {rest : List Oper} {o : Oper} {a : Act} {Q : Exit → Act → World → Prop} (hgd : o.guard = none) (x y z : Operand) (ts : Array TypeId)
    (ho : o.op = .call { callee := .builtin .min, args := #[x, y, z], argTypes := ts }) (p q r m : Int) (hx : a.eval x = .int .i64 p) (hy : a.eval y = .int .i64 q) (hz : a.eval z = .int .i64 r)
    (hm : (if r < (if q < p then q else p) then r else (if q < p then q else p)) = m) (h : wpList P ops Q rest (a.put o.dst (.int .i64 m)) w) : wpList P ops Q (o :: rest) a w := by
  refine wpList_plain hgd fun K hK => ?_
  have hr := run_min_int3 (P := P) (w := w) ts o.type .i64 .i64 .i64 p q r
  rw [hm] at hr
  unfold Oper.wp execOp
  simp only [ho, resolve, invoke, builtin, Sem.run_bind, Sem.run_pure, Result.andThen_ok, List.map_toArray, List.map_cons, List.map_nil, hx, hy, hz, hr]
  exact hK _ _ h

theorem wpList_max2 {P : Program} (w : World) {ops : Array Oper} {rest : List Oper} {o : Oper} {a : Act} {Q : Exit → Act → World → Prop} (hgd : o.guard = none) (x y : Operand) (ts : Array TypeId)
    (ho : o.op = .call { callee := .builtin .max, args := #[x, y], argTypes := ts }) (p q m : Int) (hx : a.eval x = .int .i64 p) (hy : a.eval y = .int .i64 q)
    (hm : max p q = m) (h : wpList P ops Q rest (a.put o.dst (.int .i64 m)) w) : wpList P ops Q (o :: rest) a w := by
  refine wpList_plain hgd fun K hK => ?_
  have hr := run_max_int2 (P := P) (w := w) ts o.type .i64 .i64 p q
  rw [show (if p < q then q else p) = m by rw [← hm]; simp only [Int.max_def]; split <;> split <;> omega] at hr
  unfold Oper.wp execOp
  simp only [ho, resolve, invoke, builtin, Sem.run_bind, Sem.run_pure, Result.andThen_ok, List.map_toArray, List.map_cons, List.map_nil, hx, hy, hr]
  exact hK _ _ h

theorem make_bytes (w : World) (m : Nat) (hm : m ≤ 4194305) : (Instr.makeSlice 48 (.int .i64 m) (.int .i64 m)).run Tryz.prog w = .ok (.slice (some ⟨w.heap.size, 0, none⟩) m m) (w.alloc (.cells (bcells (List.replicate m 0)).toArray 5)) := by
  obtain ⟨i, hi, hz, hs, hb⟩ := info_parts info5
  have h := run_make (P := Tryz.prog) w 48 5 i (.int .u8 0) Tryz.underlying48 hi hz .i64 .i64 m m (by omega) (Int.le_refl _) (by rw [hb]; omega) (by omega)
  rw [h, hs]
  simp only [Int.toNat_natCast, Nat.mul_one]
  have e : (madeCells (Value.int .u8 0).cells m) = (bcells (List.replicate m 0)).toArray := by
    apply Array.toList_inj.1
    rw [show (Value.int IntKind.u8 0).cells = #[.int .u8 0] from rfl, toList_madeCells_one]
    simp [bcells]
  rw [e]


theorem step_copy_to {P : Program} {ops : Array Oper} {o : Oper} {a : Act} {w : World} {K : Act → World → Prop} {Q : Exit → Act → World → Prop} {E : Prop}
    (hg : o.guard = none) (d x : Operand) (dT sT : TypeId) (hop : o.op = Op.call { callee := Callee.builtin Builtin.copy, args := #[d, x], argTypes := #[dT, sT] })
    (v u : Value) (hd : a.eval d = v) (hx : a.eval x = u) {v' : Value} {w' : World} (hr : (Builtin.copy_ #[dT, sT] o.type #[v, u]).run P w = .ok v' w') (hK : K (a.put o.dst v') w') :
    if Region.wanted o (yielded ops a.tmps) = true then Oper.wp P o a w K Q else E := by
  have hw : Region.wanted o (yielded ops a.tmps) = true := by simp [Region.wanted, hg]
  rw [if_pos hw]
  unfold Oper.wp
  simp [execOp, hop, resolve, invoke, builtin, hd, hx, hr, Result.andThen]
  exact hK

theorem view_same {w w' : World} {B : Nat} {kb : Option Nat} {rv : Value} {M : List Piece} (h : View w kb rv M) (hk : ∀ g, kb = some g → g < B) (hb : ∀ g, g < B → w'.heap[g]? = w.heap[g]?) : View w' kb rv M := by
  obtain ⟨a, cap, rfl, h⟩ := h
  refine ⟨a, cap, rfl, fun t ht => ?_⟩
  obtain ⟨g, o, rfl, hkg, h0, h1⟩ := h t ht
  exact ⟨g, o, rfl, hkg, (World.cell?_of_block (hb g (hk g hkg))).trans h0, (World.cell?_of_block (hb g (hk g hkg))).trans h1⟩
theorem below_setRow_new {B g : Nat} {w0 w : World} (hb : Below B w0 w) (hBg : B ≤ g) (cs : Array Value) : Below B w0 (w.setRow g cs) :=
  hb.trans ⟨rfl, rfl, rfl, by simp [World.setRow], fun k hk => setRow_other w g k cs (by omega)⟩

theorem copy_piece (W : World) (ty : TypeId) (c1 c2 g : Nat) (A : List Piece) (d : Piece) (x m lo lo2 : Nat) (hrow : W.ownsRow 0 5 1 d.dv d.bs.length (bcells d.bs)) (hout : W.heap[g]? = some (.cells (bcells (readB A x m)).toArray 5 (0, 0)))
    (hA : ∀ e, e ∈ A → e.fin ≤ d.org) (h1 : x < d.fin) (h2 : d.org < x + m) (hlo : max x d.org - x = lo) (hlo2 : max x d.org - d.org = lo2) :
    (Builtin.copy_ #[48, 48] ty #[.slice (some ⟨g, lo, none⟩) (m - lo) c1, .slice (some ⟨d.blk, lo2, none⟩) (d.bs.length - lo2) c2]).run Tryz.prog W = .ok (goInt ((min (m - lo) (d.bs.length - lo2) : Nat) : Int)) (W.setRow g (bcells (readB (A ++ [d]) x m)).toArray) := by
  have hsp := read_splice (A := A) (d := d) (x := x) (m := m) hA h1 (.inl h2)
  rw [hlo, hlo2] at hsp
  have hlen : ((d.bs.drop lo2).take (m - lo)).length = min (m - lo) (d.bs.length - lo2) := by simp
  unfold Piece.fin at h1
  have := run_copy_bytes W ty (some ⟨g, lo, none⟩) (some ⟨d.blk, lo2, none⟩) (m - lo) c1 (d.bs.length - lo2) c2 g lo (bcells (readB A x m)) hout (bcells ((d.bs.drop lo2).take (m - lo))) (by rw [bcells_length, hlen]; omega)
    (fun _ => ⟨rfl, _, rfl, fun j v hj => by
      have hjl : j < ((d.bs.drop lo2).take (m - lo)).length := by rw [← bcells_length]; exact (List.getElem?_eq_some_iff.1 hj).1
      rw [hlen] at hjl
      unfold Piece.dv at hrow
      rw [Addr.add_lit, hrow.cellAt (lo2 + j) (by omega), ← hj]
      simp only [bcells, List.getElem?_map, List.getElem?_take, List.getElem?_drop]
      rw [if_pos (by omega)]⟩) (by rw [bcells_length, bcells_length, hlen, readB_length]; omega) (bcells_one _)
  rw [this, bcells_splice, hsp, bcells_length, hlen]

set_option maxHeartbeats 1000000 in
theorem get_any (b : Nat) (lv : Value) (sz : Nat) (L : List Piece) (x n : Nat) (w : World) (hI : Inv sz L) (hx : x < sz) (hn : n ≤ 4611686018427387904) (hn0 : 0 < n)
    (hs : w.cell? ⟨b, 0, none⟩ = some (.int .i64 sz)) (hl : w.cell? ⟨b, 2, none⟩ = some lv) (hrow : w.ownsRow 0 323 2 lv L.length (lcells L))
    (hdat : ∀ d, d ∈ L → w.ownsRow 0 5 1 d.dv d.bs.length (bcells d.bs)) :
    Calls Tryz.prog 250 #[.pointer (some ⟨b, 0, none⟩), .int .i64 x, .int .i64 n] w fun e w' => ∃ m, m = min n (min 65536 (sz - x)) ∧ e = .returned (.slice (some ⟨w.heap.size, 0, none⟩) m m) ∧
      w'.heap[w.heap.size]? = some (.cells (bcells (readB L x m)).toArray 5 (0, 0)) ∧ Below w.heap.size w w' := by
  have hsz := hI.size
  have hxz : (x : Int) < (sz : Int) := by omega
  have g1 : decide ((x : Int) < 0) = false := by simp
  have g2 : decide ((n : Int) < 0) = false := by simp
  have g3 : decide (sz ≤ x) = false := by simp; omega
  obtain ⟨m, hm⟩ : ∃ m, m = min n (min 65536 (sz - x)) := ⟨_, rfl⟩
  have hm1 : m ≤ 65536 := by omega
  have hm0 : 0 < m := by omega
  have hmz : x + m ≤ sz := by omega
  have hmk := fun w => make_bytes w m (by omega)
  have HM := aside hm
  clear hm
  have hmin : (if (sz : Int) - x < (if (65536 : Int) < n then 65536 else (n : Int)) then (sz : Int) - x else (if (65536 : Int) < n then 65536 else (n : Int))) = m := by have := HM.out; split <;> split <;> omega
  have HMIN := aside hmin
  clear hmin
  have hA := below_al w (.cells (bcells (List.replicate m 0)).toArray 5)
  have hbl : b < w.heap.size := World.block_lt_of_cell? w _ hl
  have hlen := hI.len
  have W1 := aside (within_any b lv L x ((x + m : Nat) : Int) (w.alloc (.cells (bcells (List.replicate m 0)).toArray 5)) ((hA.cell hbl).trans hl) (row_below hrow hA) (by omega) hI.bd hI.so (hI.ij (x := x) (y := x + m) (by omega)))
  have HA := aside hA
  have HI := aside hI
  have HD := aside hdat
  have hlb : ∀ g, lv.ownBlock = some g → g < w.heap.size := fun g hg => (hrow.lt g hg).2
  have HLB := aside hlb
  have HMM : Aside (∀ d, d ∈ mid x (x + m) L → d ∈ L ∧ x < d.fin ∧ d.org < x + m) := fun d hd => mid_mem hI hd
  clear hrow hI hA hdat hlb
  go_enter Tryz.func250, Tryz.ntmps250
  go_wp2_with ((with_reducible refine wpList_min3 _ rfl _ _ _ _ rfl (n : Int) 65536 ((sz : Int) - x) (m : Int) ?_ ?_ ?_ HMIN.out ?_); rfl; rfl; rfl)
  rw [show (x : Int) + (m : Int) = ((x + m : Nat) : Int) by omega]
  refine W1.out.mono ?_
  rintro e w1 ⟨⟨rv, rfl, hvw⟩, hb1⟩
  change View _ lv.ownBlock rv (mid x (x + m) L) at hvw
  have HV := aside hvw
  obtain ⟨va, vcap, rfl, hvc⟩ := hvw
  generalize hMid : mid x (x + m) L = M at *
  have hml : M.length ≤ 4194304 := by
    obtain ⟨A, B, e, -⟩ := mid_split HI.out (x := x) (y := x + m) (by omega)
    rw [hMid] at e
    have := congrArg List.length e
    simp at this; omega
  have HSub : ∀ k (hlt : k < M.length), ∀ d, d ∈ M.take k → d.fin ≤ M[k].org := by
    intro k hlt d hd
    obtain ⟨A, B, e, -⟩ := mid_split HI.out (x := x) (y := x + m) (by omega)
    rw [hMid] at e
    have hp := HI.out.sep
    rw [e, List.pairwise_append, List.pairwise_append] at hp
    obtain ⟨t, ht, rfl⟩ := List.getElem_of_mem hd
    simp only [List.length_take] at ht
    rw [List.getElem_take]
    exact Nat.le_of_lt (List.pairwise_iff_getElem.1 hp.1.2.1 t k (by omega) hlt (by omega))
  have HSub := aside HSub
  have HRD : Aside (readB M x m = readB L x m) := by
    obtain ⟨A, B, e, hA, hB, -⟩ := mid_split HI.out (x := x) (y := x + m) (by omega)
    rw [hMid] at e
    apply List.map_congr_left
    intro i hi
    have hi := List.mem_range.1 hi
    rw [e, List.append_assoc, byteAt_append_right (fun d hd => by have := hA d hd; omega), byteAt_append_left (fun d hd => by have := hB d hd; omega)]
  clear hvc
  go_wp2
  go_loopw [46] (fun i wr => ∃ k : Nat, k ≤ M.length ∧ i = .int .i64 k ∧ wr.heap[w.heap.size]? = some (.cells (bcells (readB (M.take k) x m)).toArray 5 (0, 0)) ∧ Aside (Below w.heap.size w wr)) (fun i _ => M.length - (intOf i).toNat)
  case atStart =>
    refine ⟨0, Nat.zero_le _, rfl, ?_, HA.out.trans (hb1.mono (by simp))⟩
    rw [hb1.block w.heap.size (by simp), List.take_zero, readB_nil]
    exact heap_alloc_new w _
  case round =>
    obtain ⟨k, hk, rfl, hout, hbr⟩ := hrel
    by_cases hlt : k < M.length
    · obtain ⟨a, cap, he, hvw⟩ := view_same (w' := wr) HV.out HLB.out (fun g hg => (hbr.out.block g hg).trans (HA.out.block g hg).symm)
      obtain ⟨g, o, ha, -, h0, h1⟩ := hvw k hlt
      simp only [Value.slice.injEq, true_and] at he
      obtain ⟨rfl, rfl⟩ := he
      subst ha
      clear hvw
      unfold Piece.dv at h1
      have hltz : (k : Int) < (M.length : Int) := by omega
      have hmm := HMM.out M[k] (List.getElem_mem hlt)
      have hfi := HI.out.fin M[k] hmm.1
      have hne := HI.out.ne M[k] hmm.1
      have hdk := aside (row_below (HD.out M[k] hmm.1) hbr.out)
      obtain ⟨-, hm1, hm2⟩ := hmm
      unfold Piece.fin at hm1 hfi
      unfold Piece.dv at hdk
      obtain ⟨t, ht⟩ : ∃ t, t = max x M[k].org := ⟨_, rfl⟩
      have hmx : max (x : Int) (M[k].org : Int) = (t : Int) := by omega
      have HMX := aside hmx
      have hlo : (t : Int) - (x : Int) = ((t - x : Nat) : Int) := by omega
      have hlo2 : (t : Int) - (M[k].org : Int) = ((t - M[k].org : Nat) : Int) := by omega
      have hc1 : t - x ≤ m := by omega
      have hc2 : t - M[k].org < M[k].bs.length := by omega
      obtain ⟨_, cp, hcp, hcpl, -⟩ := row_form hdk.out
      simp only [Value.slice.injEq, true_and] at hcp
      have hc3 : M[k].bs.length ≤ M[k].cap := by omega
      clear hcp hcpl hmx
      have HT := aside ht
      clear ht
      generalize hlo_ : t - x = lo at *
      generalize hlo2_ : t - M[k].org = lo2 at *
      have HL1 := aside hlo_
      have HL2 := aside hlo2_
      clear hlo_ hlo2_
      go_wp2_with ((with_reducible refine wpList_max2 _ rfl _ _ _ rfl (x : Int) (M[k].org : Int) (t : Int) ?_ ?_ HMX.out ?_); rfl; rfl)
      have hw1 : IntKind.i64.wrap (lo : Int) = (lo : Int) := by rw [IntKind.wrap_i64]; omega
      have hw2 : IntKind.i64.wrap (lo2 : Int) = (lo2 : Int) := by rw [IntKind.wrap_i64]; omega
      have hc4 : ¬ (M[k].cap = lo2) := by omega
      have hc5 : lo2 ≤ M[k].bs.length := by omega
      have hlm : ¬ (m = lo) := by have := HT.out; have := HL1.out; omega
      have hdr1 := fun W (hW : Below wr.heap.size wr W) => row_below hdk.out hW
      have hbg : w.heap.size < wr.heap.size := (Array.getElem?_eq_some_iff.1 hout).1
      have hsub : ∀ d, d ∈ M.take k → d.fin ≤ M[k].org := HSub.out k hlt
      have hcp : ∀ ty W, Below wr.heap.size wr W → ∀ c1 c2, (Builtin.copy_ #[48, 48] ty #[.slice (some ⟨w.heap.size, lo, none⟩) (m - lo) c1, .slice (some ⟨M[k].blk, lo2, none⟩) (M[k].bs.length - lo2) c2]).run Tryz.prog W = .ok (goInt ((min (m - lo) (M[k].bs.length - lo2) : Nat) : Int)) (W.setRow w.heap.size (bcells (readB (M.take (k + 1)) x m)).toArray) := by
        intro ty W hW c1 c2
        rw [List.take_succ_eq_append_getElem hlt]
        exact copy_piece W ty c1 c2 w.heap.size (M.take k) M[k] x m lo lo2 (hdr1 W hW) ((hW.block _ hbg).trans hout) hsub (by unfold Piece.fin; omega) hm2 (by rw [← HT.out]; exact HL1.out) (by rw [← HT.out]; exact HL2.out)
      have HCP := aside hcp
      clear hcp hdr1
      have hB1 : Below wr.heap.size wr (wr.alloc (Obj.cells #[Value.int IntKind.i64 ↑M[k].org, Value.slice (some ⟨M[k].blk, 0, none⟩) M[k].bs.length M[k].cap] 323)).drew := (below_al _ _).drew
      have HB1 := aside hB1
      clear hB1
      go_region_law (refine step_copy_to rfl _ _ 48 48 rfl _ _ (by simp [Act.eval, Act.put]; rfl) (by simp [Act.eval, Act.put]; rfl) (HCP.out _ _ HB1.out _ _) ?_)
      all_goals
        go_wp2
        go_roundw
        case rel => exact ⟨k + 1, by omega, by go_num, setRow_heap _ _ _ _ _ _ ((HB1.out.block _ hbg).trans hout), below_setRow_new (hbr.out.trans (HB1.out.mono hbr.out.size)) (Nat.le_refl _) _⟩
        case measure => simp [intOf]; omega
    · obtain rfl : k = M.length := by omega
      rw [List.take_length, HRD.out] at hout
      go_wp2
      go_ret
      exact ⟨m, HM.out, rfl, hout, hbr.out⟩
end Go.Proofs.YtbnaegoahdcejaaGreatDoor.M

namespace Go.Proofs.YtbnaegoahdcejaaGreatDoor.M
open Go.RowKit
attribute [local simp] lcells_nil readB_length bcells_length
/-- append onto a row that is known whole: the row goes on in its own block, or stands in the next new one. -/
theorem run_append_where {P : Program} (w : World) (t ty e : TypeId) (z : Value) (size bytes : Nat) (ht : P.underlying t = some (.slice e)) (hinfo : (P.info? e).map (fun i => (i.zero, i.size, i.bytes)) = some (some z, size, bytes))
    (hzs : z.cells.size = size) (hsz : 0 < size) (v : Value) (n : Nat) (xs : List Value) (hown : w.ownsRow 0 e size v n xs)
    (a : Addr) (m c : Nat) (news : List Value) (hl : news.length = m * size) (hnews : ∀ j u, news[j]? = some u → w.cell? (a.add j) = some u) (h1 : ∀ u ∈ news, u.oneCell' = true)
    (h63 : n + m ≤ maxLen) (hbytes : (n + m) * bytes ≤ 140737488355328) (hm : 0 < m) :
    ∃ v' w', (Builtin.append_ #[t, t] ty #[v, .slice (some a) m c]).run P w = .ok v' w' ∧ w'.ownsRow 0 e size v' (n + m) (xs ++ news) ∧ w.grownBy w' v.ownBlock ∧
      (v'.ownBlock = v.ownBlock ∧ (∃ g, v.ownBlock = some g) ∨ v'.ownBlock = some w.heap.size ∧ Below w.heap.size w w') := by
  obtain ⟨i, hi, hz, hs, hb⟩ := info_parts hinfo
  obtain ⟨v', w', hr, h2, h3, h4⟩ := run_append_own (P := P) w 0 t ty e i z size bytes ht hi hz hs hb hzs hsz v n xs hown a m c news hl hnews h1 h63 hbytes (Nat.zero_le _)
  refine ⟨v', w', hr, h2, h3, ?_⟩
  rcases hown.2 with ⟨rfl, rfl⟩ | ⟨g, cap, cur, rfl, -, hg, hnc, hcm, hcs, htake⟩
  · right
    have hx := run_append_nil (P := P) w t ty e i z ht hi hz a m c news (by rw [hs]; exact hl) hnews (by omega) (by have h := h63; unfold maxLen at h; omega) (by rw [hb]; have h := hbytes; simp only [Nat.zero_add] at h; omega)
    rw [hr] at hx
    injection hx with e1 e2
    subst e1; subst e2
    exact ⟨rfl, below_tr (below_dr w) (below_al w.drew _)⟩
  · by_cases hroom : n + m ≤ cap
    · left
      obtain ⟨w2, hx, -, -⟩ := run_append_fits (P := P) w 0 t ty e i size ht hi hs g n cap xs hown a m c news hl hnews h1 hroom
      rw [hr] at hx
      injection hx with e1 e2
      subst e1
      exact ⟨rfl, g, rfl⟩
    · right
      have hx := run_append_grow (P := P) w t ty e i z ht hi hz ⟨g, 0, none⟩ n cap xs (by rw [hs]; exact hown.1) (hown.cells (g := g) rfl) a m c news (by rw [hs]; exact hl) hnews (by omega) (by have h := h63; unfold maxLen at h; omega) (by rw [hb]; exact growslice_fits (by omega) hbytes)
      rw [hr] at hx
      injection hx with e1 e2
      subst e1; subst e2
      exact ⟨rfl, below_tr (below_dr w) (below_al w.drew _)⟩

theorem wpList_append_where {P : Program} (w : World) {ops : Array Oper} {rest : List Oper} {o : Oper} {a : Act} {Q : Exit → Act → World → Prop} (hgd : o.guard = none) (s x : Operand) (t : TypeId)
    (ho : o.op = .call { callee := .builtin .append, args := #[s, x], argTypes := #[t, t] }) (e : TypeId) (z : Value) (size bytes : Nat) (ht : P.underlying t = some (.slice e)) (hinfo : (P.info? e).map (fun i => (i.zero, i.size, i.bytes)) = some (some z, size, bytes))
    (hzs : z.cells.size = size) (hsz : 0 < size) (v : Value) (n : Nat) (xs : List Value) (hs : a.eval s = v) (hown : w.ownsRow 0 e size v n xs)
    (ad : Addr) (m c : Nat) (news : List Value) (hx : a.eval x = .slice (some ad) m c) (hl : news.length = m * size) (hnews : ∀ j u, news[j]? = some u → w.cell? (ad.add j) = some u) (h1 : ∀ u ∈ news, u.oneCell' = true)
    (h63 : n + m ≤ maxLen) (hbytes : (n + m) * bytes ≤ 140737488355328) (hm : 0 < m)
    (h : ∀ v' w', w'.ownsRow 0 e size v' (n + m) (xs ++ news) → w.grownBy w' v.ownBlock → (v'.ownBlock = v.ownBlock ∧ (∃ g, v.ownBlock = some g) ∨ v'.ownBlock = some w.heap.size ∧ Below w.heap.size w w') → wpList P ops Q rest (a.put o.dst v') w') : wpList P ops Q (o :: rest) a w := by
  obtain ⟨v', w', hr, h2, h3, h4⟩ := run_append_where (P := P) w t o.type e z size bytes ht hinfo hzs hsz v n xs hown ad m c news hl hnews h1 h63 hbytes hm
  refine wpList_plain hgd fun K hK => ?_
  unfold Oper.wp execOp
  simp only [ho, resolve, invoke, builtin, Sem.run_bind, Sem.run_pure, Result.andThen_ok, List.map_toArray, List.map_cons, List.map_nil, hs, hx, hr]
  exact hK _ _ (h v' w' h2 h3 h4)

set_option maxHeartbeats 400000 in
theorem clone_any (src : Addr) (l : List UInt8) (c : Nat) (w : World) (h0 : 0 < l.length) (hlen : l.length ≤ 4294967296) (hsrc : ∀ j v, (bcells l)[j]? = some v → w.cell? (src.add j) = some v) :
    Calls Tryz.prog 184 #[.slice (some src) l.length c] w fun e w' => ∃ g cap, e = .returned (.slice (some ⟨g, 0, none⟩) l.length cap) ∧ w.heap.size ≤ g ∧ w'.ownsRow 0 5 1 (.slice (some ⟨g, 0, none⟩) l.length cap) l.length (bcells l) ∧ Below w.heap.size w w' := by
  have hnil : ∀ w, (binOp .eql 48 (.slice (some src) l.length c) (.slice none 0 0)).run Tryz.prog w = .ok (.bool false) w := fun w => Lib.run_eql_slice_nil w 48 5 (some src) l.length c 0 0 Tryz.underlying48
  have hB : Below w.heap.size w (w.alloc (.cells #[] 5)) := below_al w _
  have hown : (w.alloc (.cells #[] 5)).ownsRow 0 5 1 (.slice (some ⟨w.heap.size, 0, none⟩) 0 0) 0 [] := World.ownsRow_made w #[] 0 (Nat.zero_le _) (by decide) (by simp)
  have hs2 : ∀ j v, (bcells l)[j]? = some v → (w.alloc (.cells #[] 5)).cell? (src.add j) = some v := fun j v h => (hB.cell (World.block_lt_of_cell? w _ (hsrc j v h))).trans (hsrc j v h)
  have h63 : 0 + l.length ≤ maxLen := by unfold maxLen; omega
  have hby : (0 + l.length) * 1 ≤ 140737488355328 := by omega
  have hll : (bcells l).length = l.length * 1 := by simp
  have HO := aside hown
  have HS := aside hs2
  have HB := aside hB
  have H63 := aside h63
  have HLL := aside hll
  clear hs2 hsrc hown hB h63 hll
  go_enter Tryz.func184, Tryz.ntmps184
  go_wp2_with (at_builtin; refine wpList_append_where _ rfl _ _ 48 rfl 5 (.int .u8 0) 1 1 Tryz.underlying48 info5 rfl (by decide) (.slice (some ⟨w.heap.size, 0, none⟩) 0 0) 0 [] rfl HO.out _ l.length _ (bcells l) rfl HLL.out HS.out (bcells_one _) H63.out hby h0 ?_; intro v' w' ho hg hwh)
  go_ret
  simp only [Nat.zero_add, List.nil_append] at ho
  rcases ho.2 with ⟨-, hz⟩ | ⟨g, cap, cur, rfl, r⟩
  · omega
  · refine ⟨g, cap, rfl, ?_, ho, ?_⟩
    · rcases hwh with ⟨e1, -⟩ | ⟨e1, -⟩
      · simp only [Value.ownBlock, Option.some.injEq] at e1; omega
      · simp only [Value.ownBlock, Option.some.injEq, World.size_alloc] at e1; omega
    · exact (HB.out).grown hg (by simp) (fun k hk => by simp only [Value.ownBlock, Option.some.injEq] at hk; omega)

set_option maxHeartbeats 400000 in
theorem fit55_any (v : Value) (n : Nat) (xs : List Value) (w : World) (hown : w.ownsRow 0 323 2 v n xs) (hn : n ≤ 4294967296) (h1 : ∀ u ∈ xs, u.oneCell' = true) :
    Calls Tryz.prog 195 #[v] w fun e w' => ∃ v', e = .returned v' ∧ w'.ownsRow 0 323 2 v' n xs ∧ Below w.heap.size w w' ∧ (v' = v ∨ ∃ g, v'.ownBlock = some g ∧ w.heap.size ≤ g) := by
  rcases hown.2 with ⟨rfl, rfl⟩ | ⟨g, cap, cur, rfl, -, hg, hnc, hcm, hcs, htake⟩
  · have HO := aside hown
    clear hown
    go_enter Tryz.func195, Tryz.ntmps195
    go_wp2
    go_ret
    exact ⟨_, rfl, HO.out, Below.refl _ _, .inl rfl⟩
  · have HO := aside hown
    have hcell := aside (hown.cells (g := g) rfl)
    have hlx := aside hown.1
    clear hown htake hg hcs cur
    unfold maxLen at hcm
    by_cases hc : (cap : Int) / 4 ≤ (n : Int)
    · go_enter Tryz.func195, Tryz.ntmps195
      go_wp2
      go_ret
      exact ⟨_, rfl, HO.out, Below.refl _ _, .inl rfl⟩
    · obtain ⟨i, hi, hz, hs, hb⟩ := info_parts info56
      have H1 := aside h1
      have Hi := aside hi
      have Hz := aside hz
      have Hs := aside hs
      have Hb := aside hb
      have h63 : 0 + n ≤ maxLen := by unfold maxLen; omega
      have H63 := aside h63
      have hby : (0 + n) * 32 ≤ 140737488355328 := by omega
      have hb2 : i.bytes * n ≤ 281474976710656 := by rw [hb]; omega
      clear h63 h1 hi hz hs hb
      go_enter Tryz.func195, Tryz.ntmps195
      go_wp2_with (first
        | (at_make; refine wpList_make_own _ rfl _ _ 234 rfl w.heap.size 323 i (.agg #[.int .i64 0, .slice none 0 0]) 2 Tryz.underlying234 Hi.out Hz.out Hs.out .i64 .i64 (n : Int) n rfl rfl rfl hb2 (by have := H63.out; omega) (Nat.le_refl _) ?_; intro w1 ho1 hg1)
        | (at_builtin; refine wpList_append_own _ rfl _ _ 234 rfl w.heap.size 323 i (.agg #[.int .i64 0, .slice none 0 0]) 2 32 Tryz.underlying234 Hi.out Hz.out Hs.out Hb.out rfl (by decide) (.slice (some ⟨w.heap.size, 0, none⟩) 0 n) 0 [] rfl ho1 ⟨g, 0, none⟩ n cap xs rfl hlx.out (fun j u hj => hg1.cell (hcell.out j u hj) (by simp)) H1.out H63.out hby hg1.size ?_; intro v' w2 ho2 hg2 hv2))
      go_ret
      simp only [Nat.zero_add, List.nil_append] at ho2
      have hB1 : Below w.heap.size w w1 := (Below.refl _ w).grown hg1 (Nat.le_refl _) (fun k hk => by simp at hk)
      have hB2 : Below w.heap.size w w2 := hB1.grown hg2 hg1.size (fun k hk => by simp only [Value.ownBlock, Option.some.injEq] at hk; omega)
      rcases ho2.2 with ⟨rfl, hz0⟩ | ⟨g2, cap2, cur2, rfl, hb3, r⟩
      · exact absurd (hv2.1 rfl).1 (by simp)
      · exact ⟨_, rfl, ⟨ho2.1, .inr ⟨g2, cap2, cur2, rfl, Nat.zero_le _, r⟩⟩, hB2, .inr ⟨g2, rfl, hb3⟩⟩

set_option maxHeartbeats 400000 in
theorem fit50_any (v : Value) (n : Nat) (xs : List Value) (w : World) (hown : w.ownsRow 0 5 1 v n xs) (hn : n ≤ 4294967296) (h1 : ∀ u ∈ xs, u.oneCell' = true) :
    Calls Tryz.prog 243 #[v] w fun e w' => ∃ v', e = .returned v' ∧ w'.ownsRow 0 5 1 v' n xs ∧ Below w.heap.size w w' ∧ (v' = v ∨ ∃ g, v'.ownBlock = some g ∧ w.heap.size ≤ g) := by
  rcases hown.2 with ⟨rfl, rfl⟩ | ⟨g, cap, cur, rfl, -, hg, hnc, hcm, hcs, htake⟩
  · have HO := aside hown
    clear hown
    go_enter Tryz.func243, Tryz.ntmps243
    go_wp2
    go_ret
    exact ⟨_, rfl, HO.out, Below.refl _ _, .inl rfl⟩
  · have HO := aside hown
    have hcell := aside (hown.cells (g := g) rfl)
    have hlx := aside hown.1
    clear hown htake hg hcs cur
    unfold maxLen at hcm
    by_cases hc : (cap : Int) / 4 ≤ (n : Int)
    · go_enter Tryz.func243, Tryz.ntmps243
      go_wp2
      go_ret
      exact ⟨_, rfl, HO.out, Below.refl _ _, .inl rfl⟩
    · obtain ⟨i, hi, hz, hs, hb⟩ := info_parts info5
      have H1 := aside h1
      have Hi := aside hi
      have Hz := aside hz
      have Hs := aside hs
      have Hb := aside hb
      have h63 : 0 + n ≤ maxLen := by unfold maxLen; omega
      have H63 := aside h63
      have hby : (0 + n) * 1 ≤ 140737488355328 := by omega
      have hb2 : i.bytes * n ≤ 281474976710656 := by rw [hb]; omega
      clear h63 h1 hi hz hs hb
      go_enter Tryz.func243, Tryz.ntmps243
      go_wp2_with (first
        | (at_make; refine wpList_make_own _ rfl _ _ 48 rfl w.heap.size 5 i (.int .u8 0) 1 Tryz.underlying48 Hi.out Hz.out Hs.out .i64 .i64 (n : Int) n rfl rfl rfl hb2 (by have := H63.out; omega) (Nat.le_refl _) ?_; intro w1 ho1 hg1)
        | (at_builtin; refine wpList_append_own _ rfl _ _ 48 rfl w.heap.size 5 i (.int .u8 0) 1 1 Tryz.underlying48 Hi.out Hz.out Hs.out Hb.out rfl (by decide) (.slice (some ⟨w.heap.size, 0, none⟩) 0 n) 0 [] rfl ho1 ⟨g, 0, none⟩ n cap xs rfl hlx.out (fun j u hj => hg1.cell (hcell.out j u hj) (by simp)) H1.out H63.out hby hg1.size ?_; intro v' w2 ho2 hg2 hv2))
      go_ret
      simp only [Nat.zero_add, List.nil_append] at ho2
      have hB1 : Below w.heap.size w w1 := (Below.refl _ w).grown hg1 (Nat.le_refl _) (fun k hk => by simp at hk)
      have hB2 : Below w.heap.size w w2 := hB1.grown hg2 hg1.size (fun k hk => by simp only [Value.ownBlock, Option.some.injEq] at hk; omega)
      rcases ho2.2 with ⟨rfl, hz0⟩ | ⟨g2, cap2, cur2, rfl, hb3, r⟩
      · exact absurd (hv2.1 rfl).1 (by simp)
      · exact ⟨_, rfl, ⟨ho2.1, .inr ⟨g2, cap2, cur2, rfl, Nat.zero_le _, r⟩⟩, hB2, .inr ⟨g2, rfl, hb3⟩⟩
end Go.Proofs.YtbnaegoahdcejaaGreatDoor.M

namespace Go.Proofs.YtbnaegoahdcejaaGreatDoor.M
open Go.RowKit
attribute [local simp] lcells_nil readB_length bcells_length
set_option maxHeartbeats 1000000 in
theorem insertEnd_any (v : Value) (n : Nat) (xs : List Value) (w : World) (hown : w.ownsRow 0 323 2 v n xs) (hn : n ≤ 4294967296) (vb : Nat) (m c : Nat) (vs : List Value) (hm : 0 < m) (hm2 : m ≤ 4294967296) (hvl : vs.length = m * 2)
    (hvs : ∀ j u, vs[j]? = some u → w.cell? ⟨vb, j, none⟩ = some u) (h1 : ∀ u ∈ vs, u.oneCell' = true) :
    Calls Tryz.prog 198 #[v, .int .i64 n, .slice (some ⟨vb, 0, none⟩) m c] w fun e w' => ∃ v', e = .returned v' ∧ w'.ownsRow 0 323 2 v' (n + m) (xs ++ vs) ∧ w.grownBy w' v.ownBlock ∧
      (v'.ownBlock = v.ownBlock ∧ (∃ g, v.ownBlock = some g) ∨ v'.ownBlock = some w.heap.size ∧ Below w.heap.size w w') := by
  have h63 : n + m ≤ maxLen := by unfold maxLen; omega
  have hby : (n + m) * 32 ≤ 140737488355328 := by omega
  have hvs2 : ∀ j u, vs[j]? = some u → w.cell? ((⟨vb, 0, none⟩ : Addr).add j) = some u := fun j u h => by rw [Addr.add_lit, Nat.zero_add]; exact hvs j u h
  have H63 := aside h63
  have HO := aside hown
  have HV := aside hvs2
  have HL := aside hvl
  have H1 := aside h1
  obtain ⟨a, cap, hv, hc1, hc2⟩ := row_form hown
  have hm0 : ((m : Int) == 0) = false := by simp; omega
  have hmz : ¬ (m = 0) := by omega
  clear h63 hown hvs hvs2 hvl h1
  unfold maxLen at hc2
  obtain ⟨ob, hob⟩ : ∃ ob, ob = v.ownBlock := ⟨_, rfl⟩
  rw [← hob]
  subst hv
  have HOB := aside hob
  clear hob
  go_enter Tryz.func198, Tryz.ntmps198
  go_wp2_with (at_builtin; refine wpList_append_where _ rfl _ _ 234 rfl 323 (.agg #[.int .i64 0, .slice none 0 0]) 2 32 Tryz.underlying234 info56 rfl (by decide) (.slice a n cap) n xs rfl HO.out ⟨vb, 0, none⟩ m c vs rfl HL.out HV.out H1.out H63.out hby hm ?_; intro v' w' ho hg hwh; rw [← HOB.out] at hg hwh)
  all_goals go_ret
  all_goals exact ⟨_, rfl, ho, hg, hwh⟩







set_option maxHeartbeats 400000 in
theorem replaceM_of (b : Nat) (i j : Int) (x0 x1 lv vv : Value) (n : Nat) (xs : List Value) (n' : Nat) (xs' : List Value) (w : World) (hobj : w.heap[b]? = some (.cells #[x0, x1, lv] 236 (0, 0))) (hne : lv.ownBlock ≠ some b) (hown : w.ownsRow 0 323 2 lv n xs) (hn : n' ≤ 4294967296) (h1 : ∀ u ∈ xs', u.oneCell' = true)
    (hR : Calls Tryz.prog 196 #[lv, .int .i64 i, .int .i64 j, vv] w fun e w' => ∃ v', e = .returned v' ∧ w'.ownsRow 0 323 2 v' n' xs' ∧ w.grownBy w' lv.ownBlock ∧ (v'.ownBlock = lv.ownBlock ∨ ∃ g, v'.ownBlock = some g ∧ w.heap.size ≤ g)) :
    Calls Tryz.prog 183 #[.pointer (some ⟨b, 0, none⟩), .int .i64 i, .int .i64 j, vv] w fun e w' => e = .returned (.tuple #[]) ∧ ∃ lv', w'.heap[b]? = some (.cells #[x0, x1, lv'] 236 (0, 0)) ∧ w'.ownsRow 0 323 2 lv' n' xs' ∧
      (lv'.ownBlock = lv.ownBlock ∨ ∃ g, lv'.ownBlock = some g ∧ w.heap.size ≤ g) ∧ Upd (fun k => k = b ∨ lv.ownBlock = some k) w w' := by
  have hb : b < w.heap.size := (Array.getElem?_eq_some_iff.1 hobj).1
  have hl : w.cell? ⟨b, 2, none⟩ = some lv := by rw [cell_of_row w b 2 _ _ _ hobj]; rfl
  obtain ⟨la, cap, hlv, -, -⟩ := row_form hown
  have HR := aside hR
  have HO := aside hobj
  have H1 := aside h1
  have HNE := aside hne
  have HLV := aside hlv
  clear hR hobj h1 hne hlv hown
  go_enter Tryz.func183, Tryz.ntmps183
  rw [HLV.out] at hl
  go_wp2_with fail
  rw [← HLV.out]
  refine HR.out.mono ?_
  rintro e w1 ⟨v1, rfl, ho1, hg1, hw1⟩
  have hobj1 : w1.heap[b]? = some (.cells #[x0, x1, lv] 236 (0, 0)) := (hg1.block b hb (fun e => HNE.out e.symm)).trans HO.out
  go_wp2_with fail
  refine (fit55_any v1 n' xs' w1 ho1 hn H1.out).mono ?_
  rintro e w2 ⟨v2, rfl, ho2, hb2, hw2⟩
  have hobj2 : w2.heap[b]? = some (.cells #[x0, x1, lv] 236 (0, 0)) := (hb2.block b (by have := hg1.size; omega)).trans hobj1
  have hl2 : w2.cell? ⟨b, 2, none⟩ = some lv := by rw [cell_of_row w2 b 2 _ _ _ hobj2]; rfl
  have hf2 : w2.frozen? ⟨b, 2, none⟩ = false := frozen_of_row w2 b 2 _ _ hobj2
  obtain ⟨a2, c2, hv2, -, -⟩ := row_form ho2
  have HO2 := aside ho2
  have HOB2 := aside hobj2
  subst hv2
  clear ho2 ho1 hobj1 hobj2
  go_wp2
  go_end0
  have hsz := hg1.size
  have hsz2 := hb2.size
  have hwh : Value.ownBlock (.slice a2 n' c2) = lv.ownBlock ∨ ∃ g, Value.ownBlock (.slice a2 n' c2) = some g ∧ w.heap.size ≤ g := by
    rcases hw2 with e2 | ⟨g, e2, hg⟩
    · rw [e2]; exact hw1
    · exact .inr ⟨g, e2, by omega⟩
  have hnb : Value.ownBlock (.slice a2 n' c2) ≠ some b := by
    rcases hwh with e2 | ⟨g, e2, hg⟩
    · rw [e2]; exact HNE.out
    · rw [e2]; intro e3; injection e3 with e3; omega
  refine ⟨rfl, .slice a2 n' c2, by rw [heap_setCell_same w2 b 2 _ _ _ HOB2.out]; rfl, ?_, hwh, ?_⟩
  · exact (Upd.setCell (F := fun k => k = b) (p := ⟨b, 2, none⟩) rfl _).row HO2.out (fun k hk e => hnb (by rw [hk, e]))
  · refine (Upd.of_grown hg1 (fun k hk => .inr hk)).trans (G := fun k => k = b) ((Upd.of_below hb2).trans (G := fun k => k = b) (Upd.setCell (F := fun k => k = b) (p := ⟨b, 2, none⟩) rfl _) (fun _ _ h => h)) (fun k _ hk => .inl hk)

set_option maxHeartbeats 400000 in
set_option maxRecDepth 100000 in
theorem replaceEnd_any (v : Value) (n : Nat) (xs : List Value) (w : World) (hown : w.ownsRow 0 323 2 v n xs) (hn : n ≤ 4294967296) (vb : Nat) (m c : Nat) (vs : List Value) (hm : 0 < m) (hm2 : m ≤ 4294967296) (hvl : vs.length = m * 2)
    (hvs : ∀ j u, vs[j]? = some u → w.cell? ⟨vb, j, none⟩ = some u) (h1 : ∀ u ∈ vs, u.oneCell' = true) :
    Calls Tryz.prog 196 #[v, .int .i64 n, .int .i64 n, .slice (some ⟨vb, 0, none⟩) m c] w fun e w' => ∃ v', e = .returned v' ∧ w'.ownsRow 0 323 2 v' (n + m) (xs ++ vs) ∧ w.grownBy w' v.ownBlock ∧
      (v'.ownBlock = v.ownBlock ∨ ∃ g, v'.ownBlock = some g ∧ w.heap.size ≤ g) := by
  have HI := aside (insertEnd_any v n xs w hown hn vb m c vs hm hm2 hvl hvs h1)
  obtain ⟨a, cap, hv, hc1, hc2⟩ := row_form hown
  obtain ⟨ob, hob⟩ : ∃ ob, ob = v.ownBlock := ⟨_, rfl⟩
  rw [← hob]
  have HOB := aside hob
  have HV := aside hv
  clear hown hvs h1 hob
  unfold maxLen at hc2
  go_enter Tryz.func196, Tryz.ntmps196
  rw [hv]
  clear hv
  go_wp2_with (go_at_call 198; rw [← HV.out]; refine HI.out.mono ?_; rintro e w1 ⟨v1, rfl, ho1, hg1, hw1⟩)
  all_goals go_ret
  all_goals
    rw [← HOB.out] at hg1 hw1
    refine ⟨_, rfl, ho1, hg1, ?_⟩
    rcases hw1 with ⟨e1, -⟩ | ⟨e1, -⟩
    · exact .inl e1
    · exact .inr ⟨_, e1, Nat.le_refl _⟩
end Go.Proofs.YtbnaegoahdcejaaGreatDoor.M

namespace Go.Proofs.YtbnaegoahdcejaaGreatDoor.M
open Go.RowKit
attribute [local simp] lcells_nil readB_length bcells_length
/-- The object at block b, its first two cells as they are, over its stretches. -/
structure Str (w : World) (b : Nat) (x0 x1 lv : Value) (L : List Piece) : Prop where
  obj : w.heap[b]? = some (.cells #[x0, x1, lv] 236 (0, 0))
  row : w.ownsRow 0 323 2 lv L.length (lcells L)
  data : ∀ d, d ∈ L → w.ownsRow 0 5 1 d.dv d.bs.length (bcells d.bs)
  lne : lv.ownBlock ≠ some b
  dne : ∀ d, d ∈ L → d.blk ≠ b ∧ lv.ownBlock ≠ some d.blk
  nd : (L.map fun d => d.blk).Nodup
def Foot (b : Nat) (lv : Value) (L : List Piece) (k : Nat) : Prop := k = b ∨ lv.ownBlock = some k ∨ ∃ d, d ∈ L ∧ d.blk = k

theorem Str.lv_lt {w : World} {b : Nat} {x0 x1 lv : Value} {L : List Piece} (h : Str w b x0 x1 lv L) {k : Nat} (hk : Foot b lv L k) : k < w.heap.size := by
  rcases hk with rfl | hk | ⟨d, hd, rfl⟩
  · exact (Array.getElem?_eq_some_iff.1 h.obj).1
  · exact (h.row.lt k hk).2
  · exact ((h.data d hd).lt d.blk rfl).2
theorem Str.kept {w w' : World} {b : Nat} {x0 x1 lv : Value} {L : List Piece} {F : Nat → Prop} (h : Str w b x0 x1 lv L) (hu : Upd F w w') (hF : ∀ k, Foot b lv L k → ¬ F k) : Str w' b x0 x1 lv L :=
  ⟨(hu.block b (h.lv_lt (.inl rfl)) (hF b (.inl rfl))).trans h.obj, hu.row h.row (fun k hk => hF k (.inr (.inl hk))), fun d hd => hu.row (h.data d hd) (fun k hk => hF k (by
    simp only [Piece.dv, Value.ownBlock, Option.some.injEq] at hk; exact .inr (.inr ⟨d, hd, hk⟩))), h.lne, h.dne, h.nd⟩
theorem Str.below {w w' : World} {b : Nat} {x0 x1 lv : Value} {L : List Piece} (h : Str w b x0 x1 lv L) (hb : Below w.heap.size w w') : Str w' b x0 x1 lv L :=
  h.kept (F := fun _ => False) (Upd.of_below hb) (fun _ _ h => h)
theorem lcells_one (L : List Piece) : ∀ u ∈ lcells L, u.oneCell' = true := by
  intro u hu
  obtain ⟨d, -, hd⟩ := List.mem_flatMap.1 hu
  simp only [List.mem_cons, List.not_mem_nil, or_false] at hd
  rcases hd with rfl | rfl <;> rfl
theorem findIdx_none {α : Type} (q : α → Bool) (L : List α) (h : ∀ d, d ∈ L → q d = false) : L.findIdx q = L.length := List.findIdx_eq_length.2 h

/-- (*Bytes).replace over any answer of Replace: the object stands over the new stretches. -/
theorem replaceStr (b : Nat) (i j : Int) (x0 x1 lv vv : Value) (L L' : List Piece) (w : World) (hS : Str w b x0 x1 lv L) (hdat : ∀ d, d ∈ L' → w.ownsRow 0 5 1 d.dv d.bs.length (bcells d.bs)) (hdne : ∀ d, d ∈ L' → d.blk ≠ b ∧ lv.ownBlock ≠ some d.blk)
    (hnd : (L'.map fun d => d.blk).Nodup) (hn : L'.length ≤ 4294967296)
    (hR : Calls Tryz.prog 196 #[lv, .int .i64 i, .int .i64 j, vv] w fun e w' => ∃ v', e = .returned v' ∧ w'.ownsRow 0 323 2 v' L'.length (lcells L') ∧ w.grownBy w' lv.ownBlock ∧ (v'.ownBlock = lv.ownBlock ∨ ∃ g, v'.ownBlock = some g ∧ w.heap.size ≤ g)) :
    Calls Tryz.prog 183 #[.pointer (some ⟨b, 0, none⟩), .int .i64 i, .int .i64 j, vv] w fun e w' => e = .returned (.tuple #[]) ∧ ∃ lv', Str w' b x0 x1 lv' L' ∧
      (lv'.ownBlock = lv.ownBlock ∨ ∃ g, lv'.ownBlock = some g ∧ w.heap.size ≤ g) ∧ Upd (fun k => k = b ∨ lv.ownBlock = some k) w w' := by
  refine (replaceM_of b i j x0 x1 lv vv L.length (lcells L) L'.length (lcells L') w hS.obj hS.lne hS.row hn (lcells_one _) hR).mono ?_
  rintro e w' ⟨rfl, lv', ho, hr, hw, hu⟩
  have hb : b < w.heap.size := (Array.getElem?_eq_some_iff.1 hS.obj).1
  refine ⟨rfl, lv', ⟨ho, hr, fun d hd => hu.row (hdat d hd) (fun k hk => ?_), ?_, fun d hd => ⟨(hdne d hd).1, ?_⟩, hnd⟩, hw, hu⟩
  · simp only [Piece.dv, Value.ownBlock, Option.some.injEq] at hk
    subst hk
    rintro (e1 | e1)
    · exact (hdne d hd).1 e1
    · exact (hdne d hd).2 e1
  · rcases hw with e1 | ⟨g, e1, hg⟩
    · rw [e1]; exact hS.lne
    · rw [e1]; intro e2; injection e2 with e2; omega
  · rcases hw with e1 | ⟨g, e1, hg⟩
    · rw [e1]; exact (hdne d hd).2
    · have := ((hdat d hd).lt d.blk rfl).2
      rw [e1]; intro e2; injection e2 with e2; omega

theorem layEnd_tail (b : Nat) (x0 x1 lv : Value) (L : List Piece) (x : Nat) (l : List UInt8) (g cap vb : Nat) (w : World) (hS : Str w b x0 x1 lv L) (hlen : L.length ≤ 4194304)
    (hrow : w.ownsRow 0 5 1 (.slice (some ⟨g, 0, none⟩) l.length cap) l.length (bcells l)) (hg : ¬ Foot b lv L g) (hvb : w.heap[vb]? = some (.cells #[.int .i64 x, .slice (some ⟨g, 0, none⟩) l.length cap] 323 (0, 0))) :
    Calls Tryz.prog 183 #[.pointer (some ⟨b, 0, none⟩), .int .i64 L.length, .int .i64 L.length, .slice (some ⟨vb, 0, none⟩) 1 1] w fun e w' => e = .returned (.tuple #[]) ∧ ∃ lv', Str w' b x0 x1 lv' (L ++ [⟨x, g, cap, l⟩]) ∧
      (lv'.ownBlock = lv.ownBlock ∨ ∃ k, lv'.ownBlock = some k ∧ w.heap.size ≤ k) ∧ Upd (fun k => k = b ∨ lv.ownBlock = some k) w w' := by
  refine replaceStr b L.length L.length x0 x1 lv _ L (L ++ [⟨x, g, cap, l⟩]) w hS ?_ ?_ ?_ (by simp; omega) ?_
  · intro d hd
    rcases List.mem_append.1 hd with hd | hd
    · exact hS.data d hd
    · rw [List.mem_singleton.1 hd]; exact hrow
  · intro d hd
    rcases List.mem_append.1 hd with hd | hd
    · exact hS.dne d hd
    · rw [List.mem_singleton.1 hd]; exact ⟨fun e => hg (.inl e), fun e => hg (.inr (.inl e))⟩
  · rw [List.map_append, List.nodup_append]
    refine ⟨hS.nd, by simp, ?_⟩
    intro a ha c hc e
    obtain ⟨d, hd, rfl⟩ := List.mem_map.1 ha
    simp only [List.map_cons, List.map_nil, List.mem_singleton] at hc
    exact hg (.inr (.inr ⟨d, hd, by rw [e, hc]⟩))
  · have h := replaceEnd_any lv L.length (lcells L) w hS.row (by omega) vb 1 1 [.int .i64 x, .slice (some ⟨g, 0, none⟩) l.length cap] (by omega) (by omega) rfl
      (fun j u hj => by rw [cell_of_row w vb j _ _ _ hvb]; simpa using hj) (by intro u hu; simp only [List.mem_cons, List.not_mem_nil, or_false] at hu; rcases hu with rfl | rfl <;> rfl)
    refine h.mono ?_
    rintro e w' ⟨v', rfl, ho, hgr, hw⟩
    refine ⟨v', rfl, ?_, hgr, hw⟩
    rw [lcells_append, List.length_append]
    exact ho

set_option maxHeartbeats 1000000 in
theorem layEnd_any (b : Nat) (x0 x1 lv : Value) (sz : Nat) (L : List Piece) (x : Nat) (src : Addr) (l : List UInt8) (c : Nat) (w : World) (hS : Str w b x0 x1 lv L) (hI : Inv sz L) (hx : ∀ d, d ∈ L → d.fin < x) (h0 : 0 < l.length) (hl : l.length ≤ 4194304) (hxl : x + l.length ≤ 1073741824)
    (hsrc : ∀ j v, (bcells l)[j]? = some v → w.cell? (src.add j) = some v) :
    Calls Tryz.prog 159 #[.pointer (some ⟨b, 0, none⟩), .int .i64 x, .slice (some src) l.length c] w fun e w' => e = .returned (.tuple #[]) ∧ ∃ lv' g cap, Str w' b x0 x1 lv' (L ++ [⟨x, g, cap, l⟩]) ∧ w.heap.size ≤ g ∧ (lv'.ownBlock = lv.ownBlock ∨ ∃ k, lv'.ownBlock = some k ∧ w.heap.size ≤ k) ∧ Upd (fun k => k = b ∨ lv.ownBlock = some k) w w' := by
  have hlen := hI.len
  obtain ⟨W0, hW0⟩ : ∃ W0, W0 = (w.alloc (.cells #[.int .i64 x] 2)).alloc (.cells #[.int .i64 ((x : Int) + (l.length : Int))] 2) := ⟨_, rfl⟩
  have hB0 : Below w.heap.size w W0 := by rw [hW0]; exact (below_al w _).alloc (by simp) _
  have cx : W0.cell? ⟨w.heap.size, 0, none⟩ = some (.int .i64 x) := by rw [hW0]; go_simp
  have cy : W0.cell? ⟨w.heap.size + 1, 0, none⟩ = some (.int .i64 ((x : Int) + (l.length : Int))) := by rw [hW0]; go_simp
  have bx : w.heap.size < W0.heap.size := World.block_lt_of_cell? W0 _ cx
  have by' : w.heap.size + 1 < W0.heap.size := World.block_lt_of_cell? W0 _ cy
  have e45 : ∀ args w, (callFunc 181 args).run Tryz.prog w = .ok (.enter 181 args) w := enters_of Tryz.func181 (by kernel_rfl) rfl
  have e46 : ∀ args w, (callFunc 182 args).run Tryz.prog w = .ok (.enter 182 args) w := enters_of Tryz.func182 (by kernel_rfl) rfl
  have hl2 : w.cell? ⟨b, 2, none⟩ = some lv := by rw [cell_of_row w b 2 _ _ _ hS.obj]; rfl
  have hbl : b < w.heap.size := World.block_lt_of_cell? w _ hl2
  have S1 : ∀ W, Below W0.heap.size W0 W → Calls Tryz.prog 180 #[.pointer (some ⟨b, 0, none⟩), .func (.func 181) #[] #[.pointer (some ⟨w.heap.size, 0, none⟩)]] W fun e w' => e = .returned (.int .i64 L.length) ∧ Below W.heap.size W w' := fun W hW => by
    have hwW := below_tr hB0 hW
    have hfi : L.findIdx (fun d => decide ((x : Int) ≤ d.fin)) = L.length := findIdx_none _ _ (fun d hd => by have := hx d hd; simp; omega)
    rw [← hfi]
    exact search_any 181 _ e45 b lv L (fun d => decide ((x : Int) ≤ d.fin)) W ((hwW.cell hbl).trans hl2) (row_below hS.row hwW) (by omega)
      (fun d hd V hV => lay1_any d.org (some ⟨d.blk, 0, none⟩) d.bs.length d.cap w.heap.size x V (by omega) (by have := (hI.bd d hd).1; omega) (hI.bd d hd).2 (((below_tr hW hV).cell bx).trans cx))
      (fun a c ha hc hac h => by have := (hI.so a c ha hc hac).2; simp at h ⊢; omega)
  have S2 : ∀ W, Below W0.heap.size W0 W → Calls Tryz.prog 180 #[.pointer (some ⟨b, 0, none⟩), .func (.func 182) #[] #[.pointer (some ⟨w.heap.size + 1, 0, none⟩)]] W fun e w' => e = .returned (.int .i64 L.length) ∧ Below W.heap.size W w' := fun W hW => by
    have hwW := below_tr hB0 hW
    have hfi : L.findIdx (fun d => decide ((x : Int) + (l.length : Int) < d.org)) = L.length := findIdx_none _ _ (fun d hd => by have := hx d hd; unfold Piece.fin at this; simp; omega)
    rw [← hfi]
    exact search_any 182 _ e46 b lv L (fun d => decide ((x : Int) + (l.length : Int) < d.org)) W ((hwW.cell hbl).trans hl2) (row_below hS.row hwW) (by omega)
      (fun d hd V hV => lay2_any d.org (some ⟨d.blk, 0, none⟩) d.bs.length d.cap (w.heap.size + 1) ((x : Int) + (l.length : Int)) V (((below_tr hW hV).cell by').trans cy))
      (fun a c ha hc hac h => by have := (hI.so a c ha hc hac).1; simp at h ⊢; omega)
  have HS1 := aside S1
  have HS2 := aside S2
  have HB0 := aside hB0
  have HS := aside hS
  have HSR := aside hsrc
  have CX := aside cx
  clear S1 S2 hB0 hS hsrc cx cy hx hI
  go_enter Tryz.func159, Tryz.ntmps159
  go_wp2_with fail
  rw [← hW0]
  refine (HS1.out _ (Below.refl _ _)).mono ?_
  rintro e w1 ⟨rfl, hb1⟩
  go_wp2_with fail
  refine (HS2.out _ hb1).mono ?_
  rintro e w2 ⟨rfl, hb2⟩
  have cx2 : w2.cell? ⟨w.heap.size, 0, none⟩ = some (.int .i64 x) := ((below_tr hb1 hb2).cell bx).trans CX.out
  have HB2 := aside (below_tr HB0.out (below_tr hb1 hb2))
  clear hb1 hb2 hW0
  have bx2 : w.heap.size < w2.heap.size := World.block_lt_of_cell? w2 _ cx2
  have hft : ∀ g, w2.heap.size ≤ g → ¬ Foot b lv L g := fun g hg hf => by have := HS.out.lv_lt hf; omega
  have HFT := aside hft
  clear hft
  go_wp2
  go_region_with (first
    | (go_at_call 184; refine (clone_any src l c _ h0 (by omega) ?_).mono ?_; (exact fun j v h => (HB2.out.cell (World.block_lt_of_cell? w _ (HSR.out j v h))).trans (HSR.out j v h)); rintro e w3 ⟨g, cap, rfl, hg3, ho3, hb3⟩; have cx3 : w3.cell? ⟨w.heap.size, 0, none⟩ = some (.int .i64 x) := (hb3.cell bx2).trans cx2; have HO3 := aside ho3; have HB3 := aside (below_tr HB2.out (below_tr (below_dr w2) hb3)); have HG3 : Aside (w2.heap.size ≤ g) := hg3; clear ho3 hb3 hg3)
    | (go_at_call 183; refine (layEnd_tail b x0 x1 lv L x l g cap w3.heap.size _ (HS.out.below (below_tr HB3.out (below_al w3 _))) hlen (row_below HO3.out (below_al w3 _)) (HFT.out g HG3.out) (heap_alloc_new w3 _)).mono ?_; rintro e w4 ⟨rfl, lv', hS4, hw4, hu4⟩))
  all_goals
    go_wp2
    refine bodyPost_ret (results_none rfl _ _ _) rfl ?_
    refine ⟨rfl, lv', g, cap, hS4, Nat.le_of_lt (Nat.lt_of_lt_of_le bx2 HG3.out), ?_, ?_⟩
    · rcases hw4 with e1 | ⟨k, e1, hk⟩
      · exact .inl e1
      · refine .inr ⟨k, e1, ?_⟩
        have := (below_tr HB3.out (below_al w3 (.cells #[.int .i64 x, .slice (some ⟨g, 0, none⟩) l.length cap] 323))).size
        exact Nat.le_trans this hk
    · exact (Upd.of_below (below_tr HB3.out (below_al w3 _))).trans hu4 (fun _ _ h => h)
end Go.Proofs.YtbnaegoahdcejaaGreatDoor.M

namespace Go.Proofs.YtbnaegoahdcejaaGreatDoor.M
open Go.RowKit
attribute [local simp] lcells_nil readB_length bcells_length
/-- Bytes with holes, whole: the object, its stretches, what holds of them. -/
structure Rep (w : World) (b : Nat) (sz : Nat) (lv : Value) (L : List Piece) : Prop where
  str : Str w b (.int .i64 sz) (.int .i64 (heldOf L)) lv L
  inv : Inv sz L

theorem Rep.below {w w' : World} {b sz : Nat} {lv : Value} {L : List Piece} (h : Rep w b sz lv L) (hb : Below w.heap.size w w') : Rep w' b sz lv L := ⟨h.str.below hb, h.inv⟩
theorem Rep.cells {w : World} {b sz : Nat} {lv : Value} {L : List Piece} (h : Rep w b sz lv L) : w.cell? ⟨b, 0, none⟩ = some (.int .i64 sz) ∧ w.cell? ⟨b, 1, none⟩ = some (.int .i64 (heldOf L)) ∧ w.cell? ⟨b, 2, none⟩ = some lv :=
  ⟨by rw [cell_of_row w b 0 _ _ _ h.str.obj]; rfl, by rw [cell_of_row w b 1 _ _ _ h.str.obj]; rfl, by rw [cell_of_row w b 2 _ _ _ h.str.obj]; rfl⟩

theorem Str.set {w : World} {b : Nat} {x0 x1 lv : Value} {L : List Piece} (h : Str w b x0 x1 lv L) (i : Nat) (u y0 y1 : Value) (e : (#[x0, x1, lv] : Array Value).setIfInBounds i u = #[y0, y1, lv]) : Str (w.setCell ⟨b, i, none⟩ u) b y0 y1 lv L := by
  have hu := Upd.setCell (F := fun k => k = b) (w := w) (p := ⟨b, i, none⟩) rfl u
  refine ⟨by rw [heap_setCell_same w b i _ _ _ h.obj, e], hu.row h.row (fun k hk e1 => h.lne (by rw [hk, e1])), fun d hd => hu.row (h.data d hd) (fun k hk e1 => ?_), h.lne, h.dne, h.nd⟩
  simp only [Piece.dv, Value.ownBlock, Option.some.injEq] at hk
  exact (h.dne d hd).1 (by rw [hk, e1])

set_option maxHeartbeats 1000000 in
theorem put_of (b sz : Nat) (lv : Value) (L : List Piece) (x n c : Nat) (src : Option Addr) (w : World) (Good : Value → List Piece → Prop) (hR : Rep w b sz lv L) (h0 : 0 < n) (hxl : x + n ≤ 1073741824) (hheld : heldOf L - ovls x (x + n) L + n ≤ 4194304)
    (hlay : ∀ W, Below w.heap.size w W → Calls Tryz.prog 159 #[.pointer (some ⟨b, 0, none⟩), .int .i64 x, .slice src n c] W fun e w' => e = .returned (.tuple #[]) ∧ ∃ lv' L', Str w' b (.int .i64 sz) (.int .i64 (heldOf L)) lv' L' ∧ Good lv' L' ∧ Upd (Foot b lv L) W w') :
    Calls Tryz.prog 138 #[.pointer (some ⟨b, 0, none⟩), .int .i64 x, .slice src n c] w fun e w' => e = .returned (.int .i64 0) ∧ ∃ lv' L', Str w' b (.int .i64 ((max sz (x + n) : Nat) : Int)) (.int .i64 ((heldOf L - ovls x (x + n) L + n : Nat) : Int)) lv' L' ∧ Good lv' L' ∧ Upd (Foot b lv L) w w' := by
  obtain ⟨c0, c1, c2⟩ := hR.cells
  have hbl : b < w.heap.size := World.block_lt_of_cell? w _ c0
  have hov := ovls_le x (x + n) L
  have hhe := hR.inv.held
  have hsz := hR.inv.size
  have W1 := fun (W : World) (hW : Below w.heap.size w W) => written_any b lv sz L x (x + n) W hR.inv (by omega) hxl (hR.below hW).cells.2.2 (hR.below hW).str.row
  have x1 : ∀ d os, (ext w d os).cell? ⟨b, 1, none⟩ = some (.int .i64 (heldOf L)) := fun d os => ext_cell c1 d os
  have HW := aside W1
  have HL := aside hlay
  have HR := aside hR
  have hn0 : ((n : Int) == 0) = false := by simp; omega
  have hnz : ¬ (n = 0) := by omega
  generalize ovls x (x + n) L = ov at *
  generalize heldOf L = he at *
  clear W1 hlay hR
  go_enter Tryz.func138, Tryz.ntmps138
  go_wp2
  refine region_ext (by kernel_rfl) (by kernel_rfl) ?_
  repeat (any_goals (first | go_big_quiet_step ((go_at_call 158; rw [show (x : Int) + (n : Int) = ((x + n : Nat) : Int) by omega]; exact calls_ext (HW.out _ (below_ext _ _ _)))) | quiet_step ((go_at_call 158; rw [show (x : Int) + (n : Int) = ((x + n : Nat) : Int) by omega]; exact calls_ext (HW.out _ (below_ext _ _ _))))))
  refine wpQuiet_nil ?_
  intro wq hq
  go_wp2_with fail
  refine (HL.out wq hq).mono ?_
  rintro e w3 ⟨rfl, lv', L', hS', hG, hu⟩
  have d0 : w3.cell? ⟨b, 0, none⟩ = some (.int .i64 sz) := by rw [cell_of_row w3 b 0 _ _ _ hS'.obj]; rfl
  have d1 : w3.cell? ⟨b, 1, none⟩ = some (.int .i64 he) := by rw [cell_of_row w3 b 1 _ _ _ hS'.obj]; rfl
  have f0 : w3.frozen? ⟨b, 0, none⟩ = false := frozen_of_row w3 b 0 _ _ hS'.obj
  have f1 : w3.frozen? ⟨b, 1, none⟩ = false := frozen_of_row w3 b 1 _ _ hS'.obj
  have HS := aside hS'
  have HU := aside hu
  have HQ := aside hq
  have hmx : max (sz : Int) ((x : Int) + (n : Int)) = ((max sz (x + n) : Nat) : Int) := by omega
  have HMX := aside hmx
  clear hS' hu hmx
  go_wp2_with ((with_reducible refine wpList_max2 _ rfl _ _ _ rfl (sz : Int) ((x : Int) + (n : Int)) ((max sz (x + n) : Nat) : Int) ?_ ?_ HMX.out ?_); rfl; rfl)

  all_goals go_ret
  all_goals
    refine ⟨rfl, lv', L', ?_, hG, ?_⟩
    · rw [show (he : Int) - ov + n = ((he - ov + n : Nat) : Int) by omega]
      exact (HS.out.set 1 _ (.int .i64 sz) _ rfl).set 0 _ _ _ rfl
    · refine (Upd.of_below HQ.out).trans (G := Foot b lv L) ?_ (fun _ _ h => h)
      refine HU.out.trans (G := fun k => k = b) ?_ (fun k _ e => .inl e)
      exact (Upd.setCell (F := fun k => k = b) (p := ⟨b, 1, none⟩) rfl _).trans (G := fun k => k = b) (Upd.setCell (F := fun k => k = b) (p := ⟨b, 0, none⟩) rfl _) (fun _ _ h => h)

/-- Put where the bytes come behind all stretches. -/
theorem putEnd_any (b sz : Nat) (lv : Value) (L : List Piece) (x : Nat) (src : Addr) (l : List UInt8) (c : Nat) (w : World) (hR : Rep w b sz lv L) (hx : ∀ d, d ∈ L → d.fin < x) (h0 : 0 < l.length) (hxl : x + l.length ≤ 1073741824) (hheld : heldOf L + l.length ≤ 4194304)
    (hsrc : ∀ j v, (bcells l)[j]? = some v → w.cell? (src.add j) = some v) :
    Calls Tryz.prog 138 #[.pointer (some ⟨b, 0, none⟩), .int .i64 x, .slice (some src) l.length c] w fun e w' => e = .returned (.int .i64 0) ∧ ∃ lv' g cap, Rep w' b (max sz (x + l.length)) lv' (L ++ [⟨x, g, cap, l⟩]) ∧ Upd (Foot b lv L) w w' ∧ w.heap.size ≤ g ∧ (lv'.ownBlock = lv.ownBlock ∨ ∃ k, lv'.ownBlock = some k ∧ w.heap.size ≤ k) := by
  have hov : ovls x (x + l.length) L = 0 := ovls_zero (fun d hd => by have := hx d hd; unfold ovl; omega)
  have h := put_of b sz lv L x l.length c (some src) w (fun lv' L' => ∃ g cap, L' = L ++ [⟨x, g, cap, l⟩] ∧ w.heap.size ≤ g ∧ (lv'.ownBlock = lv.ownBlock ∨ ∃ k, lv'.ownBlock = some k ∧ w.heap.size ≤ k)) hR h0 hxl (by rw [hov]; omega)
    (fun W hW => (layEnd_any b _ _ lv sz L x src l c W (hR.below hW).str hR.inv hx h0 (by omega) hxl (fun j v hj => (hW.cell (World.block_lt_of_cell? w _ (hsrc j v hj))).trans (hsrc j v hj))).mono (by
      rintro e w' ⟨rfl, lv', g, cap, hS, hg, hk, hu⟩
      have hs := hW.size
      refine ⟨rfl, lv', _, hS, ⟨g, cap, rfl, by omega, ?_⟩, hu.mono (fun k _ hk => ?_)⟩
      · rcases hk with e | ⟨k, e, hk⟩
        · exact .inl e
        · exact .inr ⟨k, e, by omega⟩
      · rcases hk with e | e
        · exact .inl e
        · exact .inr (.inl e)))
  refine h.mono ?_
  rintro e w' ⟨rfl, lv', L', hS, ⟨g, cap, rfl, hg, hk⟩, hu⟩
  refine ⟨rfl, lv', g, cap, ⟨?_, ?_⟩, hu, hg, hk⟩
  · rw [hov, Nat.sub_zero] at hS
    rw [heldOf_append]
    simpa [heldOf] using hS
  · refine ⟨?_, ?_, ?_, ?_, ?_⟩
    · rw [List.pairwise_append]
      exact ⟨hR.inv.sep, by simp, fun a ha d hd => by rw [List.mem_singleton.1 hd]; exact hx a ha⟩
    · intro d hd
      rcases List.mem_append.1 hd with hd | hd
      · exact hR.inv.ne d hd
      · rw [List.mem_singleton.1 hd]; exact h0
    · intro d hd
      rcases List.mem_append.1 hd with hd | hd
      · have := hR.inv.fin d hd; omega
      · rw [List.mem_singleton.1 hd]; simp only [Piece.fin]; omega
    · have := hR.inv.size; omega
    · rw [heldOf_append]; simp [heldOf] at hheld ⊢; omega

set_option maxHeartbeats 400000 in
theorem putNeg_any (b : Nat) (x : Int) (v : Value) (w : World) (hx : x < 0) : Calls Tryz.prog 138 #[.pointer (some ⟨b, 0, none⟩), .int .i64 x, v] w fun e w' => e = .returned (.int .i64 2) ∧ w' = w := by
  go_enter Tryz.func138, Tryz.ntmps138
  go_wp2
  go_ret
  exact ⟨rfl, rfl⟩

set_option maxHeartbeats 400000 in
theorem putNil_any (x : Int) (v : Value) (w : World) : Calls Tryz.prog 138 #[.pointer none, .int .i64 x, v] w fun e w' => e = .returned (.int .i64 1) ∧ w' = w := by
  go_enter Tryz.func138, Tryz.ntmps138
  go_wp2
  go_ret
  exact ⟨rfl, rfl⟩
set_option maxHeartbeats 400000 in
theorem size_any (b sz : Nat) (lv : Value) (L : List Piece) (w : World) (hR : Rep w b sz lv L) : Calls Tryz.prog 238 #[.pointer (some ⟨b, 0, none⟩)] w fun e w' => e = .returned (.int .i64 sz) ∧ w' = w := by
  obtain ⟨c0, c1, c2⟩ := hR.cells
  clear hR
  go_enter Tryz.func238, Tryz.ntmps238
  go_wp2
  go_ret
  exact ⟨rfl, rfl⟩
set_option maxHeartbeats 400000 in
theorem sizeNil_any (w : World) : Calls Tryz.prog 238 #[.pointer none] w fun e w' => e = .returned (.int .i64 0) ∧ w' = w := by
  go_enter Tryz.func238, Tryz.ntmps238
  go_wp2
  go_ret
  exact ⟨rfl, rfl⟩


set_option maxHeartbeats 400000 in
theorem cutNil_any (x : Int) (w : World) : Calls Tryz.prog 235 #[.pointer none, .int .i64 x] w fun e w' => e = .returned (.int .i64 1) ∧ w' = w := by
  go_enter Tryz.func235, Tryz.ntmps235
  go_wp2
  go_ret
  exact ⟨rfl, rfl⟩

set_option maxHeartbeats 400000 in
theorem getNil_any (x n : Int) (w : World) : Calls Tryz.prog 250 #[.pointer none, .int .i64 x, .int .i64 n] w fun e w' => e = .returned (.slice none 0 0) ∧ w' = w := by
  go_enter Tryz.func250, Tryz.ntmps250
  go_wp2
  go_ret
  exact ⟨rfl, rfl⟩

set_option maxHeartbeats 400000 in
theorem nextNil_any (x : Int) (w : World) : Calls Tryz.prog 237 #[.pointer none, .int .i64 x] w fun e w' => e = .returned (.tuple #[.int .i64 0, .int .i64 0]) ∧ Below w.heap.size w w' := by
  go_enter Tryz.func237, Tryz.ntmps237
  go_wp2
  go_ret2
  exact ⟨rfl, below_al w _⟩
end Go.Proofs.YtbnaegoahdcejaaGreatDoor.M

namespace Go.Proofs.YtbnaegoahdcejaaGreatDoor.M
open Go.RowKit
attribute [local simp] lcells_nil readB_length bcells_length
/-- What Next tells from x on. -/
def nextOf (L : List Piece) (sz x : Nat) : Nat × Nat := match L.find? (fun d => decide (x < d.fin)) with | some d => (max x d.org, d.fin) | none => (sz, sz)

theorem nextOf_idx (L : List Piece) (sz x : Nat) : (L.findIdx (fun d => decide ((x : Int) < d.fin)) = L.length ∧ nextOf L sz x = (sz, sz)) ∨
    ∃ h : L.findIdx (fun d => decide ((x : Int) < d.fin)) < L.length, nextOf L sz x = (max x L[L.findIdx (fun d => decide ((x : Int) < d.fin))].org, L[L.findIdx (fun d => decide ((x : Int) < d.fin))].fin) := by
  have e : (fun d : Piece => decide ((x : Int) < d.fin)) = (fun d : Piece => decide (x < d.fin)) := by funext d; simp
  rw [e]
  unfold nextOf
  rcases Nat.lt_or_ge (L.findIdx (fun d => decide (x < d.fin))) L.length with h | h
  · right
    refine ⟨h, ?_⟩
    have hf : L.find? (fun d => decide (x < d.fin)) = some L[L.findIdx (fun d => decide (x < d.fin))] := by
      rw [List.find?_eq_some_iff_getElem]
      refine ⟨findIdx_at (q := fun d : Piece => decide (x < d.fin)) h, _, h, rfl, fun j hj => ?_⟩
      have := List.not_of_lt_findIdx hj
      simpa using this
    rw [hf]
  · left
    have hle : L.findIdx (fun d => decide (x < d.fin)) ≤ L.length := List.findIdx_le_length
    refine ⟨by omega, ?_⟩
    have hf : L.find? (fun d => decide (x < d.fin)) = none := List.find?_eq_none.2 (fun d hd => by have := List.findIdx_eq_length.1 (show L.findIdx (fun d => decide (x < d.fin)) = L.length by omega) d hd; simpa using this)
    rw [hf]

theorem ret_pair {a b c d : Int} (h1 : a = c) (h2 : b = d) : Ending.returned (.tuple #[.int .i64 a, .int .i64 b]) = .returned (.tuple #[.int .i64 c, .int .i64 d]) := by rw [h1, h2]
theorem new_cell (w : World) (v : Value) (t : TypeId) : (w.alloc (.cells #[v] t)).cell? ⟨w.heap.size, 0, none⟩ = some v := by go_simp

set_option maxHeartbeats 1000000 in
theorem next_any (b sz : Nat) (lv : Value) (L : List Piece) (t : Int) (w : World) (hR : Rep w b sz lv L) (ht : t ≤ 9223372036854775807) :
    Calls Tryz.prog 237 #[.pointer (some ⟨b, 0, none⟩), .int .i64 t] w fun e w' => e = .returned (.tuple #[.int .i64 ((nextOf L sz t.toNat).1 : Nat), .int .i64 ((nextOf L sz t.toNat).2 : Nat)]) ∧ Below w.heap.size w w' := by
  obtain ⟨x, hx⟩ : ∃ x, x = t.toNat := ⟨_, rfl⟩
  rw [← hx]
  obtain ⟨c0, -, c2⟩ := hR.cells
  have hbl : b < w.heap.size := World.block_lt_of_cell? w _ c0
  have hmx : max t 0 = (x : Int) := by omega
  have hxb : x ≤ 9223372036854775807 := by omega
  have HMX := aside hmx
  have hA := below_al w (.cells #[.int .i64 x] 2)
  have hlen := hR.inv.len
  have e40 : ∀ args w, (callFunc 240 args).run Tryz.prog w = .ok (.enter 240 args) w := enters_of Tryz.func240 (by kernel_rfl) rfl
  have cx : (w.alloc (.cells #[.int .i64 x] 2)).cell? ⟨w.heap.size, 0, none⟩ = some (.int .i64 x) := new_cell w _ _
  have bx : w.heap.size < (w.alloc (.cells #[.int .i64 x] 2)).heap.size := by simp
  have S1 := search_any 240 #[.pointer (some ⟨w.heap.size, 0, none⟩)] e40 b lv L (fun d => decide ((x : Int) < d.fin)) (w.alloc (.cells #[.int .i64 x] 2)) ((hA.cell hbl).trans c2) (row_below hR.str.row hA) (by omega)
      (fun d hd V hV => next1_any d.org (some ⟨d.blk, 0, none⟩) d.bs.length d.cap w.heap.size x V (by omega) (by have := (hR.inv.bd d hd).1; omega) (hR.inv.bd d hd).2 ((hV.cell bx).trans cx))
      (fun a c ha hc hac h => by have := (hR.inv.so a c ha hc hac).2; simp at h ⊢; omega)
  have hidx := nextOf_idx L sz x
  generalize hk : L.findIdx (fun d => decide ((x : Int) < d.fin)) = k at *
  have HS := aside S1
  have HR := aside hR
  have HA := aside hA
  have HI := aside hidx
  have HCX := aside cx
  obtain ⟨la, cap, hlv, -, -⟩ := row_form hR.str.row
  have HLV := aside hlv
  rw [hlv] at c2
  clear S1 hR hA hidx hmx hx hk cx hlv
  go_enter Tryz.func237, Tryz.ntmps237
  go_wp2_with ((with_reducible refine wpList_max2 _ rfl _ _ _ rfl t 0 (x : Int) ?_ ?_ HMX.out ?_); rfl; rfl)
  refine HS.out.mono ?_
  rintro e w1 ⟨rfl, hb1⟩
  have hw1 := below_tr HA.out hb1
  have d0 : w1.cell? ⟨b, 0, none⟩ = some (.int .i64 sz) := (hw1.cell hbl).trans c0
  have d2 : w1.cell? ⟨b, 2, none⟩ = some (.slice la L.length cap) := (hw1.cell hbl).trans c2
  have dx : w1.cell? ⟨w.heap.size, 0, none⟩ = some (.int .i64 x) := (hb1.cell bx).trans HCX.out
  have HW1 := aside hw1
  clear hw1 hb1
  rcases HI.out with ⟨hkL, hnx⟩ | ⟨hkL, hnx⟩
  · have hke : ((k : Int) == (L.length : Int)) = true := by simp [hkL]
    have x0 : ∀ d os, (ext w1 d os).cell? ⟨b, 0, none⟩ = some (.int .i64 sz) := fun d os => ext_cell d0 d os
    have HNX := aside hnx
    have HKL := aside hkL
    clear hnx hkL
    go_wp2
    refine region_ext (by kernel_rfl) (by kernel_rfl) ?_
    repeat (any_goals (first | go_big_quiet_step ((fail)) | quiet_step ((fail))))
    refine wpQuiet_nil ?_
    intro wq hq
    go_wp2
    go_ret2
    exact ⟨by rw [HNX.out]; rfl, below_tr HW1.out hq⟩
  · have hke : ((k : Int) == (L.length : Int)) = false := by simp; omega
    have hkz : (k : Int) < (L.length : Int) := by omega
    obtain ⟨lg, lc, he, h0, h1⟩ := row_at (row_below HR.out.str.row HW1.out) hkL
    rw [HLV.out] at he
    simp only [Value.slice.injEq, true_and] at he
    obtain ⟨rfl, rfl⟩ := he
    have hbd := HR.out.inv.bd L[k] (List.getElem_mem hkL)
    unfold Piece.dv at h1
    unfold Piece.fin at hnx
    have HNX := aside hnx
    clear hnx
    generalize L[k].org = f at *
    generalize L[k].bs.length = n at *
    generalize L[k].blk = gb at *
    generalize L[k].cap = gc at *
    obtain ⟨R, hRd⟩ : ∃ R, R = Obj.cells #[Value.int IntKind.i64 (f : Int), Value.slice (some ⟨gb, 0, none⟩) n gc] 323 := ⟨_, rfl⟩
    have hA1 := aside (below_al w1 R)
    have hxx := aside (((below_al w1 R).cell (World.block_lt_of_cell? w1 _ dx)).trans dx)
    have hr0 : ∀ d os, (ext (w1.alloc (Obj.cells #[Value.int IntKind.i64 (f : Int), Value.slice (some ⟨gb, 0, none⟩) n gc] 323)) d os).cell? ⟨w1.heap.size, 0, none⟩ = some (.int .i64 f) := fun d os => ext_cell (by go_simp) d os
    have hr1 : ∀ d os, (ext (w1.alloc (Obj.cells #[Value.int IntKind.i64 (f : Int), Value.slice (some ⟨gb, 0, none⟩) n gc] 323)) d os).cell? ⟨w1.heap.size, 1, none⟩ = some (.slice (some ⟨gb, 0, none⟩) n gc) := fun d os => ext_cell (by go_simp) d os
    have hr2 : ∀ d os, (ext (w1.alloc (Obj.cells #[Value.int IntKind.i64 (f : Int), Value.slice (some ⟨gb, 0, none⟩) n gc] 323)) d os).cell? ⟨w.heap.size, 0, none⟩ = some (.int .i64 x) := fun d os => ext_cell (by rw [← hRd]; exact hxx.out) d os
    clear hRd
    go_wp2
    refine region_ext (by kernel_rfl) (by kernel_rfl) ?_
    repeat (any_goals (first | go_big_quiet_step ((go_at_call 179; exact calls_ext (to_any _ _ _ _ _ (by omega) (by omega) (by omega)))) | quiet_step ((go_at_call 179; exact calls_ext (to_any _ _ _ _ _ (by omega) (by omega) (by omega))))))
    refine wpQuiet_nil ?_
    intro wq hq
    go_wp2
    all_goals
      go_ret2
      refine ⟨?_, below_tr HW1.out (below_tr (below_al w1 _) hq)⟩
      rw [HNX.out]
      exact ret_pair (by omega) (by omega)

theorem wpList_min2 {P : Program} (w : World) {ops : Array Oper} {rest : List Oper} {o : Oper} {a : Act} {Q : Exit → Act → World → Prop} (hgd : o.guard = none) (x y : Operand) (ts : Array TypeId)
    (ho : o.op = .call { callee := .builtin .min, args := #[x, y], argTypes := ts }) (p q m : Int) (hx : a.eval x = .int .i64 p) (hy : a.eval y = .int .i64 q)
    (hm : min p q = m) (h : wpList P ops Q rest (a.put o.dst (.int .i64 m)) w) : wpList P ops Q (o :: rest) a w := by
  refine wpList_plain hgd fun K hK => ?_
  have hr := run_min_int2 (P := P) (w := w) ts o.type .i64 .i64 p q
  rw [show (if q < p then q else p) = m by rw [← hm]; simp only [Int.min_def]; split <;> split <;> omega] at hr
  unfold Oper.wp execOp
  simp only [ho, resolve, invoke, builtin, Sem.run_bind, Sem.run_pure, Result.andThen_ok, List.map_toArray, List.map_cons, List.map_nil, hx, hy, hr]
  exact hK _ _ h

theorem rep_new (w : World) : Rep (w.alloc (.cells #[.int .i64 0, .int .i64 0, .slice none 0 0] 236)) w.heap.size 0 (.slice none 0 0) [] :=
  ⟨⟨heap_alloc_new w _, World.ownsRow_nil _ _ _ _, by simp, by simp [Value.ownBlock], by simp, by simp⟩, ⟨by simp, by simp, by simp, by omega, by simp [heldOf]⟩⟩

set_option maxHeartbeats 1000000 in
theorem new_any (src : Addr) (l : List UInt8) (c : Nat) (w : World) (h0 : 0 < l.length) (hlc : l.length ≤ c) (hc : c ≤ 4611686018427387904) (hsrc : ∀ j v, (bcells l)[j]? = some v → w.cell? (src.add j) = some v) :
    Calls Tryz.prog 115 #[.slice (some src) l.length c] w fun e w' => e = .returned (.pointer (some ⟨w.heap.size, 0, none⟩)) ∧ ∃ lv g cap, Rep w' w.heap.size (l.take 4194304).length lv [⟨0, g, cap, l.take 4194304⟩] ∧ Below w.heap.size w w' ∧ ∀ k, Foot w.heap.size lv [⟨0, g, cap, l.take 4194304⟩] k → w.heap.size ≤ k := by
  obtain ⟨m, hm⟩ : ∃ m, m = (l.take 4194304).length := ⟨_, rfl⟩
  have hm2 : m = min l.length 4194304 := by rw [hm, List.length_take]; omega
  have hmn : min (l.length : Int) 4194304 = (m : Int) := by omega
  have hA := below_al w (.cells #[.int .i64 0, .int .i64 0, .slice none 0 0] 236)
  have P1 := putEnd_any w.heap.size 0 (.slice none 0 0) [] 0 src (l.take 4194304) c (w.alloc (.cells #[.int .i64 0, .int .i64 0, .slice none 0 0] 236)) (rep_new w) (by simp) (by omega) (by omega) (by simp [heldOf]; omega)
    (fun j v hj => by
      have h2 : (bcells l)[j]? = some v := by
        have e : bcells (l.take 4194304) = (bcells l).take 4194304 := by simp [bcells, List.map_take]
        rw [e, List.getElem?_take] at hj
        split at hj
        · exact hj
        · cases hj
      exact (hA.cell (World.block_lt_of_cell? w _ (hsrc j v h2))).trans (hsrc j v h2))
  rw [← hm] at P1 ⊢
  have HP := aside P1
  have HMN := aside hmn
  have HA := aside hA
  have hmc : m ≤ c := by omega
  have hmi : (m : Int) ≤ (c : Int) := by omega
  clear P1 hmn hA hsrc hm hm2
  go_enter Tryz.func115, Tryz.ntmps115
  go_wp2_with ((with_reducible refine wpList_min2 _ rfl _ _ _ rfl (l.length : Int) 4194304 (m : Int) ?_ ?_ HMN.out ?_); rfl; rfl)
  refine HP.out.mono ?_
  rintro e w1 ⟨rfl, lv, g, cap, hR, hu, hg, hk⟩
  go_wp2
  go_ret
  refine ⟨rfl, lv, g, cap, ?_, ?_, ?_⟩
  · simpa using hR
  · refine HA.out.trans (hu.below (by simp) (fun k hk => ?_))
    rcases hk with e | e | ⟨d, hd, -⟩
    · omega
    · simp [Value.ownBlock] at e
    · simp at hd
  · intro k hk
    rw [World.size_alloc] at hg
    rcases hk with e | e | ⟨d, hd, e⟩
    · omega
    · rcases ‹lv.ownBlock = _ ∨ _› with e1 | ⟨j, e1, hj⟩
      · rw [e1] at e; simp [Value.ownBlock] at e
      · rw [e1] at e; injection e with e; rw [World.size_alloc] at hj; omega
    · rw [List.mem_singleton.1 hd] at e; simp only at e; omega
end Go.Proofs.YtbnaegoahdcejaaGreatDoor.M

namespace Go.Proofs.YtbnaegoahdcejaaGreatDoor.M
open Go.RowKit

abbrev I (p : Addr) : Value := .iface 229 (.pointer (some p))

set_option maxRecDepth 20000 in
set_option maxHeartbeats 1000000 in
theorem can_all (p : Addr) (w : World) : Calls Tryz.prog 177 #[.agg #[I p, I p, I p, I p, I p]] w fun e w' => e = .returned (.int .u8 15) ∧ Below w.heap.size w w' := by
  go_enter Tryz.func177, Tryz.ntmps177
  go_wp2
  go_ret
  exact ⟨rfl, below_al w _⟩

set_option maxRecDepth 20000 in
set_option maxHeartbeats 1000000 in
theorem can_none (p : Addr) (w : World) : Calls Tryz.prog 177 #[.agg #[I p, .nilIface, .nilIface, .nilIface, .nilIface]] w fun e w' => e = .returned (.int .u8 0) ∧ Below w.heap.size w w' := by
  go_enter Tryz.func177, Tryz.ntmps177
  go_wp2
  go_ret
  exact ⟨rfl, below_al w _⟩



set_option maxRecDepth 20000 in
set_option maxHeartbeats 1000000 in
theorem together_all (p : Addr) (w : World) : Calls Tryz.prog 156 #[.agg #[I p, I p, I p, I p, I p]] w fun e w' => ∃ fb, e = .returned (.iface 318 (.pointer (some ⟨fb, 0, none⟩))) ∧ w.heap.size < fb ∧ w'.heap[fb]? = some (.cells #[I p, I p, I p, I p, I p] 320 (0, 0)) ∧ Below w.heap.size w w' := by
  have hA := aside (below_al w (.cells #[I p, I p, I p, I p, I p] 170))
  go_enter Tryz.func156, Tryz.ntmps156
  go_wp2_with fail
  refine (can_all p _).mono ?_
  rintro e w1 ⟨rfl, hb1⟩
  obtain ⟨c0, c1, c2, c3, c4⟩ := five_cells hb1
  have HB := aside hb1
  have hs := hb1.size
  rw [World.size_alloc] at hs
  clear hb1
  go_wp2
  go_ret
  exact ⟨_, rfl, hs, heap_alloc_new w1 _, below_tr (below_tr hA.out HB.out) (below_al w1 _)⟩

set_option maxRecDepth 20000 in
set_option maxHeartbeats 1000000 in
theorem together_none (p : Addr) (w : World) : Calls Tryz.prog 156 #[.agg #[I p, .nilIface, .nilIface, .nilIface, .nilIface]] w fun e w' => ∃ fb, e = .returned (.iface 273 (.pointer (some ⟨fb, 0, none⟩))) ∧ w.heap.size < fb ∧ w'.heap[fb]? = some (.cells #[I p] 275 (0, 0)) ∧ Below w.heap.size w w' := by
  have hA := aside (below_al w (.cells #[I p, .nilIface, .nilIface, .nilIface, .nilIface] 170))
  go_enter Tryz.func156, Tryz.ntmps156
  go_wp2_with fail
  refine (can_none p _).mono ?_
  rintro e w1 ⟨rfl, hb1⟩
  obtain ⟨c0, c1, c2, c3, c4⟩ := five_cells hb1
  have HB := aside hb1
  have hs := hb1.size
  rw [World.size_alloc] at hs
  clear hb1
  go_wp2
  go_ret
  exact ⟨_, rfl, hs, heap_alloc_new w1 _, below_tr (below_tr hA.out HB.out) (below_al w1 _)⟩

/-- A handle: its five parts and its file. -/
def Han (w : World) (hb : Nat) (a b c d e f : Value) : Prop := w.heap[hb]? = some (.cells #[a, b, c, d, e, f] 172 (0, 0))

set_option maxRecDepth 20000 in
set_option maxHeartbeats 2000000 in
theorem make_all (p : Addr) (w : World) : Calls Tryz.prog 136 #[I p, I p, I p, I p, I p] w fun e w' => ∃ hb fb, e = .returned (.pointer (some ⟨hb, 0, none⟩)) ∧ w.heap.size ≤ hb ∧ w.heap.size ≤ fb ∧ Han w' hb (I p) (I p) (I p) (I p) (I p) (.iface 318 (.pointer (some ⟨fb, 0, none⟩))) ∧ w'.heap[fb]? = some (.cells #[I p, I p, I p, I p, I p] 320 (0, 0)) ∧ Below w.heap.size w w' := by
  go_enter Tryz.func136, Tryz.ntmps136
  go_wp2_with fail
  go_region_with (go_at_call 156; refine (together_all p _).mono ?_; rintro e w1 ⟨fb, rfl, hs, hrow, hb1⟩; have hc := fun o => hb1.cell (p := ⟨w.heap.size, o, none⟩) (by simp); have c0 : w1.cell? ⟨w.heap.size, 0, none⟩ = some (I p) := (hc 0).trans (by go_simp); have c1 : w1.cell? ⟨w.heap.size, 1, none⟩ = some (I p) := (hc 1).trans (by go_simp); have c2 : w1.cell? ⟨w.heap.size, 2, none⟩ = some (I p) := (hc 2).trans (by go_simp); have c3 : w1.cell? ⟨w.heap.size, 3, none⟩ = some (I p) := (hc 3).trans (by go_simp); have c4 : w1.cell? ⟨w.heap.size, 4, none⟩ = some (I p) := (hc 4).trans (by go_simp); have HB := aside hb1; have HR := aside hrow; have HS := aside hs; clear hb1 hrow hc hs)
  all_goals
    go_wp2
    go_ret
    have hs := HS.out
    have hfb : fb < w1.heap.size := (Array.getElem?_eq_some_iff.1 HR.out).1
    simp only [World.drew, World.size_alloc] at hs
    have hW := below_tr (below_tr (below_al w _) (below_dr _)) HB.out
    refine ⟨_, fb, rfl, hW.size, by omega, heap_alloc_new w1 _, ?_, below_tr hW (below_al w1 _)⟩
    rw [(below_al w1 _).block fb hfb]
    exact HR.out

set_option maxRecDepth 20000 in
set_option maxHeartbeats 2000000 in
theorem make_none (p : Addr) (w : World) : Calls Tryz.prog 136 #[I p, .nilIface, .nilIface, .nilIface, .nilIface] w fun e w' => ∃ hb fb, e = .returned (.pointer (some ⟨hb, 0, none⟩)) ∧ w.heap.size ≤ hb ∧ w.heap.size ≤ fb ∧ Han w' hb (I p) .nilIface .nilIface .nilIface .nilIface (.iface 273 (.pointer (some ⟨fb, 0, none⟩))) ∧ w'.heap[fb]? = some (.cells #[I p] 275 (0, 0)) ∧ Below w.heap.size w w' := by
  go_enter Tryz.func136, Tryz.ntmps136
  go_wp2_with fail
  go_region_with (go_at_call 156; refine (together_none p _).mono ?_; rintro e w1 ⟨fb, rfl, hs, hrow, hb1⟩; have hc := fun o => hb1.cell (p := ⟨w.heap.size, o, none⟩) (by simp); have c0 : w1.cell? ⟨w.heap.size, 0, none⟩ = some (I p) := (hc 0).trans (by go_simp); have c1 : w1.cell? ⟨w.heap.size, 1, none⟩ = some .nilIface := (hc 1).trans (by go_simp); have c2 : w1.cell? ⟨w.heap.size, 2, none⟩ = some .nilIface := (hc 2).trans (by go_simp); have c3 : w1.cell? ⟨w.heap.size, 3, none⟩ = some .nilIface := (hc 3).trans (by go_simp); have c4 : w1.cell? ⟨w.heap.size, 4, none⟩ = some .nilIface := (hc 4).trans (by go_simp); have HB := aside hb1; have HR := aside hrow; have HS := aside hs; clear hb1 hrow hc hs)
  all_goals
    go_wp2
    go_ret
    have hs := HS.out
    have hfb : fb < w1.heap.size := (Array.getElem?_eq_some_iff.1 HR.out).1
    simp only [World.drew, World.size_alloc] at hs
    have hW := below_tr (below_tr (below_al w _) (below_dr _)) HB.out
    refine ⟨_, fb, rfl, hW.size, by omega, heap_alloc_new w1 _, ?_, below_tr hW (below_al w1 _)⟩
    rw [(below_al w1 _).block fb hfb]
    exact HR.out


end Go.Proofs.YtbnaegoahdcejaaGreatDoor.M

namespace Go.Proofs.YtbnaegoahdcejaaGreatDoor.M
open Go.RowKit
set_option maxRecDepth 20000 in
set_option maxHeartbeats 1000000 in
theorem only_all (p : Addr) (w : World) : Calls Tryz.prog 157 #[.agg #[I p, I p, I p, I p, I p], .int .u8 15] w fun e w' => e = .returned (.agg #[I p, I p, I p, I p, I p]) ∧ Below w.heap.size w w' := by
  go_enter Tryz.func157, Tryz.ntmps157
  go_wp2
  refine bodyPost_ret (results_cell_row rfl _ _ (w.heap.size + 1) 170 _ (0, 0) _ rfl (heap_alloc2_new w _ _) Tryz.underlying170 rfl (by kernel_rfl)) rfl ?_
  exact ⟨rfl, below_tr (below_al w _) (below_al _ _)⟩

set_option maxRecDepth 20000 in
set_option maxHeartbeats 1000000 in
theorem only_none (p : Addr) (w : World) : Calls Tryz.prog 157 #[.agg #[I p, I p, I p, I p, I p], .int .u8 0] w fun e w' => e = .returned (.agg #[I p, .nilIface, .nilIface, .nilIface, .nilIface]) ∧ Below w.heap.size w w' := by
  go_enter Tryz.func157, Tryz.ntmps157
  go_wp2
  refine bodyPost_ret (results_cell_row rfl _ _ (w.heap.size + 1) 170 _ (0, 0) _ rfl (heap_alloc2_new w _ _) Tryz.underlying170 rfl (by kernel_rfl)) rfl ?_
  exact ⟨rfl, below_tr (below_al w _) (below_al _ _)⟩

/-- Of a handle with all parts. -/
structure All15 (w : World) (hb fb : Nat) (p : Addr) : Prop where
  han : Han w hb (I p) (I p) (I p) (I p) (I p) (.iface 318 (.pointer (some ⟨fb, 0, none⟩)))
  fil : w.heap[fb]? = some (.cells #[I p, I p, I p, I p, I p] 320 (0, 0))
/-- Of a handle with the file alone. -/
structure All0 (w : World) (hb fb : Nat) (p : Addr) : Prop where
  han : Han w hb (I p) .nilIface .nilIface .nilIface .nilIface (.iface 273 (.pointer (some ⟨fb, 0, none⟩)))
  fil : w.heap[fb]? = some (.cells #[I p] 275 (0, 0))

theorem han_cells {w : World} {hb : Nat} {a b c d e f : Value} (h : Han w hb a b c d e f) :
    w.cell? ⟨hb, 0, none⟩ = some a ∧ w.cell? ⟨hb, 1, none⟩ = some b ∧ w.cell? ⟨hb, 2, none⟩ = some c ∧ w.cell? ⟨hb, 3, none⟩ = some d ∧ w.cell? ⟨hb, 4, none⟩ = some e ∧ w.cell? ⟨hb, 5, none⟩ = some f := by
  unfold Han at h
  refine ⟨?_, ?_, ?_, ?_, ?_, ?_⟩ <;> (rw [cell_of_row w hb _ _ _ _ h]; rfl)

theorem All15.below {w w' : World} {hb fb : Nat} {p : Addr} (h : All15 w hb fb p) (k : Below w.heap.size w w') : All15 w' hb fb p :=
  ⟨(k.block hb (Array.getElem?_eq_some_iff.1 h.han).1).trans h.han, (k.block fb (Array.getElem?_eq_some_iff.1 h.fil).1).trans h.fil⟩
theorem All0.below {w w' : World} {hb fb : Nat} {p : Addr} (h : All0 w hb fb p) (k : Below w.heap.size w w') : All0 w' hb fb p :=
  ⟨(k.block hb (Array.getElem?_eq_some_iff.1 h.han).1).trans h.han, (k.block fb (Array.getElem?_eq_some_iff.1 h.fil).1).trans h.fil⟩

set_option maxRecDepth 20000 in
set_option maxHeartbeats 1000000 in
theorem Only_all (p : Addr) (hb fb : Nat) (w : World) (h : All15 w hb fb p) : Calls Tryz.prog 137 #[.pointer (some ⟨hb, 0, none⟩), .int .u8 15] w fun e w' => ∃ hb' fb', e = .returned (.pointer (some ⟨hb', 0, none⟩)) ∧ w.heap.size ≤ hb' ∧ w.heap.size ≤ fb' ∧ All15 w' hb' fb' p ∧ Below w.heap.size w w' := by
  obtain ⟨c0, c1, c2, c3, c4, c5⟩ := han_cells h.han
  clear h
  go_enter Tryz.func137, Tryz.ntmps137
  go_wp2_with fail
  refine (only_all p w).mono ?_
  rintro e w1 ⟨rfl, hb1⟩
  go_wp2_with fail
  refine (make_all p _).mono ?_
  rintro e w2 ⟨hb', fb', rfl, h1, h2, h3, h4, hb2⟩
  rw [World.size_alloc] at h1 h2
  have := hb1.size
  go_wp2
  go_ret
  exact ⟨_, _, rfl, by omega, by omega, ⟨h3, h4⟩, below_tr (below_tr hb1 (below_al _ _)) hb2⟩

set_option maxRecDepth 20000 in
set_option maxHeartbeats 1000000 in
theorem Only_none (p : Addr) (hb fb : Nat) (w : World) (h : All15 w hb fb p) : Calls Tryz.prog 137 #[.pointer (some ⟨hb, 0, none⟩), .int .u8 0] w fun e w' => ∃ hb' fb', e = .returned (.pointer (some ⟨hb', 0, none⟩)) ∧ w.heap.size ≤ hb' ∧ w.heap.size ≤ fb' ∧ All0 w' hb' fb' p ∧ Below w.heap.size w w' := by
  obtain ⟨c0, c1, c2, c3, c4, c5⟩ := han_cells h.han
  clear h
  go_enter Tryz.func137, Tryz.ntmps137
  go_wp2_with fail
  refine (only_none p w).mono ?_
  rintro e w1 ⟨rfl, hb1⟩
  go_wp2_with fail
  refine (make_none p _).mono ?_
  rintro e w2 ⟨hb', fb', rfl, h1, h2, h3, h4, hb2⟩
  rw [World.size_alloc] at h1 h2
  have := hb1.size
  go_wp2
  go_ret
  exact ⟨_, _, rfl, by omega, by omega, ⟨h3, h4⟩, below_tr (below_tr hb1 (below_al _ _)) hb2⟩

set_option maxRecDepth 20000 in
set_option maxHeartbeats 1000000 in
theorem of_nil (c : Int) (w : World) : Calls Tryz.prog 114 #[.pointer none, .int .u8 c] w fun e w' => e = .returned (.tuple #[.pointer none, .int .i64 1]) ∧ w' = w := by
  go_enter Tryz.func114, Tryz.ntmps114
  go_wp2
  go_ret2
  exact ⟨rfl, rfl⟩

set_option maxRecDepth 20000 in
set_option maxHeartbeats 1000000 in
theorem of_all (b : Nat) (w : World) : Calls Tryz.prog 114 #[.pointer (some ⟨b, 0, none⟩), .int .u8 15] w fun e w' => ∃ hb fb m, e = .returned (.tuple #[.pointer (some ⟨hb, 0, none⟩), .int .i64 0]) ∧ w.heap.size ≤ hb ∧ w.heap.size ≤ fb ∧ w.heap.size ≤ m ∧ All15 w' hb fb ⟨m, 0, none⟩ ∧ w'.heap[m]? = some (.cells #[.pointer (some ⟨b, 0, none⟩)] 231 (0, 0)) ∧ Below w.heap.size w w' := by
  go_enter Tryz.func114, Tryz.ntmps114
  go_wp2_with fail
  refine (make_all _ _).mono ?_
  rintro e w1 ⟨hb, fb, rfl, h1, h2, h3, h4, hb1⟩
  have HA : Aside (All15 w1 hb fb ⟨w.heap.size, 0, none⟩) := ⟨h3, h4⟩
  have HM : Aside (w1.heap[w.heap.size]? = some (.cells #[.pointer (some ⟨b, 0, none⟩)] 231 (0, 0))) := (hb1.block w.heap.size (by simp)).trans (heap_alloc_new w _)
  have HW := aside (below_tr (below_al w _) hb1)
  clear h1 h2 h3 h4 hb1
  go_wp2_with fail
  refine (Only_all _ hb fb w1 HA.out).mono ?_
  rintro e w2 ⟨hb', fb', rfl, h1, h2, h3, hb2⟩
  have := HW.out.size
  go_wp2
  go_ret2
  exact ⟨_, _, w.heap.size, rfl, by omega, by omega, by omega, h3, (hb2.block _ (Array.getElem?_eq_some_iff.1 HM.out).1).trans HM.out, below_tr HW.out hb2⟩

set_option maxRecDepth 20000 in
set_option maxHeartbeats 1000000 in
theorem of_none (b : Nat) (w : World) : Calls Tryz.prog 114 #[.pointer (some ⟨b, 0, none⟩), .int .u8 0] w fun e w' => ∃ hb fb m, e = .returned (.tuple #[.pointer (some ⟨hb, 0, none⟩), .int .i64 0]) ∧ w.heap.size ≤ hb ∧ w.heap.size ≤ fb ∧ w.heap.size ≤ m ∧ All0 w' hb fb ⟨m, 0, none⟩ ∧ w'.heap[m]? = some (.cells #[.pointer (some ⟨b, 0, none⟩)] 231 (0, 0)) ∧ Below w.heap.size w w' := by
  go_enter Tryz.func114, Tryz.ntmps114
  go_wp2_with fail
  refine (make_all _ _).mono ?_
  rintro e w1 ⟨hb, fb, rfl, h1, h2, h3, h4, hb1⟩
  have HA : Aside (All15 w1 hb fb ⟨w.heap.size, 0, none⟩) := ⟨h3, h4⟩
  have HM : Aside (w1.heap[w.heap.size]? = some (.cells #[.pointer (some ⟨b, 0, none⟩)] 231 (0, 0))) := (hb1.block w.heap.size (by simp)).trans (heap_alloc_new w _)
  have HW := aside (below_tr (below_al w _) hb1)
  clear h1 h2 h3 h4 hb1
  go_wp2_with fail
  refine (Only_none _ hb fb w1 HA.out).mono ?_
  rintro e w2 ⟨hb', fb', rfl, h1, h2, h3, hb2⟩
  have := HW.out.size
  go_wp2
  go_ret2
  exact ⟨_, _, w.heap.size, rfl, by omega, by omega, by omega, h3, (hb2.block _ (Array.getElem?_eq_some_iff.1 HM.out).1).trans HM.out, below_tr HW.out hb2⟩
end Go.Proofs.YtbnaegoahdcejaaGreatDoor.M

namespace Go.Proofs.YtbnaegoahdcejaaGreatDoor.M
open Go.RowKit
attribute [local simp] lcells_nil readB_length bcells_length



theorem meth15_Cut (w : World) (fb : Nat) (m : Addr) (h : w.cell? ⟨fb, 2, none⟩ = some (I m)) : (method 462 318 (.pointer (some ⟨fb, 0, none⟩)) "Cut").run Tryz.prog w = .ok (244, .pointer (some m)) w :=
  (method_up (n := 461) (st := 320) (ix := 2) (ft := 164) (off := 2) (by kernel_rfl) (by kernel_rfl) (up_size 164 (by kernel_rfl) w) (up_agg 164 Tryz.underlying164 w) (by simpa [Addr.add] using h)).trans (by kernel_rfl)

set_option maxHeartbeats 400000 in
theorem bclone_any (src : Addr) (l : List UInt8) (c : Nat) (w : World) (h0 : 0 < l.length) (hlen : l.length ≤ 4294967296) (hsrc : ∀ j v, (bcells l)[j]? = some v → w.cell? (src.add j) = some v) :
    Calls Tryz.prog 106 #[.slice (some src) l.length c] w fun e w' => ∃ g cap, e = .returned (.slice (some ⟨g, 0, none⟩) l.length cap) ∧ w.heap.size ≤ g ∧ w'.ownsRow 0 5 1 (.slice (some ⟨g, 0, none⟩) l.length cap) l.length (bcells l) ∧ Below w.heap.size w w' := by
  have hnil : ∀ w, (binOp .eql 48 (.slice (some src) l.length c) (.slice none 0 0)).run Tryz.prog w = .ok (.bool false) w := fun w => Lib.run_eql_slice_nil w 48 5 (some src) l.length c 0 0 Tryz.underlying48
  have hB : Below w.heap.size w (w.alloc (.cells #[] 5)) := below_al w _
  have hown : (w.alloc (.cells #[] 5)).ownsRow 0 5 1 (.slice (some ⟨w.heap.size, 0, none⟩) 0 0) 0 [] := World.ownsRow_made w #[] 0 (Nat.zero_le _) (by decide) (by simp)
  have hs2 : ∀ j v, (bcells l)[j]? = some v → (w.alloc (.cells #[] 5)).cell? (src.add j) = some v := fun j v h => (hB.cell (World.block_lt_of_cell? w _ (hsrc j v h))).trans (hsrc j v h)
  have h63 : 0 + l.length ≤ maxLen := by unfold maxLen; omega
  have hby : (0 + l.length) * 1 ≤ 140737488355328 := by omega
  have hll : (bcells l).length = l.length * 1 := by simp
  have HO := aside hown
  have HS := aside hs2
  have HB := aside hB
  have H63 := aside h63
  have HLL := aside hll
  clear hs2 hsrc hown hB h63 hll
  go_enter Tryz.func106, Tryz.ntmps106
  go_wp2_with (at_builtin; refine wpList_append_where _ rfl _ _ 48 rfl 5 (.int .u8 0) 1 1 Tryz.underlying48 info5 rfl (by decide) (.slice (some ⟨w.heap.size, 0, none⟩) 0 0) 0 [] rfl HO.out _ l.length _ (bcells l) rfl HLL.out HS.out (bcells_one _) H63.out hby h0 ?_; intro v' w' ho hg hwh)
  go_ret
  simp only [Nat.zero_add, List.nil_append] at ho
  rcases ho.2 with ⟨-, hz⟩ | ⟨g, cap, cur, rfl, r⟩
  · omega
  · refine ⟨g, cap, rfl, ?_, ho, ?_⟩
    · rcases hwh with ⟨e1, -⟩ | ⟨e1, -⟩
      · simp only [Value.ownBlock, Option.some.injEq] at e1; omega
      · simp only [Value.ownBlock, Option.some.injEq, World.size_alloc] at e1; omega
    · exact (HB.out).grown hg (by simp) (fun k hk => by simp only [Value.ownBlock, Option.some.injEq] at hk; omega)

theorem meth15_Size (w : World) (fb : Nat) (m : Addr) (h : w.cell? ⟨fb, 0, none⟩ = some (I m)) : (method 462 318 (.pointer (some ⟨fb, 0, none⟩)) "Size").run Tryz.prog w = .ok (247, .pointer (some m)) w :=
  (method_up (n := 461) (st := 320) (ix := 0) (ft := 117) (off := 0) (by kernel_rfl) (by kernel_rfl) (up_size 117 (by kernel_rfl) w) (up_agg 117 Tryz.underlying117 w) (by simpa [Addr.add] using h)).trans (by kernel_rfl)
theorem meth15_ReadAt (w : World) (fb : Nat) (m : Addr) (h : w.cell? ⟨fb, 0, none⟩ = some (I m)) : (method 462 318 (.pointer (some ⟨fb, 0, none⟩)) "ReadAt").run Tryz.prog w = .ok (246, .pointer (some m)) w :=
  (method_up (n := 461) (st := 320) (ix := 0) (ft := 117) (off := 0) (by kernel_rfl) (by kernel_rfl) (up_size 117 (by kernel_rfl) w) (up_agg 117 Tryz.underlying117 w) (by simpa [Addr.add] using h)).trans (by kernel_rfl)
theorem meth0_ReadAt (w : World) (fb : Nat) (m : Addr) (h : w.cell? ⟨fb, 0, none⟩ = some (I m)) : (method 462 273 (.pointer (some ⟨fb, 0, none⟩)) "ReadAt").run Tryz.prog w = .ok (246, .pointer (some m)) w :=
  (method_up (n := 461) (st := 275) (ix := 0) (ft := 117) (off := 0) (by kernel_rfl) (by kernel_rfl) (up_size 117 (by kernel_rfl) w) (up_agg 117 Tryz.underlying117 w) (by simpa [Addr.add] using h)).trans (by kernel_rfl)

set_option maxRecDepth 20000 in
set_option maxHeartbeats 1000000 in
theorem cutGrow_any (b sz : Nat) (lv : Value) (L : List Piece) (x : Nat) (w : World) (hR : Rep w b sz lv L) (hs : sz ≤ x) (hx : x ≤ 1073741824) :
    Calls Tryz.prog 235 #[.pointer (some ⟨b, 0, none⟩), .int .i64 x] w fun e w' => e = .returned (.int .i64 0) ∧ Rep w' b x lv L ∧ Upd (fun k => k = b) w w' := by
  obtain ⟨c0, c1, c2⟩ := hR.cells
  have h0 : ¬ ((x : Int) < 0) := by omega
  have h1 : ¬ (1073741824 < (x : Int)) := by omega
  have h2 : ¬ (1073741824 < x) := by omega
  have h3 : (sz : Int) ≤ (x : Int) := by omega
  have hE : Calls Tryz.prog 239 #[.pointer (some ⟨b, 0, none⟩), .int .i64 x, .int .i64 sz] w fun e w' => e = .returned (.tuple #[]) ∧ Below w.heap.size w w' := by
    go_enter Tryz.func239, Tryz.ntmps239
    go_wp2
    (try simp only [Exit.inBlock, Exit.then])
    refine bodyPost_ret (results_none rfl _ _ _) rfl ?_
    exact ⟨rfl, below_tr (below_al w _) (below_al _ _)⟩
  have HE := aside hE
  have HR := aside hR
  clear hR hE
  go_enter Tryz.func235, Tryz.ntmps235
  go_wp2_with fail
  refine HE.out.mono ?_
  rintro e w' ⟨rfl, hb⟩
  have hR' := HR.out.below hb
  obtain ⟨d0, d1, d2⟩ := hR'.cells
  have f0 : w'.frozen? ⟨b, 0, none⟩ = false := frozen_of_row w' b 0 _ _ hR'.str.obj
  go_wp2_with fail
  go_ret
  have hS := hR'.str.set 0 (.int .i64 x) (.int .i64 x) (.int .i64 (heldOf L)) rfl
  refine ⟨rfl, ⟨hS, hR'.inv.sep, hR'.inv.ne, fun d hd => ?_, hx, hR'.inv.held⟩, ?_⟩
  · have := hR'.inv.fin d hd; omega
  · exact (Upd.of_below hb).trans (Upd.setCell (F := fun k => k = b) (p := ⟨b, 0, none⟩) rfl _) (fun _ _ h => h)

/-- A file of memory: its one cell names the bytes. -/
def Fil (w : World) (m b : Nat) : Prop := w.heap[m]? = some (.cells #[.pointer (some ⟨b, 0, none⟩)] 231 (0, 0))
theorem Fil.cell {w : World} {m b : Nat} (h : Fil w m b) : w.cell? ⟨m, 0, none⟩ = some (.pointer (some ⟨b, 0, none⟩)) := by
  rw [cell_of_row w m _ _ _ _ h]; rfl
theorem Fil.below {w w' : World} {m b : Nat} (h : Fil w m b) (k : Below w.heap.size w w') : Fil w' m b := (k.block m (Array.getElem?_eq_some_iff.1 h).1).trans h

set_option maxRecDepth 20000 in
set_option maxHeartbeats 1000000 in
theorem fSize_any (m b sz : Nat) (lv : Value) (L : List Piece) (w : World) (hF : Fil w m b) (hR : Rep w b sz lv L) : Calls Tryz.prog 247 #[.pointer (some ⟨m, 0, none⟩)] w fun e w' => e = .returned (.int .i64 sz) ∧ w' = w := by
  have h0 := hF.cell
  have HR := aside hR
  clear hR hF
  go_enter Tryz.func247, Tryz.ntmps247
  go_wp2_with fail
  refine (size_any b sz lv L w HR.out).mono ?_
  rintro e w' ⟨rfl, rfl⟩
  go_wp2
  go_ret
  exact ⟨rfl, rfl⟩

set_option maxRecDepth 20000 in
set_option maxHeartbeats 1000000 in
theorem fCut_any (m b sz : Nat) (lv : Value) (L : List Piece) (x : Nat) (w : World) (hF : Fil w m b) (hR : Rep w b sz lv L) (hs : sz ≤ x) (hx : x ≤ 1073741824) :
    Calls Tryz.prog 244 #[.pointer (some ⟨m, 0, none⟩), .int .i64 x] w fun e w' => e = .returned (.int .i64 0) ∧ Rep w' b x lv L ∧ Upd (fun k => k = b) w w' := by
  have h0 := hF.cell
  have HR := aside hR
  clear hR hF
  go_enter Tryz.func244, Tryz.ntmps244
  go_wp2_with fail
  refine (cutGrow_any b sz lv L x w HR.out hs hx).mono ?_
  rintro e w' ⟨rfl, h1, h2⟩
  go_wp2
  go_ret
  exact ⟨rfl, h1, h2⟩

set_option maxRecDepth 20000 in
set_option maxHeartbeats 1000000 in
theorem fRead_any (m b sz : Nat) (lv : Value) (L : List Piece) (x n : Nat) (w : World) (hF : Fil w m b) (hR : Rep w b sz lv L) (hx : x < sz) (hn : n ≤ 65536) (hn0 : 0 < n) :
    Calls Tryz.prog 246 #[.pointer (some ⟨m, 0, none⟩), .int .i64 x, .int .i64 n] w fun e w' => ∃ k, k = min n (min 65536 (sz - x)) ∧ e = .returned (.tuple #[.slice (some ⟨w.heap.size, 0, none⟩) k k, .int .i64 0]) ∧
      w'.heap[w.heap.size]? = some (.cells (bcells (readB L x k)).toArray 5 (0, 0)) ∧ Below w.heap.size w w' := by
  have h0 := hF.cell
  have HR := aside hR
  have h1 : ¬ ((x : Int) < 0) := by omega
  have h2 : ¬ ((n : Int) < 0) := by omega
  have h3 : ¬ ((65536 : Int) < n) := by omega
  have h4 : ¬ (65536 < n) := by omega
  clear hR hF
  go_enter Tryz.func246, Tryz.ntmps246
  go_wp2_with fail
  refine (get_any b lv sz L x n w HR.out.inv hx (by omega) hn0 HR.out.cells.1 HR.out.cells.2.2 HR.out.str.row HR.out.str.data).mono ?_
  rintro e w' ⟨k, hk, rfl, h5, h6⟩
  have HK := aside hk
  clear hk
  go_wp2
  go_ret2
  exact ⟨k, HK.out, rfl, h5, h6⟩
end Go.Proofs.YtbnaegoahdcejaaGreatDoor.M
