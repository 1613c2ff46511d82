/- The searches of package span: the closures that are handed to sort.Search, the search itself, and what it answers over a list of stretches. -/
import Derived.Test.YtleenkdlnmoepaaRep
import Derived.Shelf.Abstract
import Derived.Deep.LoopGhost
import Derived.Deep.Draws
namespace Go.Proofs.Ytleenkdlnmoepaa
open Go.RowKit

set_option maxHeartbeats 400000 in
theorem to_any (f : Int) (a : Option Addr) (n c : Nat) (w : World) (h0 : 0 ≤ f) (h1 : f ≤ 4294967296) (h2 : n ≤ 4294967296) :
    Calls Try.prog 46 #[.agg #[.int .i64 f, .slice a n c]] w fun e w' => e = .returned (.int .i64 (f + n)) ∧ Below w.heap.size w w' := by
  go_enter Try.func46, Try.ntmps46
  go_wp2
  go_ret
  exact ⟨rfl, (Below.refl _ _).alloc (Nat.le_refl _) _⟩

set_option maxHeartbeats 400000 in
theorem within1_any (f : Int) (a : Option Addr) (n c : Nat) (bx : Nat) (x : Int) (w : World) (h0 : 0 ≤ f) (h1 : f ≤ 4294967296) (h2 : n ≤ 4294967296) (hx : w.cell? ⟨bx, 0, none⟩ = some (.int .i64 x)) :
    Calls Try.prog 52 #[.agg #[.int .i64 f, .slice a n c], .pointer (some ⟨bx, 0, none⟩)] w fun e w' => e = .returned (.bool (decide (x < f + n))) ∧ Below w.heap.size w w' := by
  have hbx := World.block_lt_of_cell? w ⟨bx, 0, none⟩ hx
  have hA := below_al w (Obj.cells #[Value.int IntKind.i64 f, Value.slice a n c] 179)
  have hx1 : ∀ d os, (ext (w.alloc (Obj.cells #[Value.int IntKind.i64 f, Value.slice a n c] 179)) d os).cell? ⟨bx, 0, none⟩ = some (.int .i64 x) := fun d os => ext_cell ((hA.cell hbx).trans hx) d os
  have hr0 : ∀ d os, (ext (w.alloc (Obj.cells #[Value.int IntKind.i64 f, Value.slice a n c] 179)) d os).cell? ⟨w.heap.size, 0, none⟩ = some (.int .i64 f) := fun d os => ext_cell (by go_simp) d os
  have hr1 : ∀ d os, (ext (w.alloc (Obj.cells #[Value.int IntKind.i64 f, Value.slice a n c] 179)) d os).cell? ⟨w.heap.size, 1, none⟩ = some (.slice a n c) := fun d os => ext_cell (by go_simp) d os
  go_enter Try.func52, Try.ntmps52
  go_wp2
  refine region_ext (by kernel_rfl) (by kernel_rfl) ?_
  repeat (any_goals (first | go_big_quiet_step ((go_at_call 46; exact calls_ext (to_any _ _ _ _ _ h0 h1 h2))) | quiet_step ((go_at_call 46; exact calls_ext (to_any _ _ _ _ _ h0 h1 h2)))))
  refine wpQuiet_nil ?_
  intro wq hq
  go_wp2
  go_ret
  exact ⟨rfl, below_tr hA hq⟩

set_option maxHeartbeats 400000 in
theorem next1_any (f : Int) (a : Option Addr) (n c : Nat) (bx : Nat) (x : Int) (w : World) (h0 : 0 ≤ f) (h1 : f ≤ 4294967296) (h2 : n ≤ 4294967296) (hx : w.cell? ⟨bx, 0, none⟩ = some (.int .i64 x)) :
    Calls Try.prog 86 #[.agg #[.int .i64 f, .slice a n c], .pointer (some ⟨bx, 0, none⟩)] w fun e w' => e = .returned (.bool (decide (x < f + n))) ∧ Below w.heap.size w w' := by
  have hbx := World.block_lt_of_cell? w ⟨bx, 0, none⟩ hx
  have hA := below_al w (Obj.cells #[Value.int IntKind.i64 f, Value.slice a n c] 179)
  have hx1 : ∀ d os, (ext (w.alloc (Obj.cells #[Value.int IntKind.i64 f, Value.slice a n c] 179)) d os).cell? ⟨bx, 0, none⟩ = some (.int .i64 x) := fun d os => ext_cell ((hA.cell hbx).trans hx) d os
  have hr0 : ∀ d os, (ext (w.alloc (Obj.cells #[Value.int IntKind.i64 f, Value.slice a n c] 179)) d os).cell? ⟨w.heap.size, 0, none⟩ = some (.int .i64 f) := fun d os => ext_cell (by go_simp) d os
  have hr1 : ∀ d os, (ext (w.alloc (Obj.cells #[Value.int IntKind.i64 f, Value.slice a n c] 179)) d os).cell? ⟨w.heap.size, 1, none⟩ = some (.slice a n c) := fun d os => ext_cell (by go_simp) d os
  go_enter Try.func86, Try.ntmps86
  go_wp2
  refine region_ext (by kernel_rfl) (by kernel_rfl) ?_
  repeat (any_goals (first | go_big_quiet_step ((go_at_call 46; exact calls_ext (to_any _ _ _ _ _ h0 h1 h2))) | quiet_step ((go_at_call 46; exact calls_ext (to_any _ _ _ _ _ h0 h1 h2)))))
  refine wpQuiet_nil ?_
  intro wq hq
  go_wp2
  go_ret
  exact ⟨rfl, below_tr hA hq⟩

set_option maxHeartbeats 400000 in
theorem lay1_any (f : Int) (a : Option Addr) (n c : Nat) (bx : Nat) (x : Int) (w : World) (h0 : 0 ≤ f) (h1 : f ≤ 4294967296) (h2 : n ≤ 4294967296) (hx : w.cell? ⟨bx, 0, none⟩ = some (.int .i64 x)) :
    Calls Try.prog 48 #[.agg #[.int .i64 f, .slice a n c], .pointer (some ⟨bx, 0, none⟩)] w fun e w' => e = .returned (.bool (decide (x ≤ f + n))) ∧ Below w.heap.size w w' := by
  have hbx := World.block_lt_of_cell? w ⟨bx, 0, none⟩ hx
  have hA := below_al w (Obj.cells #[Value.int IntKind.i64 f, Value.slice a n c] 179)
  have hx1 : ∀ d os, (ext (w.alloc (Obj.cells #[Value.int IntKind.i64 f, Value.slice a n c] 179)) d os).cell? ⟨bx, 0, none⟩ = some (.int .i64 x) := fun d os => ext_cell ((hA.cell hbx).trans hx) d os
  have hr0 : ∀ d os, (ext (w.alloc (Obj.cells #[Value.int IntKind.i64 f, Value.slice a n c] 179)) d os).cell? ⟨w.heap.size, 0, none⟩ = some (.int .i64 f) := fun d os => ext_cell (by go_simp) d os
  have hr1 : ∀ d os, (ext (w.alloc (Obj.cells #[Value.int IntKind.i64 f, Value.slice a n c] 179)) d os).cell? ⟨w.heap.size, 1, none⟩ = some (.slice a n c) := fun d os => ext_cell (by go_simp) d os
  go_enter Try.func48, Try.ntmps48
  go_wp2
  refine region_ext (by kernel_rfl) (by kernel_rfl) ?_
  repeat (any_goals (first | go_big_quiet_step ((go_at_call 46; exact calls_ext (to_any _ _ _ _ _ h0 h1 h2))) | quiet_step ((go_at_call 46; exact calls_ext (to_any _ _ _ _ _ h0 h1 h2)))))
  refine wpQuiet_nil ?_
  intro wq hq
  go_wp2
  go_ret
  exact ⟨rfl, below_tr hA hq⟩

set_option maxHeartbeats 400000 in
theorem erase1_any (f : Int) (a : Option Addr) (n c : Nat) (bx : Nat) (x : Int) (w : World) (h0 : 0 ≤ f) (h1 : f ≤ 4294967296) (h2 : n ≤ 4294967296) (hx : w.cell? ⟨bx, 0, none⟩ = some (.int .i64 x)) :
    Calls Try.prog 87 #[.agg #[.int .i64 f, .slice a n c], .pointer (some ⟨bx, 0, none⟩)] w fun e w' => e = .returned (.bool (decide (x < f + n))) ∧ Below w.heap.size w w' := by
  have hbx := World.block_lt_of_cell? w ⟨bx, 0, none⟩ hx
  have hA := below_al w (Obj.cells #[Value.int IntKind.i64 f, Value.slice a n c] 179)
  have hx1 : ∀ d os, (ext (w.alloc (Obj.cells #[Value.int IntKind.i64 f, Value.slice a n c] 179)) d os).cell? ⟨bx, 0, none⟩ = some (.int .i64 x) := fun d os => ext_cell ((hA.cell hbx).trans hx) d os
  have hr0 : ∀ d os, (ext (w.alloc (Obj.cells #[Value.int IntKind.i64 f, Value.slice a n c] 179)) d os).cell? ⟨w.heap.size, 0, none⟩ = some (.int .i64 f) := fun d os => ext_cell (by go_simp) d os
  have hr1 : ∀ d os, (ext (w.alloc (Obj.cells #[Value.int IntKind.i64 f, Value.slice a n c] 179)) d os).cell? ⟨w.heap.size, 1, none⟩ = some (.slice a n c) := fun d os => ext_cell (by go_simp) d os
  go_enter Try.func87, Try.ntmps87
  go_wp2
  refine region_ext (by kernel_rfl) (by kernel_rfl) ?_
  repeat (any_goals (first | go_big_quiet_step ((go_at_call 46; exact calls_ext (to_any _ _ _ _ _ h0 h1 h2))) | quiet_step ((go_at_call 46; exact calls_ext (to_any _ _ _ _ _ h0 h1 h2)))))
  refine wpQuiet_nil ?_
  intro wq hq
  go_wp2
  go_ret
  exact ⟨rfl, below_tr hA hq⟩

set_option maxHeartbeats 400000 in
theorem within2_any (f : Int) (a : Option Addr) (n c : Nat) (bx : Nat) (x : Int) (w : World) (hx : w.cell? ⟨bx, 0, none⟩ = some (.int .i64 x)) :
    Calls Try.prog 53 #[.agg #[.int .i64 f, .slice a n c], .pointer (some ⟨bx, 0, none⟩)] w fun e w' => e = .returned (.bool (decide (x ≤ f))) ∧ Below w.heap.size w w' := by
  have hbx := World.block_lt_of_cell? w ⟨bx, 0, none⟩ hx
  have hA := below_al w (Obj.cells #[Value.int IntKind.i64 f, Value.slice a n c] 179)
  go_enter Try.func53, Try.ntmps53
  go_wp2
  go_ret
  exact ⟨rfl, hA⟩

set_option maxHeartbeats 400000 in
theorem lay2_any (f : Int) (a : Option Addr) (n c : Nat) (bx : Nat) (x : Int) (w : World) (hx : w.cell? ⟨bx, 0, none⟩ = some (.int .i64 x)) :
    Calls Try.prog 49 #[.agg #[.int .i64 f, .slice a n c], .pointer (some ⟨bx, 0, none⟩)] w fun e w' => e = .returned (.bool (decide (x < f))) ∧ Below w.heap.size w w' := by
  have hbx := World.block_lt_of_cell? w ⟨bx, 0, none⟩ hx
  have hA := below_al w (Obj.cells #[Value.int IntKind.i64 f, Value.slice a n c] 179)
  go_enter Try.func49, Try.ntmps49
  go_wp2
  go_ret
  exact ⟨rfl, hA⟩

set_option maxHeartbeats 400000 in
theorem erase2_any (f : Int) (a : Option Addr) (n c : Nat) (bx : Nat) (x : Int) (w : World) (hx : w.cell? ⟨bx, 0, none⟩ = some (.int .i64 x)) :
    Calls Try.prog 88 #[.agg #[.int .i64 f, .slice a n c], .pointer (some ⟨bx, 0, none⟩)] w fun e w' => e = .returned (.bool (decide (x ≤ f))) ∧ Below w.heap.size w w' := by
  have hbx := World.block_lt_of_cell? w ⟨bx, 0, none⟩ hx
  have hA := below_al w (Obj.cells #[Value.int IntKind.i64 f, Value.slice a n c] 179)
  go_enter Try.func88, Try.ntmps88
  go_wp2
  go_ret
  exact ⟨rfl, hA⟩

set_option maxHeartbeats 400000 in
theorem search1_any (g : Nat) (cb : Array Value) (eg : ∀ args w, (callFunc g args).run Try.prog w = .ok (.enter g args) w) (bo bs b i n cap lb : Nat) (f : Int) (a : Option Addr) (m c : Nat) (r : Bool) (w : World) (hi : i < n)
    (ho : w.cell? ⟨bo, 0, none⟩ = some (.func (.func g) #[] cb)) (hs : w.cell? ⟨bs, 0, none⟩ = some (.pointer (some ⟨b, 0, none⟩))) (hl : w.cell? ⟨b, 2, none⟩ = some (.slice (some ⟨lb, 0, none⟩) n cap))
    (h0 : w.cell? ⟨lb, i * 2, none⟩ = some (.int .i64 f)) (h1 : w.cell? ⟨lb, i * 2 + 1, none⟩ = some (.slice a m c))
    (hg : ∀ d os, Calls Try.prog g (#[.agg #[.int .i64 f, .slice a m c]] ++ cb) (ext w d os) fun e w' => e = .returned (.bool r) ∧ Below (ext w d os).heap.size (ext w d os) w') :
    Calls Try.prog 55 (#[.int .i64 i] ++ #[.pointer (some ⟨bo, 0, none⟩), .pointer (some ⟨bs, 0, none⟩)]) w fun e w' => e = .returned (.bool r) ∧ Below w.heap.size w w' := by
  have xo := fun d os => ext_cell ho d os
  have xs := fun d os => ext_cell hs d os
  have xl := fun d os => ext_cell hl d os
  have x0 := fun d os => ext_cell h0 d os
  have x1 := fun d os => ext_cell h1 d os
  have hiz : (i : Int) < (n : Int) := by omega
  have HG : Aside _ := hg
  clear hg
  go_enter Try.func55, Try.ntmps55
  go_wp2
  refine region_ext (by kernel_rfl) (by kernel_rfl) ?_
  repeat (any_goals (first | go_big_quiet_step ((go_at_fn g; exact calls_ext (HG.out _ _))) | quiet_step ((go_at_fn g; exact calls_ext (HG.out _ _)))))
  refine wpQuiet_nil ?_
  intro wq hq
  go_wp2
  go_ret
  exact ⟨rfl, hq⟩

set_option maxHeartbeats 4000000 in
set_option maxRecDepth 100000 in
theorem sortSearch_any (g : Nat) (cb : Array Value) (n : Nat) (p : Nat → Bool) (w : World) (eg : ∀ args w, (callFunc g args).run Try.prog w = .ok (.enter g args) w) (hsz : n < 4611686018427387904)
    (hf : ∀ (W : World) (i : Nat), i < n → Below w.heap.size w W → Calls Try.prog g (#[.int .i64 i] ++ cb) W fun e w' => e = .returned (.bool (p i)) ∧ Below W.heap.size W w')
    (hmono : ∀ a b, a ≤ b → b < n → p a = true → p b = true) :
    Calls Try.prog 54 #[.int .i64 n, .func (.func g) #[] cb] w fun e w' => (∃ k : Nat, e = .returned (.int .i64 k) ∧ k ≤ n ∧ (∀ t, t < k → p t = false) ∧ (∀ t, k ≤ t → t < n → p t = true)) ∧ Below w.heap.size w w' := by
  have HF : Aside _ := hf
  have M : Aside _ := hmono
  clear hf hmono
  go_enter Try.func54, Try.ntmps54
  go_wp2
  go_loopg [5, 6] n (fun kx s5 s6 wr => ∃ (lo hi : Nat), s5 = .int .i64 lo ∧ s6 = .int .i64 hi ∧ lo ≤ hi ∧ hi ≤ n ∧ hi - lo ≤ kx ∧ Aside (Below w.heap.size w wr) ∧
    Aside ((∀ t, t < lo → p t = false) ∧ (∀ t, hi ≤ t → t < n → p t = true)))
  case atStart => exact ⟨0, n, rfl, rfl, Nat.zero_le _, Nat.le_refl _, by omega, Below.refl _ _, (⟨fun t ht => absurd ht (Nat.not_lt_zero _), fun t h1 h2 => by omega⟩ : (∀ t, t < 0 → p t = false) ∧ (∀ t, n ≤ t → t < n → p t = true))⟩
  case round =>
    obtain ⟨lo, hi, rfl, rfl, hlh, hin, hg, hbw, I⟩ := hrel
    by_cases hlt : lo < hi
    · have hc := HF.out wr ((lo + hi) / 2) (by omega) hbw.out
      rw [show (((lo + hi) / 2 : Nat) : Int) = ((lo : Int) + (hi : Int)) / 2 by omega] at hc
      cases hp : p ((lo + hi) / 2) <;> rw [hp] at hc
      · have HP : Aside (p ((lo + hi) / 2) = false) := hp
        clear hp
        go_wp2_with (go_at_fn g; refine hc.mono ?_; rintro e w' ⟨rfl, hb⟩)
        go_roundg (hi - ((lo + hi) / 2 + 1))
        case measure => omega
        case rel =>
          have I2 : Aside ((∀ t, t < (lo + hi) / 2 + 1 → p t = false) ∧ (∀ t, hi ≤ t → t < n → p t = true)) := ⟨fun t ht => (by
            cases h : p t with
            | false => rfl
            | true => have := M.out t ((lo + hi) / 2) (by omega) (by omega) h; rw [HP.out] at this; cases this), I.out.2⟩
          exact ⟨(lo + hi) / 2 + 1, hi, by rw [show ((lo : Int) + (hi : Int)) / 2 + 1 = (((lo + hi) / 2 + 1 : Nat) : Int) by omega], rfl, by omega, hin, Nat.le_refl _, below_tr hbw.out hb, I2⟩
      · have HP : Aside (p ((lo + hi) / 2) = true) := hp
        clear hp
        go_wp2_with (go_at_fn g; refine hc.mono ?_; rintro e w' ⟨rfl, hb⟩)
        go_roundg ((lo + hi) / 2 - lo)
        case measure => omega
        case rel =>
          have I2 : Aside ((∀ t, t < lo → p t = false) ∧ (∀ t, (lo + hi) / 2 ≤ t → t < n → p t = true)) := ⟨I.out.1, fun t ht htn => M.out ((lo + hi) / 2) t ht htn HP.out⟩
          exact ⟨lo, (lo + hi) / 2, rfl, by rw [show ((lo : Int) + (hi : Int)) / 2 = (((lo + hi) / 2 : Nat) : Int) by omega], by omega, by omega, Nat.le_refl _, below_tr hbw.out hb, I2⟩
    · obtain rfl : hi = lo := by omega
      go_wp2
      go_ret
      exact ⟨⟨hi, rfl, hin, I.out.1, I.out.2⟩, hbw.out⟩
end Go.Proofs.Ytleenkdlnmoepaa
