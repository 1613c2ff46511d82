/- The cells of the table of package caps: what all files have, and the functions that ask it. -/
import Derived.Test.YtniohiepnojjbaaDoorBase
import Derived.Shelf.Abstract
import Derived.Deep.LoopGhost
import Derived.Deep.Draws
import Derived.Laws.BitsAllLaws
namespace Go.Proofs.YtniohiepnojjbaaDoor
open Go.RowKit

/-- A row of bytes lies at a place. -/
def RdB (w : World) (blk off : Nat) (bs : List Nat) : Prop := ∀ (j x : Nat), bs[j]? = some x → w.cell? ⟨blk, off + j, none⟩ = some (.int .u8 (x : Int))

theorem RdB.below {w w' : World} {blk off : Nat} {bs : List Nat} (h : RdB w blk off bs) (hb : Below w.heap.size w w') : RdB w' blk off bs :=
  fun j x hj => (hb.cell (World.block_lt_of_cell? w _ (h j x hj))).trans (h j x hj)

/-- What all of some files have. -/
def sharedN (bs : List Nat) : Nat := bs.foldl (· &&& ·) 15

theorem sharedN_lt (bs : List Nat) : sharedN bs < 16 := by
  have : ∀ (l : List Nat) (a : Nat), a < 16 → l.foldl (· &&& ·) a < 16 := by
    intro l
    induction l with
    | nil => exact fun a h => h
    | cons x r ih => exact fun a h => ih _ (Nat.lt_of_le_of_lt Nat.and_le_left h)
  exact this bs 15 (by decide)

theorem shared_step (bs : List Nat) (i x : Nat) (h : bs[i]? = some x) : sharedN (bs.take (i + 1)) = sharedN (bs.take i) &&& x := by
  rw [List.take_add_one, h]; simp [sharedN, List.foldl_append]

set_option maxHeartbeats 1000000 in
theorem shared_any (blk off c : Nat) (bs : List Nat) (w : World) (h : RdB w blk off bs) (hl : bs.length < 4611686018427387904) (hv : ∀ x ∈ bs, x < 256) :
    Calls Tryd.prog 62 #[.slice (some ⟨blk, off, none⟩) bs.length c] w fun e w' => e = .returned (.int .u8 (sharedN bs : Nat)) ∧ w' = w := by
  have H : Aside _ := h
  have HV : Aside _ := hv
  clear h hv
  go_enter Tryd.func62, Tryd.ntmps62
  go_wp2
  go_loopg [3, 8] bs.length (fun kx s3 s8 wr => ∃ i : Nat, s3 = .int .u8 (sharedN (bs.take i) : Nat) ∧ s8 = .int .i64 i ∧ i ≤ bs.length ∧ bs.length - i ≤ kx ∧ wr = w)
  case atStart => exact ⟨0, by simp [sharedN], rfl, Nat.zero_le _, by omega, rfl⟩
  case round =>
    obtain ⟨i, rfl, rfl, hi, hk, rfl⟩ := hrel
    by_cases hlt : i < bs.length
    · obtain ⟨x, hx⟩ : ∃ x, bs[i]? = some x := ⟨bs[i], List.getElem?_eq_getElem hlt⟩
      have hc := H.out i x hx
      have hx256 := HV.out x (List.mem_of_getElem? hx)
      have e : bits .and .u8 ((sharedN (bs.take i) : Nat) : Int) (x : Int) = ((sharedN (bs.take (i + 1)) : Nat) : Int) := by
        rw [u8_and_nat _ _ (by have := sharedN_lt (bs.take i); omega) hx256, shared_step _ _ _ hx]
      have HX : Aside _ := hx
      clear hx
      go_wp2
      go_roundg (bs.length - (i + 1))
      case measure => omega
      case rel => exact ⟨i + 1, by rw [← e], by go_num, by omega, by omega, rfl⟩
    · obtain rfl : i = bs.length := by omega
      go_wp2
      go_ret
      simp

theorem nz (a : Nat) : (((a : Nat) : Int) != 0) = (a != 0) := by cases a <;> simp; omega

/-- The blocks from the n-th on are as they were. -/
def Keeps (n : Nat) (w W : World) : Prop := w.heap.size ≤ W.heap.size ∧ ∀ k, n ≤ k → k < w.heap.size → W.heap[k]? = w.heap[k]?

theorem Keeps.trans {n : Nat} {a b c : World} (h : Keeps n a b) (k : Keeps n b c) : Keeps n a c :=
  ⟨Nat.le_trans h.1 k.1, fun i hi hl => (k.2 i hi (Nat.lt_of_lt_of_le hl h.1)).trans (h.2 i hi hl)⟩
theorem Keeps.of {w W : World} (h : Below w.heap.size w W) (n : Nat) : Keeps n w W := ⟨h.size, fun k _ hk => h.block k hk⟩
theorem Keeps.cell {n : Nat} {w W : World} (h : Keeps n w W) {p : Nat} {v : Value} (hn : n ≤ p) (hc : w.cell? ⟨p, 0, none⟩ = some v) : W.cell? ⟨p, 0, none⟩ = some v := by
  have := World.block_lt_of_cell? w _ hc
  rw [← hc, World.cell?, World.cell?, h.2 p hn this]

/-- A function value that asks 'f' of rows of at least 'm' bytes, in every world in which the blocks from the n-th on are those of 'w'. -/
def Asks (n : Nat) (w : World) (m : Nat) (v : Value) (f : List Nat → Bool) : Prop :=
  ∃ (g : Nat) (cb : Array Value), v = .func (.func g) #[] cb ∧ (∀ args w, (callFunc g args).run Tryd.prog w = .ok (.enter g args) w) ∧
    ∀ (W : World) (blk off c : Nat) (bs : List Nat), Keeps n w W → RdB W blk off bs → m ≤ bs.length → bs.length < 4611686018427387904 → (∀ x ∈ bs, x < 256) →
      Calls Tryd.prog g (#[.slice (some ⟨blk, off, none⟩) bs.length c] ++ cb) W fun e w' => e = .returned (.bool (f bs)) ∧ Below W.heap.size W w'

theorem Asks.keeps {n : Nat} {w w' : World} {m : Nat} {v : Value} {f : List Nat → Bool} (h : Asks n w m v f) (hb : Keeps n w w') : Asks n w' m v f := by
  obtain ⟨g, cb, hv, eg, hc⟩ := h
  exact ⟨g, cb, hv, eg, fun W blk off c bs hW => hc W blk off c bs (hb.trans hW)⟩
theorem Asks.below {n : Nat} {w w' : World} {m : Nat} {v : Value} {f : List Nat → Bool} (h : Asks n w m v f) (hb : Below w.heap.size w w') : Asks n w' m v f := h.keeps (.of hb n)

set_option maxHeartbeats 1000000 in
theorem no_asks (n : Nat) (w : World) (m : Nat) : Asks n w m (.func (.func 53) #[] #[]) (fun _ => false) := by
  refine ⟨53, #[], rfl, enters_of Tryd.func53 (by kernel_rfl) rfl, fun W blk off c bs hW hr hl hl2 hv => ?_⟩
  show Calls Tryd.prog 53 #[.slice (some ⟨blk, off, none⟩) bs.length c] W _
  go_enter Tryd.func53, Tryd.ntmps53
  go_wp2
  go_ret
  exact ⟨rfl, Below.refl _ _⟩

set_option maxHeartbeats 1000000 in
theorem all1_any (bit p blk off c : Nat) (bs : List Nat) (w : World) (hp : w.cell? ⟨p, 0, none⟩ = some (.int .u8 (bit : Int))) (h : RdB w blk off bs) (hl : bs.length < 4611686018427387904) (hv : ∀ x ∈ bs, x < 256) (hb : bit < 256) :
    Calls Tryd.prog 61 #[.slice (some ⟨blk, off, none⟩) bs.length c, .pointer (some ⟨p, 0, none⟩)] w fun e w' => e = .returned (.bool (sharedN bs &&& bit != 0)) ∧ Below w.heap.size w w' := by
  have HS := aside (fun d os => (shared_any blk off c bs (ext w d os) (h.below (below_ext _ _ _)) hl hv).mono (R' := fun e w' => e = .returned (.int .u8 (sharedN bs : Nat)) ∧ Below (ext w d os).heap.size (ext w d os) w') (by rintro e w' ⟨rfl, rfl⟩; exact ⟨rfl, Below.refl _ _⟩))
  have hx := fun d os => ext_cell hp d os
  have e1 : bits .and .u8 ((sharedN bs : Nat) : Int) (bit : Int) = ((sharedN bs &&& bit : Nat) : Int) := u8_and_nat _ _ (by have := sharedN_lt bs; omega) hb
  clear h hv
  go_enter Tryd.func61, Tryd.ntmps61
  go_wp2
  refine region_ext (by kernel_rfl) (by kernel_rfl) ?_
  repeat (any_goals (first | go_big_quiet_step ((go_at_call 62; exact calls_ext (HS.out _ _))) | quiet_step ((go_at_call 62; exact calls_ext (HS.out _ _)))))
  refine wpQuiet_nil ?_
  intro wq hq
  go_wp2
  go_ret
  exact ⟨congrArg (fun b => Ending.returned (.bool b)) (nz _), hq⟩

theorem all_asks (n : Nat) (w : World) (m bit p : Nat) (hn : n ≤ p) (hp : w.cell? ⟨p, 0, none⟩ = some (.int .u8 (bit : Int))) (hb : bit < 256) : Asks n w m (.func (.func 61) #[] #[.pointer (some ⟨p, 0, none⟩)]) (fun bs => sharedN bs &&& bit != 0) :=
  ⟨61, _, rfl, enters_of Tryd.func61 (by kernel_rfl) rfl, fun W blk off c bs hW hr _ hl hv => all1_any bit p blk off c bs W (hW.cell hn hp) hr hl hv hb⟩

set_option maxHeartbeats 1000000 in
theorem has1_any (i bit x p q blk off c : Nat) (bs : List Nat) (w : World) (hp : w.cell? ⟨p, 0, none⟩ = some (.int .i64 (i : Int))) (hq : w.cell? ⟨q, 0, none⟩ = some (.int .u8 (bit : Int))) (h : RdB w blk off bs) (hi : bs[i]? = some x) (hx : x < 256) (hb : bit < 256) :
    Calls Tryd.prog 64 #[.slice (some ⟨blk, off, none⟩) bs.length c, .pointer (some ⟨p, 0, none⟩), .pointer (some ⟨q, 0, none⟩)] w fun e w' => e = .returned (.bool (x &&& bit != 0)) ∧ Below w.heap.size w w' := by
  have hlt : i < bs.length := (List.getElem?_eq_some_iff.1 hi).1
  have hp' := fun d os => ext_cell hp d os
  have hq' := fun d os => ext_cell hq d os
  have hc' := fun d os => ext_cell (h i x hi) d os
  have e1 : bits .and .u8 (x : Int) (bit : Int) = ((x &&& bit : Nat) : Int) := u8_and_nat _ _ hx hb
  clear h hi
  go_enter Tryd.func64, Tryd.ntmps64
  go_wp2
  refine region_ext (by kernel_rfl) (by kernel_rfl) ?_
  repeat (any_goals (first | go_big_quiet_step (fail) | quiet_step (fail)))
  refine wpQuiet_nil ?_
  intro wq hq
  go_wp2
  go_ret
  exact ⟨congrArg (fun b => Ending.returned (.bool b)) (nz _), hq⟩

theorem has_asks (n : Nat) (w : World) (m i bit p q : Nat) (hn : n ≤ p) (hn2 : n ≤ q) (hp : w.cell? ⟨p, 0, none⟩ = some (.int .i64 (i : Int))) (hq : w.cell? ⟨q, 0, none⟩ = some (.int .u8 (bit : Int))) (hm : i < m) (hb : bit < 256) :
    Asks n w m (.func (.func 64) #[] #[.pointer (some ⟨p, 0, none⟩), .pointer (some ⟨q, 0, none⟩)]) (fun bs => bs.getD i 0 &&& bit != 0) :=
  ⟨64, _, rfl, enters_of Tryd.func64 (by kernel_rfl) rfl, fun W blk off c bs hW hr hl _ hv => by
    have hi : bs[i]? = some bs[i] := List.getElem?_eq_getElem (by omega)
    have e : bs.getD i 0 = bs[i] := by simp [List.getD, hi]
    simp only [e]
    exact has1_any i bit bs[i] p q blk off c bs W (hW.cell hn hp) (hW.cell hn2 hq) hr hi (hv _ (List.getElem_mem _)) hb⟩

set_option maxHeartbeats 1000000 in
theorem both_asks (n : Nat) (w : World) (m p q : Nat) (va vb : Value) (f g : List Nat → Bool) (ha : Asks n w m va f) (hb : Asks n w m vb g) (hn : n ≤ p) (hn2 : n ≤ q) (hp : w.cell? ⟨p, 0, none⟩ = some va) (hq : w.cell? ⟨q, 0, none⟩ = some vb) :
    Asks n w m (.func (.func 63) #[] #[.pointer (some ⟨p, 0, none⟩), .pointer (some ⟨q, 0, none⟩)]) (fun bs => f bs && g bs) := by
  obtain ⟨ga, ca, rfl, ea, Ha⟩ := ha
  obtain ⟨gb, cb, rfl, eb, Hb⟩ := hb
  refine ⟨63, _, rfl, enters_of Tryd.func63 (by kernel_rfl) rfl, fun W blk off c bs hW hr hl hl2 hv => ?_⟩
  show Calls Tryd.prog 63 #[.slice (some ⟨blk, off, none⟩) bs.length c, .pointer (some ⟨p, 0, none⟩), .pointer (some ⟨q, 0, none⟩)] W _
  have hpW := hW.cell hn hp
  have hqW := hW.cell hn2 hq
  have Ca := aside (Ha W blk off c bs hW hr hl hl2 hv)
  have Cb := aside (fun W' (hW' : Below W.heap.size W W') => Hb W' blk off c bs (hW.trans (.of hW' n)) (hr.below hW') hl hl2 hv)
  clear Ha Hb hv hr
  go_enter Tryd.func63, Tryd.ntmps63
  cases hf : f bs
  · have Ca2 := Ca.out
    rw [hf] at Ca2
    have Ca3 := aside Ca2
    clear Ca2 hf
    go_wp2_with (go_at_fn ga; refine Ca3.out.mono ?_; rintro e w1 ⟨rfl, hb1⟩)
    go_ret
    exact ⟨rfl, hb1⟩
  · have Ca2 := Ca.out
    rw [hf] at Ca2
    have Ca3 := aside Ca2
    clear Ca2 hf
    go_wp2_with fail
    refine Ca3.out.mono ?_
    rintro e w1 ⟨rfl, hb1⟩
    have hq1 := (hb1.cell (World.block_lt_of_cell? W _ hqW)).trans hqW
    have HB1 := aside hb1
    clear hb1
    go_wp2_with fail
    refine (Cb.out _ HB1.out).mono ?_
    rintro e w2 ⟨rfl, hb2⟩
    go_wp2
    go_ret
    exact ⟨rfl, below_tr HB1.out hb2⟩

set_option maxHeartbeats 1000000 in
theorem either_asks (n : Nat) (w : World) (m p q : Nat) (va vb : Value) (f g : List Nat → Bool) (ha : Asks n w m va f) (hb : Asks n w m vb g) (hn : n ≤ p) (hn2 : n ≤ q) (hp : w.cell? ⟨p, 0, none⟩ = some va) (hq : w.cell? ⟨q, 0, none⟩ = some vb) :
    Asks n w m (.func (.func 65) #[] #[.pointer (some ⟨p, 0, none⟩), .pointer (some ⟨q, 0, none⟩)]) (fun bs => f bs || g bs) := by
  obtain ⟨ga, ca, rfl, ea, Ha⟩ := ha
  obtain ⟨gb, cb, rfl, eb, Hb⟩ := hb
  refine ⟨65, _, rfl, enters_of Tryd.func65 (by kernel_rfl) rfl, fun W blk off c bs hW hr hl hl2 hv => ?_⟩
  show Calls Tryd.prog 65 #[.slice (some ⟨blk, off, none⟩) bs.length c, .pointer (some ⟨p, 0, none⟩), .pointer (some ⟨q, 0, none⟩)] W _
  have hpW := hW.cell hn hp
  have hqW := hW.cell hn2 hq
  have Ca := aside (Ha W blk off c bs hW hr hl hl2 hv)
  have Cb := aside (fun W' (hW' : Below W.heap.size W W') => Hb W' blk off c bs (hW.trans (.of hW' n)) (hr.below hW') hl hl2 hv)
  clear Ha Hb hv hr
  go_enter Tryd.func65, Tryd.ntmps65
  cases hf : f bs
  · have Ca2 := Ca.out
    rw [hf] at Ca2
    have Ca3 := aside Ca2
    clear Ca2 hf
    go_wp2_with fail
    refine Ca3.out.mono ?_
    rintro e w1 ⟨rfl, hb1⟩
    have hq1 := (hb1.cell (World.block_lt_of_cell? W _ hqW)).trans hqW
    have HB1 := aside hb1
    clear hb1
    go_wp2_with fail
    refine (Cb.out _ HB1.out).mono ?_
    rintro e w2 ⟨rfl, hb2⟩
    go_wp2
    go_ret
    exact ⟨rfl, below_tr HB1.out hb2⟩
  · have Ca2 := Ca.out
    rw [hf] at Ca2
    have Ca3 := aside Ca2
    clear Ca2 hf
    go_wp2_with (go_at_fn ga; refine Ca3.out.mono ?_; rintro e w1 ⟨rfl, hb1⟩)
    go_ret
    exact ⟨rfl, hb1⟩
end Go.Proofs.YtniohiepnojjbaaDoor
