/- pack.repeat: a match, laid down block by block. -/
import Derived.Test.YtlcglnagekmogaaSaid
import Derived.Test.YtlcglnagekmogaaNext
namespace Go.Proofs.Ytlcglnagekmogaa
open Go.RowKit
attribute [local simp] lcells_nil readB_length bcells_length
set_option maxRecDepth 20000

/-- A row of bytes, all of it. -/
def RowB (w : World) (g : Nat) (l : List UInt8) : Prop := w.heap[g]? = some (.cells (bcells l).toArray 5 (0, 0))
theorem RowB.upd {F : Nat → Prop} {w w' : World} {g : Nat} {l : List UInt8} (h : RowB w g l) (k : Upd F w w') (hF : ¬ F g) : RowB w' g l := (k.block g (Array.getElem?_eq_some_iff.1 h).1 hF).trans h
theorem RowB.lt {w : World} {g : Nat} {l : List UInt8} (h : RowB w g l) : g < w.heap.size := (Array.getElem?_eq_some_iff.1 h).1
theorem RowB.cell {w : World} {g : Nat} {l : List UInt8} (h : RowB w g l) {i : Nat} {x : UInt8} (hi : l[i]? = some x) : w.cell? ⟨g, i, none⟩ = some (.int .u8 (x.toNat : Nat)) := by
  rw [cell_of_row w g i _ _ _ h]
  simp [bcells, hi]
theorem RowB.bs {w : World} {g : Nat} {l : List UInt8} (h : RowB w g l) (o : Nat) : BsAt w (some ⟨g, o, none⟩) (l.drop o) := bs_of fun j x hj => h.cell (by rw [List.getElem?_drop] at hj; exact hj)
theorem RowB.below {w w' : World} {g : Nat} {l : List UInt8} (h : RowB w g l) (k : Below w.heap.size w w') : RowB w' g l := (k.block g h.lt).trans h

/-- copy of bytes that can be read into a row that is known whole. -/
theorem copy_row {W : World} {g off dLen dCap sLen sCap : Nat} {cur cs : List UInt8} {sp : Option Addr} (ty : TypeId) (hg : RowB W g cur) (hs : BsAt W sp cs) (hn : cs.length = min sLen dLen) (hfit : off + cs.length ≤ cur.length) :
    (Builtin.copy_ #[22, 22] ty #[.slice (some ⟨g, off, none⟩) dLen dCap, .slice sp sLen sCap]).run Try.prog W = .ok (goInt cs.length) (W.setRow g (bcells (splice cur off cs)).toArray) := by
  have := run_copy_bytes W ty (some ⟨g, off, none⟩) sp dLen dCap sLen sCap g off (bcells cur) hg (bcells cs) (by simpa using hn) (fun hp => ⟨rfl, hs (by intro h0; rw [h0] at hp; simp [bcells] at hp)⟩) (by simpa using hfit) (bcells_one _)
  rw [this, bcells_splice, bcells_length]
theorem RowB.set {W : World} {g : Nat} {cur l : List UInt8} (h : RowB W g cur) : RowB (W.setRow g (bcells l).toArray) g l := setRow_heap W g _ _ _ _ h
theorem upd_setRow {F : Nat → Prop} (w : World) (g : Nat) (cs : Array Value) (hF : F g) : Upd F w (w.setRow g cs) :=
  ⟨rfl, rfl, rfl, by simp [World.setRow], fun k _ hn => setRow_other w g k cs (fun e => hn (e ▸ hF))⟩
theorem splice_end {told rest cs : List UInt8} : splice (told ++ rest) told.length cs = told ++ cs ++ rest.drop cs.length := by
  simp only [splice]
  rw [List.take_left, List.drop_append, List.drop_of_length_le (by omega), List.nil_append, show told.length + cs.length - told.length = cs.length by omega, List.append_assoc]

set_option maxHeartbeats 2000000 in
theorem repeat_any (g n p k d : Nat) (told rest : List UInt8) (w : World) (hrow : RowB w g (told ++ rest)) (hp : told.length = p) (hn : p + rest.length = n) (hk : k ≤ rest.length) (hd1 : 1 ≤ d) (hd2 : d ≤ p) (hn2 : n ≤ 65536) :
    Calls Try.prog 48 #[.slice (some ⟨g, 0, none⟩) n n, .int .i64 (p : Int), .agg #[.int .i64 (k : Int), .int .i64 (d : Int)]] w fun e w' => e = .returned (.int .i64 (k : Int)) ∧ RowB w' g (cpy d k told ++ rest.drop k) ∧ Upd (fun j => j = g) w w' := by
  obtain ⟨W, hW⟩ : ∃ W, W = w.alloc (.cells #[.int .i64 (k : Int), .int .i64 (d : Int)] 103) := ⟨_, rfl⟩
  have hB : Below w.heap.size w W := by rw [hW]; exact below_al w _
  have hm : W.heap[w.heap.size]? = some (.cells #[.int .i64 (k : Int), .int .i64 (d : Int)] 103 (0, 0)) := by rw [hW]; exact heap_alloc_new w _
  have hgl := hrow.lt
  have HRW := aside (hrow.below hB)
  have HB := aside hB
  have HM := aside hm
  have q0 : ∀ d' os, (ext W d' os).cell? ⟨w.heap.size, 0, none⟩ = some (.int .i64 (k : Int)) := fun d' os => ext_cell (by rw [cell_of_row W _ 0 _ _ _ hm]; rfl) d' os
  have q1 : ∀ d' os, (ext W d' os).cell? ⟨w.heap.size, 1, none⟩ = some (.int .i64 (d : Int)) := fun d' os => ext_cell (by rw [cell_of_row W _ 1 _ _ _ hm]; rfl) d' os
  obtain ⟨f, hf⟩ : ∃ f, f = p - d := ⟨_, rfl⟩
  obtain ⟨y, hy⟩ : ∃ y, y = p + k := ⟨_, rfl⟩
  have hf1 : (p : Int) - (d : Int) = (f : Int) := by omega
  have hy1 : (p : Int) + (k : Int) = (y : Int) := by omega
  have hyn : y ≤ n := by omega
  have HF := aside hf
  have HY := aside hy
  have HP := aside hp
  have HN := aside hn
  clear hrow hB hm hf hy hp hn
  go_enter Try.func48, Try.ntmps48
  go_wp2_with fail
  rw [← hW]
  clear hW
  refine region_ext (by kernel_rfl) (by kernel_rfl) ?_
  repeat (any_goals (first | go_big_quiet_step ((fail)) | quiet_step ((fail))))
  refine wpQuiet_nil ?_
  intro wq hq
  have HU0 : Aside (Upd (fun j => j = g) w wq) := (Upd.of_below HB.out).trans (Upd.of_below (F := fun j => j = g) hq) (fun _ _ h => h)
  have HR0 := aside (HRW.out.below hq)
  have HM0 := aside ((hq.block _ (Array.getElem?_eq_some_iff.1 HM.out).1).trans HM.out)
  clear HRW HM HB q0 q1 hq
  go_wp2_with fail
  go_loopw [1] (fun s1 wr => ∃ (j x : Nat), j ≤ k ∧ s1 = .int .i64 (x : Int) ∧ Aside (x = p + j) ∧ Aside ((∃ q, j = q * d) ∨ j = k) ∧ Aside (RowB wr g (cpy d j told ++ rest.drop j)) ∧ Aside (Upd (fun i => i = g) w wr) ∧ Aside (wr.heap[w.heap.size]? = some (.cells #[.int .i64 (k : Int), .int .i64 (d : Int)] 103 (0, 0)))) (fun s1 _ => y - (intOf s1).toNat)
  case atStart => exact ⟨0, p, Nat.zero_le _, rfl, aside rfl, aside (.inl ⟨0, by omega⟩), HR0, HU0, HM0⟩
  case round =>
    obtain ⟨j, x, hj, rfl, hx, hq, hR, hU, hM⟩ := hrel
    by_cases h1 : j < k
    · obtain ⟨q, hq⟩ : ∃ q, j = q * d := by
        rcases hq.out with h | h
        · exact h
        · omega
      obtain ⟨t, ht⟩ : ∃ t, t = min (d + j) (k - j) := ⟨_, rfl⟩
      have hxy : x < y := by have := hx.out; have := HY.out; omega
      have hfx : f < x := by have := hx.out; have := HF.out; omega
      have t1 : (x : Int) < (y : Int) := by omega
      have hl := cpy_length d j told
      have hel : (cpy d j told).length = x := by have := hx.out; have := HP.out; omega
      have hcs : (((cpy d j told).drop f).take t).length = t := by rw [List.length_take, List.length_drop, hel]; have := hx.out; have := HF.out; omega
      have hel2 : told.length - d = f := by have := HP.out; have := HF.out; omega
      have hnew : splice (cpy d j told ++ rest.drop j) x (((cpy d j told).drop f).take t) = cpy d (j + t) told ++ rest.drop (j + t) := by
        have := splice_end (told := cpy d j told) (rest := rest.drop j) (cs := ((cpy d j told).drop f).take t)
        rw [hel, hcs, List.drop_drop] at this
        rw [this, cpy_block hd1 (by have := HP.out; omega) ⟨q, hq⟩ (by omega), hel2]
      have s1 : ∀ W, (Instr.slice 22 (.slice (some ⟨g, 0, none⟩) n n) (some (.int .i64 (x : Int))) (some (.int .i64 (y : Int))) none).run Try.prog W = .ok (.slice (some ⟨g, x, none⟩) (y - x) (n - x)) W := fun W => by
        rw [run_slice_lh W 22 _ n n elem22 .i64 .i64 _ _ (by omega) (by omega) (by omega), size22]
        simp only [Result.andThen, sliced, Int.toNat_natCast]
        rw [if_neg (by omega), Option.map_some, Addr.add_lit, Nat.zero_add, Nat.mul_one]
      have s2 : ∀ W, (Instr.slice 22 (.slice (some ⟨g, 0, none⟩) n n) (some (.int .i64 (f : Int))) (some (.int .i64 (x : Int))) (some (.int .i64 (x : Int)))).run Try.prog W = .ok (.slice (some ⟨g, f, none⟩) (x - f) (x - f)) W := fun W => by
        rw [run_slice_lhm W 22 _ n n elem22 .i64 .i64 .i64 _ _ _ (by omega) (by omega) (by omega) (by omega), size22]
        simp only [Result.andThen, sliced, Int.toNat_natCast]
        rw [if_neg (by omega), Option.map_some, Addr.add_lit, Nat.zero_add, Nat.mul_one]
      have hRd : RowB wr.drew g (cpy d j told ++ rest.drop j) := hR.out.below (below_dr wr)
      have hbs : BsAt wr.drew (some ⟨g, f, none⟩) (((cpy d j told).drop f).take t) := bs_of fun i z hz => hRd.cell (by
        rw [List.getElem?_take] at hz
        split at hz
        · rw [List.getElem?_drop] at hz
          rw [List.getElem?_append_left (List.getElem?_eq_some_iff.1 hz).1]; exact hz
        · cases hz)
      have hcp : ∀ ty c1 c2, (Builtin.copy_ #[22, 22] ty #[.slice (some ⟨g, x, none⟩) (y - x) c1, .slice (some ⟨g, f, none⟩) (x - f) c2]).run Try.prog wr.drew = .ok (goInt t) (wr.drew.setRow g (bcells (cpy d (j + t) told ++ rest.drop (j + t))).toArray) := fun ty c1 c2 => by
        have := copy_row (dLen := y - x) (dCap := c1) (sLen := x - f) (sCap := c2) ty hRd hbs (off := x) (by rw [hcs, ht]; have := hx.out; have := HF.out; have := HY.out; omega) (by rw [hcs, List.length_append, hel, List.length_drop]; omega)
        rw [this, hnew, hcs]
      have HCP := aside hcp
      have HT := aside ht
      have HQ := aside hq
      have HRN : Aside (RowB (wr.drew.setRow g (bcells (cpy d (j + t) told ++ rest.drop (j + t))).toArray) g (cpy d (j + t) told ++ rest.drop (j + t))) := aside hRd.set
      have HUN : Aside (Upd (fun i => i = g) w (wr.drew.setRow g (bcells (cpy d (j + t) told ++ rest.drop (j + t))).toArray)) := (hU.out.trans (Upd.of_below (F := fun i => i = g) (below_dr wr)) (fun _ _ h => h)).trans (upd_setRow (F := fun i => i = g) wr.drew g _ rfl) (fun _ _ h => h)
      have HMN : Aside ((wr.drew.setRow g (bcells (cpy d (j + t) told ++ rest.drop (j + t))).toArray).heap[w.heap.size]? = some (.cells #[.int .i64 (k : Int), .int .i64 (d : Int)] 103 (0, 0))) := (setRow_other _ g _ _ (by omega)).trans hM.out
      obtain ⟨z, hz⟩ : ∃ z, z = x + t := ⟨_, rfl⟩
      have htx : (x : Int) + (t : Int) = (z : Int) := by omega
      have htn : z ≤ y := by have := hx.out; have := HY.out; omega
      have ht0 : x < z := by omega
      have hwz : IntKind.i64.wrap (z : Int) = (z : Int) := by rw [IntKind.wrap_i64]; omega
      have HZ := aside hz
      clear hz hcp ht hq hnew hcs hel hel2 hl hbs hRd hU hR hM
      generalize bcells (cpy d (j + t) told ++ rest.drop (j + t)) = rw0 at *
      go_wp2_with fail
      go_region_law (refine step_copy_to rfl _ _ 22 22 rfl _ _ (by simp [Act.eval, Act.put]; rfl) (by simp [Act.eval, Act.put]; rfl) (HCP.out _ _ _) ?_)
      all_goals
        simp only [Act.put, List.getElem_toArray, List.getElem_cons_succ, List.getElem_cons_zero, List.setIfInBounds_toArray, List.set_cons_succ, List.set_cons_zero]
        go_wp2
        go_roundw
        case rel => 
          refine ⟨j + t, z, by have := HT.out; omega, by go_num, aside (by have := hx.out; have := HZ.out; omega), aside ?_, HRN, HUN, HMN⟩
          by_cases hjk : j + t = k
          · exact .inr hjk
          · refine .inl ⟨q + q + 1, ?_⟩
            have := HT.out
            rw [Nat.add_mul, Nat.add_mul, Nat.one_mul, ← HQ.out]
            omega
        case measure => simp [intOf]; omega
    · obtain rfl : j = k := by omega
      have t1 : ¬ ((x : Int) < (y : Int)) := by have := hx.out; have := HY.out; omega
      have c0 : wr.cell? ⟨w.heap.size, 0, none⟩ = some (.int .i64 (j : Int)) := by rw [cell_of_row wr _ 0 _ _ _ hM.out]; rfl
      go_wp2_with fail
      go_ret
      exact ⟨rfl, hR.out, hU.out⟩
end Go.Proofs.Ytlcglnagekmogaa
