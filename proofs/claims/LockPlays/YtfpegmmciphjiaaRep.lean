/- Locks in memory: their cells, lists of them that can be read, rows of one's own, what a call may have changed, append. -/
import Derived.Test.YtfpegmmciphjiaaBase
import Derived.Test.YtfpegmmciphjiaaMath
import Derived.Laws.OwnMore
import Derived.Deep.LoopGhost
import Derived.Deep.Draws
import Derived.Deep.RegionHeld3
namespace Go.Proofs.Ytfpegmmciphjiaa
open Go.RowKit

theorem aside {p : Prop} (h : p) : Aside p := h
def lkc (l : Lk) : List Value := [.int .i64 l.who, .int .i64 l.org, .int .i64 l.len, .bool l.sh]
def Lk.val (l : Lk) : Value := .agg #[.int .i64 l.who, .int .i64 l.org, .int .i64 l.len, .bool l.sh]
def lks (L : List Lk) : List Value := L.flatMap lkc
theorem lks_nil : lks [] = [] := rfl
theorem lks_cons (l : Lk) (L : List Lk) : lks (l :: L) = lkc l ++ lks L := rfl
theorem lks_append (L M : List Lk) : lks (L ++ M) = lks L ++ lks M := by simp [lks, List.flatMap_append]
theorem lks_one (l : Lk) : lks [l] = lkc l := by simp [lks]
theorem lks_length (L : List Lk) : (lks L).length = L.length * 4 := by
  induction L with
  | nil => rfl
  | cons d L ih => rw [lks_cons, List.length_append, ih]; simp [lkc]; omega
theorem lks_at : ∀ (L : List Lk) (i : Nat) (l : Lk), L[i]? = some l → (lks L)[i * 4]? = some (.int .i64 l.who) ∧ (lks L)[i * 4 + 1]? = some (.int .i64 l.org) ∧ (lks L)[i * 4 + 2]? = some (.int .i64 l.len) ∧ (lks L)[i * 4 + 3]? = some (.bool l.sh)
  | [], i, l, h => by simp at h
  | d :: L, 0, l, h => by
    simp only [List.getElem?_cons_zero, Option.some.injEq] at h
    subst h; rw [lks_cons]; simp [lkc]
  | d :: L, i + 1, l, h => by
    have := lks_at L i l (by simpa using h)
    rw [lks_cons, show (i + 1) * 4 = i * 4 + 1 + 1 + 1 + 1 by omega]
    simpa [lkc] using this
theorem lks_take (L : List Lk) : ∀ i, (lks L).take (i * 4) = lks (L.take i) := by
  induction L with
  | nil => intro i; simp [lks]
  | cons d L ih =>
    intro i
    cases i with
    | zero => simp [lks]
    | succ i =>
      rw [List.take_succ_cons, lks_cons, lks_cons, show (i + 1) * 4 = (lkc d).length + i * 4 by simp [lkc]; omega, List.take_length_add_append, ih i]
theorem lks_drop (L : List Lk) : ∀ i, (lks L).drop (i * 4) = lks (L.drop i) := by
  induction L with
  | nil => intro i; simp [lks]
  | cons d L ih =>
    intro i
    cases i with
    | zero => simp
    | succ i =>
      rw [List.drop_succ_cons, lks_cons, show (i + 1) * 4 = (lkc d).length + i * 4 by simp [lkc]; omega, List.drop_length_add_append, ih i]
theorem lks_cell (L : List Lk) : ∀ u ∈ lks L, u.oneCell' = true := by
  intro u hu
  obtain ⟨l, -, h⟩ := List.mem_flatMap.1 hu
  simp only [lkc, List.mem_cons, List.not_mem_nil, or_false] at h
  rcases h with rfl | rfl | rfl | rfl <;> rfl

/-- Cells from a place on. -/
def Rd (w : World) (g o : Nat) (xs : List Value) : Prop := ∀ j u, xs[j]? = some u → w.cell? ⟨g, o + j, none⟩ = some u
/-- A list of locks that can be read. -/
def LsAt (w : World) (a : Option Addr) (L : List Lk) : Prop := L ≠ [] → ∃ g o, a = some ⟨g, o, none⟩ ∧ Rd w g o (lks L)
theorem Rd.below {w w' : World} {g o : Nat} {xs : List Value} (h : Rd w g o xs) (hb : Below w.heap.size w w') : Rd w' g o xs := fun j u hj => (hb.cell (World.block_lt_of_cell? w _ (h j u hj))).trans (h j u hj)
theorem LsAt.below {w w' : World} {a : Option Addr} {L : List Lk} (h : LsAt w a L) (hb : Below w.heap.size w w') : LsAt w' a L := fun hl => by
  obtain ⟨g, o, rfl, hr⟩ := h hl
  exact ⟨g, o, rfl, hr.below hb⟩
theorem Rd.lock {w : World} {g o : Nat} {L : List Lk} (h : Rd w g o (lks L)) {i : Nat} {l : Lk} (hi : L[i]? = some l) :
    w.cell? ⟨g, o + i * 4, none⟩ = some (.int .i64 l.who) ∧ w.cell? ⟨g, o + i * 4 + 1, none⟩ = some (.int .i64 l.org) ∧ w.cell? ⟨g, o + i * 4 + 2, none⟩ = some (.int .i64 l.len) ∧ w.cell? ⟨g, o + i * 4 + 3, none⟩ = some (.bool l.sh) := by
  obtain ⟨h0, h1, h2, h3⟩ := lks_at L i l hi
  exact ⟨h _ _ h0, h _ _ h1, h _ _ h2, h _ _ h3⟩

/-- What a call may have changed: the old blocks of F, and new memory. -/
structure Upd (F : Nat → Prop) (w w' : World) : Prop where
  os : w'.os = w.os
  tape : w'.tape = w.tape
  output : w'.output = w.output
  size : w.heap.size ≤ w'.heap.size
  block : ∀ k, k < w.heap.size → ¬ F k → w'.heap[k]? = w.heap[k]?
theorem Upd.of_below {F : Nat → Prop} {w w' : World} (h : Below w.heap.size w w') : Upd F w w' := ⟨h.os, h.tape, h.output, h.size, fun k hk _ => h.block k hk⟩
theorem Upd.below {F : Nat → Prop} {w w' : World} {B : Nat} (h : Upd F w w') (hB : B ≤ w.heap.size) (hF : ∀ k, F k → B ≤ k) : Below B w w' :=
  ⟨h.os, h.tape, h.output, h.size, fun k hk => h.block k (by omega) (fun hf => by have := hF k hf; omega)⟩
theorem Upd.of_grown {F : Nat → Prop} {w w' : World} {row : Option Nat} (h : w.grownBy w' row) (hF : ∀ k, row = some k → F k) : Upd F w w' :=
  ⟨h.os, h.tape, h.output, h.size, fun k hk hn => h.block k hk (fun e => hn (hF k e.symm))⟩
theorem Upd.refl (F : Nat → Prop) (w : World) : Upd F w w := ⟨rfl, rfl, rfl, Nat.le_refl _, fun _ _ _ => rfl⟩
theorem Upd.trans {F G : Nat → Prop} {a b c : World} (h : Upd F a b) (k : Upd G b c) (hG : ∀ j, j < a.heap.size → G j → F j) : Upd F a c :=
  ⟨k.os.trans h.os, k.tape.trans h.tape, k.output.trans h.output, Nat.le_trans h.size k.size, fun j hj hn => (k.block j (Nat.lt_of_lt_of_le hj h.size) (fun hg => hn (hG j hj hg))).trans (h.block j hj hn)⟩
theorem Upd.mono {F G : Nat → Prop} {a b : World} (h : Upd F a b) (hG : ∀ j, j < a.heap.size → F j → G j) : Upd G a b :=
  ⟨h.os, h.tape, h.output, h.size, fun j hj hn => h.block j hj (fun hf => hn (hG j hj hf))⟩
theorem Upd.setCell {F : Nat → Prop} {w : World} {p : Addr} (hp : F p.block) (u : Value) : Upd F w (w.setCell p u) :=
  ⟨rfl, rfl, rfl, by simp, fun k _ hn => Below.heap_setCell _ _ _ _ (fun e => hn (by rw [e]; exact hp))⟩
theorem Upd.cell {F : Nat → Prop} {w w' : World} (h : Upd F w w') {a : Addr} {v : Value} (hc : w.cell? a = some v) (hn : ¬ F a.block) : w'.cell? a = some v :=
  (World.cell?_of_block (h.block a.block (World.block_lt_of_cell? w a hc) hn)).trans hc
theorem Upd.rd {F : Nat → Prop} {w w' : World} (h : Upd F w w') {g o : Nat} {xs : List Value} (hr : Rd w g o xs) (hn : ¬ F g) : Rd w' g o xs := fun j u hj => h.cell (hr j u hj) hn
theorem Upd.row {F : Nat → Prop} {w w' : World} {b : Nat} {e : TypeId} {s : Nat} {v : Value} {n : Nat} {xs : List Value} (h : Upd F w w') (hr : w.ownsRow b e s v n xs) (hn : ∀ k, v.ownBlock = some k → ¬ F k) : w'.ownsRow b e s v n xs := by
  refine ⟨hr.1, ?_⟩
  rcases hr.2 with h2 | ⟨g, cap, cur, rfl, hg, hh, r⟩
  · exact .inl h2
  · exact .inr ⟨g, cap, cur, rfl, hg, (h.block g (Array.getElem?_eq_some_iff.1 hh).1 (hn g rfl)).trans hh, r⟩

theorem info_parts {e : TypeId} {z : Value} {size bytes : Nat} (h : (Try.prog.info? e).map (fun i => (i.zero, i.size, i.bytes)) = some (some z, size, bytes)) : ∃ i, Try.prog.info? e = some i ∧ i.zero = some z ∧ i.size = size ∧ i.bytes = bytes := by
  cases hi : Try.prog.info? e with
  | none => simp [hi] at h
  | some i => simp only [hi, Option.map_some, Option.some.injEq, Prod.mk.injEq] at h; exact ⟨i, rfl, h.1, h.2.1, h.2.2⟩
theorem info29 : (Try.prog.info? 29).map (fun i => (i.zero, i.size, i.bytes)) = some (some (.agg #[.int .i64 0, .int .i64 0, .int .i64 0, .bool false]), 4, 32) := by kernel_rfl
theorem info3 : (Try.prog.info? 3).map (fun i => (i.zero, i.size, i.bytes)) = some (some (.int .i64 0), 1, 8) := by kernel_rfl

theorem row_below {w w' : World} {b : Nat} {e : TypeId} {s : Nat} {lv : Value} {n : Nat} {xs : List Value} (h : w.ownsRow b e s lv n xs) (hb : Below w.heap.size w w') : w'.ownsRow b e s lv n xs := (Upd.of_below (F := fun _ => False) hb).row h (fun _ _ h => h)

/-- append onto a row that is known whole: the row goes on in its own block, or stands in the next new one. -/
theorem run_append_where {P : Program} (w : World) (t ty e : TypeId) (z : Value) (size bytes : Nat) (ht : P.underlying t = some (.slice e)) (i : TypeInfo) (hi : P.info? e = some i) (hz : i.zero = some z) (hs : i.size = size) (hb : i.bytes = bytes)
    (hzs : z.cells.size = size) (hsz : 0 < size) (v : Value) (n : Nat) (xs : List Value) (hown : w.ownsRow 0 e size v n xs)
    (a : Addr) (m c : Nat) (news : List Value) (hl : news.length = m * size) (hnews : ∀ j u, news[j]? = some u → w.cell? (a.add j) = some u) (h1 : ∀ u ∈ news, u.oneCell' = true)
    (h63 : n + m ≤ maxLen) (hbytes : (n + m) * bytes ≤ 140737488355328) (hm : 0 < m) :
    ∃ v' w', (Builtin.append_ #[t, t] ty #[v, .slice (some a) m c]).run P w = .ok v' w' ∧ w'.ownsRow 0 e size v' (n + m) (xs ++ news) ∧ w.grownBy w' v.ownBlock ∧
      (v'.ownBlock = v.ownBlock ∧ (∃ g, v.ownBlock = some g) ∨ v'.ownBlock = some w.heap.size ∧ Below w.heap.size w w') := by
  obtain ⟨v', w', hr, h2, h3, h4⟩ := run_append_own (P := P) w 0 t ty e i z size bytes ht hi hz hs hb hzs hsz v n xs hown a m c news hl hnews h1 h63 hbytes (Nat.zero_le _)
  refine ⟨v', w', hr, h2, h3, ?_⟩
  rcases hown.2 with ⟨rfl, rfl⟩ | ⟨g, cap, cur, rfl, -, hg, hnc, hcm, hcs, htake⟩
  · right
    have hx := run_append_nil (P := P) w t ty e i z ht hi hz a m c news (by rw [hs]; exact hl) hnews (by omega) (by have h := h63; unfold maxLen at h; omega) (by rw [hb]; have h := hbytes; simp only [Nat.zero_add] at h; omega)
    rw [hr] at hx
    injection hx with e1 e2
    subst e1; subst e2
    exact ⟨rfl, below_tr (below_dr w) (below_al w.drew _)⟩
  · by_cases hroom : n + m ≤ cap
    · left
      obtain ⟨w2, hx, -, -⟩ := run_append_fits (P := P) w 0 t ty e i size ht hi hs g n cap xs hown a m c news hl hnews h1 hroom
      rw [hr] at hx
      injection hx with e1 e2
      subst e1
      exact ⟨rfl, g, rfl⟩
    · right
      have hx := run_append_grow (P := P) w t ty e i z ht hi hz ⟨g, 0, none⟩ n cap xs (by rw [hs]; exact hown.1) (hown.cells (g := g) rfl) a m c news (by rw [hs]; exact hl) hnews (by omega) (by have h := h63; unfold maxLen at h; omega) (by rw [hb]; exact growslice_fits (by omega) hbytes)
      rw [hr] at hx
      injection hx with e1 e2
      subst e1; subst e2
      exact ⟨rfl, below_tr (below_dr w) (below_al w.drew _)⟩
theorem run_append_zero {P : Program} (w : World) (t ty e : TypeId) (i : TypeInfo) (ht : P.underlying t = some (.slice e)) (hi : P.info? e = some i) (ba : Option Addr) (n cap : Nat) (hn : n ≤ cap) (xa : Option Addr) (c : Nat) :
    (Builtin.append_ #[t, t] ty #[.slice ba n cap, .slice xa 0 c]).run P w = .ok (.slice ba n cap) w := by
  cases xa <;> cases ba <;> simp [Builtin.append_, run_underlying ht, sizeOf, typeInfo, hi, Builtin.lenOf, hn, Builtin.firstCells, loadCells, loadCellsFrom, storeCells]
theorem own_slice {w : World} {base : Nat} {e : TypeId} {size : Nat} {v : Value} {n : Nat} {xs : List Value} (h : w.ownsRow base e size v n xs) : ∃ a cap, v = .slice a n cap ∧ n ≤ cap ∧ cap ≤ maxLen := by
  rcases h.2 with ⟨rfl, rfl⟩ | ⟨g, cap, cur, rfl, -, -, hnc, hm, -⟩
  · exact ⟨none, 0, rfl, Nat.le_refl _, by decide⟩
  · exact ⟨_, cap, rfl, hnc, hm⟩

/-- A row of cells that a value owns, or nil; e its elements' type, s their cells. -/
abbrev OwnR (w : World) (e : TypeId) (s : Nat) (v : Value) (n : Nat) (xs : List Value) : Prop := w.ownsRow 0 e s v n xs
/-- A row of locks that a value owns, or nil. -/
def Own (w : World) (v : Value) (L : List Lk) : Prop := w.ownsRow 0 29 4 v L.length (lks L)
/-- A row of numbers that a value owns, or nil. -/
def nums (l : List Int) : List Value := l.map (Value.int .i64)
def OwnI (w : World) (v : Value) (l : List Int) : Prop := w.ownsRow 0 3 1 v l.length (nums l)
theorem own_none (w : World) : Own w (.slice none 0 0) [] := ⟨rfl, .inl ⟨rfl, rfl⟩⟩
theorem ownI_none (w : World) : OwnI w (.slice none 0 0) [] := ⟨rfl, .inl ⟨rfl, rfl⟩⟩
theorem rd_of_row {w : World} {e : TypeId} {s : Nat} {g n c : Nat} {xs : List Value} (h : w.ownsRow 0 e s (.slice (some ⟨g, 0, none⟩) n c) n xs) : Rd w g 0 xs := fun j u hj => by
  have := h.cells (g := g) rfl j u hj
  rwa [Addr.add_lit] at this
theorem Own.tel {w : World} {v : Value} {L : List Lk} (h : Own w v L) : ∃ a c, v = .slice a L.length c ∧ L.length ≤ c ∧ c ≤ maxLen ∧ LsAt w a L := by
  rcases h.2 with ⟨rfl, hz⟩ | ⟨g, c, cur, rfl, -, -, h1, h2, -⟩
  · exact ⟨none, 0, by rw [hz], by omega, by decide, fun hl => absurd (List.length_eq_zero_iff.1 hz) hl⟩
  · exact ⟨some ⟨g, 0, none⟩, c, rfl, h1, h2, fun _ => ⟨g, 0, rfl, rd_of_row h⟩⟩
theorem Own.below {w w' : World} {v : Value} {L : List Lk} (h : Own w v L) (k : Below w.heap.size w w') : Own w' v L := row_below h k
theorem Own.lt {w : World} {v : Value} {L : List Lk} (h : Own w v L) {k : Nat} (hk : v.ownBlock = some k) : k < w.heap.size := (World.ownsRow.lt h k hk).2
theorem OwnI.below {w w' : World} {v : Value} {l : List Int} (h : OwnI w v l) (k : Below w.heap.size w w') : OwnI w' v l := row_below h k
theorem OwnI.lt {w : World} {v : Value} {l : List Int} (h : OwnI w v l) {k : Nat} (hk : v.ownBlock = some k) : k < w.heap.size := (World.ownsRow.lt h k hk).2
theorem rd_news {w : World} {g o : Nat} {xs : List Value} (h : Rd w g o xs) : ∀ j u, xs[j]? = some u → w.cell? ((⟨g, o, none⟩ : Addr).add j) = some u := fun j u hj => by rw [Addr.add_lit]; exact h j u hj

/-- append(v, x...) of locks: the run. -/
theorem run_app {w : World} {v : Value} {L R : List Lk} {xa : Option Addr} {c : Nat} (ty : TypeId) (hv : Own w v L) (hx : LsAt w xa R) (hb : L.length + R.length ≤ 33554432) :
    ∃ v' w', (Builtin.append_ #[36, 36] ty #[v, .slice xa R.length c]).run Try.prog w = .ok v' w' ∧ Own w' v' (L ++ R) ∧ Upd (fun k => v.ownBlock = some k) w w' ∧ (v'.ownBlock = v.ownBlock ∨ v'.ownBlock = some w.heap.size ∧ Below w.heap.size w w') := by
  obtain ⟨i, hi, hz, hs, hbt⟩ := info_parts info29
  by_cases hr : R = []
  · subst hr
    obtain ⟨ba, cap, rfl, hnc, -⟩ := own_slice hv
    refine ⟨_, w, run_append_zero w 36 ty 29 i Try.underlying36 hi ba L.length cap hnc xa c, by rw [List.append_nil]; exact hv, Upd.refl _ _, .inl rfl⟩
  · obtain ⟨g, o, rfl, hc⟩ := hx hr
    have hp := List.length_pos_iff.2 hr
    obtain ⟨v', w', h1, h2, h3, h4⟩ := run_append_where (P := Try.prog) w 36 ty 29 _ 4 32 Try.underlying36 i hi hz hs hbt rfl (by decide) v L.length (lks L) hv ⟨g, o, none⟩ R.length c (lks R) (lks_length R) (rd_news hc) (lks_cell _) (by unfold maxLen; omega) (by omega) hp
    refine ⟨v', w', h1, ?_, Upd.of_grown h3 fun k hk => hk, ?_⟩
    · unfold Own
      rw [List.length_append, lks_append]
      exact h2
    · rcases h4 with ⟨g, -⟩ | ⟨g, k⟩
      · exact .inl g
      · exact .inr ⟨g, k⟩

theorem wpList_app {w : World} {ops : Array Oper} {rest : List Oper} {o : Oper} {a : Act} {Q : Exit → Act → World → Prop} (hgd : o.guard = none) (s x : Operand)
    (ho : o.op = .call { callee := .builtin .append, args := #[s, x], argTypes := #[36, 36] }) (v : Value) (L R : List Lk) (xa : Option Addr) (n c : Nat) (hs : a.eval s = v) (hx : a.eval x = .slice xa n c) (hn : R.length = n) (hv : Own w v L) (hr : LsAt w xa R) (hb : L.length + R.length ≤ 33554432) (m : Nat) (hm : L.length + R.length = m)
    (h : ∀ a' c' w', Own w' (.slice a' m c') (L ++ R) → Upd (fun k => v.ownBlock = some k) w w' → ((Value.slice a' m c').ownBlock = v.ownBlock ∨ (Value.slice a' m c').ownBlock = some w.heap.size ∧ Below w.heap.size w w') → wpList Try.prog ops Q rest (a.put o.dst (.slice a' m c')) w') : wpList Try.prog ops Q (o :: rest) a w := by
  subst hn
  obtain ⟨v', w', h1, h2, h3, h4⟩ := run_app o.type hv hr hb (c := c)
  obtain ⟨a', c', rfl, -, -⟩ := own_slice h2
  rw [List.length_append, hm] at h1 h2 h4
  refine wpList_plain hgd fun K hK => ?_
  unfold Oper.wp execOp
  simp only [ho, resolve, invoke, builtin, Sem.run_bind, Sem.run_pure, Result.andThen_ok, List.map_toArray, List.map_cons, List.map_nil, hs, hx, h1]
  exact hK _ _ (h a' c' w' h2 h3 h4)

theorem step_app {ops : Array Oper} {o : Oper} {a : Act} {w : World} {K : Act → World → Prop} {Q : Exit → Act → World → Prop} {E : Prop} (hgd : o.guard = none) (s x : Operand)
    (ho : o.op = .call { callee := .builtin .append, args := #[s, x], argTypes := #[36, 36] }) (v : Value) (L R : List Lk) (xa : Option Addr) (n c : Nat) (hs : a.eval s = v) (hx : a.eval x = .slice xa n c) (hn : R.length = n) (hv : Own w v L) (hr : LsAt w xa R) (hb : L.length + R.length ≤ 33554432) (m : Nat) (hm : L.length + R.length = m)
    (h : ∀ a' c' w', Own w' (.slice a' m c') (L ++ R) → Upd (fun k => v.ownBlock = some k) w w' → ((Value.slice a' m c').ownBlock = v.ownBlock ∨ (Value.slice a' m c').ownBlock = some w.heap.size ∧ Below w.heap.size w w') → K (a.put o.dst (.slice a' m c')) w') :
    if Region.wanted o (yielded ops a.tmps) = true then Oper.wp Try.prog o a w K Q else E := by
  have hw : Region.wanted o (yielded ops a.tmps) = true := by simp [Region.wanted, hgd]
  rw [if_pos hw]
  subst hn
  obtain ⟨v', w', h1, h2, h3, h4⟩ := run_app o.type hv hr hb (c := c)
  obtain ⟨a', c', rfl, -, -⟩ := own_slice h2
  rw [List.length_append, hm] at h1 h2 h4
  unfold Oper.wp
  simp [execOp, ho, resolve, invoke, builtin, hs, hx, h1, Result.andThen]
  exact h a' c' w' h2 h3 h4
end Go.Proofs.Ytfpegmmciphjiaa
