/- The four rows that SealBrands lays: brands, what the document knows of them, boxes, handles. -/
import Derived.Test.YtbofeednhihniaaMade
namespace Go.Proofs.Ytbofeednhihniaa
open Go.RowKit

theorem info29 : (Try.prog.info? 29).map (fun i => (i.zero, i.size, i.bytes)) = some (some (.pointer none), 1, 8) := by kernel_rfl
theorem info31 : (Try.prog.info? 31).map (fun i => (i.zero, i.size, i.bytes)) = some (some (.agg #[.int .i64 0, .int .i64 0, .string ⟨#[]⟩]), 3, 32) := by kernel_rfl
theorem info41 : (Try.prog.info? 41).map (fun i => (i.zero, i.size, i.bytes)) = some (some (.pointer none), 1, 8) := by kernel_rfl
theorem info36 : (Try.prog.info? 36).map (fun i => (i.zero, i.size, i.bytes)) = some (some (.pointer none), 1, 8) := by kernel_rfl

theorem own_slice {w : World} {base : Nat} {e : TypeId} {size : Nat} {v : Value} {n : Nat} {xs : List Value} (h : w.ownsRow base e size v n xs) : ∃ a cap, v = .slice a n cap ∧ n ≤ cap ∧ cap ≤ maxLen := by
  rcases h.2 with ⟨rfl, rfl⟩ | ⟨g, cap, cur, rfl, -, -, hnc, hm, -⟩
  · exact ⟨none, 0, rfl, Nat.le_refl _, by decide⟩
  · exact ⟨_, cap, rfl, hnc, hm⟩

/-- append(v, x) of one element that stands in the next new block. -/
theorem wpList_push {w : World} {ops : Array Oper} {rest : List Oper} {o : Oper} {a : Act} {Q : Exit → Act → World → Prop} (hgd : o.guard = none) (s x : Operand) (t : TypeId)
    (ho : o.op = .call { callee := .builtin .append, args := #[s, x], argTypes := #[t, t] }) (e : TypeId) (z : Value) (size bytes : Nat) (ht : Try.prog.underlying t = some (.slice e)) (hinfo : (Try.prog.info? e).map (fun i => (i.zero, i.size, i.bytes)) = some (some z, size, bytes))
    (hzs : z.cells.size = size) (hsz : 0 < size) (v : Value) (n m : Nat) (xs : List Value) (hs : a.eval s = v) (hown : w.ownsRow 0 e size v n xs)
    (g : Nat) (news : List Value) (hx : a.eval x = .slice (some ⟨g, 0, none⟩) 1 1) (hl : news.length = size) (fr : Nat × Nat) (hnews : w.heap[g]? = some (.cells news.toArray e fr)) (h1 : ∀ u ∈ news, u.oneCell' = true) (hn : n ≤ 100) (hb : bytes ≤ 100) (hm : n + 1 = m)
    (h : ∀ a' c' w', w'.ownsRow 0 e size (.slice a' m c') m (xs ++ news) → Upd (fun k => v.ownBlock = some k) w w' → ((Value.slice a' m c').ownBlock = v.ownBlock ∨ (Value.slice a' m c').ownBlock = some w.heap.size) → wpList Try.prog ops Q rest (a.put o.dst (.slice a' m c')) w') : wpList Try.prog ops Q (o :: rest) a w := by
  subst hm
  refine wpList_append_where w hgd s x t ho e z size bytes ht hinfo hzs hsz v n xs hs hown ⟨g, 0, none⟩ 1 1 news hx (by omega) (cells_lit hnews) h1 (by unfold maxLen; omega) ?_ (by decide) ?_
  · have : (n + 1) * bytes ≤ 101 * 100 := Nat.mul_le_mul (by omega) hb
    omega
  · intro v' w' h2 h3 h4
    obtain ⟨a', c', rfl, -, -⟩ := own_slice h2
    refine h a' c' w' h2 (Upd.of_grown h3 fun k hk => hk) ?_
    rcases h4 with ⟨g, -⟩ | ⟨g, -⟩
    · exact .inl g
    · exact .inr g

/-- The document's cells of the brands, from number i on. -/
def rc : Nat → List (Int × ByteArray) → List Value
  | _, [] => []
  | i, y :: l => .int .i64 (kd y.1 : Nat) :: .int .i64 (i : Nat) :: .string y.2 :: rc (i + 1) l
theorem rc_append (l : List (Int × ByteArray)) (y : Int × ByteArray) : ∀ i, rc i (l ++ [y]) = rc i l ++ [.int .i64 (kd y.1 : Nat), .int .i64 ((i + l.length : Nat) : Int), .string y.2] := by
  induction l with
  | nil => intro i; simp [rc]
  | cons z l ih =>
    intro i
    rw [List.cons_append, rc, rc, ih]
    simp only [List.cons_append, List.length_cons]
    rw [show i + 1 + l.length = i + (l.length + 1) by omega]
theorem rc_at (l : List (Int × ByteArray)) : ∀ (i j : Nat) (y : Int × ByteArray), l[j]? = some y → (rc i l)[j * 3]? = some (.int .i64 (kd y.1 : Nat)) ∧ (rc i l)[j * 3 + 1]? = some (.int .i64 ((i + j : Nat) : Int)) ∧ (rc i l)[j * 3 + 2]? = some (.string y.2) := by
  induction l with
  | nil => intro i j y h; simp at h
  | cons z l ih =>
    intro i j y h
    cases j with
    | zero =>
      simp at h
      subst h
      simp [rc]
    | succ j =>
      rw [List.getElem?_cons_succ] at h
      have := ih (i + 1) j y h
      rw [rc, show (j + 1) * 3 = j * 3 + 1 + 1 + 1 by omega]
      simp only [List.getElem?_cons_succ]
      rw [show i + (j + 1) = i + 1 + j by omega]
      exact this

theorem keep_blk {w w' : World} {e : TypeId} {s : Nat} {v : Value} {n : Nat} {xs : List Value} (hr : w.ownsRow 0 e s v n xs) (hu : Upd (fun k => v.ownBlock = some k) w w') {g : Nat} {c : Array Value} {t : TypeId} {fr : Nat × Nat} (hg : w.heap[g]? = some (.cells c t fr)) (ht : t ≠ e) : w'.heap[g]? = some (.cells c t fr) := by
  refine (hu.block g (Array.getElem?_eq_some_iff.1 hg).1 ?_).trans hg
  intro hv
  rcases hr.2 with ⟨rfl, -⟩ | ⟨q, cap, cur, rfl, -, hq, -⟩
  · simp [Value.ownBlock] at hv
  · simp only [Value.ownBlock, Option.some.injEq] at hv
    subst hv
    rw [hg] at hq
    injection hq with hq
    injection hq with _ h2
    exact ht h2
theorem keep_row {w w' : World} {e : TypeId} {s : Nat} {v : Value} {n : Nat} {xs : List Value} (hr : w.ownsRow 0 e s v n xs) (hu : Upd (fun k => v.ownBlock = some k) w w') {e2 : TypeId} {s2 : Nat} {v2 : Value} {n2 : Nat} {xs2 : List Value} (h2 : w.ownsRow 0 e2 s2 v2 n2 xs2) (ht : e2 ≠ e) : w'.ownsRow 0 e2 s2 v2 n2 xs2 := by
  refine ⟨h2.1, ?_⟩
  rcases h2.2 with h | ⟨g, cap, cur, rfl, hg, hh, r⟩
  · exact .inl h
  · exact .inr ⟨g, cap, cur, rfl, hg, keep_blk hr hu hh ht, r⟩
theorem row_below' {w w' : World} {e : TypeId} {s : Nat} {v : Value} {n : Nat} {xs : List Value} (hr : w.ownsRow 0 e s v n xs) (hb : Below w.heap.size w w') : w'.ownsRow 0 e s v n xs :=
  (Upd.of_below (F := fun _ => False) hb).row hr (fun _ _ h => h)

/-- What SealBrands' first loop has laid: n brands with their boxes and handles; n3 .. n6 of them stand in the rows. -/
structure Pile (w0 w : World) (L : List (Int × ByteArray)) (n n3 n4 n5 n6 : Nat) (v3 v4 v5 v6 : Value) (Bs : List Bd) (xs hs : List Nat) : Prop where
  bel : Below w0.heap.size w0 w
  nb : Bs.length = n
  nx : xs.length = n
  nh : hs.length = n
  r3 : w.ownsRow 0 29 1 v3 n3 ((Bs.take n3).map fun b => .pointer (some ⟨b.p, 0, none⟩))
  r4 : w.ownsRow 0 31 3 v4 n4 (rc 0 (L.take n4))
  r5 : w.ownsRow 0 41 1 v5 n5 ((xs.take n5).map fun x => .pointer (some ⟨x, 0, none⟩))
  r6 : w.ownsRow 0 36 1 v6 n6 ((hs.take n6).map fun x => .pointer (some ⟨x, 0, none⟩))
  w3 : ∀ k, v3.ownBlock = some k → w0.heap.size ≤ k
  w4 : ∀ k, v4.ownBlock = some k → w0.heap.size ≤ k
  w5 : ∀ k, v5.ownBlock = some k → w0.heap.size ≤ k
  w6 : ∀ k, v6.ownBlock = some k → w0.heap.size ≤ k
  br : ∀ (j : Nat) (b : Bd), Bs[j]? = some b → Br w b ∧ (b.k = 0 → b.q < w.heap.size) ∧ ∃ y : Int × ByteArray, L[j]? = some y ∧ b.k = kd y.1 ∧ b.s = y.2
  bx : ∀ (j : Nat) (b : Bd) (x h : Nat), Bs[j]? = some b → xs[j]? = some x → hs[j]? = some h → Bx w x b h
  dis : ∀ (i j : Nat) (a b : Bd), Bs[i]? = some a → Bs[j]? = some b → a.k = 0 → b.k = 0 → a.q = b.q → i = j

theorem Pile.quiet {w0 w w' : World} {L : List (Int × ByteArray)} {n n3 n4 n5 n6 : Nat} {v3 v4 v5 v6 : Value} {Bs : List Bd} {xs hs : List Nat} (h : Pile w0 w L n n3 n4 n5 n6 v3 v4 v5 v6 Bs xs hs) (k : Below w.heap.size w w') : Pile w0 w' L n n3 n4 n5 n6 v3 v4 v5 v6 Bs xs hs :=
  { h with
    bel := below_tr h.bel k
    r3 := row_below' h.r3 k
    r4 := row_below' h.r4 k
    r5 := row_below' h.r5 k
    r6 := row_below' h.r6 k
    br := fun j b hj => ⟨(h.br j b hj).1.below k, fun h0 => Nat.lt_of_lt_of_le ((h.br j b hj).2.1 h0) k.size, (h.br j b hj).2.2⟩
    bx := fun j b x y h1 h2 h3 => (h.bx j b x y h1 h2 h3).below k }

theorem take_snoc {α : Type} {l : List α} {n : Nat} {x : α} (h : l[n]? = some x) : l.take (n + 1) = l.take n ++ [x] := by
  rw [List.take_add_one, h]; rfl

theorem Pile.push3 {w0 w w' : World} {L : List (Int × ByteArray)} {n n3 n4 n5 n6 : Nat} {v3 v4 v5 v6 v' : Value} {Bs : List Bd} {xs hs : List Nat} (h : Pile w0 w L n n3 n4 n5 n6 v3 v4 v5 v6 Bs xs hs) {b : Bd} (hb : Bs[n3]? = some b) (hr : w'.ownsRow 0 29 1 v' (n3 + 1) (((Bs.take n3).map fun b => .pointer (some ⟨b.p, 0, none⟩)) ++ [.pointer (some ⟨b.p, 0, none⟩)])) (hu : Upd (fun k => v3.ownBlock = some k) w w') (hv : v'.ownBlock = v3.ownBlock ∨ v'.ownBlock = some w.heap.size) : Pile w0 w' L n (n3 + 1) n4 n5 n6 v' v4 v5 v6 Bs xs hs :=
  { h with
    bel := h.bel.trans (hu.below h.bel.size h.w3)
    r3 := by
      rw [take_snoc hb]
      rw [List.map_append]
      exact hr
    r4 := keep_row h.r3 hu h.r4 (by decide)
    r5 := keep_row h.r3 hu h.r5 (by decide)
    r6 := keep_row h.r3 hu h.r6 (by decide)
    w3 := fun k hk => by
      rcases hv with e | e
      · exact h.w3 k (e ▸ hk)
      · rw [e] at hk; injection hk with hk; have := h.bel.size; omega
    br := fun j b hj => ⟨⟨keep_blk h.r3 hu (h.br j b hj).1.row (by decide), fun h0 => keep_blk h.r3 hu ((h.br j b hj).1.own h0) (by decide)⟩, fun h0 => Nat.lt_of_lt_of_le ((h.br j b hj).2.1 h0) hu.size, (h.br j b hj).2.2⟩
    bx := fun j b x y h1 h2 h3 => ⟨keep_blk h.r3 hu (h.bx j b x y h1 h2 h3).row (by decide)⟩ }

theorem Pile.push4 {w0 w w' : World} {L : List (Int × ByteArray)} {n n3 n4 n5 n6 : Nat} {v3 v4 v5 v6 v' : Value} {Bs : List Bd} {xs hs : List Nat} (h : Pile w0 w L n n3 n4 n5 n6 v3 v4 v5 v6 Bs xs hs) {y : Int × ByteArray} (hb : L[n4]? = some y) (hr : w'.ownsRow 0 31 3 v' (n4 + 1) ((rc 0 (L.take n4)) ++ [.int .i64 (kd y.1 : Nat), .int .i64 (n4 : Nat), .string y.2])) (hu : Upd (fun k => v4.ownBlock = some k) w w') (hv : v'.ownBlock = v4.ownBlock ∨ v'.ownBlock = some w.heap.size) : Pile w0 w' L n n3 (n4 + 1) n5 n6 v3 v' v5 v6 Bs xs hs :=
  { h with
    bel := h.bel.trans (hu.below h.bel.size h.w4)
    r4 := by
      rw [take_snoc hb]
      rw [rc_append, List.length_take, Nat.min_eq_left (Nat.le_of_lt (List.getElem?_eq_some_iff.1 hb).1), Nat.zero_add]
      exact hr
    r3 := keep_row h.r4 hu h.r3 (by decide)
    r5 := keep_row h.r4 hu h.r5 (by decide)
    r6 := keep_row h.r4 hu h.r6 (by decide)
    w4 := fun k hk => by
      rcases hv with e | e
      · exact h.w4 k (e ▸ hk)
      · rw [e] at hk; injection hk with hk; have := h.bel.size; omega
    br := fun j b hj => ⟨⟨keep_blk h.r4 hu (h.br j b hj).1.row (by decide), fun h0 => keep_blk h.r4 hu ((h.br j b hj).1.own h0) (by decide)⟩, fun h0 => Nat.lt_of_lt_of_le ((h.br j b hj).2.1 h0) hu.size, (h.br j b hj).2.2⟩
    bx := fun j b x y h1 h2 h3 => ⟨keep_blk h.r4 hu (h.bx j b x y h1 h2 h3).row (by decide)⟩ }

theorem Pile.push5 {w0 w w' : World} {L : List (Int × ByteArray)} {n n3 n4 n5 n6 : Nat} {v3 v4 v5 v6 v' : Value} {Bs : List Bd} {xs hs : List Nat} (h : Pile w0 w L n n3 n4 n5 n6 v3 v4 v5 v6 Bs xs hs) {x : Nat} (hb : xs[n5]? = some x) (hr : w'.ownsRow 0 41 1 v' (n5 + 1) (((xs.take n5).map fun x => .pointer (some ⟨x, 0, none⟩)) ++ [.pointer (some ⟨x, 0, none⟩)])) (hu : Upd (fun k => v5.ownBlock = some k) w w') (hv : v'.ownBlock = v5.ownBlock ∨ v'.ownBlock = some w.heap.size) : Pile w0 w' L n n3 n4 (n5 + 1) n6 v3 v4 v' v6 Bs xs hs :=
  { h with
    bel := h.bel.trans (hu.below h.bel.size h.w5)
    r5 := by
      rw [take_snoc hb]
      rw [List.map_append]
      exact hr
    r3 := keep_row h.r5 hu h.r3 (by decide)
    r4 := keep_row h.r5 hu h.r4 (by decide)
    r6 := keep_row h.r5 hu h.r6 (by decide)
    w5 := fun k hk => by
      rcases hv with e | e
      · exact h.w5 k (e ▸ hk)
      · rw [e] at hk; injection hk with hk; have := h.bel.size; omega
    br := fun j b hj => ⟨⟨keep_blk h.r5 hu (h.br j b hj).1.row (by decide), fun h0 => keep_blk h.r5 hu ((h.br j b hj).1.own h0) (by decide)⟩, fun h0 => Nat.lt_of_lt_of_le ((h.br j b hj).2.1 h0) hu.size, (h.br j b hj).2.2⟩
    bx := fun j b x y h1 h2 h3 => ⟨keep_blk h.r5 hu (h.bx j b x y h1 h2 h3).row (by decide)⟩ }

theorem Pile.push6 {w0 w w' : World} {L : List (Int × ByteArray)} {n n3 n4 n5 n6 : Nat} {v3 v4 v5 v6 v' : Value} {Bs : List Bd} {xs hs : List Nat} (h : Pile w0 w L n n3 n4 n5 n6 v3 v4 v5 v6 Bs xs hs) {x : Nat} (hb : hs[n6]? = some x) (hr : w'.ownsRow 0 36 1 v' (n6 + 1) (((hs.take n6).map fun x => .pointer (some ⟨x, 0, none⟩)) ++ [.pointer (some ⟨x, 0, none⟩)])) (hu : Upd (fun k => v6.ownBlock = some k) w w') (hv : v'.ownBlock = v6.ownBlock ∨ v'.ownBlock = some w.heap.size) : Pile w0 w' L n n3 n4 n5 (n6 + 1) v3 v4 v5 v' Bs xs hs :=
  { h with
    bel := h.bel.trans (hu.below h.bel.size h.w6)
    r6 := by
      rw [take_snoc hb]
      rw [List.map_append]
      exact hr
    r3 := keep_row h.r6 hu h.r3 (by decide)
    r4 := keep_row h.r6 hu h.r4 (by decide)
    r5 := keep_row h.r6 hu h.r5 (by decide)
    w6 := fun k hk => by
      rcases hv with e | e
      · exact h.w6 k (e ▸ hk)
      · rw [e] at hk; injection hk with hk; have := h.bel.size; omega
    br := fun j b hj => ⟨⟨keep_blk h.r6 hu (h.br j b hj).1.row (by decide), fun h0 => keep_blk h.r6 hu ((h.br j b hj).1.own h0) (by decide)⟩, fun h0 => Nat.lt_of_lt_of_le ((h.br j b hj).2.1 h0) hu.size, (h.br j b hj).2.2⟩
    bx := fun j b x y h1 h2 h3 => ⟨keep_blk h.r6 hu (h.bx j b x y h1 h2 h3).row (by decide)⟩ }

theorem Pile.more {w0 w : World} {L : List (Int × ByteArray)} {n : Nat} {v3 v4 v5 v6 : Value} {Bs : List Bd} {xs hs : List Nat} (h : Pile w0 w L n n n n n v3 v4 v5 v6 Bs xs hs) {w' : World} (k : Below w.heap.size w w') {b : Bd} {x g : Nat} {y : Int × ByteArray} (hy : L[n]? = some y)
    (hb : Br w' b) (hk : b.k = kd y.1) (hs1 : b.s = y.2) (hq : b.k = 0 → w.heap.size ≤ b.q ∧ b.q < w'.heap.size) (hx : Bx w' x b g) : Pile w0 w' L (n + 1) n n n n v3 v4 v5 v6 (Bs ++ [b]) (xs ++ [x]) (hs ++ [g]) := by
  have h' := h.quiet k
  have lb := h.nb
  have lx := h.nx
  have lh := h.nh
  have cases_b : ∀ (j : Nat) (c : Bd), (Bs ++ [b])[j]? = some c → Bs[j]? = some c ∧ j < n ∨ j = n ∧ c = b := fun j c hj => by
    by_cases hl : j < n
    · rw [List.getElem?_append_left (by omega)] at hj; exact .inl ⟨hj, hl⟩
    · rw [List.getElem?_append_right (by omega)] at hj
      have hj0 : j - Bs.length = 0 := by
        have := (List.getElem?_eq_some_iff.1 hj).1
        simp at this; omega
      rw [hj0] at hj
      simp at hj
      exact .inr ⟨by omega, hj.symm⟩
  have cases_n : ∀ (l : List Nat) (g : Nat) (j c : Nat), l.length = n → (l ++ [g])[j]? = some c → l[j]? = some c ∧ j < n ∨ j = n ∧ c = g := fun l g j c hl0 hj => by
    by_cases hl : j < n
    · rw [List.getElem?_append_left (by omega)] at hj; exact .inl ⟨hj, hl⟩
    · rw [List.getElem?_append_right (by omega)] at hj
      have hj0 : j - l.length = 0 := by
        have := (List.getElem?_eq_some_iff.1 hj).1
        simp at this; omega
      rw [hj0] at hj
      simp at hj
      exact .inr ⟨by omega, hj.symm⟩
  exact
  { h' with
    nb := by simp [lb]
    nx := by simp [lx]
    nh := by simp [lh]
    r3 := by rw [List.take_append_of_le_length (by omega)]; exact h'.r3
    r5 := by rw [List.take_append_of_le_length (by omega)]; exact h'.r5
    r6 := by rw [List.take_append_of_le_length (by omega)]; exact h'.r6
    br := fun j c hj => by
      rcases cases_b j c hj with ⟨hj, -⟩ | ⟨rfl, rfl⟩
      · exact h'.br j c hj
      · exact ⟨hb, fun h0 => (hq h0).2, y, hy, hk, hs1⟩
    bx := fun j c x2 g2 h1 h2 h3 => by
      rcases cases_b j c h1 with ⟨hj, hlt⟩ | ⟨e1, rfl⟩
      · rcases cases_n xs x j x2 lx h2 with ⟨hj2, -⟩ | ⟨e, -⟩
        · rcases cases_n hs g j g2 lh h3 with ⟨hj3, -⟩ | ⟨e, -⟩
          · exact h'.bx j c x2 g2 hj hj2 hj3
          · omega
        · omega
      · rcases cases_n xs x j x2 lx h2 with ⟨-, e⟩ | ⟨-, rfl⟩
        · omega
        · rcases cases_n hs g j g2 lh h3 with ⟨-, e⟩ | ⟨-, rfl⟩
          · omega
          · exact hx
    dis := fun i j c d h1 h2 k1 k2 e => by
      rcases cases_b i c h1 with ⟨hi, -⟩ | ⟨rfl, rfl⟩
      · rcases cases_b j d h2 with ⟨hj, -⟩ | ⟨rfl, rfl⟩
        · exact h.dis i j c d hi hj k1 k2 e
        · have := (h.br i c hi).2.1 k1
          have := (hq k2).1
          omega
      · rcases cases_b j d h2 with ⟨hj, -⟩ | ⟨rfl, rfl⟩
        · have := (h.br j d hj).2.1 k2
          have := (hq k1).1
          omega
        · rfl }

theorem Pile.start (w : World) (L : List (Int × ByteArray)) : Pile w w L 0 0 0 0 0 (.slice none 0 0) (.slice none 0 0) (.slice none 0 0) (.slice none 0 0) [] [] [] where
  bel := Below.refl _ _
  nb := rfl
  nx := rfl
  nh := rfl
  r3 := ⟨rfl, .inl ⟨rfl, rfl⟩⟩
  r4 := ⟨by simp [rc], .inl ⟨rfl, rfl⟩⟩
  r5 := ⟨rfl, .inl ⟨rfl, rfl⟩⟩
  r6 := ⟨rfl, .inl ⟨rfl, rfl⟩⟩
  w3 := fun k hk => by simp [Value.ownBlock] at hk
  w4 := fun k hk => by simp [Value.ownBlock] at hk
  w5 := fun k hk => by simp [Value.ownBlock] at hk
  w6 := fun k hk => by simp [Value.ownBlock] at hk
  br := fun j b h => by simp at h
  bx := fun j b x g h => by simp at h
  dis := fun i j a b h => by simp at h
end Go.Proofs.Ytbofeednhihniaa
