/- The document's own search for a circle: its edges, and its rows, as plain lists and in memory. -/
import Derived.Test.YtfpegmmciphjiaaRefB
namespace Go.Proofs.Ytfpegmmciphjiaa
open Go.RowKit Relation

/-- The edges out of the first i waiting ones. -/
def P1 (H W : List Lk) (i : Nat) (a b : Int) : Prop := ∃ S x R y, W = S ++ x :: R ∧ S.length < i ∧ (y ∈ H ∨ y ∈ S) ∧ meet x y = true ∧ x.who = a ∧ y.who = b
/-- .. and those out of x to some of a list. -/
def PE (H W : List Lk) (i : Nat) (x : Lk) (Y : List Lk) (a b : Int) : Prop := P1 H W i a b ∨ (x.who = a ∧ ∃ y ∈ Y, meet x y = true ∧ y.who = b)
theorem P1_zero {H W : List Lk} {a b : Int} : ¬ P1 H W 0 a b := by rintro ⟨S, x, R, y, -, h, -⟩; omega
theorem P1_all {H W : List Lk} {a b : Int} : P1 H W W.length a b ↔ E H W a b := by
  constructor
  · rintro ⟨S, x, R, y, h1, -, h3⟩; exact ⟨S, x, R, y, h1, h3⟩
  · rintro ⟨S, x, R, y, h1, h3⟩; exact ⟨S, x, R, y, h1, by rw [h1]; simp, h3⟩
theorem PE_nil {H W : List Lk} {i : Nat} {x : Lk} {a b : Int} : PE H W i x [] a b ↔ P1 H W i a b := by simp [PE]
theorem PE_push {H W : List Lk} {i : Nat} {x y : Lk} {Y : List Lk} {a b : Int} : PE H W i x (Y ++ [y]) a b ↔ PE H W i x Y a b ∨ (x.who = a ∧ meet x y = true ∧ y.who = b) := by
  unfold PE
  constructor
  · rintro (h | ⟨h1, z, hz, h2, h3⟩)
    · exact .inl (.inl h)
    · rcases List.mem_append.1 hz with hz | hz
      · exact .inl (.inr ⟨h1, z, hz, h2, h3⟩)
      · simp at hz; subst hz; exact .inr ⟨h1, h2, h3⟩
  · rintro ((h | ⟨h1, z, hz, h2, h3⟩) | ⟨h1, h2, h3⟩)
    · exact .inl h
    · exact .inr ⟨h1, z, by simp [hz], h2, h3⟩
    · exact .inr ⟨h1, y, by simp, h2, h3⟩
theorem PE_succ {H W : List Lk} {i : Nat} {x : Lk} (hx : W[i]? = some x) {a b : Int} : PE H W i x (H ++ W.take i) a b ↔ P1 H W (i + 1) a b := by
  obtain ⟨hsp, hsl⟩ := split_at hx
  constructor
  · rintro (⟨S, z, R, y, h1, h2, h3⟩ | ⟨h1, y, hy, h2, h3⟩)
    · exact ⟨S, z, R, y, h1, by omega, h3⟩
    · exact ⟨_, x, _, y, hsp, by omega, List.mem_append.1 hy, h2, h1, h3⟩
  · rintro ⟨S, z, R, y, h1, h2, h3, h4, h5, h6⟩
    by_cases he : S.length = i
    · obtain ⟨rfl, rfl, rfl⟩ := split_uniq h1 hsp (by rw [he, hsl])
      exact .inr ⟨h5, y, List.mem_append.2 h3, h4, h6⟩
    · exact .inl ⟨S, z, R, y, h1, by omega, h3, h4, h5, h6⟩

/-- Whos as locks, so that those not yet met can be counted. -/
def all256 : List Lk := (List.range 256).map fun (i : Nat) => (⟨(i : Int), 0, 0, false⟩ : Lk)
theorem all256_len : all256.length = 256 := by simp [all256]
theorem all256_mem {x : Int} (h1 : 0 ≤ x) (h2 : x < 256) : (⟨x, 0, 0, false⟩ : Lk) ∈ all256 := List.mem_map.2 ⟨x.toNat, List.mem_range.2 (by omega), by simp; omega⟩

/-- The search from one who: K are met, q is the row, k of it are gone through. -/
structure BF (Ed : Int → Int → Prop) (G : Nat → List Int) (who : Nat) (K q : List Int) (k : Nat) : Prop where
  row : q = G who ++ K.flatMap fun x => G x.toNat
  gon : ∀ j x, j < k → q[j]? = some x → x ∈ K ∧ x ≠ (who : Int)
  kin : ∀ x ∈ K, x ∈ q
  rch : ∀ b ∈ q, TransGen Ed (who : Int) b
  cnt : mu all256 K + K.length ≤ 256
theorem bf_first {Ed : Int → Int → Prop} {G : Nat → List Int} (hG : ∀ a b, a < 256 → (b ∈ G a ↔ Ed (a : Int) b)) {who : Nat} (hw : who < 256) : BF Ed G who [] (G who) 0 :=
  ⟨by simp, fun j x h => by omega, by simp, fun b hb => .single ((hG who b hw).1 hb), by unfold mu; have := List.length_filter_le (fun x : Lk => !([] : List Int).contains x.who) all256; rw [all256_len] at this; simp only [List.length_nil]; omega⟩
theorem bf_met {Ed : Int → Int → Prop} {G : Nat → List Int} {who : Nat} {K q : List Int} {k : Nat} {x : Int} (h : BF Ed G who K q k) (hx : q[k]? = some x) (hw : x ≠ (who : Int)) (hK : x ∈ K) : BF Ed G who K q (k + 1) :=
  ⟨h.row, fun j y hj hy => by
    by_cases e : j = k
    · subst e; rw [hx] at hy; simp at hy; subst hy; exact ⟨hK, hw⟩
    · exact h.gon j y (by omega) hy, h.kin, h.rch, h.cnt⟩
theorem bf_new {Ed : Int → Int → Prop} {G : Nat → List Int} (hG : ∀ a b, a < 256 → (b ∈ G a ↔ Ed (a : Int) b)) {who : Nat} {K q : List Int} {k : Nat} {x : Int} (h : BF Ed G who K q k) (hx : q[k]? = some x) (hw : x ≠ (who : Int)) (hK : x ∉ K) (h1 : 0 ≤ x) (h2 : x < 256) : BF Ed G who (K ++ [x]) (q ++ G x.toNat) (k + 1) := by
  have hkl := (List.getElem?_eq_some_iff.1 hx).1
  have hxq : x ∈ q := List.mem_of_getElem? hx
  refine ⟨by rw [h.row]; simp, fun j y hj hy => ?_, fun y hy => ?_, fun b hb => ?_, ?_⟩
  · rw [List.getElem?_append_left (by omega)] at hy
    by_cases e : j = k
    · subst e; rw [hx] at hy; simp at hy; subst hy; exact ⟨by simp, hw⟩
    · obtain ⟨g1, g2⟩ := h.gon j y (by omega) hy
      exact ⟨by simp [g1], g2⟩
  · rcases List.mem_append.1 hy with hy | hy
    · simp [h.kin y hy]
    · simp at hy; subst hy; simp [hxq]
  · rcases List.mem_append.1 hb with hb | hb
    · exact h.rch b hb
    · have := (hG x.toNat b (by omega)).1 hb
      rw [Int.toNat_of_nonneg h1] at this
      exact .tail (h.rch x hxq) this
  · have := mu_add (U := all256) (K := K) (all256_mem h1 h2) (by simpa using hK)
    have := h.cnt
    simp only [List.length_append, List.length_singleton] at *
    omega
theorem bf_done {Ed : Int → Int → Prop} {G : Nat → List Int} (hG : ∀ a b, a < 256 → (b ∈ G a ↔ Ed (a : Int) b)) {who : Nat} (hw : who < 256) {K q : List Int} (h : BF Ed G who K q q.length) (hr : ∀ x ∈ q, 0 ≤ x ∧ x < 256) : ¬ TransGen Ed (who : Int) (who : Int) := by
  intro t
  have hq : ∀ x ∈ q, x ∈ K ∧ x ≠ (who : Int) := fun x hx => by
    obtain ⟨j, hj⟩ := List.getElem?_of_mem hx
    exact h.gon j x (List.getElem?_eq_some_iff.1 hj).1 hj
  have key : ∀ b, TransGen Ed (who : Int) b → b ∈ q := fun b t => by
    induction t with
    | single x => rw [h.row]; exact List.mem_append_left _ ((hG who _ hw).2 x)
    | tail _ x ih =>
      rename_i c d _
      have hc := hr c ih
      rw [h.row]
      refine List.mem_append_right _ (List.mem_flatMap.2 ⟨c, (hq c ih).1, (hG c.toNat d (by omega)).2 ?_⟩)
      rw [Int.toNat_of_nonneg hc.1]; exact x
  exact (hq _ (key _ t)).2 rfl

/-- append of numbers: the run. -/
theorem run_appI {w : World} {v : Value} {l r : List Int} {xa : Option Addr} {c : Nat} (ty : TypeId) (hv : OwnI w v l) (hx : r ≠ [] → ∃ g o, xa = some ⟨g, o, none⟩ ∧ Rd w g o (nums r)) (hb : l.length + r.length ≤ 4294967296) :
    ∃ v' w', (Builtin.append_ #[60, 60] ty #[v, .slice xa r.length c]).run Try.prog w = .ok v' w' ∧ OwnI w' v' (l ++ r) ∧ Upd (fun k => v.ownBlock = some k) w w' ∧ (v'.ownBlock = v.ownBlock ∨ v'.ownBlock = some w.heap.size ∧ Below w.heap.size w w') := by
  obtain ⟨i, hi, hz, hs, hbt⟩ := info_parts info3
  by_cases hr : r = []
  · subst hr
    obtain ⟨ba, cap, rfl, hnc, -⟩ := own_slice hv
    exact ⟨_, w, run_append_zero w 60 ty 3 i Try.underlying60 hi ba l.length cap hnc xa c, by rw [List.append_nil]; exact hv, Upd.refl _ _, .inl rfl⟩
  · obtain ⟨g, o, rfl, hc⟩ := hx hr
    have hp := List.length_pos_iff.2 hr
    obtain ⟨v', w', h1, h2, h3, h4⟩ := run_append_where (P := Try.prog) w 60 ty 3 _ 1 8 Try.underlying60 i hi hz hs hbt rfl (by decide) v l.length (nums l) hv ⟨g, o, none⟩ r.length c (nums r) (by simp [nums]) (rd_news hc) (fun u hu => by simp only [nums, List.mem_map] at hu; obtain ⟨z, -, rfl⟩ := hu; rfl) (by unfold maxLen; omega) (by omega) hp
    refine ⟨v', w', h1, ?_, Upd.of_grown h3 fun k hk => hk, ?_⟩
    · unfold OwnI
      rw [List.length_append, show nums (l ++ r) = nums l ++ nums r by simp [nums]]
      exact h2
    · rcases h4 with ⟨g, -⟩ | ⟨g, k⟩
      · exact .inl g
      · exact .inr ⟨g, k⟩
theorem wpList_appI {w : World} {ops : Array Oper} {rest : List Oper} {o : Oper} {a : Act} {Q : Exit → Act → World → Prop} (hgd : o.guard = none) (s x : Operand)
    (ho : o.op = .call { callee := .builtin .append, args := #[s, x], argTypes := #[60, 60] }) (v : Value) (l r : List Int) (xa : Option Addr) (n c : Nat) (hs : a.eval s = v) (hx : a.eval x = .slice xa n c) (hn : r.length = n) (hv : OwnI w v l) (hr : r ≠ [] → ∃ g o, xa = some ⟨g, o, none⟩ ∧ Rd w g o (nums r)) (hb : l.length + r.length ≤ 4294967296) (m : Nat) (hm : l.length + r.length = m)
    (h : ∀ a' c' w', OwnI w' (.slice a' m c') (l ++ r) → Upd (fun k => v.ownBlock = some k) w w' → ((Value.slice a' m c').ownBlock = v.ownBlock ∨ (Value.slice a' m c').ownBlock = some w.heap.size ∧ Below w.heap.size w w') → wpList Try.prog ops Q rest (a.put o.dst (.slice a' m c')) w') : wpList Try.prog ops Q (o :: rest) a w := by
  subst hn
  obtain ⟨v', w', h1, h2, h3, h4⟩ := run_appI o.type hv hr hb (c := c)
  obtain ⟨a', c', rfl, -, -⟩ := own_slice h2
  rw [List.length_append, hm] at h1 h2 h4
  refine wpList_plain hgd fun K hK => ?_
  unfold Oper.wp execOp
  simp only [ho, resolve, invoke, builtin, Sem.run_bind, Sem.run_pure, Result.andThen_ok, List.map_toArray, List.map_cons, List.map_nil, hs, hx, h1]
  exact hK _ _ (h a' c' w' h2 h3 h4)
theorem step_appI {ops : Array Oper} {o : Oper} {a : Act} {w : World} {K : Act → World → Prop} {Q : Exit → Act → World → Prop} {E : Prop} (hgd : o.guard = none) (s x : Operand)
    (ho : o.op = .call { callee := .builtin .append, args := #[s, x], argTypes := #[60, 60] }) (v : Value) (l r : List Int) (xa : Option Addr) (n c : Nat) (hs : a.eval s = v) (hx : a.eval x = .slice xa n c) (hn : r.length = n) (hv : OwnI w v l) (hr : r ≠ [] → ∃ g o, xa = some ⟨g, o, none⟩ ∧ Rd w g o (nums r)) (hb : l.length + r.length ≤ 4294967296) (m : Nat) (hm : l.length + r.length = m)
    (h : ∀ a' c' w', OwnI w' (.slice a' m c') (l ++ r) → Upd (fun k => v.ownBlock = some k) w w' → ((Value.slice a' m c').ownBlock = v.ownBlock ∨ (Value.slice a' m c').ownBlock = some w.heap.size ∧ Below w.heap.size w w') → K (a.put o.dst (.slice a' m c')) w') :
    if Region.wanted o (yielded ops a.tmps) = true then Oper.wp Try.prog o a w K Q else E := by
  have hw : Region.wanted o (yielded ops a.tmps) = true := by simp [Region.wanted, hgd]
  rw [if_pos hw]
  subst hn
  obtain ⟨v', w', h1, h2, h3, h4⟩ := run_appI o.type hv hr hb (c := c)
  obtain ⟨a', c', rfl, -, -⟩ := own_slice h2
  rw [List.length_append, hm] at h1 h2 h4
  unfold Oper.wp
  simp [execOp, ho, resolve, invoke, builtin, hs, hx, h1, Result.andThen]
  exact h a' c' w' h2 h3 h4
end Go.Proofs.Ytfpegmmciphjiaa
