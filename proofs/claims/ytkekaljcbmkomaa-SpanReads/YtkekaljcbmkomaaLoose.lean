/-
  A region that draws its order, in which memory only grows, and some of whose answers are told only up to the place where they lie: one walk in the text's order, with a token in the place of such an answer.
-/
import Derived.Test.YtkekaljcbmkomaaBase
namespace Go.Proofs.Ytkekaljcbmkomaa
open Go.RowKit

section
variable {P : Program} {ops : Array Oper} {G : Value → Value → World → Prop} {S : List Nat} {w0 : World} {Q : Act → Prop}

/-- What a slot holds (r), against what the walk says of it (g): that; in the slots S: something that G lets pass for it. -/
def Holds (G : Value → Value → World → Prop) (S : List Nat) (w : World) (d : Nat) (g r : Value) : Prop := if S.contains d = true then G g r w else r = g

def Puts (G : Value → Value → World → Prop) (S : List Nat) (w : World) (g r : Value) : Option Nat → Prop
  | none => True
  | some d => Holds G S w d g r

/-- The operation, run in the frame a: it answers at once, or calls; and what comes passes for v. -/
def TellsUpon (P : Program) (G : Value → Value → World → Prop) (S : List Nat) (dst : Option Nat) (w : World) (v : Value) : Result Next → Prop
  | .ok (.value u) w' => w' = w ∧ Puts G S w v u dst
  | .ok (.enter f args) w' => w' = w ∧ Calls P f args w fun e w'' => ∃ u, e = .returned u ∧ Below w.heap.size w w'' ∧ Puts G S w'' v u dst
  | _ => False
def Tells (P : Program) (G : Value → Value → World → Prop) (S : List Nat) (o : Oper) (a : Act) (w : World) (v : Value) : Prop := TellsUpon P G S o.dst w v ((execOp a.eval o).run P w)

/-- .. in every world that has grown out of w0, and every frame that passes for g in the slots that the operation looks at. -/
def Sim (P : Program) (ops : Array Oper) (G : Value → Value → World → Prop) (S : List Nat) (w0 : World) (o : Oper) (g : Act) (v : Value) : Prop :=
  ∀ r w, Below w0.heap.size w0 w → (∀ d ∈ o.looksAt ops, Holds G S w d (g.eval (.tmp d)) (r.eval (.tmp d))) → Tells P G S o r w v

def Steps (P : Program) (ops : Array Oper) (G : Value → Value → World → Prop) (S : List Nat) (w0 : World) (o : Oper) (g : Act) (v : Value) : Prop :=
  (Region.wanted o (yielded ops g.tmps) = true ∧ Sim P ops G S w0 o g v) ∨ (Region.wanted o (yielded ops g.tmps) = false ∧ v = undef)

def wpLoose (P : Program) (ops : Array Oper) (G : Value → Value → World → Prop) (S : List Nat) (w0 : World) (Q : Act → Prop) : List Oper → Act → Prop
  | [], g => Q g
  | o :: l, g => ∃ v, Steps P ops G S w0 o g v ∧ wpLoose P ops G S w0 Q l (g.put o.dst v)

/-- What of a region can be seen by looking: an operation waits only for earlier ones, and for whoever writes what it looks at; no slot is written twice; a guard lies in no slot of S; each slot of S is written here. -/
def looseB (ops : Array Oper) (S : List Nat) : Bool :=
  Region.noSelect ops &&
  (S.all fun d => (List.range ops.size).any fun i => ((ops[i]?).map fun o => o.dst == some d).getD false) &&
  (List.range ops.size).all fun i => ((ops[i]?).map fun o =>
    (o.after.all fun e => !Region.binds .any e || decide (e.on < i)) &&
    (match o.guard with
      | some (g, _) => (((ops[g]?).bind (·.dst)).map fun d => !S.contains d).getD true
      | none => true) &&
    (List.range ops.size).all fun j => ((ops[j]?).map fun oj => (oj.dst.map fun d =>
      (!(o.looksAt ops).contains d || o.after.any fun e => Region.binds .any e && e.on == j) && (i == j || o.dst != some d)).getD true).getD true).getD true

structure LooseOk (ops : Array Oper) (S : List Nat) : Prop where
  sel : ∀ (j : Nat) (o : Oper) cs b, ops[j]? = some o → o.op ≠ .select cs b
  own : ∀ d, S.contains d = true → ∃ (i : Nat) (o : Oper), ops[i]? = some o ∧ o.dst = some d
  early : ∀ (i : Nat) (o : Oper), ops[i]? = some o → ∀ e ∈ o.after, Region.binds .any e = true → e.on < i
  guard : ∀ (i : Nat) (o : Oper), ops[i]? = some o → ∀ g b, o.guard = some (g, b) → ∀ d, (ops[g]?).bind (·.dst) = some d → S.contains d = false
  waits : ∀ (i : Nat) (o : Oper), ops[i]? = some o → ∀ (j : Nat) (oj : Oper), ops[j]? = some oj → ∀ d, oj.dst = some d → d ∈ o.looksAt ops → ∃ e ∈ o.after, Region.binds .any e = true ∧ e.on = j
  once : ∀ (i : Nat) (o : Oper), ops[i]? = some o → ∀ (j : Nat) (oj : Oper), ops[j]? = some oj → ∀ d, oj.dst = some d → o.dst = some d → i = j

theorem looseOk (h : looseB ops S = true) : LooseOk ops S := by
  unfold looseB at h
  simp only [Bool.and_eq_true, List.all_eq_true, List.mem_range] at h
  obtain ⟨⟨h1, h2⟩, h3⟩ := h
  have lt : ∀ {i o}, ops[i]? = some o → i < ops.size := fun hi => (Array.getElem?_eq_some_iff.1 hi).1
  have at3 : ∀ i o, ops[i]? = some o → _ := fun i o hi => by
    have := h3 i (lt hi)
    rw [hi] at this
    simp only [Option.map_some, Option.getD_some, Bool.and_eq_true, List.all_eq_true, List.mem_range] at this
    exact this
  refine ⟨Region.noSelect_spec h1, fun d hd => ?_, fun i o hi e he hb => ?_, fun i o hi g b hg d hd => ?_, fun i o hi j oj hj d hd hl => ?_, fun i o hi j oj hj d hd hl => ?_⟩
  · have := h2 d (by simpa using hd)
    rw [List.any_eq_true] at this
    obtain ⟨i, -, hi⟩ := this
    cases ho : ops[i]? with
    | none => simp [ho] at hi
    | some o => exact ⟨i, o, ho, by simpa [ho] using hi⟩
  · have := (at3 i o hi).1.1
    rw [Array.all_eq_true_iff_forall_mem] at this
    simpa [hb] using this e he
  · have := (at3 i o hi).1.2
    rw [hg] at this
    simp only [hd, Option.map_some, Option.getD_some] at this
    simpa using this
  · have := (at3 i o hi).2 j (lt hj)
    rw [hj] at this
    simp only [Option.map_some, Option.getD_some, hd, Bool.and_eq_true] at this
    have h4 := this.1
    rw [Bool.or_eq_true] at h4
    rcases h4 with h4 | h4
    · simp [hl] at h4
    · rw [Array.any_eq_true] at h4
      obtain ⟨k, hk, h5⟩ := h4
      rw [Bool.and_eq_true] at h5
      exact ⟨_, Array.getElem_mem hk, h5.1, by simpa using h5.2⟩
  · have := (at3 i o hi).2 j (lt hj)
    rw [hj] at this
    simp only [Option.map_some, Option.getD_some, hd, Bool.and_eq_true] at this
    have h4 := this.2
    rw [Bool.or_eq_true] at h4
    rcases h4 with h4 | h4
    · simpa using h4
    · simp [hl] at h4

theorem eval_of_get {a b : Act} {d : Nat} (h : a.tmps[d]? = b.tmps[d]?) : a.eval (.tmp d) = b.eval (.tmp d) := by
  simp [Act.eval, h]

theorem wanted_congr {o : Oper} {a b : Act} (h : ∀ g c, o.guard = some (g, c) → ∀ d, (ops[g]?).bind (·.dst) = some d → a.tmps[d]? = b.tmps[d]?) :
    Region.wanted o (yielded ops a.tmps) = Region.wanted o (yielded ops b.tmps) := by
  unfold Region.wanted
  cases hg : o.guard with
  | none => rfl
  | some gc =>
    obtain ⟨g, c⟩ := gc
    have hy : yielded ops a.tmps g = yielded ops b.tmps g := by
      unfold yielded
      cases ht : (ops[g]?).bind (·.dst) with
      | none => rfl
      | some d => simp only [Option.bind_some, h g c hg d ht]
    simp only [hy]

theorem guard_looks {o : Oper} {g : Nat} {c : Bool} {d : Nat} (hg : o.guard = some (g, c)) (hd : (ops[g]?).bind (·.dst) = some d) : d ∈ o.looksAt ops := by
  simp [Oper.looksAt, hg, hd]

theorem Steps.congr {o : Oper} {a b : Act} {v : Value} (hs : Steps P ops G S w0 o a v) (h : ∀ d ∈ o.looksAt ops, b.tmps[d]? = a.tmps[d]?) : Steps P ops G S w0 o b v := by
  have hw : Region.wanted o (yielded ops b.tmps) = Region.wanted o (yielded ops a.tmps) := wanted_congr fun g c hg d hd => h d (guard_looks hg hd)
  unfold Steps at *
  rw [hw]
  refine hs.imp (fun ⟨h1, h2⟩ => ⟨h1, fun r w hb hl => h2 r w hb fun d hd => ?_⟩) id
  have := hl d hd
  rwa [eval_of_get (h d hd)] at this

theorem put_get_ne {a : Act} {dst : Option Nat} {v : Value} {d : Nat} (h : dst ≠ some d) : (a.put dst v).tmps[d]? = a.tmps[d]? := by
  cases dst with
  | none => rfl
  | some e => simp [Act.put, Array.getElem?_setIfInBounds_ne (fun he : e = d => h (by rw [he]))]
theorem put_get {a : Act} {v : Value} {d : Nat} (h : d < a.tmps.size) : (a.put (some d) v).tmps[d]? = some v := by
  simp [Act.put, h]
theorem put_size (a : Act) (dst : Option Nat) (v : Value) : (a.put dst v).tmps.size = a.tmps.size := by cases dst <;> simp [Act.put]
theorem put_defers (a : Act) (dst : Option Nat) (v : Value) : (a.put dst v).defers = a.defers := by cases dst <;> rfl

/-- The walk's end: one frame, at which each operation's step holds. -/
theorem loose_end (ok : LooseOk ops S) : ∀ (l : List Oper) (k : Nat) (a : Act), (∀ j, l[j]? = ops[k + j]?) → wpLoose P ops G S w0 Q l a →
    ∃ g : Act, Q g ∧ g.tmps.size = a.tmps.size ∧ g.defers = a.defers ∧ (∀ d, (∀ (j : Nat) (o : Oper), l[j]? = some o → o.dst ≠ some d) → g.tmps[d]? = a.tmps[d]?) ∧
      ∀ (j : Nat) (o : Oper), l[j]? = some o → ∃ v, Steps P ops G S w0 o g v ∧ ∀ d, o.dst = some d → d < a.tmps.size → g.tmps[d]? = some v
  | [], _, a, _, h => ⟨a, h, rfl, rfl, fun _ _ => rfl, fun j o hj => by simp at hj⟩
  | o :: l, k, a, hl, ⟨v, hs, h⟩ => by
    obtain ⟨g, hQ, h1, h2, h3, h4⟩ := loose_end ok l (k + 1) _ (fun j => by have := hl (j + 1); simpa [Nat.add_assoc, Nat.add_comm 1 j] using this) h
    have h0 : ops[k]? = some o := by simpa using (hl 0).symm
    have hl' : ∀ (j : Nat) (oj : Oper), l[j]? = some oj → ops[k + 1 + j]? = some oj := fun j oj hj => by
      have := hl (j + 1)
      rw [List.getElem?_cons_succ, hj] at this
      rw [this]; congr 1; omega
    rw [put_size] at h1
    rw [put_defers] at h2
    have hlook : ∀ d ∈ o.looksAt ops, g.tmps[d]? = a.tmps[d]? := fun d hd => by
      have hno : ∀ (j : Nat) (oj : Oper), ops[j]? = some oj → k ≤ j → oj.dst ≠ some d := fun j oj hj hk he => by
        obtain ⟨e, he1, he2, he3⟩ := ok.waits k o h0 j oj hj d he hd
        have := ok.early k o h0 e he1 he2
        omega
      rw [h3 d fun j oj hj => hno _ oj (hl' j oj hj) (by omega)]
      exact put_get_ne (hno k o h0 (Nat.le_refl _))
    refine ⟨g, hQ, h1, h2, fun d hd => ?_, fun j oj hj => ?_⟩
    · rw [h3 d fun j oj hj => hd (j + 1) oj (by simpa using hj)]
      exact put_get_ne (hd 0 o (by simp))
    · cases j with
      | zero =>
        obtain rfl : o = oj := by simpa using hj
        refine ⟨v, hs.congr hlook, fun d hd hlt => ?_⟩
        rw [h3 d fun j oj hj he => by
          have := ok.once _ _ (hl' j oj hj) k o h0 d hd he
          omega, hd]
        exact put_get hlt
      | succ j =>
        obtain ⟨u, h5, h6⟩ := h4 j oj (by simpa using hj)
        exact ⟨u, h5, fun d hd hlt => h6 d hd (by rw [put_size]; exact hlt)⟩

/-- How far the true frame has come, against the walk's last. -/
structure Along (ops : Array Oper) (G : Value → Value → World → Prop) (S : List Nat) (w0 : World) (g : Act) (listed : Array Bool) (r : Act) (w : World) : Prop where
  len : listed.size = ops.size
  below : Below w0.heap.size w0 w
  size : r.tmps.size = g.tmps.size
  defers : r.defers = g.defers
  slot : ∀ d, (∀ (i : Nat) (o : Oper), ops[i]? = some o → o.dst = some d → listed.getD i false = true) → Holds G S w d (g.eval (.tmp d)) (r.eval (.tmp d))

theorem Holds.grow (hG : ∀ g r w w', G g r w → Below w.heap.size w w' → G g r w') {w w' : World} {d : Nat} {g r : Value} (h : Holds G S w d g r) (hb : Below w.heap.size w w') : Holds G S w' d g r := by
  unfold Holds at *
  split
  · rename_i hs; rw [if_pos hs] at h; exact hG _ _ _ _ h hb
  · rename_i hs; rw [if_neg hs] at h; exact h

theorem getD_true {l : Array Bool} {i : Nat} (h : i < l.size) : l.getD i true = l.getD i false := by simp [h]

theorem Along.next (hG : ∀ g r w w', G g r w → Below w.heap.size w w' → G g r w') {g r : Act} {listed : Array Bool} {w w' : World} {i : Nat} {o : Oper} {u v : Value} (ha : Along ops G S w0 g listed r w) (hi : ops[i]? = some o) (hv : ∀ d, o.dst = some d → d < g.tmps.size → g.tmps[d]? = some v) (hU : ∀ w, G undef undef w)
    (hb : Below w.heap.size w w') (hp : Puts G S w' v u o.dst) : Along ops G S w0 g (listed.setIfInBounds i true) (r.put o.dst u) w' := by
  refine ⟨by simpa using ha.len, below_tr ha.below hb, by rw [put_size]; exact ha.size, by rw [put_defers]; exact ha.defers, fun d hd => ?_⟩
  by_cases hdi : o.dst = some d
  · rw [hdi] at hp ⊢
    by_cases hlt : d < g.tmps.size
    · have e1 : g.eval (.tmp d) = v := by simp [Act.eval, hv d hdi hlt]
      have e2 : (r.put (some d) u).eval (.tmp d) = u := by simp [Act.eval, put_get (a := r) (v := u) (by rw [ha.size]; exact hlt)]
      rw [e1, e2]; exact hp
    · have e1 : g.eval (.tmp d) = undef := by simp [Act.eval, Array.getElem?_eq_none (Nat.le_of_not_lt hlt)]
      have e2 : (r.put (some d) u).eval (.tmp d) = undef := by
        have : (r.put (some d) u).tmps.size ≤ d := by rw [put_size, ha.size]; exact Nat.le_of_not_lt hlt
        simp [Act.eval, Array.getElem?_eq_none this]
      rw [e1, e2]
      unfold Holds
      split
      · exact hU _
      · rfl
  · rw [eval_of_get (put_get_ne (a := r) (v := u) hdi)]
    refine (ha.slot d fun j oj hj hjd => ?_).grow hG hb
    have := hd j oj hj hjd
    have hne : i ≠ j := fun h => by subst h; rw [hi] at hj; cases hj; exact hdi hjd
    rwa [getD_set_ne false hne] at this

theorem loose_any (ok : LooseOk ops S) (hG : ∀ g r w w', G g r w → Below w.heap.size w w' → G g r w') (hU : ∀ w, G undef undef w) {Q' : Exit → Act → World → Prop} {g : Act}
    (hst : ∀ (i : Nat) (o : Oper), ops[i]? = some o → ∃ v, Steps P ops G S w0 o g v ∧ ∀ d, o.dst = some d → d < g.tmps.size → g.tmps[d]? = some v)
    (hQ : ∀ r w, Below w0.heap.size w0 w → r.tmps.size = g.tmps.size → r.defers = g.defers → (∀ d, Holds G S w d (g.eval (.tmp d)) (r.eval (.tmp d))) → Q' .normal r w) :
    ∀ (fuel : Nat) (listed : Array Bool) (r : Act) (w : World), Along ops G S w0 g listed r w → listed.toList.countP (fun b => !b) ≤ fuel → wpAny P .any ops Q' fuel listed r w := by
  have fin : ∀ (listed : Array Bool) (r : Act) (w : World), Along ops G S w0 g listed r w → Region.ready .any ops listed = [] → Q' .normal r w := fun listed r w ha hr => by
    have hall : ∀ n i, i < n → i < ops.size → listed.getD i false = true := by
      intro n
      induction n with
      | zero => intro i hi; omega
      | succ n ih =>
        intro i hin hi
        by_cases h1 : listed.getD i false = true
        · exact h1
        · exfalso
          have : i ∈ Region.ready .any ops listed := mem_ready.2 ⟨by rw [getD_true (by rw [ha.len]; exact hi)]; simpa using h1, ops[i], by simp [hi], fun e he hb => by
            have := ok.early i ops[i] (by simp [hi]) e he hb
            exact ih _ (by omega) (by omega)⟩
          rw [hr] at this
          cases this
    exact hQ r w ha.below ha.size ha.defers fun d => ha.slot d fun i o hi _ => hall (i + 1) i (by omega) (Array.getElem?_eq_some_iff.1 hi).1
  intro fuel
  induction fuel with
  | zero =>
    intro listed r w ha hc
    have hr : Region.ready .any ops listed = [] := List.eq_nil_iff_forall_not_mem.2 fun j hj => by
      obtain ⟨h1, o, ho, -⟩ := mem_ready.1 hj
      have hlt : j < listed.size := by rw [ha.len]; exact (Array.getElem?_eq_some_iff.1 ho).1
      have := List.countP_eq_zero.1 (Nat.le_zero.1 hc) (listed[j]) (by simp)
      simp [hlt] at h1
      simp [h1] at this
    exact ⟨hr, fin _ _ _ ha hr⟩
  | succ fuel ih =>
    intro listed r w ha hc
    refine ⟨fin _ _ _ ha, fun i hi => ?_⟩
    obtain ⟨h1, o, ho, haft⟩ := mem_ready.1 hi
    have hlt : i < listed.size := by rw [ha.len]; exact (Array.getElem?_eq_some_iff.1 ho).1
    have hc' : (listed.setIfInBounds i true).toList.countP (fun b => !b) ≤ fuel := by
      have hf : listed[i] = false := by simpa [hlt] using h1
      rw [Array.toList_setIfInBounds, List.countP_set (by simpa using hlt)]
      have h0 : 0 < listed.toList.countP (fun b => !b) := List.countP_pos_iff.2 ⟨listed[i], by simp, by simp [hf]⟩
      have h9 : (listed.toList)[i]'(by simpa using hlt) = false := by simpa using hf
      rw [h9]
      show listed.toList.countP (fun b => !b) - 1 + 0 ≤ fuel
      omega
    have hlook : ∀ d ∈ o.looksAt ops, Holds G S w d (g.eval (.tmp d)) (r.eval (.tmp d)) := fun d hd => ha.slot d fun j oj hj hjd => by
      obtain ⟨e, he1, he2, he3⟩ := ok.waits i o ho j oj hj d hjd hd
      rw [← he3]; exact haft e he1 he2
    have hw : Region.wanted o (yielded ops r.tmps) = Region.wanted o (yielded ops g.tmps) := wanted_congr fun k c hg d hd => by
      have h2 := hlook d (guard_looks hg hd)
      unfold Holds at h2
      rw [if_neg (by rw [ok.guard i o ho k c hg d hd]; exact Bool.false_ne_true)] at h2
      by_cases h3 : d < g.tmps.size
      · have h4 : d < r.tmps.size := by rw [ha.size]; exact h3
        simpa [Act.eval, h3, h4] using h2
      · rw [Array.getElem?_eq_none (by rw [ha.size]; exact Nat.le_of_not_lt h3), Array.getElem?_eq_none (Nat.le_of_not_lt h3)]
    obtain ⟨v, hs, hv⟩ := hst i o ho
    unfold wpOp
    simp only [ho]
    rw [hw]
    rcases hs with ⟨hw1, hs⟩ | ⟨hw1, rfl⟩
    · rw [if_pos hw1]
      refine .inl ?_
      have ht := hs r w ha.below hlook
      unfold Tells at ht
      unfold Oper.wp
      generalize (execOp r.eval o).run P w = x at ht
      cases x with
      | halt y w' => simp only [TellsUpon] at ht
      | ok n w' =>
        cases n <;> simp only [TellsUpon] at ht <;> simp only [Oper.upon]
        case value u =>
          obtain ⟨rfl, hp⟩ := ht
          exact ih _ _ _ (ha.next hG ho hv hU (Below.refl _ _) hp) hc'
        case enter f args =>
          obtain ⟨rfl, hcall⟩ := ht
          refine hcall.mono ?_
          rintro e w'' ⟨u, rfl, hb, hp⟩
          exact ih _ _ _ (ha.next hG ho hv hU hb hp) hc'
    · rw [if_neg (by rw [hw1]; exact Bool.false_ne_true)]
      refine ih _ _ _ (ha.next hG ho hv hU (Below.refl _ _) ?_) hc'
      cases o.dst with
      | none => trivial
      | some d =>
        show Holds G S w d undef undef
        unfold Holds
        split
        · exact hU _
        · rfl

/-- The slots S, written over. -/
def fill (ρ : Nat → Value) : List Nat → Act → Act
  | [], a => a
  | d :: S, a => fill ρ S (a.put (some d) (ρ d))

theorem fill_get (ρ : Nat → Value) : ∀ (S : List Nat) (a : Act) (d : Nat), (fill ρ S a).tmps[d]? = if S.contains d = true ∧ d < a.tmps.size then some (ρ d) else a.tmps[d]?
  | [], a, d => by simp [fill]
  | e :: S, a, d => by
    rw [fill, fill_get ρ S, put_size]
    by_cases hlt : d < a.tmps.size
    · by_cases h1 : S.contains d = true
      · rw [if_pos ⟨h1, hlt⟩, if_pos ⟨by simp at h1; simp [h1], hlt⟩]
      · rw [if_neg (fun h => h1 h.1)]
        by_cases h2 : e = d
        · subst h2; rw [put_get hlt, if_pos ⟨by simp, hlt⟩]
        · rw [put_get_ne (fun h => h2 (by simpa using h)), if_neg]
          rintro ⟨h, -⟩
          simp at h h1
          rcases h with h | h
          · exact h2 h.symm
          · exact h1 h
    · rw [if_neg (fun h => hlt h.2), if_neg (fun h => hlt h.2), Array.getElem?_eq_none (by rw [put_size]; omega), Array.getElem?_eq_none (by omega)]
theorem fill_defers (ρ : Nat → Value) : ∀ (S : List Nat) (a : Act), (fill ρ S a).defers = a.defers
  | [], _ => rfl
  | _ :: S, a => by rw [fill, fill_defers ρ S, put_defers]

theorem region_loose {id : Nat} {Q' : Exit → Act → World → Prop} {a : Act} {w : World} {l : List Oper} (S : List Nat) (G : Value → Value → World → Prop) (hm : P.follows .mixedOrders = true) (hB : looseB l.toArray S = true)
    (hG : ∀ g r w w', G g r w → Below w.heap.size w w' → G g r w') (hU : ∀ w, G undef undef w)
    (h : wpLoose P l.toArray G S w (fun g => ∀ w' (ρ : Nat → Value), Below w.heap.size w w' → Q' .normal (fill ρ S g) w') l a) : (Code.region id l.toArray true).wp P Q' a w := by
  have ok := looseOk hB
  obtain ⟨g, hQ, h1, h2, h3, h4⟩ := loose_end ok l 0 a (by simp) h
  refine wp_region_any hm (loose_any ok hG hU (g := g) (fun i o hi => ?_) (fun r w' hb e1 e2 hs => ?_) _ _ _ _ ⟨by simp, below_dr w, h1.symm, h2.symm, fun d hd => ?_⟩ ?_)
  · obtain ⟨v, h5, h6⟩ := h4 i o (by simpa using hi)
    exact ⟨v, h5, fun d hd hlt => h6 d hd (by rw [← h1]; exact hlt)⟩
  · have hr : r = fill (fun d => r.eval (.tmp d)) S g := by
      have ht : r.tmps = (fill (fun d => r.eval (.tmp d)) S g).tmps := by
        apply Array.ext_getElem?
        intro d
        rw [fill_get]
        by_cases hlt : d < g.tmps.size
        · have hlt' : d < r.tmps.size := by rw [e1]; exact hlt
          by_cases hd : S.contains d = true
          · rw [if_pos ⟨hd, hlt⟩]; simp [Act.eval, hlt']
          · rw [if_neg (fun h => hd h.1)]
            have := hs d
            unfold Holds at this
            rw [if_neg hd] at this
            simpa [Act.eval, hlt, hlt'] using this
        · rw [if_neg (fun h => hlt h.2), Array.getElem?_eq_none (by omega), Array.getElem?_eq_none (by omega)]
      have hd : r.defers = (fill (fun d => r.eval (.tmp d)) S g).defers := by rw [fill_defers, e2]
      cases r
      cases hx : fill _ S g
      rw [hx] at ht hd
      simp only at ht hd
      rw [ht, hd]
    rw [hr]
    exact hQ _ _ hb
  · have hno : ∀ (i : Nat) (o : Oper), l.toArray[i]? = some o → o.dst ≠ some d := fun i o hi he => by
      have := hd i o hi he
      have hlt := (Array.getElem?_eq_some_iff.1 hi).1
      simp at hlt
      simp [hlt] at this
    have e : g.tmps[d]? = a.tmps[d]? := h3 d fun j o hj => hno j o (by simpa using hj)
    unfold Holds
    rw [if_neg, eval_of_get e]
    intro hs
    obtain ⟨i, o, hi, he⟩ := ok.own d hs
    exact hno i o hi he
  · refine Nat.le_trans List.countP_le_length ?_
    simp

/-! ### One operation -/

theorem loose_skip {o : Oper} {l : List Oper} {g : Act} (hw : Region.wanted o (yielded ops g.tmps) = false) (h : wpLoose P ops G S w0 Q l (g.put o.dst undef)) : wpLoose P ops G S w0 Q (o :: l) g :=
  ⟨_, .inr ⟨hw, rfl⟩, h⟩

/-- No slot of S among those that it looks at, and its own is none. -/
def plainB (ops : Array Oper) (S : List Nat) (o : Oper) : Bool := (o.looksAt ops).all fun d => !S.contains d
def ownB (S : List Nat) (o : Oper) : Bool := (o.dst.map fun d => !S.contains d).getD true

theorem exec_plain {o : Oper} {g r : Act} {w : World} (hs : ∀ cs b, o.op ≠ .select cs b) (hp : plainB ops S o = true) (hl : ∀ d ∈ o.looksAt ops, Holds G S w d (g.eval (.tmp d)) (r.eval (.tmp d))) : execOp r.eval o = execOp g.eval o :=
  execOp_congr o hs fun x hx => by
    cases x with
    | tmp d =>
      have hd : d ∈ o.looksAt ops := List.mem_append_left _ (List.mem_filterMap.2 ⟨.tmp d, by simpa using hx, rfl⟩)
      have h1 := hl d hd
      unfold plainB at hp
      rw [List.all_eq_true] at hp
      have h2 := hp d hd
      unfold Holds at h1
      rwa [if_neg (by simpa using h2)] at h1
    | _ => rfl

/-- It answers at once, the same everywhere. -/
theorem loose_val {o : Oper} {l : List Oper} {g : Act} {v : Value} (hs : ∀ cs b, o.op ≠ .select cs b) (hp : plainB ops S o = true) (ho : ownB S o = true) (hw : Region.wanted o (yielded ops g.tmps) = true)
    (hv : ∀ w, Below w0.heap.size w0 w → (execOp g.eval o).run P w = .ok (.value v) w) (h : wpLoose P ops G S w0 Q l (g.put o.dst v)) : wpLoose P ops G S w0 Q (o :: l) g :=
  ⟨v, .inl ⟨hw, fun r w hb hl => by
    unfold Tells
    rw [exec_plain hs hp hl, hv w hb]
    refine ⟨rfl, ?_⟩
    unfold ownB at ho
    cases hd : o.dst with
    | none => trivial
    | some d =>
      rw [hd] at ho
      show Holds G S w d v v
      unfold Holds
      rw [if_neg (by simpa using ho)]⟩, h⟩

/-- A call. -/
theorem loose_call {o : Oper} {l : List Oper} {g : Act} (v : Value) {f : FuncId} {args : Array Value} (hs : ∀ cs b, o.op ≠ .select cs b) (hp : plainB ops S o = true) (hw : Region.wanted o (yielded ops g.tmps) = true)
    (hv : ∀ w, Below w0.heap.size w0 w → (execOp g.eval o).run P w = .ok (.enter f args) w)
    (hc : ∀ w, Below w0.heap.size w0 w → Calls P f args w fun e w'' => ∃ u, e = .returned u ∧ Below w.heap.size w w'' ∧ Puts G S w'' v u o.dst)
    (h : wpLoose P ops G S w0 Q l (g.put o.dst v)) : wpLoose P ops G S w0 Q (o :: l) g :=
  ⟨v, .inl ⟨hw, fun r w hb hl => by
    unfold Tells
    rw [exec_plain hs hp hl, hv w hb]
    exact ⟨rfl, hc w hb⟩⟩, h⟩

end
end Go.Proofs.Ytkekaljcbmkomaa
