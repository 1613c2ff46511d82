/- Loose regions: the steps that this seat's regions take, and Get's answer as a token. -/
import Derived.Test.YtkekaljcbmkomaaLoose
import Derived.Test.YtkekaljcbmkomaaTwo
namespace Go.Proofs.Ytkekaljcbmkomaa
open Go.RowKit

/-- The token of a slice of bytes: the bytes as a string. -/
def Tok (g r : Value) (w : World) : Prop := (g = undef ∧ r = undef) ∨ ∃ l a c, g = .string ⟨l.toArray⟩ ∧ r = .slice a l.length c ∧ BsAt w a l
theorem tok_grow (g r : Value) (w w' : World) (h : Tok g r w) (hb : Below w.heap.size w w') : Tok g r w' := by
  rcases h with h | ⟨l, a, c, h1, h2, h3⟩
  · exact .inl h
  · exact .inr ⟨l, a, c, h1, h2, h3.below hb⟩
theorem tok_undef (w : World) : Tok undef undef w := .inl ⟨rfl, rfl⟩

theorem tok_get {S : List Nat} {w : World} {d : Nat} {l : List UInt8} {a : Option Addr} {c : Nat} {A : ByteArray} (hA : A = ⟨l.toArray⟩) (hd : S.contains d = true) (h : BsAt w a l) : Puts Tok S w (.string A) (.slice a l.length c) (some d) := by
  subst hA
  show Holds Tok S w d _ _
  unfold Holds
  rw [if_pos hd]
  exact .inr ⟨l, a, c, rfl, rfl, h⟩

/-- Operations that answer at once and call nobody. -/
def atOnce : Op → Bool
  | .move _ | .assign _ | .pick .. | .load .. | .fieldAddr .. | .indexAddr .. | .binOp .. | .unOp .. | .convert .. => true
  | .call c => match c.callee with
    | .builtin .len | .builtin .max => true
    | _ => false
  | _ => false

theorem value_only {P : Program} {s : Sem Value} {w w' : World} {f : FuncId} {args : Array Value} : (do pure (Next.value (← s)) : Sem Next).run P w ≠ .ok (.enter f args) w' := by
  rw [Sem.run_bind]
  cases s.run P w <;> simp [Result.andThen]

theorem atOnce_spec {P : Program} {ρ : Operand → Value} {o : Oper} (h : atOnce o.op = true) (w w' : World) (f : FuncId) (args : Array Value) : (execOp ρ o).run P w ≠ .ok (.enter f args) w' := by
  obtain ⟨dst, op, type, pos, after, guard⟩ := o
  cases op <;> simp only [atOnce, Bool.false_eq_true] at h <;> simp only [execOp] <;> first | exact value_only | skip
  · simp
  · simp
  · rename_i c x y
    rw [Sem.run_bind]
    cases (asBool (ρ c)).run P w <;> simp [Result.andThen]
  · rename_i c
    obtain ⟨callee, xs, ts⟩ := c
    cases callee with
    | value x => simp at h
    | invoke x m => simp at h
    | builtin b => cases b <;> simp only [Bool.false_eq_true] at h <;> exact value_only

theorem value_noskip {P : Program} {s : Sem Value} {w w' : World} : (do pure (Next.value (← s)) : Sem Next).run P w ≠ .ok .skip w' := by
  rw [Sem.run_bind]
  cases s.run P w <;> simp [Result.andThen]

theorem atOnce_noskip {P : Program} {ρ : Operand → Value} {o : Oper} (h : atOnce o.op = true) (w w' : World) : (execOp ρ o).run P w ≠ .ok .skip w' := by
  obtain ⟨dst, op, type, pos, after, guard⟩ := o
  cases op <;> simp only [atOnce, Bool.false_eq_true] at h <;> simp only [execOp] <;> first | exact value_noskip | skip
  · simp
  · simp
  · rename_i c x y
    rw [Sem.run_bind]
    cases (asBool (ρ c)).run P w <;> simp [Result.andThen]
  · rename_i c
    obtain ⟨callee, xs, ts⟩ := c
    cases callee with
    | value x => simp at h
    | invoke x m => simp at h
    | builtin b => cases b <;> simp only [Bool.false_eq_true] at h <;> exact value_noskip

section
variable {P : Program} {ops : Array Oper} {G : Value → Value → World → Prop} {S : List Nat} {w0 : World} {Q : Act → Prop}

theorem loose_nil {g : Act} (h : Q g) : wpLoose P ops G S w0 Q [] g := h

theorem loose_quiet {o : Oper} {l : List Oper} {g : Act} (hn : atOnce o.op = true) (hp : plainB ops S o = true) (ho : ownB S o = true) (hw : Region.wanted o (yielded ops g.tmps) = true)
    (h : ∀ K : Act → Prop, (∀ a, wpLoose P ops G S w0 Q l a → K a) → o.quiet P g (fun w' => ∃ p : GrownBy, w' = ext w0 p.n p.os) K) : wpLoose P ops G S w0 Q (o :: l) g := by
  obtain ⟨v, h1, h2⟩ := h _ (fun _ h => h)
  refine loose_val (v := v) (fun cs b he => by rw [he] at hn; cases hn) hp ho hw (fun w hb => ?_) h2
  have h3 := h1 w (ext_of_below hb)
  unfold Oper.quietAt at h3
  cases hx : (execOp g.eval o).run P w with
  | halt y w' => rw [hx] at h3; simp only [Oper.quietUpon] at h3
  | ok n w' =>
    rw [hx] at h3
    cases n <;> simp only [Oper.quietUpon] at h3
    case value u => rw [h3.1, h3.2]
    case skip =>
      exfalso
      exact atOnce_noskip hn w w' hx
    case enter f args => exact absurd hx (atOnce_spec hn w w' f args)

/-- A call of a function by its name. -/
theorem loose_fn {o : Oper} {l : List Oper} {g : Act} (v : Value) (f : FuncId) {xs : List Operand} {ts : Array TypeId} (args : List Value) (hop : o.op = .call { callee := .value (.func f), args := xs.toArray, argTypes := ts }) (hfn : ∀ ys w, (callFunc f ys).run P w = .ok (.enter f ys) w) (ha : xs.map g.eval = args) (hp : plainB ops S o = true) (hw : Region.wanted o (yielded ops g.tmps) = true)
    (hc : ∀ w, Below w0.heap.size w0 w → Calls P f args.toArray w fun e w'' => ∃ u, e = .returned u ∧ Below w.heap.size w w'' ∧ Puts G S w'' v u o.dst)
    (h : wpLoose P ops G S w0 Q l (g.put o.dst v)) : wpLoose P ops G S w0 Q (o :: l) g :=
  loose_call v (f := f) (args := args.toArray) (fun cs b he => by rw [hop] at he; cases he) hp hw (fun w _ => by
    unfold execOp
    rw [hop]
    simp only [resolve, List.map_toArray, ha, Act.eval, Deferred.ofValue]
    simp [invoke, hfn]) hc h

theorem enter17 (xs : Array Value) (w : World) : (callFunc 17 xs).run Try.prog w = .ok (.enter 17 xs) w := by rfl
theorem enter18 (xs : Array Value) (w : World) : (callFunc 18 xs).run Try.prog w = .ok (.enter 18 xs) w := by rfl
theorem enter21 (xs : Array Value) (w : World) : (callFunc 21 xs).run Try.prog w = .ok (.enter 21 xs) w := by rfl

/-- string(b) of an answer that is told by its token. -/
theorem loose_conv {o : Oper} {l : List Oper} {g : Act} (d : Nat) (t : List UInt8) (hop : o.op = .convert 22 9 (.tmp d)) (hd : S.contains d = true) (hl : d ∈ o.looksAt ops) (ho : ownB S o = true) {A : ByteArray} (hA : A = ⟨t.toArray⟩) (hg : g.eval (.tmp d) = .string A) (hw : Region.wanted o (yielded ops g.tmps) = true)
    (h : wpLoose Try.prog ops Tok S w0 Q l (g.put o.dst (.string A))) : wpLoose Try.prog ops Tok S w0 Q (o :: l) g := by
  subst hA
  refine ⟨_, .inl ⟨hw, fun r w hb hlk => ?_⟩, h⟩
  have h1 := hlk d hl
  unfold Holds at h1
  rw [if_pos hd, hg] at h1
  rcases h1 with ⟨h1, -⟩ | ⟨t', a, c, h1, h2, h3⟩
  · cases h1
  · obtain rfl : t' = t := by
      have := h1
      simp only [Value.string.injEq, ByteArray.mk.injEq] at this
      simpa using this.symm
    have hr : (execOp r.eval o).run Try.prog w = .ok (.value (.string ⟨t'.toArray⟩)) w := by
      unfold execOp
      rw [hop]
      simp only [h2]
      rw [Sem.run_bind, str_all w a t' c h3]
      rfl
    unfold Tells
    rw [hr]
    refine ⟨rfl, ?_⟩
    unfold ownB at ho
    cases hx : o.dst with
    | none => trivial
    | some e =>
      rw [hx] at ho
      show Holds Tok S w e _ _
      unfold Holds
      rw [if_neg (by simpa using ho)]

end

/-! ### Pieces of a function's text -/

def findIf (n : Nat) : Code → Option Code
  | .cond (.tmp k) a b => if k = n then some (.cond (.tmp k) a b) else match findIf n a with
    | some c => some c
    | none => findIf n b
  | .seq a b => match findIf n a with
    | some c => some c
    | none => findIf n b
  | .loop c => findIf n c
  | .block _ c => findIf n c
  | .scope c => findIf n c
  | _ => none
def findRegion (n : Nat) : Code → Option Code
  | .region k ops d => if k = n then some (.region k ops d) else none
  | .cond _ a b => match findRegion n a with
    | some c => some c
    | none => findRegion n b
  | .seq a b => match findRegion n a with
    | some c => some c
    | none => findRegion n b
  | .loop c => findRegion n c
  | .block _ c => findRegion n c
  | .scope c => findRegion n c
  | _ => none
def fromRegion (n : Nat) : Code → Option Code
  | .seq (.region k ops d) b => if k = n then some (.seq (.region k ops d) b) else fromRegion n b
  | .cond _ a b => match fromRegion n a with
    | some c => some c
    | none => fromRegion n b
  | .seq a b => match fromRegion n a with
    | some c => some c
    | none => fromRegion n b
  | .loop c => fromRegion n c
  | .block _ c => fromRegion n c
  | .scope c => fromRegion n c
  | _ => none
def readsIf (f : Func) : Code := (f.body.bind (findIf 63)).getD .skip
def reads28 (f : Func) : Code := (f.body.bind (findRegion 28)).getD .skip
def readsRest (f : Func) : Code := (f.body.bind (fromRegion 22)).getD .skip

end Go.Proofs.Ytkekaljcbmkomaa
