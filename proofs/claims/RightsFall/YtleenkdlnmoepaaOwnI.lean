/- Rows of numbers and of bools that a value owns; append of one. -/
import Derived.Test.YtleenkdlnmoepaaSeek
namespace Go.Proofs.Ytleenkdlnmoepaa
open Go.RowKit

theorem own_slice {w : World} {base : Nat} {e : TypeId} {size : Nat} {v : Value} {n : Nat} {xs : List Value} (h : w.ownsRow base e size v n xs) : ∃ a cap, v = .slice a n cap ∧ n ≤ cap ∧ cap ≤ maxLen := by
  rcases h.2 with ⟨rfl, rfl⟩ | ⟨g, cap, cur, rfl, -, -, hnc, hm, -⟩
  · exact ⟨none, 0, rfl, Nat.le_refl _, by decide⟩
  · exact ⟨_, cap, rfl, hnc, hm⟩
/-- append(v, x) of one element that stands in the next new block. -/
theorem wpList_push {w : World} {ops : Array Oper} {rest : List Oper} {o : Oper} {a : Act} {Q : Exit → Act → World → Prop} (hgd : o.guard = none) (s x : Operand) (t : TypeId)
    (ho : o.op = .call { callee := .builtin .append, args := #[s, x], argTypes := #[t, t] }) (e : TypeId) (z : Value) (size bytes : Nat) (ht : Try.prog.underlying t = some (.slice e)) (hinfo : (Try.prog.info? e).map (fun i => (i.zero, i.size, i.bytes)) = some (some z, size, bytes))
    (hzs : z.cells.size = size) (hsz : 0 < size) (v : Value) (n m : Nat) (xs : List Value) (hs : a.eval s = v) (hown : w.ownsRow 0 e size v n xs)
    (g : Nat) (news : List Value) (hx : a.eval x = .slice (some ⟨g, 0, none⟩) 1 1) (hl : news.length = size) (fr : Nat × Nat) (hnews : w.heap[g]? = some (.cells news.toArray e fr)) (h1 : ∀ u ∈ news, u.oneCell' = true) (hn : n ≤ 8192) (hb : bytes ≤ 100) (hm : n + 1 = m)
    (h : ∀ a' c' w', w'.ownsRow 0 e size (.slice a' m c') m (xs ++ news) → Upd (fun k => v.ownBlock = some k) w w' → ((Value.slice a' m c').ownBlock = v.ownBlock ∨ (Value.slice a' m c').ownBlock = some w.heap.size) → wpList Try.prog ops Q rest (a.put o.dst (.slice a' m c')) w') : wpList Try.prog ops Q (o :: rest) a w := by
  subst hm
  refine wpList_append_where w hgd s x t ho e z size bytes ht hinfo hzs hsz v n xs hs hown ⟨g, 0, none⟩ 1 1 news hx (by omega) (cells_lit hnews) h1 (by unfold maxLen; omega) ?_ (by decide) ?_
  · have : (n + 1) * bytes ≤ 8193 * 100 := Nat.mul_le_mul (by omega) hb
    omega
  · intro v' w' h2 h3 h4
    obtain ⟨a', c', rfl, -, -⟩ := own_slice h2
    refine h a' c' w' h2 (Upd.of_grown h3 fun k hk => hk) ?_
    rcases h4 with ⟨g, -⟩ | ⟨g, -⟩
    · exact .inl g
    · exact .inr g

theorem info3 : (Try.prog.info? 3).map (fun i => (i.zero, i.size, i.bytes)) = some (some (.int .i64 0), 1, 8) := by kernel_rfl
theorem info4 : (Try.prog.info? 4).map (fun i => (i.zero, i.size, i.bytes)) = some (some (.bool false), 1, 1) := by kernel_rfl
theorem one_i (x : Int) : ∀ u ∈ [Value.int .i64 x], u.oneCell' = true := by simp [Value.oneCell']
theorem one_b (x : Bool) : ∀ u ∈ [Value.bool x], u.oneCell' = true := by simp [Value.oneCell']

def bools (l : List Bool) : List Value := l.map Value.bool
def OwnI (w : World) (v : Value) (l : List Int) : Prop := w.ownsRow 0 3 1 v l.length (nums l)
def OwnB (w : World) (v : Value) (l : List Bool) : Prop := w.ownsRow 0 4 1 v l.length (bools l)
theorem ownI_none (w : World) : OwnI w (.slice none 0 0) [] := ⟨rfl, .inl ⟨rfl, rfl⟩⟩
theorem OwnI.below {w w' : World} {v : Value} {l : List Int} (h : OwnI w v l) (k : Below w.heap.size w w') : OwnI w' v l := row_below h k
theorem OwnB.below {w w' : World} {v : Value} {l : List Bool} (h : OwnB w v l) (k : Below w.heap.size w w') : OwnB w' v l := row_below h k
theorem OwnI.lt {w : World} {v : Value} {l : List Int} (h : OwnI w v l) {k : Nat} (hk : v.ownBlock = some k) : k < w.heap.size := (World.ownsRow.lt h k hk).2
theorem OwnB.lt {w : World} {v : Value} {l : List Bool} (h : OwnB w v l) {k : Nat} (hk : v.ownBlock = some k) : k < w.heap.size := (World.ownsRow.lt h k hk).2
theorem OwnI.upd {F : Nat → Prop} {w w' : World} {v : Value} {l : List Int} (h : OwnI w v l) (k : Upd F w w') (hn : ∀ j, v.ownBlock = some j → ¬ F j) : OwnI w' v l := k.row h hn
theorem OwnB.upd {F : Nat → Prop} {w w' : World} {v : Value} {l : List Bool} (h : OwnB w v l) (k : Upd F w w') (hn : ∀ j, v.ownBlock = some j → ¬ F j) : OwnB w' v l := k.row h hn
theorem nums_at {l : List Int} {j : Nat} {v : Int} (h : l[j]? = some v) : (nums l)[j]? = some (.int .i64 v) := by simp [nums, h]
theorem bools_at {l : List Bool} {j : Nat} {v : Bool} (h : l[j]? = some v) : (bools l)[j]? = some (.bool v) := by simp [bools, h]
theorem OwnI.ns {w : World} {a : Option Addr} {n c : Nat} {l : List Int} (h : OwnI w (.slice a n c) l) : NsAt w a l := fun hl => by
  rcases h.2 with ⟨-, hz⟩ | ⟨g, cap, cur, he, -⟩
  · exact absurd (List.length_eq_zero_iff.1 hz) hl
  · simp only [Value.slice.injEq] at he
    obtain ⟨rfl, rfl, rfl⟩ := he
    refine ⟨g, 0, rfl, fun j v hj => ?_⟩
    have := World.ownsRow.cells h (g := g) rfl j _ (nums_at hj)
    rwa [Addr.add_lit] at this
theorem OwnI.len {w : World} {a : Option Addr} {n c : Nat} {l : List Int} (h : OwnI w (.slice a n c) l) : n = l.length := by
  rcases h.2 with ⟨he, hz⟩ | ⟨g, cap, cur, he, -⟩
  · simp only [Value.slice.injEq] at he; omega
  · simp only [Value.slice.injEq] at he; exact he.2.1
end Go.Proofs.Ytleenkdlnmoepaa
