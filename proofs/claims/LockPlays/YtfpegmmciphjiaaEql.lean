/- Locks compared. -/
import Derived.Test.YtfpegmmciphjiaaRep
import Derived.Laws.StructEq
namespace Go.Proofs.Ytfpegmmciphjiaa
open Go.RowKit
theorem eq29 (a b c a' b' c' : Int) (s s' : Bool) (w : World) : (Op.equalIn 10000 29 (.agg #[.int .i64 a, .int .i64 b, .int .i64 c, .bool s]) (.agg #[.int .i64 a', .int .i64 b', .int .i64 c', .bool s'])).run Try.prog w = .ok (decide (a = a') && decide (b = b') && decide (c = c') && (s == s')) w := by
  have hS : Try.prog.underlying 29 = some (.struct (Try.prog.fieldsOf 29)) := by kernel_rfl
  have hp : Try.prog.stoodInHeld 29 = false := by kernel_rfl
  have u3 := Try.underlying3
  have u2 := Try.underlying2
  have u4 := Try.underlying4
  have p0 : ∀ (w : World) (x y z : Int) (b : Bool), (part 3 #[.int .i64 x, .int .i64 y, .int .i64 z, .bool b] 0).run Try.prog w = .ok (.int .i64 x) w := fun _ _ _ _ _ => by kernel_rfl
  have p1 : ∀ (w : World) (x y z : Int) (b : Bool), (part 2 #[.int .i64 x, .int .i64 y, .int .i64 z, .bool b] 1).run Try.prog w = .ok (.int .i64 y) w := fun _ _ _ _ _ => by kernel_rfl
  have p2 : ∀ (w : World) (x y z : Int) (b : Bool), (part 2 #[.int .i64 x, .int .i64 y, .int .i64 z, .bool b] 2).run Try.prog w = .ok (.int .i64 z) w := fun _ _ _ _ _ => by kernel_rfl
  have p3 : ∀ (w : World) (x y z : Int) (b : Bool), (part 4 #[.int .i64 x, .int .i64 y, .int .i64 z, .bool b] 3).run Try.prog w = .ok (.bool b) w := fun _ _ _ _ _ => by kernel_rfl
  have e3 : ∀ (w : World) (x y : Int), (Op.equalIn 9999 3 (.int .i64 x) (.int .i64 y)).run Try.prog w = .ok (x == y) w := fun w x y => run_equalIn_int w 9998 3 .i64 .i64 x y u3
  have e2 : ∀ (w : World) (x y : Int), (Op.equalIn 9999 2 (.int .i64 x) (.int .i64 y)).run Try.prog w = .ok (x == y) w := fun w x y => run_equalIn_int w 9998 2 .i64 .i64 x y u2
  have e4 : ∀ (w : World) (x y : Bool), (Op.equalIn 9999 4 (.bool x) (.bool y)).run Try.prog w = .ok (x == y) w := fun w x y => run_equalIn_bool' w 9998 4 x y u4
  rw [show (10000 : Nat) = 9999 + 1 from rfl, run_equalIn_agg w 9999 29 _ _ hS hp]
  simp only [Program.fieldsOf, Try.underlying29]
  simp only [Op.eqFields, Sem.run_bind, Sem.run_ite, p0, p1, p2, p3, e3, e2, e4, Result.andThen_ok]
  by_cases h1 : a = a' <;> by_cases h2 : b = b' <;> by_cases h3 : c = c' <;> cases s <;> cases s' <;> simp [h1, h2, h3]
theorem eql_lk (x y : Lk) (w : World) : (binOp .eql 29 (.agg #[.int .i64 x.who, .int .i64 x.org, .int .i64 x.len, .bool x.sh]) (.agg #[.int .i64 y.who, .int .i64 y.org, .int .i64 y.len, .bool y.sh])).run Try.prog w = .ok (.bool (same x y)) w := by
  rw [run_eql_struct, eq29]; rfl
theorem neq_lk (x y : Lk) (w : World) : (binOp .neq 29 (.agg #[.int .i64 x.who, .int .i64 x.org, .int .i64 x.len, .bool x.sh]) (.agg #[.int .i64 y.who, .int .i64 y.org, .int .i64 y.len, .bool y.sh])).run Try.prog w = .ok (.bool (!same x y)) w := by
  rw [run_neq_struct, eq29]; rfl
end Go.Proofs.Ytfpegmmciphjiaa
