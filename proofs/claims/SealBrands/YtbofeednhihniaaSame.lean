/- Two brands held against each other: seal.Same, whatever their values; a comparison that panics is caught. -/
import Derived.Test.YtbofeednhihniaaBase
import Derived.Defers
import Derived.Recover
import Derived.Laws.Pointers
import Derived.LaidEql
import Derived.LaidEqlPtr
import Derived.Stop.Asserts
import Derived.RegionDies
namespace Go.Proofs.Ytbofeednhihniaa
open Go.RowKit

theorem eql_lists (u v : Value) (w : World) : (binOp .eql 20 (.iface 40 u) (.iface 40 v)).run Try.prog w = .halt (.panic (.iface Try.prog.rt.errorString (strVal "comparing uncomparable type []uint8"))) w := by
  kernel_rfl

theorem catch_panicking (p : Addr) (x : Bool) (u : TypeId) (pv : Value) (older : List PanicEntry) (w : World) (hc : w.cell? p = some (.bool x)) (hz : w.frozen? p = false) :
    CallsD Try.prog 19 #[.pointer (some p)] (.panicking ({ v := .iface u pv, recovered := false } :: older)) w fun e u' w' =>
      e = .returned (.tuple #[]) ∧ u' = .panicking ({ v := .iface u pv, recovered := true } :: older) ∧ w' = w.setCell p (.bool false) := by
  refine callsD_of_wpS Try.func19 rfl fun c₀ cs hu => ?_
  apply wpS_seq
  apply wpS_region
  simp [wpOpsS, go_sem, recoverD, hu, Try.ntmps19, Exit.thenS]
  refine wpS_cond (t := true) (by simp [Act.eval, Array.replicate]) ?_
  simp only [if_true]
  apply wpS_region
  simp [wpOpsS, go_sem, hc, hz, bodyPostS, results, Try.results19]

theorem catch_idle (p : Addr) (w : World) :
    CallsD Try.prog 19 #[.pointer (some p)] .returning w fun e u' w' => e = .returned (.tuple #[]) ∧ u' = .returning ∧ w' = w := by
  refine callsD_of_wpS Try.func19 rfl fun c₀ cs hu => ?_
  apply wpS_seq
  apply wpS_region
  simp [wpOpsS, go_sem, recoverD, hu, Try.ntmps19, Exit.thenS]
  refine wpS_cond (t := false) (by simp [Act.eval, Array.replicate]) ?_
  simp only [Bool.false_eq_true, if_false]
  refine wpS_of_wp (wp_skip ?_)
  cases c₀
  simp_all [bodyPostS, results, Try.results19]

theorem below_2 (w : World) (o : Obj) : Below w.heap.size w (w.alloc o).drew := below_tr (below_al w o) (below_dr _)

set_option maxHeartbeats 1000000 in
theorem same_of (a b : Nat) (t u : TypeId) (x y : Value) (r : Bool) (w : World) (ha : w.cell? ⟨a, 0, none⟩ = some (.iface t x)) (hb : w.cell? ⟨b, 0, none⟩ = some (.iface u y))
    (heq : ∀ W, Below w.heap.size w W → (binOp .eql 20 (.iface t x) (.iface u y)).run Try.prog W = .ok (.bool r) W) :
    Calls Try.prog 13 #[.pointer (some ⟨a, 0, none⟩), .pointer (some ⟨b, 0, none⟩)] w fun e w' => e = .returned (.bool r) ∧ Below w.heap.size w w' := by
  have hmf : ∀ (fn : Fn) (first cap : Array Value) (w : World), (Instr.makeFunc fn first cap).run Try.prog w = .ok (.func fn first cap) w := fun _ _ _ _ => rfl
  have la := World.block_lt_of_cell? w _ ha
  have lb := World.block_lt_of_cell? w _ hb
  have hA : ((w.alloc (.cells #[.bool false] 4)).cell? ⟨a, 0, none⟩) = some (.iface t x) := ((below_al w _).cell la).trans ha
  have hB : ((w.alloc (.cells #[.bool false] 4)).cell? ⟨b, 0, none⟩) = some (.iface u y) := ((below_al w _).cell lb).trans hb
  have hE : (binOp .eql 20 (.iface t x) (.iface u y)).run Try.prog (w.alloc (.cells #[.bool false] 4)).drew = .ok (.bool r) (w.alloc (.cells #[.bool false] 4)).drew := heq _ (below_tr (below_al w _) (below_dr _))
  clear heq
  go_enter_defers Try.func13, Try.ntmps13
  go_wp2
  go_region
  go_wp2
  refine leaves_cons (f := 19) (args := #[.pointer (some ⟨w.heap.size, 0, none⟩)]) (by simp) (by simp [go_sem]) ?_
  refine (catch_idle ⟨w.heap.size, 0, none⟩ _).mono ?_
  rintro e u' w'' ⟨rfl, rfl, rfl⟩
  simp [Leaves, settle, results, Try.results13, go_sem]
  exact below_2 w _

set_option maxHeartbeats 1000000 in
theorem same_lists (a b : Nat) (x y : Value) (w : World) (ha : w.cell? ⟨a, 0, none⟩ = some (.iface 40 x)) (hb : w.cell? ⟨b, 0, none⟩ = some (.iface 40 y)) :
    Calls Try.prog 13 #[.pointer (some ⟨a, 0, none⟩), .pointer (some ⟨b, 0, none⟩)] w fun e w' => e = .returned (.bool false) ∧ Below w.heap.size w w' := by
  have hmf : ∀ (fn : Fn) (first cap : Array Value) (w : World), (Instr.makeFunc fn first cap).run Try.prog w = .ok (.func fn first cap) w := fun _ _ _ _ => rfl
  have la := World.block_lt_of_cell? w _ ha
  have lb := World.block_lt_of_cell? w _ hb
  have hA : ((w.alloc (.cells #[.bool false] 4)).cell? ⟨a, 0, none⟩) = some (.iface 40 x) := ((below_al w _).cell la).trans ha
  have hB : ((w.alloc (.cells #[.bool false] 4)).cell? ⟨b, 0, none⟩) = some (.iface 40 y) := ((below_al w _).cell lb).trans hb
  have hE := eql_lists x y (w.alloc (.cells #[.bool false] 4)).drew
  go_enter_defers Try.func13, Try.ntmps13
  go_wp2
  first | go_region_dies | fail
  all_goals (try go_wp2)
  all_goals (refine leaves_cons (f := 19) (args := #[.pointer (some ⟨w.heap.size, 0, none⟩)]) (by simp) (by simp [go_sem]) ?_)
  all_goals (refine (catch_panicking ⟨w.heap.size, 0, none⟩ false 10 _ [] _ (by simp [go_sem]) (by simp [go_sem])).mono ?_; rintro e u' w'' ⟨rfl, rfl, rfl⟩; simp [Leaves, settle, results, Try.results13, go_sem])
  all_goals exact below_2 w _

theorem same_nilL (v : Value) (w : World) : Calls Try.prog 13 #[.pointer none, v] w fun e w' => e = .returned (.bool false) ∧ Below w.heap.size w w' := by
  go_enter_defers Try.func13, Try.ntmps13
  go_wp2
  simp [bodyPostD, Leaves, results, Try.results13, go_sem]
  exact below_al w _

theorem same_nilR (a : Nat) (w : World) : Calls Try.prog 13 #[.pointer (some ⟨a, 0, none⟩), .pointer none] w fun e w' => e = .returned (.bool false) ∧ Below w.heap.size w w' := by
  go_enter_defers Try.func13, Try.ntmps13
  go_wp2
  simp [bodyPostD, Leaves, results, Try.results13, go_sem]
  exact below_al w _
end Go.Proofs.Ytbofeednhihniaa
