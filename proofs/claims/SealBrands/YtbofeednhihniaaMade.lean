/- made: a brand of the program's, and what the document knows of it. -/
import Derived.Test.YtbofeednhihniaaWakes
import Derived.Deep.RegionHeld3
namespace Go.Proofs.Ytbofeednhihniaa
open Go.RowKit

/-- The maker as the document counts. -/
def kd (k : Int) : Nat := if k = 0 then 0 else if k = 1 then 1 else 2
/-- What made answers: a brand of that maker and name, and the document's own. -/
def MadeR (k n : Int) (s : ByteArray) (w w' : World) (e : Ending) : Prop := ∃ b : Bd, b.k = kd k ∧ b.s = s ∧ e = .returned (.tuple #[.pointer (some ⟨b.p, 0, none⟩), .agg #[.int .i64 (kd k : Nat), .int .i64 n, .string s]]) ∧ Br w' b ∧ Below w.heap.size w w' ∧ w.heap.size ≤ b.p ∧ (b.k = 0 → w.heap.size ≤ b.q ∧ b.q < w'.heap.size)

theorem results_tmp_cell_row {P : Program} {fn : Func} {u p : Tmp} {ty : TypeId} (h : fn.results = #[.tmp u, .cell p ty]) (tmps : Array Value) (w : World) (g : Nat) (t : TypeId) (cs : Array Value) (fr : Nat × Nat) (d : TypeDesc)
    (hp : tmps.getD p undef = .pointer (some ⟨g, 0, none⟩)) (hg : w.heap[g]? = some (.cells cs t fr))
    (hu : P.underlying ty = some d) (hd : (match d with | .struct _ | .array _ _ => true | _ => false) = true) (hi : (P.info? ty).map (·.size) = some cs.size) :
    (results fn tmps).run P w = .ok (.tuple #[tmps.getD u undef, .agg cs]) w := by
  have hp' : tmps[p]?.getD undef = .pointer (some ⟨g, 0, none⟩) := by simpa using hp
  simp [results, h, hp', asAddr, run_loadVar_row w g t ty cs fr d hg hu hd hi]

theorem four_1 (w : World) (o1 o2 o3 o4 : Obj) : ((((w.alloc o1).alloc o2).alloc o3).alloc o4).drew.heap[w.heap.size + 1]? = some o2 := by
  rw [(below_dr _).block _ (by simp), (below_al _ o4).block _ (by simp), (below_al _ o3).block _ (by simp)]
  exact heap_alloc2_new w o1 o2
theorem four_2 (w : World) (o1 o2 o3 o4 : Obj) : ((((w.alloc o1).alloc o2).alloc o3).alloc o4).drew.heap[w.heap.size + 1 + 1]? = some o3 := by
  rw [(below_dr _).block _ (by simp), (below_al _ o4).block _ (by simp)]
  have := heap_alloc2_new (w.alloc o1) o2 o3
  rw [World.size_alloc] at this
  exact this
theorem four_3 (w : World) (o1 o2 o3 o4 : Obj) : ((((w.alloc o1).alloc o2).alloc o3).alloc o4).drew.heap[w.heap.size + 1 + 1 + 1]? = some o4 := by
  rw [(below_dr _).block _ (by simp)]
  have := heap_alloc2_new ((w.alloc o1).alloc o2) o3 o4
  rw [World.size_alloc, World.size_alloc] at this
  exact this
theorem four_b (w : World) (o1 o2 o3 o4 : Obj) : Below w.heap.size w ((((w.alloc o1).alloc o2).alloc o3).alloc o4).drew := below_tr (below_tr (below_tr (below_tr (below_al w _) (below_al _ _)) (below_al _ _)) (below_al _ _)) (below_dr _)
theorem three_1 (w : World) (o1 o2 o3 : Obj) : (((w.alloc o1).alloc o2).alloc o3).drew.heap[w.heap.size + 1]? = some o2 := by
  rw [(below_dr _).block _ (by simp), (below_al _ o3).block _ (by simp)]
  exact heap_alloc2_new w o1 o2
theorem three_2 (w : World) (o1 o2 o3 : Obj) : (((w.alloc o1).alloc o2).alloc o3).drew.heap[w.heap.size + 1 + 1]? = some o3 := by
  rw [(below_dr _).block _ (by simp)]
  have := heap_alloc2_new (w.alloc o1) o2 o3
  rw [World.size_alloc] at this
  exact this
theorem three_b (w : World) (o1 o2 o3 : Obj) : Below w.heap.size w (((w.alloc o1).alloc o2).alloc o3).drew := below_tr (below_tr (below_tr (below_al w _) (below_al _ _)) (below_al _ _)) (below_dr _)

set_option maxRecDepth 20000 in
set_option maxHeartbeats 4000000 in
theorem made_new (n : Int) (s : ByteArray) (w : World) : Calls Try.prog 8 #[.agg #[.int .i64 0, .string s], .int .i64 n] w fun e w' => MadeR 0 n s w w' e := by
  go_enter Try.func8, Try.ntmps8
  go_wp2
  go_region_with (go_at_call 14; refine (new_brand _ _).mono ?_; rintro e w1 ⟨rfl, rfl⟩)
  all_goals go_wp2
  all_goals (refine bodyPost_ret (results_tmp_cell_row rfl _ _ (w.heap.size + 1) 31 _ (0, 0) _ rfl (four_1 w _ _ _ _) Try.underlying31 rfl (by kernel_rfl)) rfl ?_)
  all_goals (exact ⟨⟨w.heap.size + 1 + 1 + 1, 0, w.heap.size + 1 + 1, s, .nilIface⟩, rfl, rfl, rfl, ⟨four_3 w _ _ _ _, fun _ => four_2 w _ _ _ _⟩, four_b w _ _ _ _, by simp only; omega, fun _ => ⟨by simp only; omega, by simp⟩⟩)

set_option maxRecDepth 20000 in
set_option maxHeartbeats 4000000 in
theorem made_plain (n : Int) (s : ByteArray) (w : World) : Calls Try.prog 8 #[.agg #[.int .i64 1, .string s], .int .i64 n] w fun e w' => MadeR 1 n s w w' e := by
  go_enter Try.func8, Try.ntmps8
  go_wp2
  go_region_with (go_at_call 15; refine (plain_brand _ _).mono ?_; rintro e w1 ⟨rfl, rfl⟩)
  all_goals go_wp2
  all_goals (refine bodyPost_ret (results_tmp_cell_row rfl _ _ (w.heap.size + 1) 31 _ (0, 0) _ rfl (three_1 w _ _ _) Try.underlying31 rfl (by kernel_rfl)) rfl ?_)
  all_goals (exact ⟨⟨w.heap.size + 1 + 1, 1, 0, s, .nilIface⟩, rfl, rfl, rfl, ⟨three_2 w _ _ _, fun h => by simp at h⟩, three_b w _ _ _, by simp only; omega, fun h => by simp at h⟩)

theorem set3 {w : World} {g : Nat} {x y z : Value} {t : TypeId} (a b c : Value) (h : w.heap[g]? = some (.cells #[x, y, z] t (0, 0))) :
    (((w.setCell ⟨g, 0, none⟩ a).setCell ⟨g, 1, none⟩ b).setCell ⟨g, 2, none⟩ c).heap[g]? = some (.cells #[a, b, c] t (0, 0)) := by
  simp [World.setCell, Array.getElem?_modify, h]
theorem set3_far {w : World} {g k : Nat} {a b c : Value} (h : k ≠ g) : (((w.setCell ⟨g, 0, none⟩ a).setCell ⟨g, 1, none⟩ b).setCell ⟨g, 2, none⟩ c).heap[k]? = w.heap[k]? := by
  simp [World.setCell, Array.getElem?_modify, h.symm]
theorem set3_below {B g : Nat} {w w1 : World} {a b c : Value} (h : Below B w w1) (hg : B ≤ g) : Below B w (((w1.setCell ⟨g, 0, none⟩ a).setCell ⟨g, 1, none⟩ b).setCell ⟨g, 2, none⟩ c) :=
  ⟨h.os, h.tape, h.output, by simpa using h.size, fun k hk => (set3_far (by omega)).trans (h.block k hk)⟩
theorem frozen0 {w : World} {g : Nat} {cs : Array Value} {t : TypeId} (h : w.heap[g]? = some (.cells cs t (0, 0))) (i : Nat) : w.frozen? ⟨g, i, none⟩ = false := by
  simp [World.frozen?, h]

theorem odd_in (k : Int) (s : ByteArray) (w : World) : Calls Try.prog 16 #[.string s] ((w.alloc (.cells #[.int .i64 k, .string s] 34)).alloc (.cells #[.int .i64 0, .int .i64 0, .string { data := #[] }] 31)).drew fun e w1 =>
    ∃ p v, e = .returned (.pointer (some ⟨p, 0, none⟩)) ∧ w1.cell? ⟨w.heap.size, 1, none⟩ = some (.string s) ∧ w1.cell? ⟨w.heap.size + 1, 0, none⟩ = some (.int .i64 0) ∧ w1.cell? ⟨w.heap.size + 1, 1, none⟩ = some (.int .i64 0) ∧ w1.cell? ⟨w.heap.size + 1, 2, none⟩ = some (.string { data := #[] }) ∧
      (∀ i, w1.frozen? ⟨w.heap.size + 1, i, none⟩ = false) ∧ Aside (w1.heap[w.heap.size + 1]? = some (.cells #[.int .i64 0, .int .i64 0, .string { data := #[] }] 31 (0, 0)) ∧ w1.heap[p]? = some (.cells #[.iface 40 v] 55 (0, 0)) ∧ w.heap.size + 2 ≤ p ∧ Below w.heap.size w w1) :=
  (odd_brand s _).mono (by
    rintro e w1 ⟨p, v, rfl, hrow, hp, hb⟩
    have h1 := (hb.block (w.heap.size + 1) (by simp)).trans (((below_dr _).block _ (by simp)).trans (heap_alloc2_new w _ _))
    have h0 := (hb.block w.heap.size (by simp; omega)).trans (((below_dr _).block _ (by simp; omega)).trans (((below_al (w.alloc (.cells #[.int .i64 k, .string s] 34)) _).block _ (by simp)).trans (heap_alloc_new w _)))
    refine ⟨p, v, rfl, ?_, ?_, ?_, ?_, frozen0 h1, h1, hrow, ?_, ?_⟩
    · rw [cell_of_row w1 _ _ _ _ _ h0]; rfl
    · rw [cell_of_row w1 _ _ _ _ _ h1]; rfl
    · rw [cell_of_row w1 _ _ _ _ _ h1]; rfl
    · rw [cell_of_row w1 _ _ _ _ _ h1]; rfl
    · simpa using hp
    · exact below_tr (below_tr (below_tr (below_al w _) (below_al _ _)) (below_dr _)) hb)

set_option maxRecDepth 20000 in
set_option maxHeartbeats 4000000 in
theorem made_odd (k n : Int) (s : ByteArray) (w : World) (h0 : ¬ k = 0) (h1 : ¬ k = 1) : Calls Try.prog 8 #[.agg #[.int .i64 k, .string s], .int .i64 n] w fun e w' => MadeR k n s w w' e := by
  go_enter Try.func8, Try.ntmps8
  go_wp2
  go_region_with (go_at_call 16; refine (odd_in k s w).mono ?_; rintro e w1 ⟨p, v, rfl, c1, d0, d1, d2, f0, HR⟩)
  all_goals go_wp2
  all_goals (obtain ⟨g1, g2, g3, g4⟩ := HR.out; refine bodyPost_ret (results_tmp_cell_row rfl _ _ (w.heap.size + 1) 31 _ (0, 0) _ rfl (set3 _ _ _ g1) Try.underlying31 rfl (by kernel_rfl)) rfl ?_)
  all_goals (have hk : kd k = 2 := by simp [kd, h0, h1])
  all_goals (refine ⟨⟨p, 2, 0, s, v⟩, hk.symm, rfl, by rw [hk]; rfl, ⟨(set3_far (by simp only; omega)).trans g2, fun h => by simp at h⟩, set3_below g4 (by omega), by simp only; omega, fun h => by simp at h⟩)

theorem made_any (k n : Int) (s : ByteArray) (w : World) : Calls Try.prog 8 #[.agg #[.int .i64 k, .string s], .int .i64 n] w fun e w' => MadeR k n s w w' e := by
  by_cases h0 : k = 0
  · subst h0; exact made_new n s w
  · by_cases h1 : k = 1
    · subst h1; exact made_plain n s w
    · exact made_odd k n s w h0 h1
end Go.Proofs.Ytbofeednhihniaa
