/- sums.New over two files of memory. -/
import Derived.Test.YtoagjgcpgpjjeaaFaceW
import Derived.Test.YtoagjgcpgpjjeaaTable
namespace Go.Proofs.Ytoagjgcpgpjjeaa
open Go.RowKit
attribute [local simp] lcells_nil readB_length bcells_length

/-- A file of memory that can all. -/
abbrev FSy (fb : Nat) : Value := .iface 175 (.pointer (some ⟨fb, 0, none⟩))
/-- What ask finds of it. -/
abbrev Bel (fb n : Nat) : Array Value := #[FSy fb, FSy fb, FSy fb, .func (.method "ReadAt") #[FSy fb] #[], .int .i64 n]

/-- A file with sums: what it stands over. -/
abbrev SFc (fa ft : Nat) : Array Value := #[FSy fa, FSy fa, FSy fa, .func (.method "ReadAt") #[FSy fa] #[], .int .i64 64, FSy ft, FSy ft, FSy ft, .func (.method "ReadAt") #[FSy ft] #[], .int .i64 8]
def SF (w : World) (f fa ft : Nat) : Prop := w.heap[f]? = some (.cells (SFc fa ft) 83 (0, 0))
theorem storeF (w : World) (a : Addr) (fn : Fn) (f c : Array Value) : (store a (.func fn f c)).run Try.prog w = match w.cell? a with
      | some _ => if w.frozen? a then .halt (.unsupported (.unsafePointer "a write to bytes that a string shares")) w else .ok () (w.setCell a (.func fn f c))
      | none => match w.farStore Try.prog a (.func fn f c) (Mode.plain == .atomic) with
        | .ok (w', _) => .ok () w'
        | .error h => .halt h w := run_store Try.prog w a (.func fn f c) .plain rfl
theorem heap_alloc_first (w : World) (a b : Array Value) (s t : TypeId) : ((w.alloc (.cells a s)).alloc (.cells b t)).heap[w.heap.size]? = some (.cells a s (0, 0)) :=
  ((below_al (w.alloc (.cells a s)) _).block _ (by simp)).trans (heap_alloc_new w _)
set_option maxRecDepth 20000 in
set_option maxHeartbeats 1000000 in
theorem ask_any (fb n : Nat) (w : World) : Calls Try.prog 36 #[FSy fb, .int .i64 n] w fun e w' => e = .returned (.agg (Bel fb n)) ∧ Below w.heap.size w w' := by
  have n1 := yesW
  have n4 := yesS
  have hk := hmf
  have hsf := storeF
  go_enter Try.func36, Try.ntmps36
  go_wp2
  refine bodyPost_ret (results_cell_row rfl _ _ w.heap.size 80 _ (0, 0) _ rfl (heap_alloc_first w _ _ _ _) Try.underlying80 rfl (by kernel_rfl)) rfl ?_
  exact ⟨rfl, below_tr (below_al w _) (below_al _ _)⟩

set_option maxRecDepth 20000 in
set_option maxHeartbeats 2000000 in
theorem sumsNew_any (ha fa : Nat) (pa : Addr) (ht ft : Nat) (pt : Addr) (w : World) (h1 : All15 w ha fa pa) (h2 : All15 w ht ft pt) : Calls Try.prog 16 #[.pointer (some ⟨ha, 0, none⟩), .pointer (some ⟨ht, 0, none⟩)] w fun e w' => ∃ hb fb f, e = .returned (.tuple #[.pointer (some ⟨hb, 0, none⟩), .int .i64 0]) ∧ AllW 74 w' hb fb ⟨f, 0, none⟩ ∧ SF w' f fa ft ∧ Below w.heap.size w w' := by
  have a5 := (han_cells h1.han).2.2.2.2.2
  have b5 := (han_cells h2.han).2.2.2.2.2
  have F1 := aside (file_any ha _ w a5)
  have F2 := aside (file_any ht _ w b5)
  have H1 := aside h1
  have H2 := aside h2
  clear h1 h2 a5 b5
  go_enter Try.func16, Try.ntmps16
  go_wp2_with fail
  refine F1.out.mono ?_
  rintro e w' ⟨rfl, rfl⟩
  go_wp2_with fail
  refine F2.out.mono ?_
  rintro e w' ⟨rfl, rfl⟩
  go_wp2_with fail
  refine (ask_any fa 64 w').mono ?_
  rintro e w1 ⟨rfl, hb1⟩
  have HB1 := aside hb1
  clear hb1 F1 F2
  go_wp2_with fail
  refine (ask_any ft 8 w1).mono ?_
  rintro e w2 ⟨rfl, hb2⟩
  have HB2 := aside (below_tr HB1.out hb2)
  clear hb2
  have hsf := storeF
  go_wp2_with fail
  obtain ⟨U, hU⟩ : ∃ U, U = w2.alloc (.cells (SFc fa ft) 83) := ⟨_, rfl⟩
  have hSU : SF U w2.heap.size fa ft := by rw [hU]; exact heap_alloc_new w2 _
  have hBU : Below w2.heap.size w2 U := by rw [hU]; exact below_al w2 _
  rw [← hU]
  clear hU hsf
  refine (make_ws 74 ⟨w2.heap.size, 0, none⟩ U).mono ?_
  rintro e w3 ⟨hb, fb, rfl, h1, h2, h3, h4, hb3⟩
  have HA3 : Aside (AllW 74 w3 hb fb ⟨w2.heap.size, 0, none⟩) := ⟨h3, h4⟩
  have HS3 : Aside (SF w3 w2.heap.size fa ft) := (hb3.block _ (Array.getElem?_eq_some_iff.1 hSU).1).trans hSU
  have HB3 := aside (below_tr (below_tr HB2.out hBU) hb3)
  have G1 := aside (can_all_any ha fa pa w3 (H1.out.below HB3.out))
  have G2 := aside (can_all_any ht ft pt w3 (H2.out.below HB3.out))
  clear h1 h2 h3 h4 hb3 hSU hBU HB1 HB2
  go_wp2_with fail
  refine G1.out.mono ?_
  rintro e w' ⟨rfl, rfl⟩
  go_wp2_with fail
  refine G2.out.mono ?_
  rintro e w' ⟨rfl, rfl⟩
  go_wp2_with fail
  refine (Only_ws 74 _ hb fb w' HA3.out).mono ?_
  rintro e w4 ⟨hb2, fb2, rfl, h1, h2, h3, hb4⟩
  have HS4 : Aside (SF w4 w2.heap.size fa ft) := (hb4.block _ (Array.getElem?_eq_some_iff.1 HS3.out).1).trans HS3.out
  have HA4 := aside h3
  have HB4 := aside (below_tr HB3.out hb4)
  clear h1 h2 h3 hb4
  go_wp2_with fail
  go_ret2
  exact ⟨hb2, fb2, _, rfl, HA4.out, HS4.out, HB4.out⟩
end Go.Proofs.Ytoagjgcpgpjjeaa
