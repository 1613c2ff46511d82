/- What a file of memory answers by its methods, how the methods of a handle's file come up, and the copy of bytes. -/
import Derived.Test.YtleenkdlnmoepaaOf
namespace Go.Proofs.Ytleenkdlnmoepaa
open Go.RowKit
attribute [local simp] lcells_nil readB_length bcells_length

/-- A method that comes up through an embedded interface, of a pointer to a struct: the method of what lies in that field. -/
theorem method_up {P : Program} {w : World} {n : Nat} {t : TypeId} {a : Addr} {name : String} {st : TypeId} {ix : Nat} {ft : TypeId} {off : Nat} {t' : TypeId} {v' : Value}
    (h1 : ((P.info? t).bind fun i => (i.methods.find? (·.name == name)).map fun m => (m.path.toList.map fun s => (s.struct, s.index, s.deref), m.func)) = some ([(st, ix, true)], none))
    (h2 : (match P.underlying st with | some (.struct fs) => fs[ix]?.map fun f => (f.type, f.offset) | _ => none) = some (ft, off))
    (h3 : (sizeOf ft).run P w = .ok 1 w) (h4 : (isAgg ft).run P w = .ok false w) (hc : w.cell? (a.add off) = some (.iface t' v')) :
    (method (n + 1) t (.pointer (some a)) name).run P w = (method n t' v' name).run P w := by
  obtain ⟨i, hi, h1⟩ := Option.bind_eq_some_iff.1 h1
  obtain ⟨m, hm, h1⟩ := Option.map_eq_some_iff.1 h1
  injection h1 with hp hf
  obtain ⟨s, hs, hp2⟩ : ∃ s, m.path.toList = [s] ∧ (s.struct, s.index, s.deref) = (st, ix, true) := by
    cases e : m.path.toList with
    | nil => rw [e] at hp; cases hp
    | cons s r =>
      rw [e] at hp
      cases r with
      | nil => simp only [List.map_cons, List.map_nil, List.cons.injEq, and_true] at hp; exact ⟨s, rfl, hp⟩
      | cons u v => simp at hp
  simp only [Prod.mk.injEq] at hp2
  obtain ⟨e1, e2, e3⟩ := hp2
  cases hu : P.underlying st with
  | none => rw [hu] at h2; cases h2
  | some d =>
    rw [hu] at h2
    cases d <;> first | (cases h2; done) | skip
    rename_i fs
    obtain ⟨f, hx, h2⟩ := Option.map_eq_some_iff.1 h2
    injection h2 with e4 e5
    subst e4 e5
    rw [method]
    simp only [Sem.run_bind, typeInfo, run_program, Result.andThen_ok, hi, Sem.run_pure, hm, hs, hf, follow, run_underlying (e1 ▸ hu), e2, hx, e3, Place.get, asAddr, fieldPlace, h3, loadVar, h4, run_load, hc, ↓reduceIte, Bool.false_eq_true, Nat.one_ne_zero]

theorem up_size (T : TypeId) (hT : (Try.prog.info? T).map (·.size) = some 1) (w : World) : (sizeOf T).run Try.prog w = .ok 1 w := by
  obtain ⟨i, hi, e⟩ := Option.map_eq_some_iff.1 hT
  simp only [sizeOf, typeInfo, Sem.run_bind, run_program, Result.andThen_ok, hi, Sem.run_pure, e]
theorem up_agg (T : TypeId) {l : Array (String × TypeId)} (hT : Try.prog.underlying T = some (.interface l)) (w : World) : (isAgg T).run Try.prog w = .ok false w := by
  simp only [isAgg, Sem.run_bind, run_underlying hT, Result.andThen_ok, Sem.run_pure]

theorem meth15_Cut (w : World) (fb : Nat) (m : Addr) (h : w.cell? ⟨fb, 2, none⟩ = some (I m)) : (method 313 175 (.pointer (some ⟨fb, 0, none⟩)) "Cut").run Try.prog w = .ok (103, .pointer (some m)) w :=
  (method_up (n := 312) (st := 176) (ix := 2) (ft := 84) (off := 2) (by kernel_rfl) (by kernel_rfl) (up_size 84 (by kernel_rfl) w) (up_agg 84 Try.underlying84 w) (by simpa [Addr.add] using h)).trans (by kernel_rfl)

set_option maxHeartbeats 400000 in
theorem bclone_any (src : Addr) (l : List UInt8) (c : Nat) (w : World) (h0 : 0 < l.length) (hlen : l.length ≤ 4294967296) (hsrc : ∀ j v, (bcells l)[j]? = some v → w.cell? (src.add j) = some v) :
    Calls Try.prog 32 #[.slice (some src) l.length c] w fun e w' => ∃ g cap, e = .returned (.slice (some ⟨g, 0, none⟩) l.length cap) ∧ w.heap.size ≤ g ∧ w'.ownsRow 0 5 1 (.slice (some ⟨g, 0, none⟩) l.length cap) l.length (bcells l) ∧ Below w.heap.size w w' := by
  have hnil : ∀ w, (binOp .eql 41 (.slice (some src) l.length c) (.slice none 0 0)).run Try.prog w = .ok (.bool false) w := fun w => Lib.run_eql_slice_nil w 41 5 (some src) l.length c 0 0 Try.underlying41
  have hB : Below w.heap.size w (w.alloc (.cells #[] 5)) := below_al w _
  have hown : (w.alloc (.cells #[] 5)).ownsRow 0 5 1 (.slice (some ⟨w.heap.size, 0, none⟩) 0 0) 0 [] := World.ownsRow_made w #[] 0 (Nat.zero_le _) (by decide) (by simp)
  have hs2 : ∀ j v, (bcells l)[j]? = some v → (w.alloc (.cells #[] 5)).cell? (src.add j) = some v := fun j v h => (hB.cell (World.block_lt_of_cell? w _ (hsrc j v h))).trans (hsrc j v h)
  have h63 : 0 + l.length ≤ maxLen := by unfold maxLen; omega
  have hby : (0 + l.length) * 1 ≤ 140737488355328 := by omega
  have hll : (bcells l).length = l.length * 1 := by simp
  have HO := aside hown
  have HS := aside hs2
  have HB := aside hB
  have H63 := aside h63
  have HLL := aside hll
  clear hs2 hsrc hown hB h63 hll
  go_enter Try.func32, Try.ntmps32
  go_wp2_with (at_builtin; refine wpList_append_where _ rfl _ _ 41 rfl 5 (.int .u8 0) 1 1 Try.underlying41 info5 rfl (by decide) (.slice (some ⟨w.heap.size, 0, none⟩) 0 0) 0 [] rfl HO.out _ l.length _ (bcells l) rfl HLL.out HS.out (bcells_one _) H63.out hby h0 ?_; intro v' w' ho hg hwh)
  go_ret
  simp only [Nat.zero_add, List.nil_append] at ho
  rcases ho.2 with ⟨-, hz⟩ | ⟨g, cap, cur, rfl, r⟩
  · omega
  · refine ⟨g, cap, rfl, ?_, ho, ?_⟩
    · rcases hwh with ⟨e1, -⟩ | ⟨e1, -⟩
      · simp only [Value.ownBlock, Option.some.injEq] at e1; omega
      · simp only [Value.ownBlock, Option.some.injEq, World.size_alloc] at e1; omega
    · exact (HB.out).grown hg (by simp) (fun k hk => by simp only [Value.ownBlock, Option.some.injEq] at hk; omega)

theorem meth15_Size (w : World) (fb : Nat) (m : Addr) (h : w.cell? ⟨fb, 0, none⟩ = some (I m)) : (method 313 175 (.pointer (some ⟨fb, 0, none⟩)) "Size").run Try.prog w = .ok (106, .pointer (some m)) w :=
  (method_up (n := 312) (st := 176) (ix := 0) (ft := 69) (off := 0) (by kernel_rfl) (by kernel_rfl) (up_size 69 (by kernel_rfl) w) (up_agg 69 Try.underlying69 w) (by simpa [Addr.add] using h)).trans (by kernel_rfl)
theorem meth15_ReadAt (w : World) (fb : Nat) (m : Addr) (h : w.cell? ⟨fb, 0, none⟩ = some (I m)) : (method 313 175 (.pointer (some ⟨fb, 0, none⟩)) "ReadAt").run Try.prog w = .ok (105, .pointer (some m)) w :=
  (method_up (n := 312) (st := 176) (ix := 0) (ft := 69) (off := 0) (by kernel_rfl) (by kernel_rfl) (up_size 69 (by kernel_rfl) w) (up_agg 69 Try.underlying69 w) (by simpa [Addr.add] using h)).trans (by kernel_rfl)
theorem meth0_ReadAt (w : World) (fb : Nat) (m : Addr) (h : w.cell? ⟨fb, 0, none⟩ = some (I m)) : (method 313 130 (.pointer (some ⟨fb, 0, none⟩)) "ReadAt").run Try.prog w = .ok (105, .pointer (some m)) w :=
  (method_up (n := 312) (st := 132) (ix := 0) (ft := 69) (off := 0) (by kernel_rfl) (by kernel_rfl) (up_size 69 (by kernel_rfl) w) (up_agg 69 Try.underlying69 w) (by simpa [Addr.add] using h)).trans (by kernel_rfl)

set_option maxRecDepth 20000 in
set_option maxHeartbeats 1000000 in
theorem cutGrow_any (b sz : Nat) (lv : Value) (L : List Piece) (x : Nat) (w : World) (hR : Rep w b sz lv L) (hs : sz ≤ x) (hx : x ≤ 1073741824) :
    Calls Try.prog 81 #[.pointer (some ⟨b, 0, none⟩), .int .i64 x] w fun e w' => e = .returned (.int .i64 0) ∧ Rep w' b x lv L ∧ Upd (fun k => k = b) w w' := by
  obtain ⟨c0, c1, c2⟩ := hR.cells
  have h0 : ¬ ((x : Int) < 0) := by omega
  have h1 : ¬ (1073741824 < (x : Int)) := by omega
  have h2 : ¬ (1073741824 < x) := by omega
  have h3 : (sz : Int) ≤ (x : Int) := by omega
  have hE : Calls Try.prog 85 #[.pointer (some ⟨b, 0, none⟩), .int .i64 x, .int .i64 sz] w fun e w' => e = .returned (.tuple #[]) ∧ Below w.heap.size w w' := by
    go_enter Try.func85, Try.ntmps85
    go_wp2
    (try simp only [Exit.inBlock, Exit.then])
    refine bodyPost_ret (results_none rfl _ _ _) rfl ?_
    exact ⟨rfl, below_tr (below_al w _) (below_al _ _)⟩
  have HE := aside hE
  have HR := aside hR
  clear hR hE
  go_enter Try.func81, Try.ntmps81
  go_wp2_with fail
  refine HE.out.mono ?_
  rintro e w' ⟨rfl, hb⟩
  have hR' := HR.out.below hb
  obtain ⟨d0, d1, d2⟩ := hR'.cells
  have f0 : w'.frozen? ⟨b, 0, none⟩ = false := frozen_of_row w' b 0 _ _ hR'.str.obj
  go_wp2_with fail
  go_ret
  have hS := hR'.str.set 0 (.int .i64 x) (.int .i64 x) (.int .i64 (heldOf L)) rfl
  refine ⟨rfl, ⟨hS, hR'.inv.sep, hR'.inv.ne, fun d hd => ?_, hx, hR'.inv.held⟩, ?_⟩
  · have := hR'.inv.fin d hd; omega
  · exact (Upd.of_below hb).trans (Upd.setCell (F := fun k => k = b) (p := ⟨b, 0, none⟩) rfl _) (fun _ _ h => h)

/-- A file of memory: its one cell names the bytes. -/
def Fil (w : World) (m b : Nat) : Prop := w.heap[m]? = some (.cells #[.pointer (some ⟨b, 0, none⟩)] 112 (0, 0))
theorem Fil.cell {w : World} {m b : Nat} (h : Fil w m b) : w.cell? ⟨m, 0, none⟩ = some (.pointer (some ⟨b, 0, none⟩)) := by
  rw [cell_of_row w m _ _ _ _ h]; rfl
theorem Fil.below {w w' : World} {m b : Nat} (h : Fil w m b) (k : Below w.heap.size w w') : Fil w' m b := (k.block m (Array.getElem?_eq_some_iff.1 h).1).trans h

set_option maxRecDepth 20000 in
set_option maxHeartbeats 1000000 in
theorem fSize_any (m b sz : Nat) (lv : Value) (L : List Piece) (w : World) (hF : Fil w m b) (hR : Rep w b sz lv L) : Calls Try.prog 106 #[.pointer (some ⟨m, 0, none⟩)] w fun e w' => e = .returned (.int .i64 sz) ∧ w' = w := by
  have h0 := hF.cell
  have HR := aside hR
  clear hR hF
  go_enter Try.func106, Try.ntmps106
  go_wp2_with fail
  refine (size_any b sz lv L w HR.out).mono ?_
  rintro e w' ⟨rfl, rfl⟩
  go_wp2
  go_ret
  exact ⟨rfl, rfl⟩

set_option maxRecDepth 20000 in
set_option maxHeartbeats 1000000 in
theorem fCut_any (m b sz : Nat) (lv : Value) (L : List Piece) (x : Nat) (w : World) (hF : Fil w m b) (hR : Rep w b sz lv L) (hs : sz ≤ x) (hx : x ≤ 1073741824) :
    Calls Try.prog 103 #[.pointer (some ⟨m, 0, none⟩), .int .i64 x] w fun e w' => e = .returned (.int .i64 0) ∧ Rep w' b x lv L ∧ Upd (fun k => k = b) w w' := by
  have h0 := hF.cell
  have HR := aside hR
  clear hR hF
  go_enter Try.func103, Try.ntmps103
  go_wp2_with fail
  refine (cutGrow_any b sz lv L x w HR.out hs hx).mono ?_
  rintro e w' ⟨rfl, h1, h2⟩
  go_wp2
  go_ret
  exact ⟨rfl, h1, h2⟩

set_option maxRecDepth 20000 in
set_option maxHeartbeats 1000000 in
theorem fRead_any (m b sz : Nat) (lv : Value) (L : List Piece) (x n : Nat) (w : World) (hF : Fil w m b) (hR : Rep w b sz lv L) (hx : x < sz) (hn : n ≤ 65536) (hn0 : 0 < n) :
    Calls Try.prog 105 #[.pointer (some ⟨m, 0, none⟩), .int .i64 x, .int .i64 n] w fun e w' => ∃ k, k = min n (min 65536 (sz - x)) ∧ e = .returned (.tuple #[.slice (some ⟨w.heap.size, 0, none⟩) k k, .int .i64 0]) ∧
      w'.heap[w.heap.size]? = some (.cells (bcells (readB L x k)).toArray 5 (0, 0)) ∧ Below w.heap.size w w' := by
  have h0 := hF.cell
  have HR := aside hR
  have h1 : ¬ ((x : Int) < 0) := by omega
  have h2 : ¬ ((n : Int) < 0) := by omega
  have h3 : ¬ ((65536 : Int) < n) := by omega
  have h4 : ¬ (65536 < n) := by omega
  clear hR hF
  go_enter Try.func105, Try.ntmps105
  go_wp2_with fail
  refine (get_any b lv sz L x n w HR.out.inv hx (by omega) hn0 HR.out.cells.1 HR.out.cells.2.2 HR.out.str.row HR.out.str.data).mono ?_
  rintro e w' ⟨k, hk, rfl, h5, h6⟩
  have HK := aside hk
  clear hk
  go_wp2
  go_ret2
  exact ⟨k, HK.out, rfl, h5, h6⟩
end Go.Proofs.Ytleenkdlnmoepaa
