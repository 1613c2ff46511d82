/-
  CapsFolds, where what it reads is of bulk at most 1048576: a stack of two lists is the second over the first, and some wrappers twice are what they are once; no condition beside that bound.
-/
import Derived.Test.YtniohiepnojjbaaDoorFolds
import Derived.Test.YtniohiepnojjbaaDoorCards
import Derived.Test.YtniohiepnojjbaaDoorTie
import Derived.Deep.DeepHandedRow
namespace Go.Proofs.YtniohiepnojjbaaDoor
open Go.ChangeShapes Go.WideShapes Go.ChangeAt Go.RowKit

theorem fidx_0 (w : World) : (Instr.index 51 (.agg #[.int .i8 0, .int .i8 3, .int .i8 9, .int .i8 10, .int .i8 7, .int .i8 4]) (.int .i64 0)).run Tryd.prog w = .ok (.int .i8 0) w := by kernel_rfl
theorem fidx_1 (w : World) : (Instr.index 51 (.agg #[.int .i8 0, .int .i8 3, .int .i8 9, .int .i8 10, .int .i8 7, .int .i8 4]) (.int .i64 1)).run Tryd.prog w = .ok (.int .i8 3) w := by kernel_rfl
theorem fidx_2 (w : World) : (Instr.index 51 (.agg #[.int .i8 0, .int .i8 3, .int .i8 9, .int .i8 10, .int .i8 7, .int .i8 4]) (.int .i64 2)).run Tryd.prog w = .ok (.int .i8 9) w := by kernel_rfl
theorem fidx_3 (w : World) : (Instr.index 51 (.agg #[.int .i8 0, .int .i8 3, .int .i8 9, .int .i8 10, .int .i8 7, .int .i8 4]) (.int .i64 3)).run Tryd.prog w = .ok (.int .i8 10) w := by kernel_rfl
theorem fidx_4 (w : World) : (Instr.index 51 (.agg #[.int .i8 0, .int .i8 3, .int .i8 9, .int .i8 10, .int .i8 7, .int .i8 4]) (.int .i64 4)).run Tryd.prog w = .ok (.int .i8 7) w := by kernel_rfl
theorem fidx_5 (w : World) : (Instr.index 51 (.agg #[.int .i8 0, .int .i8 3, .int .i8 9, .int .i8 10, .int .i8 7, .int .i8 4]) (.int .i64 5)).run Tryd.prog w = .ok (.int .i8 4) w := by kernel_rfl

/-- The wrapper of a kind alone. -/
def bare (k : Int) : Wr := ⟨k, 0, 0, 0⟩

theorem rdw1 (w : World) (b : Nat) (k : Int) (h0 : w.cell? ⟨b, 0, none⟩ = some (.int .i8 k)) (h1 : w.cell? ⟨b, 1, none⟩ = some (.int .i64 0)) (h2 : w.cell? ⟨b, 2, none⟩ = some (.int .i64 0)) (h3 : w.cell? ⟨b, 3, none⟩ = some (.int .u64 0)) : RdW w b 0 [bare k] := fun j x hj => by
  match j, hj with
  | 0, hj => simp at hj; subst hj; exact ⟨h0, h1, h2, h3⟩
  | j + 1, hj => simp at hj
theorem rdw2 (w : World) (b : Nat) (k : Int) (h0 : w.cell? ⟨b, 0, none⟩ = some (.int .i8 k)) (h1 : w.cell? ⟨b, 1, none⟩ = some (.int .i64 0)) (h2 : w.cell? ⟨b, 2, none⟩ = some (.int .i64 0)) (h3 : w.cell? ⟨b, 3, none⟩ = some (.int .u64 0))
    (h4 : w.cell? ⟨b, 4, none⟩ = some (.int .i8 k)) (h5 : w.cell? ⟨b, 5, none⟩ = some (.int .i64 0)) (h6 : w.cell? ⟨b, 6, none⟩ = some (.int .i64 0)) (h7 : w.cell? ⟨b, 7, none⟩ = some (.int .u64 0)) : RdW w b 0 [bare k, bare k] := fun j x hj => by
  match j, hj with
  | 0, hj => simp at hj; subst hj; exact ⟨h0, h1, h2, h3⟩
  | 1, hj => simp at hj; subst hj; exact ⟨h4, h5, h6, h7⟩
  | j + 2, hj => simp at hj

set_option maxHeartbeats 8000000 in
set_option maxRecDepth 100000 in
theorem capsFolds_walk (al am : Option Addr) (cl cm : Nat) (ws ms : List Wr) (leaf : Nat) (w : World) (hw : WordsAt w) (hl : ws ≠ [] → ∃ blk off, al = some ⟨blk, off, none⟩ ∧ RdW w blk off ws) (hm : ms ≠ [] → ∃ blk off, am = some ⟨blk, off, none⟩ ∧ RdW w blk off ms)
    (hk : ∀ z ∈ ws, -128 ≤ z.kind ∧ z.kind < 128) (hk2 : ∀ z ∈ ms, -128 ≤ z.kind ∧ z.kind < 128) (hwl : ws.length ≤ 1048576) (hml : ms.length ≤ 1048576) (hleaf : leaf < 256) :
    Calls Tryd.prog 8 #[.slice al ws.length cl, .slice am ms.length cm, .int .u8 (leaf : Int)] w fun e w' => e = .returned (.bool true) ∧ Below w.heap.size w w' := by
  have HW := aside hw
  have HL := aside hl
  have HM := aside hm
  have HK := aside hk
  have HK2 := aside hk2
  clear hw hl hm hk hk2
  go_enter Tryd.func8, Tryd.ntmps8
  go_wp2_with fail
  refine (works_any w HW.out).mono ?_
  rintro e0 w1 ⟨rfl, b1⟩
  have rdl : ∀ W, Below w.heap.size w W → ws ≠ [] → ∃ blk off, al = some ⟨blk, off, none⟩ ∧ RdW W blk off ws := fun W hW hne => by obtain ⟨blk, off, e, r⟩ := HL.out hne; exact ⟨blk, off, e, r.below hW⟩
  have rdm : ∀ W, Below w.heap.size w W → ms ≠ [] → ∃ blk off, am = some ⟨blk, off, none⟩ ∧ RdW W blk off ms := fun W hW hne => by obtain ⟨blk, off, e, r⟩ := HM.out hne; exact ⟨blk, off, e, r.below hW⟩
  obtain ⟨a2, c2, w2, hr2, o2, b2, s2⟩ := append_wraps w1 47 w.heap.size b1.size (.slice none 0 0) 0 [] (World.ownsRow_nil _ _ _ _) al cl ws (rdl w1 b1) (by omega) hwl
  have b2' : Below w.heap.size w w2 := b1.trans b2
  obtain ⟨a3, c3, w3, hr3, o3, b3, s3⟩ := append_wraps w2 47 w.heap.size b2'.size (.slice a2 (0 + ws.length) c2) (0 + ws.length) ([] ++ wcells ws) o2 am cm ms (rdm w2 b2') (by omega) hml
  have b3' : Below w.heap.size w w3 := b2'.trans b3
  rw [List.nil_append, ← wcells_append] at o3
  rw [Nat.zero_add] at hr2 hr3 o3
  have rd3 : ws ++ ms ≠ [] → ∃ blk off, a3 = some ⟨blk, off, none⟩ ∧ RdW w3 blk off (ws ++ ms) := by
    intro hne
    rcases o3.2 with ⟨-, hz⟩ | ⟨g, cap, cur, hv, -⟩
    · exact absurd (List.length_eq_zero_iff.1 (by rw [List.length_append]; exact hz)) hne
    · simp only [Value.slice.injEq] at hv
      obtain ⟨rfl, -, -⟩ := hv
      exact ⟨g, 0, rfl, row_rdw o3⟩
  have S3 := aside (stack_any (ws ++ ms) leaf a3 c3 w3 rd3 (fun z hz => (List.mem_append.1 hz).elim (HK.out z) (HK2.out z)))
  rw [List.length_append, List.map_append] at S3
  have SA := aside (fun W (hW : Below w.heap.size w W) => stack_any ws leaf al cl W (rdl W hW) HK.out)
  have SB := aside (fun (lf : Nat) W (hW : Below w.heap.size w W) => stack_any ms lf am cm W (rdm W hW) HK2.out)
  have FO := aside (stack_folds (ws.map (·.kind)) (ms.map (·.kind)) leaf)
  have HR2 := aside hr2
  have HR3 := aside hr3
  have B3 := aside b3'
  clear rdl rdm hr2 hr3 o2 o3 b1 b2 b2' b3 b3' s2 s3 rd3
  generalize stackN (ws.map (·.kind) ++ ms.map (·.kind)) leaf = pa at *
  obtain ⟨xa, ea⟩ := pa
  generalize stackN (ws.map (·.kind)) leaf = pb at *
  obtain ⟨xb, eb⟩ := pb
  have hFO := FO.out
  simp only at hFO
  clear FO
  generalize hpc : stackN (ms.map (·.kind)) xb = pc at *
  obtain ⟨xc, ec⟩ := pc
  have SB2 := aside (fun W hW => SB.out xb W hW)
  rw [hpc] at SB2
  clear hpc SB
  have FO := aside hFO
  clear hFO
  go_wp2_with (at_builtin; first
    | ((with_reducible refine wpList_append_to _ rfl _ _ 47 47 rfl (.slice none 0 0) (.slice al ws.length cl) ?_ ?_ HR2.out ?_); rfl; rfl)
    | ((with_reducible refine wpList_append_to _ rfl _ _ 47 47 rfl (.slice a2 ws.length c2) (.slice am ms.length cm) ?_ ?_ HR3.out ?_); rfl; rfl))
  refine S3.out.mono ?_
  rintro e4 w4 ⟨rfl, b4⟩
  have B4 := aside (below_tr B3.out b4)
  clear b4
  go_wp2_with fail
  refine (SA.out w4 B4.out).mono ?_
  rintro e5 w5 ⟨rfl, b5⟩
  have B5 := aside (below_tr B4.out b5)
  clear b5
  go_wp2_with fail
  refine (SB2.out w5 B5.out).mono ?_
  rintro e6 w6 ⟨rfl, b6⟩
  have B6 := aside (below_tr B5.out b6)
  clear b6
  have hcase : (ea = 0 ∧ eb = 0 ∧ ec = 0 ∧ xa = xc) ∨ ea ≠ 0 := by
    by_cases h : ea = 0
    · obtain ⟨h1, h2, h3⟩ := FO.out h
      exact .inl ⟨h, h1, h2, h3⟩
    · exact .inr h
  rcases hcase with ⟨g1, g2, g3, g4⟩ | g1
  all_goals first
    | (subst g1; subst g2; subst g3; subst g4; go_wp2)
    | (have t1 : (ea == 0) = false := (by simpa using g1); go_wp2)
  all_goals
    go_loopg [59] 6 (fun kx s59 wr => ∃ j : Nat, s59 = .int .i64 j ∧ j ≤ 6 ∧ 6 - j ≤ kx ∧ Aside (Below w.heap.size w wr))
    case atStart => exact ⟨0, rfl, by omega, by omega, B6⟩
    case round =>
      obtain ⟨j, rfl, hj, hkk, hbw⟩ := hrel
      by_cases hlt : j < 6
      · have hj6 : j = 0 ∨ j = 1 ∨ j = 2 ∨ j = 3 ∨ j = 4 ∨ j = 5 := by omega
        rcases hj6 with rfl | rfl | rfl | rfl | rfl | rfl
        · have hix := fun W => fidx_0 W
          have hT := twice leaf 0 (by decide)
          have hlt16 := stackN_small [0] leaf
          have S1 := aside (fun W (b : Nat) (h : RdW W b 0 [bare 0]) => stack_any [bare 0] leaf (some ⟨b, 0, none⟩) 1 W (fun _ => ⟨b, 0, rfl, h⟩) (by simp [bare]))
          have S2 := aside (fun W (b : Nat) (h : RdW W b 0 [bare 0, bare 0]) => stack_any [bare 0, bare 0] leaf (some ⟨b, 0, none⟩) 2 W (fun _ => ⟨b, 0, rfl, h⟩) (by simp [bare]))
          simp only [List.map_cons, List.map_nil, bare, List.length_cons, List.length_nil, Nat.zero_add, Nat.reduceAdd] at S1 S2
          rw [← hT.1] at S2
          have hT2 := aside hT.2
          clear hT
          generalize stackN [0] leaf = pk at *
          obtain ⟨xk, ek⟩ := pk
          simp only at hlt16
          go_wp2_with fail
          refine (S1.out _ _ (rdw1 _ _ 0 (by go_simp) (by go_simp) (by go_simp) (by go_simp))).mono ?_
          rintro e7 w7 ⟨rfl, b7⟩
          have q0 : w7.cell? ⟨wr.heap.size, 0, none⟩ = some (.int .i8 0) := (b7.cell (p := ⟨wr.heap.size, 0, none⟩) (by simp; omega)).trans (by go_simp)
          have q1 : w7.cell? ⟨wr.heap.size, 1, none⟩ = some (.int .i64 0) := (b7.cell (p := ⟨wr.heap.size, 1, none⟩) (by simp; omega)).trans (by go_simp)
          have q2 : w7.cell? ⟨wr.heap.size, 2, none⟩ = some (.int .i64 0) := (b7.cell (p := ⟨wr.heap.size, 2, none⟩) (by simp; omega)).trans (by go_simp)
          have q3 : w7.cell? ⟨wr.heap.size, 3, none⟩ = some (.int .u64 0) := (b7.cell (p := ⟨wr.heap.size, 3, none⟩) (by simp; omega)).trans (by go_simp)
          have B7 := aside (below_tr hbw.out (below_tr (below_tr (below_al wr _) (below_al _ _)) b7))
          clear b7
          go_wp2_with fail
          refine (S2.out _ _ (rdw2 _ _ 0 (by go_simp) (by go_simp) (by go_simp) (by go_simp) (by go_simp) (by go_simp) (by go_simp) (by go_simp))).mono ?_
          rintro e8 w8 ⟨rfl, b8⟩
          have B8 := aside (below_tr B7.out (below_tr (below_al w7 _) b8))
          clear b8 q0 q1 q2 q3
          by_cases hek : ek = 0
          · subst hek
            have CL := aside (less_any xk leaf (by omega) hleaf w8)
            rw [show lessN xk leaf = true from hT2.out (by first | trivial | rfl) (by first | trivial | decide)] at CL
            go_wp2_with fail
            refine CL.out.mono ?_
            rintro e9 w9 ⟨rfl, rfl⟩
            go_wp2
            go_roundg 5
            case measure => omega
            case rel => exact ⟨1, rfl, by omega, by omega, B8⟩
          · have tk : (ek == 0) = false := by simpa using hek
            go_wp2
            go_roundg 5
            case measure => omega
            case rel => exact ⟨1, rfl, by omega, by omega, B8⟩
        · have hix := fun W => fidx_1 W
          have hT := twice leaf 3 (by decide)
          have hlt16 := stackN_small [3] leaf
          have S1 := aside (fun W (b : Nat) (h : RdW W b 0 [bare 3]) => stack_any [bare 3] leaf (some ⟨b, 0, none⟩) 1 W (fun _ => ⟨b, 0, rfl, h⟩) (by simp [bare]))
          have S2 := aside (fun W (b : Nat) (h : RdW W b 0 [bare 3, bare 3]) => stack_any [bare 3, bare 3] leaf (some ⟨b, 0, none⟩) 2 W (fun _ => ⟨b, 0, rfl, h⟩) (by simp [bare]))
          simp only [List.map_cons, List.map_nil, bare, List.length_cons, List.length_nil, Nat.zero_add, Nat.reduceAdd] at S1 S2
          rw [← hT.1] at S2
          have hT2 := aside hT.2
          clear hT
          generalize stackN [3] leaf = pk at *
          obtain ⟨xk, ek⟩ := pk
          simp only at hlt16
          go_wp2_with fail
          refine (S1.out _ _ (rdw1 _ _ 3 (by go_simp) (by go_simp) (by go_simp) (by go_simp))).mono ?_
          rintro e7 w7 ⟨rfl, b7⟩
          have q0 : w7.cell? ⟨wr.heap.size, 0, none⟩ = some (.int .i8 3) := (b7.cell (p := ⟨wr.heap.size, 0, none⟩) (by simp; omega)).trans (by go_simp)
          have q1 : w7.cell? ⟨wr.heap.size, 1, none⟩ = some (.int .i64 0) := (b7.cell (p := ⟨wr.heap.size, 1, none⟩) (by simp; omega)).trans (by go_simp)
          have q2 : w7.cell? ⟨wr.heap.size, 2, none⟩ = some (.int .i64 0) := (b7.cell (p := ⟨wr.heap.size, 2, none⟩) (by simp; omega)).trans (by go_simp)
          have q3 : w7.cell? ⟨wr.heap.size, 3, none⟩ = some (.int .u64 0) := (b7.cell (p := ⟨wr.heap.size, 3, none⟩) (by simp; omega)).trans (by go_simp)
          have B7 := aside (below_tr hbw.out (below_tr (below_tr (below_al wr _) (below_al _ _)) b7))
          clear b7
          go_wp2_with fail
          refine (S2.out _ _ (rdw2 _ _ 3 (by go_simp) (by go_simp) (by go_simp) (by go_simp) (by go_simp) (by go_simp) (by go_simp) (by go_simp))).mono ?_
          rintro e8 w8 ⟨rfl, b8⟩
          have B8 := aside (below_tr B7.out (below_tr (below_al w7 _) b8))
          clear b8 q0 q1 q2 q3
          by_cases hek : ek = 0
          · subst hek
            have CL := aside (less_any xk leaf (by omega) hleaf w8)
            rw [show lessN xk leaf = true from hT2.out (by first | trivial | rfl) (by first | trivial | decide)] at CL
            go_wp2_with fail
            refine CL.out.mono ?_
            rintro e9 w9 ⟨rfl, rfl⟩
            go_wp2
            go_roundg 4
            case measure => omega
            case rel => exact ⟨2, rfl, by omega, by omega, B8⟩
          · have tk : (ek == 0) = false := by simpa using hek
            go_wp2
            go_roundg 4
            case measure => omega
            case rel => exact ⟨2, rfl, by omega, by omega, B8⟩
        · have hix := fun W => fidx_2 W
          have hT := twice leaf 9 (by decide)
          have hlt16 := stackN_small [9] leaf
          have S1 := aside (fun W (b : Nat) (h : RdW W b 0 [bare 9]) => stack_any [bare 9] leaf (some ⟨b, 0, none⟩) 1 W (fun _ => ⟨b, 0, rfl, h⟩) (by simp [bare]))
          have S2 := aside (fun W (b : Nat) (h : RdW W b 0 [bare 9, bare 9]) => stack_any [bare 9, bare 9] leaf (some ⟨b, 0, none⟩) 2 W (fun _ => ⟨b, 0, rfl, h⟩) (by simp [bare]))
          simp only [List.map_cons, List.map_nil, bare, List.length_cons, List.length_nil, Nat.zero_add, Nat.reduceAdd] at S1 S2
          rw [← hT.1] at S2
          have hT2 := aside hT.2
          clear hT
          generalize stackN [9] leaf = pk at *
          obtain ⟨xk, ek⟩ := pk
          simp only at hlt16
          go_wp2_with fail
          refine (S1.out _ _ (rdw1 _ _ 9 (by go_simp) (by go_simp) (by go_simp) (by go_simp))).mono ?_
          rintro e7 w7 ⟨rfl, b7⟩
          have q0 : w7.cell? ⟨wr.heap.size, 0, none⟩ = some (.int .i8 9) := (b7.cell (p := ⟨wr.heap.size, 0, none⟩) (by simp; omega)).trans (by go_simp)
          have q1 : w7.cell? ⟨wr.heap.size, 1, none⟩ = some (.int .i64 0) := (b7.cell (p := ⟨wr.heap.size, 1, none⟩) (by simp; omega)).trans (by go_simp)
          have q2 : w7.cell? ⟨wr.heap.size, 2, none⟩ = some (.int .i64 0) := (b7.cell (p := ⟨wr.heap.size, 2, none⟩) (by simp; omega)).trans (by go_simp)
          have q3 : w7.cell? ⟨wr.heap.size, 3, none⟩ = some (.int .u64 0) := (b7.cell (p := ⟨wr.heap.size, 3, none⟩) (by simp; omega)).trans (by go_simp)
          have B7 := aside (below_tr hbw.out (below_tr (below_tr (below_al wr _) (below_al _ _)) b7))
          clear b7
          go_wp2_with fail
          refine (S2.out _ _ (rdw2 _ _ 9 (by go_simp) (by go_simp) (by go_simp) (by go_simp) (by go_simp) (by go_simp) (by go_simp) (by go_simp))).mono ?_
          rintro e8 w8 ⟨rfl, b8⟩
          have B8 := aside (below_tr B7.out (below_tr (below_al w7 _) b8))
          clear b8 q0 q1 q2 q3
          by_cases hek : ek = 0
          · subst hek
            have CL := aside (less_any xk leaf (by omega) hleaf w8)
            rw [show lessN xk leaf = true from hT2.out (by first | trivial | rfl) (by first | trivial | decide)] at CL
            go_wp2_with fail
            refine CL.out.mono ?_
            rintro e9 w9 ⟨rfl, rfl⟩
            go_wp2
            go_roundg 3
            case measure => omega
            case rel => exact ⟨3, rfl, by omega, by omega, B8⟩
          · have tk : (ek == 0) = false := by simpa using hek
            go_wp2
            go_roundg 3
            case measure => omega
            case rel => exact ⟨3, rfl, by omega, by omega, B8⟩
        · have hix := fun W => fidx_3 W
          have hT := twice leaf 10 (by decide)
          have hlt16 := stackN_small [10] leaf
          have S1 := aside (fun W (b : Nat) (h : RdW W b 0 [bare 10]) => stack_any [bare 10] leaf (some ⟨b, 0, none⟩) 1 W (fun _ => ⟨b, 0, rfl, h⟩) (by simp [bare]))
          have S2 := aside (fun W (b : Nat) (h : RdW W b 0 [bare 10, bare 10]) => stack_any [bare 10, bare 10] leaf (some ⟨b, 0, none⟩) 2 W (fun _ => ⟨b, 0, rfl, h⟩) (by simp [bare]))
          simp only [List.map_cons, List.map_nil, bare, List.length_cons, List.length_nil, Nat.zero_add, Nat.reduceAdd] at S1 S2
          rw [← hT.1] at S2
          have hT2 := aside hT.2
          clear hT
          generalize stackN [10] leaf = pk at *
          obtain ⟨xk, ek⟩ := pk
          simp only at hlt16
          go_wp2_with fail
          refine (S1.out _ _ (rdw1 _ _ 10 (by go_simp) (by go_simp) (by go_simp) (by go_simp))).mono ?_
          rintro e7 w7 ⟨rfl, b7⟩
          have q0 : w7.cell? ⟨wr.heap.size, 0, none⟩ = some (.int .i8 10) := (b7.cell (p := ⟨wr.heap.size, 0, none⟩) (by simp; omega)).trans (by go_simp)
          have q1 : w7.cell? ⟨wr.heap.size, 1, none⟩ = some (.int .i64 0) := (b7.cell (p := ⟨wr.heap.size, 1, none⟩) (by simp; omega)).trans (by go_simp)
          have q2 : w7.cell? ⟨wr.heap.size, 2, none⟩ = some (.int .i64 0) := (b7.cell (p := ⟨wr.heap.size, 2, none⟩) (by simp; omega)).trans (by go_simp)
          have q3 : w7.cell? ⟨wr.heap.size, 3, none⟩ = some (.int .u64 0) := (b7.cell (p := ⟨wr.heap.size, 3, none⟩) (by simp; omega)).trans (by go_simp)
          have B7 := aside (below_tr hbw.out (below_tr (below_tr (below_al wr _) (below_al _ _)) b7))
          clear b7
          go_wp2_with fail
          refine (S2.out _ _ (rdw2 _ _ 10 (by go_simp) (by go_simp) (by go_simp) (by go_simp) (by go_simp) (by go_simp) (by go_simp) (by go_simp))).mono ?_
          rintro e8 w8 ⟨rfl, b8⟩
          have B8 := aside (below_tr B7.out (below_tr (below_al w7 _) b8))
          clear b8 q0 q1 q2 q3
          by_cases hek : ek = 0
          · subst hek
            have CL := aside (less_any xk leaf (by omega) hleaf w8)
            rw [show lessN xk leaf = true from hT2.out (by first | trivial | rfl) (by first | trivial | decide)] at CL
            go_wp2_with fail
            refine CL.out.mono ?_
            rintro e9 w9 ⟨rfl, rfl⟩
            go_wp2
            go_roundg 2
            case measure => omega
            case rel => exact ⟨4, rfl, by omega, by omega, B8⟩
          · have tk : (ek == 0) = false := by simpa using hek
            go_wp2
            go_roundg 2
            case measure => omega
            case rel => exact ⟨4, rfl, by omega, by omega, B8⟩
        · have hix := fun W => fidx_4 W
          have hT := twice leaf 7 (by decide)
          have hlt16 := stackN_small [7] leaf
          have S1 := aside (fun W (b : Nat) (h : RdW W b 0 [bare 7]) => stack_any [bare 7] leaf (some ⟨b, 0, none⟩) 1 W (fun _ => ⟨b, 0, rfl, h⟩) (by simp [bare]))
          have S2 := aside (fun W (b : Nat) (h : RdW W b 0 [bare 7, bare 7]) => stack_any [bare 7, bare 7] leaf (some ⟨b, 0, none⟩) 2 W (fun _ => ⟨b, 0, rfl, h⟩) (by simp [bare]))
          simp only [List.map_cons, List.map_nil, bare, List.length_cons, List.length_nil, Nat.zero_add, Nat.reduceAdd] at S1 S2
          rw [← hT.1] at S2
          have hT2 := aside hT.2
          clear hT
          generalize stackN [7] leaf = pk at *
          obtain ⟨xk, ek⟩ := pk
          simp only at hlt16
          go_wp2_with fail
          refine (S1.out _ _ (rdw1 _ _ 7 (by go_simp) (by go_simp) (by go_simp) (by go_simp))).mono ?_
          rintro e7 w7 ⟨rfl, b7⟩
          have q0 : w7.cell? ⟨wr.heap.size, 0, none⟩ = some (.int .i8 7) := (b7.cell (p := ⟨wr.heap.size, 0, none⟩) (by simp; omega)).trans (by go_simp)
          have q1 : w7.cell? ⟨wr.heap.size, 1, none⟩ = some (.int .i64 0) := (b7.cell (p := ⟨wr.heap.size, 1, none⟩) (by simp; omega)).trans (by go_simp)
          have q2 : w7.cell? ⟨wr.heap.size, 2, none⟩ = some (.int .i64 0) := (b7.cell (p := ⟨wr.heap.size, 2, none⟩) (by simp; omega)).trans (by go_simp)
          have q3 : w7.cell? ⟨wr.heap.size, 3, none⟩ = some (.int .u64 0) := (b7.cell (p := ⟨wr.heap.size, 3, none⟩) (by simp; omega)).trans (by go_simp)
          have B7 := aside (below_tr hbw.out (below_tr (below_tr (below_al wr _) (below_al _ _)) b7))
          clear b7
          go_wp2_with fail
          refine (S2.out _ _ (rdw2 _ _ 7 (by go_simp) (by go_simp) (by go_simp) (by go_simp) (by go_simp) (by go_simp) (by go_simp) (by go_simp))).mono ?_
          rintro e8 w8 ⟨rfl, b8⟩
          have B8 := aside (below_tr B7.out (below_tr (below_al w7 _) b8))
          clear b8 q0 q1 q2 q3
          by_cases hek : ek = 0
          · subst hek
            have CL := aside (less_any xk leaf (by omega) hleaf w8)
            rw [show lessN xk leaf = true from hT2.out (by first | trivial | rfl) (by first | trivial | decide)] at CL
            go_wp2_with fail
            refine CL.out.mono ?_
            rintro e9 w9 ⟨rfl, rfl⟩
            go_wp2
            go_roundg 1
            case measure => omega
            case rel => exact ⟨5, rfl, by omega, by omega, B8⟩
          · have tk : (ek == 0) = false := by simpa using hek
            go_wp2
            go_roundg 1
            case measure => omega
            case rel => exact ⟨5, rfl, by omega, by omega, B8⟩
        · have hix := fun W => fidx_5 W
          have hT := twice leaf 4 (by decide)
          have hlt16 := stackN_small [4] leaf
          have S1 := aside (fun W (b : Nat) (h : RdW W b 0 [bare 4]) => stack_any [bare 4] leaf (some ⟨b, 0, none⟩) 1 W (fun _ => ⟨b, 0, rfl, h⟩) (by simp [bare]))
          have S2 := aside (fun W (b : Nat) (h : RdW W b 0 [bare 4, bare 4]) => stack_any [bare 4, bare 4] leaf (some ⟨b, 0, none⟩) 2 W (fun _ => ⟨b, 0, rfl, h⟩) (by simp [bare]))
          simp only [List.map_cons, List.map_nil, bare, List.length_cons, List.length_nil, Nat.zero_add, Nat.reduceAdd] at S1 S2
          rw [← hT.1] at S2
          have hT2 := aside hT.2
          clear hT
          generalize stackN [4] leaf = pk at *
          obtain ⟨xk, ek⟩ := pk
          simp only at hlt16
          go_wp2_with fail
          refine (S1.out _ _ (rdw1 _ _ 4 (by go_simp) (by go_simp) (by go_simp) (by go_simp))).mono ?_
          rintro e7 w7 ⟨rfl, b7⟩
          have q0 : w7.cell? ⟨wr.heap.size, 0, none⟩ = some (.int .i8 4) := (b7.cell (p := ⟨wr.heap.size, 0, none⟩) (by simp; omega)).trans (by go_simp)
          have q1 : w7.cell? ⟨wr.heap.size, 1, none⟩ = some (.int .i64 0) := (b7.cell (p := ⟨wr.heap.size, 1, none⟩) (by simp; omega)).trans (by go_simp)
          have q2 : w7.cell? ⟨wr.heap.size, 2, none⟩ = some (.int .i64 0) := (b7.cell (p := ⟨wr.heap.size, 2, none⟩) (by simp; omega)).trans (by go_simp)
          have q3 : w7.cell? ⟨wr.heap.size, 3, none⟩ = some (.int .u64 0) := (b7.cell (p := ⟨wr.heap.size, 3, none⟩) (by simp; omega)).trans (by go_simp)
          have B7 := aside (below_tr hbw.out (below_tr (below_tr (below_al wr _) (below_al _ _)) b7))
          clear b7
          go_wp2_with fail
          refine (S2.out _ _ (rdw2 _ _ 4 (by go_simp) (by go_simp) (by go_simp) (by go_simp) (by go_simp) (by go_simp) (by go_simp) (by go_simp))).mono ?_
          rintro e8 w8 ⟨rfl, b8⟩
          have B8 := aside (below_tr B7.out (below_tr (below_al w7 _) b8))
          clear b8 q0 q1 q2 q3
          by_cases hek : ek = 0
          · subst hek
            go_wp2
            go_roundg 0
            case measure => omega
            case rel => exact ⟨6, rfl, by omega, by omega, B8⟩
          · have tk : (ek == 0) = false := by simpa using hek
            go_wp2
            go_roundg 0
            case measure => omega
            case rel => exact ⟨6, rfl, by omega, by omega, B8⟩
      · obtain rfl : j = 6 := by omega
        go_wp2
        go_ret
        exact ⟨rfl, hbw.out⟩
end Go.Proofs.YtniohiepnojjbaaDoor
