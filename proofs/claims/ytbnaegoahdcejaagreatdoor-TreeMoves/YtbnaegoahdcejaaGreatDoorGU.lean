/- The document's files: Size; Get at any place; Read; All. The document's Make: its code is the program's. The document's Make: a tree of its own out of a list of items. The document's Make, walked. -/
import Derived.Test.YtbnaegoahdcejaaGreatDoorGT
import Derived.Test.YtbnaegoahdcejaaGreatDoorGC
import Derived.Test.YtbnaegoahdcejaaGreatDoorGH
import Derived.Test.YtbnaegoahdcejaaGreatDoorGI
namespace Go.Proofs.YtbnaegoahdcejaaGreatDoor
open Go.RowKit Go.ChangeMaps

theorem R4.cells {w : World} {fb : Nat} {x : B} (h : R4 w fb x) : ∃ sb lv, w.cell? ⟨fb, 0, none⟩ = some (Pt sb) ∧ w.cell? ⟨sb, 0, none⟩ = some lv ∧ w.cell? ⟨sb, 1, none⟩ = some (.int .i64 (x.length : Int)) ∧ x.length ≤ 4194304 := by
  obtain ⟨sb, hi, h1, h2⟩ := h
  obtain ⟨lv, h3, -⟩ := h2.con
  exact ⟨sb, lv, by rw [cell_of_row w fb 0 _ _ _ h1]; rfl, by rw [cell_of_row w sb 0 _ _ _ h3]; rfl, by rw [cell_of_row w sb 1 _ _ _ h3]; rfl, h2.bd⟩
set_option maxRecDepth 20000 in
theorem r4Size_any {w : World} {fb : Nat} {x : B} (h : R4 w fb x) : Calls Tryz.prog 97 #[Pt fb] w fun e w' => e = .returned (.int .i64 (x.length : Int)) ∧ w' = w := by
  obtain ⟨sb, lv, c0, -, c1, -⟩ := h.cells
  obtain ⟨n, hn⟩ : ∃ n, n = x.length := ⟨_, rfl⟩
  rw [← hn] at c1 ⊢
  clear h hn
  go_enter Tryz.func97, Tryz.ntmps97
  go_wp2_with fail
  go_ret
  exact ⟨rfl, rfl⟩
theorem rend_any (x n : Nat) (a : Option Addr) (c : Nat) (w : World) (h : x + n ≤ 4611686018427387904) :
    Calls Tryz.prog 140 #[.agg #[.int .i64 x, .slice a n c]] w fun e w' => e = .returned (.int .i64 ((x + n : Nat) : Int)) ∧ Below w.heap.size w w' := by
  have hw : IntKind.i64.wrap ((x : Int) + (n : Int)) = ((x + n : Nat) : Int) := by rw [wrap_small _ (by omega) (by omega)]; simp
  go_enter Tryz.func140, Tryz.ntmps140
  go_wp2
  go_ret
  exact ⟨by simp, below_al w _⟩
theorem wpList_min2 {P : Program} (w : World) {ops : Array Oper} {rest : List Oper} {o : Oper} {a : Act} {Q : Exit → Act → World → Prop} (hgd : o.guard = none) (x y : Operand) (ts : Array TypeId)
    (ho : o.op = .call { callee := .builtin .min, args := #[x, y], argTypes := ts }) (p q m : Int) (hx : a.eval x = .int .i64 p) (hy : a.eval y = .int .i64 q)
    (hm : min p q = m) (h : wpList P ops Q rest (a.put o.dst (.int .i64 m)) w) : wpList P ops Q (o :: rest) a w := by
  refine wpList_plain hgd fun K hK => ?_
  have hr := run_min_int2 (P := P) (w := w) ts o.type .i64 .i64 p q
  rw [show (if q < p then q else p) = m by rw [← hm]; simp only [Int.min_def]; split <;> split <;> omega] at hr
  unfold Oper.wp execOp
  simp only [ho, resolve, invoke, builtin, Sem.run_bind, Sem.run_pure, Result.andThen_ok, List.map_toArray, List.map_cons, List.map_nil, hx, hy, hr]
  exact hK _ _ h
theorem bcells_drop (l : B) (x m : Nat) {j : Nat} {v : Value} (h : (bcells ((l.drop x).take m))[j]? = some v) : (bcells l)[x + j]? = some v := by
  unfold bcells at h ⊢
  rw [List.getElem?_map] at h ⊢
  rw [List.getElem?_take] at h
  split at h
  · rw [List.getElem?_drop] at h; exact h
  · cases h
/-- copy of a part of a row into new noughts. -/
theorem copy_part (W : World) (ty : TypeId) (g q x n c1 c2 : Nat) (l : B) (hn : x + n ≤ l.length) (hg : W.heap[g]? = some (.cells (bcells (List.replicate n 0)).toArray 5 (0, 0))) (hq : ∀ j v, (bcells l)[j]? = some v → W.cell? ((⟨q, 0, none⟩ : Addr).add j) = some v) :
    (Builtin.copy_ #[48, 48] ty #[.slice (some ⟨g, 0, none⟩) n c1, .slice (some ⟨q, 0 + x, none⟩) n c2]).run Tryz.prog W = .ok (goInt (n : Int)) (W.setRow g (bcells ((l.drop x).take n)).toArray) := by
  have hl : ((l.drop x).take n).length = n := by rw [List.length_take, List.length_drop]; omega
  have := M.run_copy_bytes W ty (some ⟨g, 0, none⟩) (some ⟨q, 0 + x, none⟩) n c1 n c2 g 0 (bcells (List.replicate n 0)) hg (bcells ((l.drop x).take n)) (by rw [bcells_length, hl]; simp)
    (fun _ => ⟨rfl, _, rfl, fun j v hj => by
      have h1 := hq (x + j) v (bcells_drop l x n hj)
      rw [Addr.add_lit, Nat.zero_add] at h1
      rw [Addr.add_lit, Nat.zero_add]
      exact h1⟩) (by rw [bcells_length, bcells_length, hl]; simp) (M.bcells_one _)
  rw [this, bcells_length, hl]
  have e : splice (bcells (List.replicate n 0)) 0 (bcells ((l.drop x).take n)) = bcells ((l.drop x).take n) := by
    unfold splice
    rw [bcells_length, hl]
    simp [bcells]
  rw [e]
set_option maxRecDepth 20000 in
set_option maxHeartbeats 4000000 in
/-- Get of a part of the one piece. -/
theorem getp_any (b g cap q cap2 N x n : Nat) (l : B) (w : World) (hN : N = l.length) (hN2 : N ≤ 4194304) (h0 : 0 < n) (hn : n ≤ 65536) (hxn : x + n ≤ N) (hcp : N ≤ cap2) (hb : w.heap[b]? = some (.cells #[.slice (some ⟨g, 0, none⟩) 1 cap, .int .i64 (N : Int)] 212 (0, 0))) (hg0 : w.cell? ⟨g, 0, none⟩ = some (.int .i64 0)) (hg1 : w.cell? ⟨g, 1, none⟩ = some (.slice (some ⟨q, 0, none⟩) N cap2)) (hq : ∀ j v, (bcells l)[j]? = some v → w.cell? ((⟨q, 0, none⟩ : Addr).add j) = some v) :
    Calls Tryz.prog 142 #[Pt b, .int .i64 (x : Int), .int .i64 (n : Int)] w fun e w' => e = .returned (.slice (some ⟨w.heap.size, 0, none⟩) n n) ∧ w'.heap[w.heap.size]? = some (.cells (bcells ((l.drop x).take n)).toArray 5 (0, 0)) ∧ Below w.heap.size w w' := by
  have c0 : w.cell? ⟨b, 0, none⟩ = some (.slice (some ⟨g, 0, none⟩) 1 cap) := by rw [cell_of_row w b 0 _ _ _ hb]; rfl
  have c1 : w.cell? ⟨b, 1, none⟩ = some (.int .i64 (N : Int)) := by rw [cell_of_row w b 1 _ _ _ hb]; rfl
  have g1 : decide ((x : Int) < 0) = false := by simp
  have g2 : decide ((n : Int) < 0) = false := by simp
  have g3 : decide ((N : Int) ≤ (x : Int)) = false := by simp; omega
  have g3b : decide (N ≤ x) = false := by simp; omega
  have hmn : min (n : Int) 65536 = (n : Int) := by omega
  have hw1 : IntKind.i64.wrap ((N : Int) - (x : Int)) = (N : Int) - (x : Int) := by rw [IntKind.wrap_i64]; omega
  have g4 : ¬ ((N : Int) - (x : Int) < (n : Int)) := by omega
  have hmk := fun w => M.make_bytes w n (by omega)
  have AQ := aside hq
  have AN := aside hN
  have AM := aside hmn
  have hlb := (Array.getElem?_eq_some_iff.1 hb).1
  have hlg := World.block_lt_of_cell? w _ hg0
  clear hq hb hN hmn
  go_enter Tryz.func142, Tryz.ntmps142
  go_wp2_with ((with_reducible refine wpList_min2 _ rfl _ _ _ rfl (n : Int) 65536 (n : Int) ?_ ?_ AM.out ?_); rfl; rfl)
  obtain ⟨W, hW⟩ : ∃ W, W = w.alloc (.cells (bcells (List.replicate n 0)).toArray 5) := ⟨_, rfl⟩
  have hB : Below w.heap.size w W := by rw [hW]; exact below_al w _
  have hout : W.heap[w.heap.size]? = some (.cells (bcells (List.replicate n 0)).toArray 5 (0, 0)) := by rw [hW]; exact heap_alloc_new w _
  rw [← hW]
  clear hW
  have AB := aside hB
  have AO := aside hout
  clear hB hout
  go_loopg [8, 9, 10, 11] 1 (fun k s8 _ _ _ wx => (k = 1 ∧ s8 = .int .i64 0 ∧ wx = W) ∨ (k = 0 ∧ s8 = .int .i64 1 ∧ wx.heap[w.heap.size]? = some (.cells (bcells ((l.drop x).take n)).toArray 5 (0, 0)) ∧ Below w.heap.size w wx))
  case atStart => exact .inl ⟨rfl, rfl, rfl⟩
  case round =>
    rcases hrel with ⟨rfl, rfl, rfl⟩ | ⟨rfl, rfl, hout, hbl⟩
    · have hBW := AB.out
      have d0 : wr.cell? ⟨b, 0, none⟩ = some (.slice (some ⟨g, 0, none⟩) 1 cap) := (hBW.cell hlb).trans c0
      have e0 : wr.cell? ⟨g, 0, none⟩ = some (.int .i64 0) := (hBW.cell hlg).trans hg0
      have e1 : wr.cell? ⟨g, 1, none⟩ = some (.slice (some ⟨q, 0, none⟩) N cap2) := (hBW.cell hlg).trans hg1
      have Amx : Aside (max (x : Int) 0 = (x : Int)) := by show max (x : Int) 0 = (x : Int); omega
      clear c0 c1 hg0 hg1 hBW
      have hE := fun W => rend_any 0 N (some ⟨q, 0, none⟩) cap2 W (by omega)
      simp only [Nat.zero_add] at hE
      have AE := aside hE
      clear hE
      go_wp2_with ((with_reducible refine M.wpList_max2 _ rfl _ _ _ rfl (x : Int) 0 (x : Int) ?_ ?_ Amx.out ?_); rfl; rfl)
      refine Calls.mono (AE.out _) ?_
      rintro e w1 ⟨rfl, hb1⟩
      have al := below_al wr (.cells #[.int .i64 0, .slice (some ⟨q, 0, none⟩) N cap2] 239)
      have hw1' := below_tr al hb1
      have bx : w1.heap[wr.heap.size]? = some (.cells #[.int .i64 0, .slice (some ⟨q, 0, none⟩) N cap2] 239 (0, 0)) := (hb1.block _ (by simp)).trans (heap_alloc_new wr _)
      have p0 : w1.cell? ⟨wr.heap.size, 0, none⟩ = some (.int .i64 0) := by rw [cell_of_row _ _ 0 _ _ _ bx]; rfl
      have p1 : w1.cell? ⟨wr.heap.size, 1, none⟩ = some (.slice (some ⟨q, 0, none⟩) N cap2) := by rw [cell_of_row _ _ 1 _ _ _ bx]; rfl
      have AW := aside (below_tr hw1' (below_dr w1))
      obtain ⟨y, hy⟩ : ∃ y, y = x + n := ⟨_, rfl⟩
      have Ay := aside hy
      have hwxn : IntKind.i64.wrap ((x : Int) + (n : Int)) = (y : Int) := by rw [wrap_small _ (by omega) (by omega)]; omega
      have Ami : Aside (min (y : Int) (N : Int) = (y : Int)) := by show min (y : Int) (N : Int) = (y : Int); omega
      have hmi : min ((x : Int) + (n : Int)) (N : Int) = (y : Int) := by omega
      have k2 : (y : Int) - (x : Int) = (n : Int) := by omega
      have q0 : IntKind.i64.wrap 0 = 0 := by decide
      have q1 : IntKind.i64.wrap (n : Int) = (n : Int) := wrap_small _ (by omega) (by omega)
      have q2 : IntKind.i64.wrap (x : Int) = (x : Int) := wrap_small _ (by omega) (by omega)
      have q3 : IntKind.i64.wrap (y : Int) = (y : Int) := wrap_small _ (by omega) (by omega)
      have i1 : (0 : Int) ≤ (n : Int) := by omega
      have i2 : (x : Int) ≤ (y : Int) := by omega
      have i3 : (y : Int) ≤ (cap2 : Int) := by omega
      have i4 : (0 : Int) ≤ (x : Int) := by omega
      have i5 : y - x = n := by omega
      have i6 : ((y - x : Nat) : Int) = (n : Int) := by omega
      have z1 : ¬ (n = 0) := by omega
      have z2 : ¬ (cap2 = x) := by omega
      have ACP : Aside (∀ ty W c1 c2, Below wr.heap.size wr W → (Builtin.copy_ #[48, 48] ty #[.slice (some ⟨w.heap.size, 0, none⟩) n c1, .slice (some ⟨q, 0 + x, none⟩) n c2]).run Tryz.prog W = .ok (goInt (n : Int)) (W.setRow w.heap.size (bcells ((l.drop x).take n)).toArray)) := fun ty W c1 c2 hW => copy_part W ty w.heap.size q x n c1 c2 l (by rw [← AN.out]; exact hxn) ((hW.block _ (Array.getElem?_eq_some_iff.1 AO.out).1).trans AO.out) (fun j v hj => by
          have h1 := AQ.out j v hj
          have h2 := (AB.out.cell (World.block_lt_of_cell? w _ h1)).trans h1
          exact (hW.cell (World.block_lt_of_cell? wr _ h2)).trans h2)
      have t2 : (x : Int) < (y : Int) := by omega
      clear al hb1 hw1' bx d0 e0 e1 AE hy
      go_wp2_with ((with_reducible refine wpList_min2 _ rfl _ _ _ rfl (y : Int) (N : Int) (y : Int) ?_ ?_ Ami.out ?_); rfl; rfl)
      go_region_law (refine M.step_copy_to rfl _ _ 48 48 rfl _ _ (by simp [Act.eval, Act.put]; rfl) (by simp [Act.eval, Act.put]; rfl) (ACP.out _ _ _ _ AW.out) ?_)
      all_goals
        go_wp2_with fail
        go_roundg 0
        case measure => omega
        case rel => exact .inr ⟨rfl, by first | rfl | simp, setRow_heap _ _ _ _ _ _ ((AW.out.block _ (Array.getElem?_eq_some_iff.1 AO.out).1).trans AO.out), M.below_setRow_new (AB.out.trans (AW.out.mono AB.out.size)) (Nat.le_refl _) _⟩
    · have hb1 : wr.cell? ⟨b, 0, none⟩ = some (.slice (some ⟨g, 0, none⟩) 1 cap) := (hbl.cell hlb).trans c0
      have AO2 := aside hout
      have AB2 := aside hbl
      clear hout hbl
      go_wp2_with fail
      go_ret
      exact ⟨rfl, AO2.out, AB2.out⟩
set_option maxRecDepth 20000 in
theorem r4Reads_ok (x n : Nat) (hn : n ≤ 65536) (w : World) : Calls Tryz.prog 141 #[.int .i64 (x : Int), .int .i64 (n : Int)] w fun e w' => e = .returned (.int .i64 0) ∧ w' = w := by
  have g1 : decide ((x : Int) < 0) = false := by simp
  have g2 : decide ((n : Int) < 0) = false := by simp
  have g3 : ¬ ((65536 : Int) < (n : Int)) := by omega
  go_enter Tryz.func141, Tryz.ntmps141
  go_wp2_with fail
  go_ret
  exact ⟨rfl, rfl⟩
set_option maxRecDepth 20000 in
set_option maxHeartbeats 1000000 in
theorem r4Read_any {w : World} {fb : Nat} {l : B} (h : R4 w fb l) (x n : Nat) (h0 : 0 < n) (hn : n ≤ 65536) (hxn : x + n ≤ l.length) : Calls Tryz.prog 117 #[Pt fb, .int .i64 (x : Int), .int .i64 (n : Int)] w fun e w' => e = .returned (.tuple #[.slice (some ⟨w.heap.size, 0, none⟩) n n, .int .i64 0]) ∧ w'.heap[w.heap.size]? = some (.cells (bcells ((l.drop x).take n)).toArray 5 (0, 0)) ∧ Below w.heap.size w w' := by
  obtain ⟨sb, hi, h1, h2⟩ := h
  obtain ⟨lv, hb, h3⟩ := h2.con
  have hbd := h2.bd
  rcases h3 with ⟨rfl, -⟩ | ⟨-, g, cap, q, cap2, rfl, -, -, hcc, c0, c1, c2⟩
  · simp at hxn; omega
  · have c0' : w.cell? ⟨fb, 0, none⟩ = some (Pt sb) := by rw [cell_of_row w fb 0 _ _ _ h1]; rfl
    have AG := aside (getp_any sb g cap q cap2 l.length x n l w rfl hbd h0 hn hxn hcc hb c0 c1 c2)
    have AR := aside (r4Reads_ok x n hn w)
    obtain ⟨L, hL⟩ : ∃ L, L = (l.drop x).take n := ⟨_, rfl⟩
    rw [← hL] at AG ⊢
    clear h1 h2 hb hbd hcc c0 c1 c2 hxn hL
    go_enter Tryz.func117, Tryz.ntmps117
    go_wp2_with fail
    refine AR.out.mono ?_
    rintro e w1 ⟨rfl, rfl⟩
    go_wp2_with fail
    refine AG.out.mono ?_
    rintro e w1 ⟨rfl, h1, h2⟩
    have A1 := aside h1
    have A2 := aside h2
    clear h1 h2
    go_wp2_with fail
    go_ret2
    exact ⟨rfl, A1.out, A2.out⟩
/-- What All has so far. -/
structure Alw (w wx : World) (l : B) (k n : Nat) (v : Value) : Prop where
  bel : Below w.heap.size w wx
  row : wx.ownsRow 0 5 1 v n (bcells (l.take k))
  rb : ∀ b, v.ownBlock = some b → w.heap.size ≤ b
set_option maxRecDepth 20000 in
set_option maxHeartbeats 4000000 in
theorem r4All_any {w : World} {fb : Nat} {l : B} (h : R4 w fb l) : Calls Tryz.prog 98 #[Pt fb] w fun e w' => ∃ a c, e = .returned (.tuple #[.slice a l.length c, .int .i64 0]) ∧ w'.ownsRow 0 5 1 (.slice a l.length c) l.length (bcells l) ∧ (∀ k, (Value.slice a l.length c).ownBlock = some k → w.heap.size ≤ k) ∧ Below w.heap.size w w' := by
  have hbd : l.length ≤ 4194304 := by obtain ⟨_, _, _, _, _, h1⟩ := h.cells; exact h1
  have AH := aside (fun W (hW : Below w.heap.size w W) => r4_st w W fb l hW.size (fun g hg _ => hW.block g hg) h)
  have AS := aside (r4Size_any h)
  obtain ⟨N, hN⟩ : ∃ N, N = l.length := ⟨_, rfl⟩
  rw [← hN] at hbd AS ⊢
  have AN := aside hN
  have t1 : ¬ ((4194304 : Int) < (N : Int)) := by omega
  clear h hN
  go_enter Tryz.func98, Tryz.ntmps98
  go_wp2_with fail
  refine AS.out.mono ?_
  rintro e w1 ⟨rfl, rfl⟩
  clear AS
  go_wp2_with fail
  go_loopg [5, 6, 7, 8] N (fun g s5 s6 _ _ wx => ∃ (k n : Nat) (a : Option Addr) (c : Nat), n + g = N ∧ n = min k N ∧ k ≤ 4259840 ∧ s6 = .int .i64 (k : Int) ∧ s5 = .slice a n c ∧ Alw w1 wx l k n (.slice a n c))
  case atStart => exact ⟨0, 0, none, 0, by omega, by omega, by omega, rfl, rfl, ⟨Below.refl _ _, World.ownsRow_nil _ _ _ _, fun b hb => by simp [Value.ownBlock] at hb⟩⟩
  case round =>
    obtain ⟨k, n, a, c, hg, hn, hk, rfl, rfl, hA⟩ := hrel
    have AA := aside hA
    clear hA
    by_cases hc : k < N
    · have hc2 : (k : Int) < (N : Int) := by omega
      obtain rfl : n = k := by omega
      obtain ⟨m, hm⟩ : ∃ m, m = min 65536 (N - n) := ⟨_, rfl⟩
      have hm0 : 0 < m := by omega
      have hm1 : m ≤ 65536 := by omega
      have hm2 : n + m ≤ N := by omega
      have hmi : min (65536 : Int) ((N : Int) - (n : Int)) = (m : Int) := by omega
      have hws : IntKind.i64.wrap ((N : Int) - (n : Int)) = (N : Int) - (n : Int) := by rw [IntKind.wrap_i64]; omega
      have hwa : IntKind.i64.wrap ((n : Int) + 65536) = ((n + 65536 : Nat) : Int) := by rw [wrap_small _ (by omega) (by omega)]; simp
      have AR := aside (r4Read_any (AH.out wr AA.out.bel) n m hm0 hm1 (by rw [← AN.out]; exact hm2))
      have Am := aside hm
      have Atk : Aside (l.take n ++ (l.drop n).take m = l.take (n + m) ∧ ((l.drop n).take m).length = m) := by
        refine ⟨?_, by rw [List.length_take, List.length_drop, ← AN.out]; omega⟩
        rw [List.take_add]
      obtain ⟨L, hL⟩ : ∃ L, L = (l.drop n).take m := ⟨_, rfl⟩
      rw [← hL] at AR Atk
      clear hm hL hn
      go_wp2_with fail
      refine AR.out.mono ?_
      rintro e w2 ⟨rfl, hbk, hb2⟩
      have AB2 := aside (AA.out.bel.trans (hb2.mono AA.out.bel.size))
      have ASr : Aside (SrcAt w2 (.slice (some ⟨wr.heap.size, 0, none⟩) m m) m (bcells L)) := ⟨_, _, rfl, fun _ => ⟨_, rfl, fun j u hj => by
        rw [Addr.add_lit, Nat.zero_add, cell_of_row w2 _ j _ _ _ hbk]
        simpa using hj⟩⟩
      have ARw := aside (row_below AA.out.row hb2)
      have ARb := aside AA.out.rb
      clear hbk hb2 AR
      go_wp2_with (at_builtin; refine wpList_append_any w2 rfl _ _ 48 rfl 5 (.int .u8 0) 1 1 Tryz.underlying48 infoU rfl (by omega) (.slice a n c) n (bcells (l.take n)) rfl ARw.out (.slice (some ⟨wr.heap.size, 0, none⟩) m m) m (bcells L) rfl (by rw [bcells_length, Atk.out.2]; omega) ASr.out (bcells_one L) (by unfold maxLen; omega) (by omega) ?_; intro v3 w3 ho hu hv; obtain ⟨a3, c3, hv3, -⟩ := own_slice ho; subst hv3; have AO := aside ho; have AU := aside hu; have AV := aside hv; clear ho hu hv)
      go_roundg (N - (n + m))
      case measure => omega
      case rel =>
        refine ⟨n + 65536, n + m, a3, c3, by omega, by omega, by omega, by first | rfl | simp, rfl, AB2.out.trans (AU.out.below AB2.out.size (fun k hk => ARb.out k hk)), ?_, fun b hb => ?_⟩
        · have h1 := AO.out
          have h2 : l.take (n + 65536) = l.take (n + m) := by
            have h3 := Am.out
            have h4 := AN.out
            by_cases h5 : m = 65536
            · rw [h5]
            · rw [List.take_of_length_le (by omega), List.take_of_length_le (by omega)]
          rw [h2, ← Atk.out.1, show bcells (l.take n ++ L) = bcells (l.take n) ++ bcells L by simp [bcells]]
          exact h1
        · rcases AV.out with e | e
          · exact ARb.out b (e ▸ hb)
          · rw [e] at hb
            simp only [Option.some.injEq] at hb
            have := AB2.out.size
            omega
    · have hc2 : ¬ (k : Int) < (N : Int) := by omega
      obtain rfl : n = N := by omega
      clear hn
      have htk : l.take k = l := List.take_of_length_le (by rw [← AN.out]; omega)
      have Atk := aside htk
      clear htk
      go_wp2_with fail
      go_ret2
      have hr := AA.out.row
      rw [Atk.out] at hr
      exact ⟨a, c, rfl, hr, AA.out.rb, AA.out.bel⟩
end Go.Proofs.YtbnaegoahdcejaaGreatDoor

namespace Go.Proofs.YtbnaegoahdcejaaGreatDoor
open Go.RowKit Go.ChangeMaps

theorem rft_rfc (s : B) (k : Int) (x : B) (u : Nat) (hu : u ≤ 4194304) : rft s k x.length u = if rfc u (ba s, k, x) ≠ 0 then rfc u (ba s, k, x) else if ∀ y ∈ spl s, nameOk (ba y) = true then 0 else 190 := by
  have h1 := spl_len s
  have p3 : (3 : Int) ≠ 0 := by decide
  have p2 : (2 : Int) ≠ 0 := by decide
  have n0 : ¬ (0 : Int) ≠ 0 := by decide
  unfold rft rfc
  simp only [ba_size, ba_list]
  by_cases c1 : 4096 < s.length ∨ 64 ≤ s.count 47
  · rw [if_pos c1, if_pos p3, if_pos (show 4096 < s.length ∨ 64 < (spl s).length by rcases c1 with h | h <;> omega)]
  · rw [if_neg c1, if_neg (show ¬ (4096 < s.length ∨ 64 < (spl s).length) by rintro (h | h) <;> exact c1 (by first | exact .inl h | exact .inr (by omega)))]
    by_cases k0 : k = 0
    · subst k0
      rw [if_neg (show ¬ (((0 : Int) ≠ 0 ∧ (0 : Int) ≠ 1 ∧ (0 : Int) ≠ 2) ∨ ((0 : Int) = 1 ∧ 0 < x.length)) by rintro (⟨h, -⟩ | ⟨h, -⟩); exact h rfl; cases h), if_pos (show (0 : Int) = 0 from rfl)]
      by_cases c2 : 4194304 < u + x.length
      · rw [if_pos (show (0 : Int) = 0 ∧ 4194304 < u + x.length from ⟨rfl, c2⟩), if_pos (show 4194304 - u < x.length by omega), if_pos p3]
      · rw [if_neg (show ¬ ((0 : Int) = 0 ∧ 4194304 < u + x.length) from fun h => c2 h.2), if_neg (show ¬ 4194304 - u < x.length by omega), if_neg n0]
    · rw [if_neg k0]
      by_cases k1 : k = 1
      · subst k1
        rw [if_pos (show (1 : Int) = 1 from rfl)]
        by_cases c2 : 0 < x.length
        · rw [if_pos (show (((1 : Int) ≠ 0 ∧ (1 : Int) ≠ 1 ∧ (1 : Int) ≠ 2) ∨ ((1 : Int) = 1 ∧ 0 < x.length)) from .inr ⟨rfl, c2⟩), if_pos c2, if_pos p2]
        · rw [if_neg (show ¬ (((1 : Int) ≠ 0 ∧ (1 : Int) ≠ 1 ∧ (1 : Int) ≠ 2) ∨ ((1 : Int) = 1 ∧ 0 < x.length)) by rintro (⟨-, h, -⟩ | ⟨-, h⟩); exact h rfl; exact c2 h), if_neg (show ¬ ((1 : Int) = 0 ∧ 4194304 < u + x.length) from fun h => by cases h.1), if_neg c2, if_neg n0]
      · rw [if_neg k1]
        by_cases k2 : k = 2
        · subst k2
          rw [if_neg (show ¬ (((2 : Int) ≠ 0 ∧ (2 : Int) ≠ 1 ∧ (2 : Int) ≠ 2) ∨ ((2 : Int) = 1 ∧ 0 < x.length)) by rintro (⟨-, -, h⟩ | ⟨h, -⟩); exact h rfl; cases h), if_neg (show ¬ ((2 : Int) = 0 ∧ 4194304 < u + x.length) from fun h => by cases h.1), if_pos (show (2 : Int) = 2 from rfl), if_neg n0]
        · rw [if_pos (show ((k ≠ 0 ∧ k ≠ 1 ∧ k ≠ 2) ∨ (k = 1 ∧ 0 < x.length)) from .inl ⟨k0, k1, k2⟩), if_neg k2, if_pos p2]
/-- What the document's Make answers of an item. -/
def dmc (T : List En) (s : B) (k : Int) (x : B) : Int :=
  if rft s k x.length (byt T) ≠ 0 then rft s k x.length (byt T)
  else if ¬ ∃ e ∈ T, e.p = (spl s).dropLast then 192
  else if ¬ ∃ e ∈ T, e.p = (spl s).dropLast ∧ e.k = 1 then 193
  else if ∃ e ∈ T, e.p = spl s then 191
  else if T.length = 4097 then 4
  else nnc k x
theorem any_iff (T : List En) (f : En → Bool) : (T.any f = false) ↔ ¬ ∃ e ∈ T, f e = true := by
  rw [← Bool.not_eq_true, List.any_eq_true]
theorem nnc_grc (p : ByteArray) (k : Int) (x : B) : nnc k x = grc (p, k, x) := by
  unfold nnc grc
  by_cases k2 : k = 2
  · rw [if_pos k2, if_pos k2]
    by_cases hx : x = []
    · subst hx; rfl
    · rw [if_neg hx, if_neg (fun h => hx (List.eq_nil_of_length_eq_zero h))]
  · rw [if_neg k2, if_neg k2]
theorem dmc_eq (T : List En) (s : B) (k : Int) (x : B) (hb : byt T ≤ 4194304) : dmc T s k x = mcode T (ba s, k, x) := by
  have n0 : ¬ (0 : Int) ≠ 0 := by decide
  unfold dmc mcode
  rw [rft_rfc s k x _ hb]
  obtain ⟨r, hr⟩ : ∃ r, r = rfc (byt T) (ba s, k, x) := ⟨_, rfl⟩
  rw [← hr]
  by_cases h0 : r ≠ 0
  · rw [if_pos h0, if_pos h0, if_pos h0]
  · rw [if_neg h0, if_neg h0]
    unfold pcode
    rw [ba_list]
    by_cases h1 : ∀ y ∈ spl s, nameOk (ba y) = true
    · have ha : ¬ ((spl s).all fun n => nameOk (ba n)) = false := by
        rw [Bool.not_eq_false, List.all_eq_true]
        exact h1
      rw [if_pos h1, if_neg n0, if_neg ha]
      by_cases h2 : ∃ e ∈ T, e.p = (spl s).dropLast
      · have a2 : ¬ (T.any fun e => decide (e.p = (spl s).dropLast)) = false := by
          rw [any_iff]
          exact fun h => h (by obtain ⟨e, h3, h4⟩ := h2; exact ⟨e, h3, decide_eq_true h4⟩)
        rw [if_neg (fun h => h h2), if_neg a2]
        by_cases h3 : ∃ e ∈ T, e.p = (spl s).dropLast ∧ e.k = 1
        · have a3 : ¬ (T.any fun e => decide (e.p = (spl s).dropLast) && decide (e.k = 1)) = false := by
            rw [any_iff]
            exact fun h => h (by obtain ⟨e, h3, h4, h5⟩ := h3; exact ⟨e, h3, by simp [h4, h5]⟩)
          rw [if_neg (fun h => h h3), if_neg a3]
          by_cases h4 : ∃ e ∈ T, e.p = spl s
          · have a4 : (T.any fun c => decide (c.p = spl s)) = true := by
              obtain ⟨e, h5, h6⟩ := h4
              exact List.any_eq_true.2 ⟨e, h5, decide_eq_true h6⟩
            rw [if_pos h4, if_pos a4, if_pos (show (191 : Int) ≠ 0 by decide)]
          · have a4 : ¬ (T.any fun c => decide (c.p = spl s)) = true := fun h => h4 (by
              obtain ⟨e, h5, h6⟩ := List.any_eq_true.1 h
              exact ⟨e, h5, of_decide_eq_true h6⟩)
            rw [if_neg h4, if_neg a4, if_neg n0, nnc_grc (ba s)]
        · have a3 : (T.any fun e => decide (e.p = (spl s).dropLast) && decide (e.k = 1)) = false := by
            rw [any_iff]
            rintro ⟨e, h4, h5⟩
            simp only [Bool.and_eq_true, decide_eq_true_eq] at h5
            exact h3 ⟨e, h4, h5⟩
          rw [if_pos h3, if_pos a3, if_pos (show (193 : Int) ≠ 0 by decide)]
      · have a2 : (T.any fun e => decide (e.p = (spl s).dropLast)) = false := by
          rw [any_iff]
          rintro ⟨e, h4, h5⟩
          exact h2 ⟨e, h4, of_decide_eq_true h5⟩
        rw [if_pos h2, if_pos a2, if_pos (show (192 : Int) ≠ 0 by decide)]
    · have ha : ((spl s).all fun n => nameOk (ba n)) = false := by
        rw [← Bool.not_eq_true, List.all_eq_true]
        exact h1
      rw [if_neg h1, if_pos (show (190 : Int) ≠ 0 by decide), if_pos ha, if_pos (show (190 : Int) ≠ 0 by decide)]
end Go.Proofs.YtbnaegoahdcejaaGreatDoor

namespace Go.Proofs.YtbnaegoahdcejaaGreatDoor
open Go.RowKit Go.ChangeMaps

theorem elemSs : Tryz.prog.underlying 69 = some (.slice (Tryz.prog.elem 69)) := by kernel_rfl
theorem sizeSs (w : World) : (Go.sizeOf (Tryz.prog.elem 69)).run Tryz.prog w = .ok 1 w := by kernel_rfl
/-- names[:j] -/
theorem slice_hS (a : Option Addr) (n c j : Nat) (hj : j ≤ n) (hc : n ≤ c) :
    ∀ W, (Instr.slice 69 (.slice a n c) none (some (.int .i64 (j : Int))) none).run Tryz.prog W = .ok (.slice a j c) W := by
  intro W
  rw [run_slice_h W 69 a n c elemSs .i64 _ (by omega) (by omega), sizeSs]
  simp only [Result.andThen, sliced, Int.toNat_natCast, Nat.sub_zero, Nat.zero_mul]
  congr 2
  split
  · rfl
  · cases a with
    | none => rfl
    | some x => simp [Addr.add]
theorem Nl.sn {W wx : World} {zs : List B} {a : Option Addr} {n c : Nat} (h : Nl W wx zs (.slice a n c)) : SnAt wx a zs := fun hn => by
  rcases h.row.2 with ⟨-, h0⟩ | ⟨g, cap, cur, e, -⟩
  · exact absurd (List.eq_nil_of_length_eq_zero h0) hn
  · injection e with e1 e2 e3
    refine ⟨g, 0, e1, fun j x hj => ?_⟩
    have hj2 : (stl zs)[j]? = some (.string (ba x)) := by rw [List.getElem?_map, hj]; rfl
    have := h.row.cells (g := g) (by rw [e1]; rfl) j _ hj2
    simpa [Addr.add_lit] using this
theorem names_sn (s : B) (hs : s.length ≤ 1000000000) (W : World) : Calls Tryz.prog 35 #[.string (ba s)] W fun e w' => ∃ a c, e = .returned (.slice a (spl s).length c) ∧ SnAt w' a (spl s) ∧ (spl s).length ≤ c ∧ Below W.heap.size W w' :=
  (names_any s W hs).mono fun e w' ⟨a, c, h1, h2⟩ => by
    obtain ⟨a', c', e1, h3, -⟩ := row_form h2.row
    injection e1 with e1 e2 e3
    exact ⟨a, c, h1, h2.sn, by rw [e3]; exact h3, h2.bel⟩
theorem SnAt.below {w w' : World} {a : Option Addr} {l : List B} (h : SnAt w a l) (b : Below w.heap.size w w') : SnAt w' a l := fun hn => by
  obtain ⟨g, o, e, hc⟩ := h hn
  exact ⟨g, o, e, fun j x hj => (b.cell (World.block_lt_of_cell? w _ (hc j x hj))).trans (hc j x hj)⟩
theorem SnAt.pre {w : World} {a : Option Addr} {l m : List B} (h : SnAt w a (l ++ m)) : SnAt w a l := fun hn => by
  obtain ⟨g, o, e, hc⟩ := h (by simp [hn])
  refine ⟨g, o, e, fun j x hj => hc j x ?_⟩
  rw [List.getElem?_append_left (List.getElem?_eq_some_iff.1 hj).1]
  exact hj
theorem Rt.below {F : World → Nat → B → Prop} (hF : Fst F) {lo : Nat} {w w' : World} {S : List En} {rb : List B → Nat} (h : Rt F lo w S rb) (b : Below w.heap.size w w') : Rt F lo w' S rb :=
  ⟨h.one, h.root, h.par, h.knd, h.few, h.inj, h.low, fun d hd hk => (h.dir d hd hk).below b, fun e he hk => (h.lnk e he hk).below b, fun e he hk => by
    obtain ⟨fb, h1, h2⟩ := h.fil e he hk
    exact ⟨fb, h1.below b, hF w w' fb e.x b.size (fun g hg _ => b.block g hg) h2⟩, fun e he hk => by
    obtain ⟨h1, m, h2, h3⟩ := h.mnt e he hk
    exact ⟨h1, m, h2.below b, h3⟩⟩
theorem rt_root {F : World → Nat → B → Prop} {lo : Nat} {w : World} {b : Nat} (hl : lo ≤ b) (h : Rc w b 1 (.pointer none) ⟨#[]⟩ (.pointer none) [] (.pointer none)) : Rt F lo w [root0] (fun _ => b) := by
  have hk : kidE [root0] ([] : List B) = [] := by
    have : kidU [root0] ([] : List B) = [] := rfl
    unfold kidE
    rw [this]
    simp [srt]
  refine ⟨by simp, ⟨root0, by simp, rfl, rfl⟩, ?_, ?_, by simp, ?_, ?_, ?_, ?_, ?_, ?_⟩
  · intro e he hp; rw [List.mem_singleton.1 he] at hp; exact absurd rfl hp
  · intro e he; rw [List.mem_singleton.1 he]; exact .inr (.inl rfl)
  · intro d hd c hc _; rw [List.mem_singleton.1 hd, List.mem_singleton.1 hc]
  · intro e _; exact hl
  · intro d hd _
    rw [List.mem_singleton.1 hd]
    have e : rkd [root0] (fun _ => b) root0.p = [] := by unfold rkd; rw [show root0.p = [] from rfl, hk]; rfl
    rw [e, if_pos (show root0.p = [] from rfl)]
    exact h
  · intro e he hk; rw [List.mem_singleton.1 he] at hk; cases hk
  · intro e he hk; rw [List.mem_singleton.1 he] at hk; cases hk
  · intro e he hk; rw [List.mem_singleton.1 he] at hk; rcases hk with hk | hk <;> cases hk
/-- A growing tree of the document's. -/
structure Dw (w0 W : World) (T : List En) (rb : List B → Nat) (rt : Nat) : Prop where
  bel : Below w0.heap.size w0 W
  tr : Rt R4 w0.heap.size W T rb
  root : rb [] = rt
  bok : byt T ≤ 4194304
  few : T.length ≤ 4097
  dep : ∀ e ∈ T, e.p.length ≤ 64
theorem Dw.below {w0 W W' : World} {T : List En} {rb : List B → Nat} {rt : Nat} (h : Dw w0 W T rb rt) (b : Below W.heap.size W W') : Dw w0 W' T rb rt :=
  ⟨h.bel.trans (b.mono h.bel.size), h.tr.below r4_st b, h.root, h.bok, h.few, h.dep⟩
theorem rac_zero {F : World → Nat → B → Prop} {lo : Nat} {w : World} {T : List En} {rb : List B → Nat} (h : Rt F lo w T rb) {d : En} {x : B} (hn : nameOk (ba x) = true) (hno : ¬ ∃ e ∈ T, e.p = d.p ++ [x]) (hl : T.length ≤ 4096) (hd : d.p.length + 1 ≤ 64) : rac T d x = 0 := by
  unfold rac
  rw [if_neg (by rw [hn]; decide), if_neg hno, if_neg, tcode, if_neg (by omega)]
  unfold kidE
  rw [(srt_perm En.nm _).length_eq]
  obtain ⟨r, hr, hrp, -⟩ := h.root
  have : (kidU T d.p).length < T.length := by
    unfold kidU
    rw [List.length_filter_lt_length_iff_exists]
    exact ⟨r, hr, by simp [hrp]⟩
  omega
/-- An item that was taken. -/
theorem Dw.more {w0 W W' : World} {T : List En} {rb : List B → Nat} {rt eb : Nat} (h : Dw w0 W T rb rt) {m : Im} (hb : Below w0.heap.size W W') (hm : mcode T m.it = 0) (hne : spl m.p.data.toList ≠ []) (hR : Rt R4 w0.heap.size W' (T ++ [peE m.it]) (rbu rb (spl m.p.data.toList) eb)) : Dw w0 W' (T ++ [peE m.it]) (rbu rb (spl m.p.data.toList) eb) rt := by
  obtain ⟨h1, -, h3, -⟩ := mcode_zero hm
  obtain ⟨-, f2, f3, f4, -⟩ := rfc_zero h1
  have hfew := h.few
  refine ⟨h.bel.trans hb, hR, ?_, ?_, ?_, ?_⟩
  · unfold rbu; rw [if_neg (fun e => hne e.symm)]; exact h.root
  · rw [byt_app]
    have hbk := h.bok
    unfold used peE enOf
    show byt T + (if m.it.2.1.toNat = 0 then m.it.2.2.length else 0) ≤ 4194304
    by_cases hk : m.it.2.1 = 0
    · rw [hk]
      have := f4 hk
      simp only [Int.toNat_zero, ↓reduceIte]
      omega
    · rw [if_neg (by omega)]
      omega
  · rw [List.length_append]
    simp only [List.length_cons, List.length_nil]
    omega
  · intro e he
    rcases List.mem_append.1 he with he | he
    · exact h.dep e he
    · rw [List.mem_singleton.1 he]
      show (spl m.it.1.data.toList).length ≤ 64
      rw [spl_len]
      omega
/-- What the document's Make tells. -/
def RMakeP (its : List It) (w : World) (e : Ending) (w' : World) : Prop :=
  ∃ c i T, mkT [root0] its 0 = (c, i, T) ∧ Below w.heap.size w w' ∧ ((c ≠ 0 ∧ e = .returned (.tuple #[.pointer none, .int .i64 c, .int .i64 (i : Int)])) ∨
    (c = 0 ∧ ∃ rb, Dw w w' T rb (rb []) ∧ e = .returned (.tuple #[Pt (rb []), .int .i64 0, .int .i64 0])))
end Go.Proofs.YtbnaegoahdcejaaGreatDoor

namespace Go.Proofs.YtbnaegoahdcejaaGreatDoor
open Go.RowKit Go.ChangeMaps

theorem mkT_err {T : List En} {i : It} {l : List It} {n : Nat} {c : Int} (h : mcode T i = c) (h0 : c ≠ 0) : mkT T (i :: l) n = (c, n, T) := by
  conv => lhs; unfold mkT
  rw [h, if_neg h0]
theorem mkT_go {T : List En} {i : It} {l : List It} {n : Nat} (h : mcode T i = 0) : mkT T (i :: l) n = mkT (T ++ [peE i]) l (n + 1) := by
  conv => lhs; unfold mkT
  rw [h, if_pos rfl]
/-- What Make answers of an item, step by step. -/
structure Stp (T : List En) (m : Im) (s : B) (q : List B) (x : B) (u R : Int) : Prop where
  err : R ≠ 0 → mcode T m.it = R
  none : R = 0 → (¬ ∃ e ∈ T, e.p = q) → mcode T m.it = 192
  leaf : R = 0 → (∃ e ∈ T, e.p = q) → (¬ ∃ e ∈ T, e.p = q ∧ e.k = 1) → mcode T m.it = 193
  there : R = 0 → (∃ e ∈ T, e.p = q ∧ e.k = 1) → (∃ e ∈ T, e.p = q ++ [x]) → mcode T m.it = 191
  full : R = 0 → (∃ e ∈ T, e.p = q ∧ e.k = 1) → (¬ ∃ e ∈ T, e.p = q ++ [x]) → T.length = 4097 → mcode T m.it = 4
  rest : R = 0 → (∃ e ∈ T, e.p = q ∧ e.k = 1) → (¬ ∃ e ∈ T, e.p = q ++ [x]) → T.length ≠ 4097 → mcode T m.it = nnc m.k m.x
  fine : R = 0 → (m.k = 0 ∨ m.k = 1 ∨ m.k = 2) ∧ nameOk (ba x) = true ∧ q.length + 1 ≤ 64 ∧ (m.k = 1 → m.x = [])
theorem stp {T : List En} {m : Im} {s : B} {q : List B} {x : B} {u : Nat} {R : Int} (hs : m.p = ba s) (hq : spl s = q ++ [x]) (hu : u = byt T) (hb : byt T ≤ 4194304) (hR : R = rft s m.k m.x.length u) : Stp T m s q x u R := by
  have hd : (spl s).dropLast = q := by rw [hq, List.dropLast_concat]
  have hm : mcode T m.it = dmc T s m.k m.x := by rw [dmc_eq T s m.k m.x hb, ← hs]; rfl
  subst hu
  have hex : (∃ e ∈ T, e.p = q ∧ e.k = 1) → ∃ e ∈ T, e.p = q := fun ⟨e, h1, h2, _⟩ => ⟨e, h1, h2⟩
  unfold dmc at hm
  rw [hd, ← hR, hq] at hm
  refine ⟨fun h => ?_, fun h h1 => ?_, fun h h1 h2 => ?_, fun h h1 h2 => ?_, fun h h1 h2 h3 => ?_, fun h h1 h2 h3 => ?_, fun h => ?_⟩
  · rw [hm, if_pos h]
  · rw [hm, if_neg (fun e => e h), if_pos h1]
  · rw [hm, if_neg (fun e => e h), if_neg (fun e => e h1), if_pos h2]
  · rw [hm, if_neg (fun e => e h), if_neg (fun e => e (hex h1)), if_neg (fun e => e h1), if_pos h2]
  · rw [hm, if_neg (fun e => e h), if_neg (fun e => e (hex h1)), if_neg (fun e => e h1), if_neg h2, if_pos h3]
  · rw [hm, if_neg (fun e => e h), if_neg (fun e => e (hex h1)), if_neg (fun e => e h1), if_neg h2, if_neg h3]
  · rw [rft_rfc s m.k m.x _ hb] at hR
    by_cases h0 : rfc (byt T) (ba s, m.k, m.x) ≠ 0
    · rw [if_pos h0] at hR; exact absurd (hR.symm.trans h) h0
    · rw [if_neg h0] at hR
      obtain ⟨f1, f2, f3, -, f5⟩ := rfc_zero (Classical.not_not.1 h0)
      by_cases h1 : ∀ y ∈ spl s, nameOk (ba y) = true
      · refine ⟨f3, h1 x (by rw [hq]; simp), ?_, f5⟩
        have := spl_len s
        rw [hq, List.length_append] at this
        simp only [ba_list, List.length_cons, List.length_nil] at f2 this
        omega
      · rw [if_neg h1] at hR
        rw [hR] at h
        cases h
set_option maxRecDepth 20000 in
set_option maxHeartbeats 8000000 in
theorem rmake_any (a : Option Addr) (ms : List Im) (n c : Nat) (w : World) (hn : n = ms.length) (hnl : n ≤ 100000) (hI : Inp w a ms) (hB : ∀ m ∈ ms, m.p.size ≤ 1000000 ∧ m.x.length ≤ 1000000) :
    Calls Tryz.prog 14 #[.slice a n c] w fun e w' => RMakeP (ms.map Im.it) w e w' := by
  have AI := aside hI
  have AN := aside hn
  have AB := aside hB
  clear hI hn hB
  go_enter Tryz.func14, Tryz.ntmps14
  go_wp2_with fail
  refine (rDir_any w).mono ?_
  rintro e w1 ⟨rfl, hR1, hb1⟩
  obtain ⟨rt, hrt⟩ : ∃ rt, rt = w.heap.size := ⟨_, rfl⟩
  have A1 : Aside (Dw w w1 [root0] (fun _ => rt) rt) := ⟨hb1, rt_root (by omega) (by rw [hrt]; exact hR1), rfl, by simp [byt, used, root0], by simp, by simp [root0]⟩
  rw [← hrt]
  clear hR1 hb1 hrt
  go_wp2_with fail
  go_loopg [2, 3, 4, 6, 7, 8, 9, 10, 11, 12, 13, 14, 15] n (fun g _ _ _ s6 s7 _ _ _ _ _ _ _ _ wx => ∃ (i : Nat) (T : List En) (rb : List B → Nat) (u : Nat), i + g = n ∧ s7 = .int .i64 (i : Int) ∧ s6 = .int .i64 (u : Int) ∧ u = byt T ∧ T.length = i + 1 ∧ Dw w wx T rb rt ∧ mkT [root0] (ms.map Im.it) 0 = mkT T ((ms.drop i).map Im.it) i)
  case atStart => exact ⟨0, [root0], fun _ => rt, 0, by omega, rfl, rfl, by simp [byt, used, root0], rfl, A1.out, rfl⟩
  case round =>
    obtain ⟨i, T, rb, u, hig, rfl, rfl, hu, hTl, hD, hmk⟩ := hrel
    have AD := aside hD
    have Au := aside hu
    have ATl := aside hTl
    have AMk := aside hmk
    have hul : u ≤ 4194304 := by rw [hu]; exact hD.bok
    clear hD hu hmk hTl
    cases gk with
    | zero =>
      obtain rfl : i = n := by omega
      have hi : ¬ ((i : Nat) : Int) < (i : Int) := by omega
      go_wp2_with fail
      go_ret3
      refine ⟨0, 0, T, ?_, AD.out.bel, .inr ⟨rfl, rb, by rw [AD.out.root]; exact AD.out, by rw [AD.out.root]; rfl⟩⟩
      rw [AMk.out, AN.out, List.drop_length]
      rfl
    | succ gk =>
      have hi : (i : Int) < (n : Int) := by omega
      have hi2 : i < ms.length := by rw [← AN.out]; omega
      obtain ⟨m, hmi⟩ : ∃ m, ms[i]? = some m := ⟨_, List.getElem?_eq_getElem hi2⟩
      have hIw := AI.out.below (show Below w.heap.size w wr from AD.out.bel)
      obtain ⟨g, o, rfl, e0, e1, e2⟩ := hIw.at hmi
      obtain ⟨d1, d2, d3⟩ := hIw.dat m (List.mem_of_getElem? hmi)
      obtain ⟨b1, b2⟩ := AB.out m (List.mem_of_getElem? hmi)
      have hdr : ms.drop i = m :: ms.drop (i + 1) := by
        rw [List.drop_eq_getElem_cons hi2]
        congr 1
        rw [List.getElem?_eq_getElem hi2] at hmi
        injection hmi
      obtain ⟨xb, hxb⟩ : ∃ xb, xb = wr.heap.size := ⟨_, rfl⟩
      obtain ⟨W2, hW2⟩ : ∃ W2, W2 = wr.alloc (.cells #[.string m.p, .int .i8 m.k, .slice m.a m.x.length m.c] 51) := ⟨_, rfl⟩
      have hB2 : Below wr.heap.size wr W2 := by rw [hW2]; exact below_al wr _
      have hxr : W2.heap[xb]? = some (.cells #[.string m.p, .int .i8 m.k, .slice m.a m.x.length m.c] 51 (0, 0)) := by rw [hW2, hxb]; exact heap_alloc_new wr _
      have AX : Aside (∀ V : World, V.heap[xb]? = W2.heap[xb]? → V.cell? ⟨xb, 0, none⟩ = some (.string m.p) ∧ V.cell? ⟨xb, 1, none⟩ = some (.int .i8 m.k) ∧ V.cell? ⟨xb, 2, none⟩ = some (.slice m.a m.x.length m.c) ∧ V.heap[xb]? = some (.cells #[.string m.p, .int .i8 m.k, .slice m.a m.x.length m.c] 51 (0, 0))) := fun V hV => by
        have h1 := hV.trans hxr
        exact ⟨by rw [cell_of_row V xb 0 _ _ _ h1]; rfl, by rw [cell_of_row V xb 1 _ _ _ h1]; rfl, by rw [cell_of_row V xb 2 _ _ _ h1]; rfl, h1⟩
      have AD2 := aside (AD.out.below hB2)
      have Axl : Aside (xb < W2.heap.size) := (Array.getElem?_eq_some_iff.1 hxr).1
      have Aol : Aside (∀ c ∈ T, rb c.p < xb) := fun c hc => by rw [hxb]; exact AD.out.tr.lt hc
      have Abs : Aside (BsAt W2 m.a m.x) := d1.below hB2
      obtain ⟨s, hs⟩ : ∃ s, s = m.p.data.toList := ⟨_, rfl⟩
      have hps : m.p = ba s := by rw [hs, ba_of]
      obtain ⟨q, x, hqx⟩ : ∃ q x, spl s = q ++ [x] := ⟨(spl s).dropLast, (spl s).getLast (spl_ne s), (List.dropLast_concat_getLast (spl_ne s)).symm⟩
      have hsl : s.length ≤ 1000000 := by have := Lib.size_eq m.p; rw [hs]; omega
      obtain ⟨R, hR⟩ : ∃ R, R = rft s m.k m.x.length u := ⟨_, rfl⟩
      have AS := aside (stp (T := T) (m := m) hps hqx Au.out AD.out.bok hR)
      have AF := aside (rfault_any s m.k m.a m.x.length m.c u W2 hsl (by omega) hul (fun W : World => (names_sn s (by omega) W).mono fun e w' ⟨a, c, h1, h2, _, h4⟩ => ⟨a, c, h1, h2, h4⟩))
      have ANm := aside (fun V : World => names_sn s (by omega) V)
      rw [← hR] at AF
      have Asn := aside hqx
      have hj : (spl s).length = q.length + 1 := by rw [hqx]; simp
      have hql : q.length ≤ 1000000 := by
        have h1 := spl_len s
        have h2 := List.count_le_length (a := (47 : UInt8)) (l := s)
        omega
      rw [hj] at ANm
      have Aq := aside hql
      obtain ⟨j, hjq⟩ : ∃ j, j = q.length := ⟨_, rfl⟩
      rw [← hjq] at ANm hql
      have Ajq := aside hjq
      have ADr := aside hdr
      have Ab1 : Aside (m.p.size ≤ 1000000 ∧ m.x.length ≤ 1000000) := ⟨b1, b2⟩
      have Asl : Aside (spl s ≠ [] ∧ s = m.p.data.toList) := ⟨spl_ne s, hs⟩
      rw [← hps] at AF ANm
      have hwi : IntKind.i64.wrap ((i : Int) + 1) = ((i + 1 : Nat) : Int) := by rw [wrap_small _ (by omega) (by omega)]; simp
      have hwj : IntKind.i64.wrap (((j + 1 : Nat) : Int) - 1) = (j : Int) := by rw [wrap_in _ (by omega) (by omega)]; omega
      obtain ⟨mp, hmp⟩ : ∃ mp, mp = m.p := ⟨_, rfl⟩
      obtain ⟨mk, hmk⟩ : ∃ mk, mk = m.k := ⟨_, rfl⟩
      obtain ⟨ml, hml⟩ : ∃ ml, ml = m.x.length := ⟨_, rfl⟩
      rw [← hmp] at e0 hW2 AF ANm AX
      rw [← hmk] at e1 hW2 AF AX
      rw [← hml] at e2 hW2 AF AX
      have Amp := aside hmp
      have Amk := aside hmk
      have Aml := aside hml
      have hmll : ml ≤ 1000000 := by rw [hml]; exact b2
      clear hIw d1 d2 d3 hdr hmi hmp hmk hml hB2 b1 b2 hxr hps hqx hsl hR hj hjq hs
      go_wp2_with fail
      rw [← hW2, ← hxb]
      clear hW2 hxb
      refine AF.out.mono ?_
      rintro e w3 ⟨rfl, hb3⟩
      have hx3 : w3.heap[xb]? = W2.heap[xb]? := hb3.block xb Axl.out
      have AD3 := aside (AD2.out.below hb3)
      have Ax3 := aside hx3
      have Abs3 := aside (Abs.out.below hb3)
      have Axl3 : Aside (xb < w3.heap.size) := Nat.lt_of_lt_of_le Axl.out hb3.size
      clear hb3 hx3 AF
      by_cases hR0 : R = 0
      · subst hR0
        obtain ⟨c0, -, -, -⟩ := AX.out w3 Ax3.out
        go_wp2_with fail
        refine (ANm.out w3).mono ?_
        rintro e w4 ⟨na, nc, rfl, hsn, hnc, hb4⟩
        rw [Asn.out] at hsn
        obtain ⟨g2, o2, rfl, hcs⟩ := hsn (by simp)
        have hcx : w4.cell? ⟨g2, o2 + j, none⟩ = some (.string (ba x)) := hcs j x (by rw [Ajq.out, List.getElem?_append_right (Nat.le_refl _), Nat.sub_self]; rfl)
        have AD4 := aside (AD3.out.below hb4)
        have Ax4 : Aside (w4.heap[xb]? = W2.heap[xb]?) := (hb4.block xb Axl3.out).trans Ax3.out
        have Abs4 := aside (Abs3.out.below hb4)
        have Axl4 : Aside (xb < w4.heap.size) := Nat.lt_of_lt_of_le Axl3.out hb4.size
        have hslc := slice_hS (some ⟨g2, o2, none⟩) (j + 1) nc j (by omega) hnc
        have AFd := aside (rfind_any (F := R4) (fun w w' fb x b => r4_st w w' fb x b.size (fun g hg _ => b.block g hg)) (lo := w.heap.size) (w := w4) (S := T) (rb := rb) (fun W hW => (AD4.out.below hW).tr) q Aq.out (some ⟨g2, o2, none⟩) nc hsn.pre)
        rw [AD4.out.root, ← Ajq.out] at AFd
        have Acx := aside hcx
        clear hb4 hsn hcs hcx c0 hnc
        go_wp2_with fail
        refine AFd.out.mono ?_
        rintro e w5 ⟨rfl, hb5⟩
        have AD5 := aside (AD4.out.below hb5)
        have Ax5 : Aside (w5.heap[xb]? = W2.heap[xb]?) := (hb5.block xb Axl4.out).trans Ax4.out
        have Abs5 := aside (Abs4.out.below hb5)
        have Axl5 : Aside (xb < w5.heap.size) := Nat.lt_of_lt_of_le Axl4.out hb5.size
        have hcx5 : w5.cell? ⟨g2, o2 + j, none⟩ = some (.string (ba x)) := (hb5.cell (World.block_lt_of_cell? w4 _ Acx.out)).trans Acx.out
        clear hb5 AFd hslc
        by_cases hd : ∃ e ∈ T, e.p = q
        · obtain ⟨d, hdT, hdp⟩ := hd
          obtain ⟨db, hdb⟩ : ∃ db, db = rb d.p := ⟨_, rfl⟩
          have Ard : Aside (rfd T rb q = Pt db) := by
            show rfd T rb q = Pt db
            unfold rfd
            rw [if_pos ⟨d, hdT, hdp⟩, hdb, hdp]
          rw [Ard.out]
          have AKd := aside (AD5.out.tr.kind hdT)
          obtain ⟨kd, hkd⟩ : ∃ kd : Int, kd = (d.k : Int) := ⟨_, rfl⟩
          rw [← hdb, ← hkd] at AKd
          have Adb := aside hdb
          have Akd := aside hkd
          have AdT := aside hdT
          have Adp := aside hdp
          clear hdb hkd hdT hdp Ard
          by_cases hk : kd = 1
          · subst hk
            have AG := aside (rt_get AD5.out.tr AdT.out x)
            rw [← Adb.out] at AG
            have hex1 : ∃ e ∈ T, e.p = q ∧ e.k = 1 := ⟨d, AdT.out, Adp.out, by have := Akd.out; omega⟩
            have Aex := aside hex1
            obtain ⟨X, hX⟩ : ∃ X, X = ba x := ⟨_, rfl⟩
            have AX2 := aside hX
            rw [← hX] at AG hcx5
            have hj0 : (0 : Int) ≤ (j : Int) := by omega
            have hj1 : (j : Int) < ((j + 1 : Nat) : Int) := by omega
            have hj2 : j < j + 1 := by omega
            clear hX hex1
            go_wp2_with fail
            refine AKd.out.mono ?_
            rintro e w6 ⟨rfl, rfl⟩
            clear AKd
            go_wp2_with fail
            refine AG.out.mono ?_
            rintro e w6 ⟨h1, hb6⟩
            have AD6 := aside (AD5.out.below hb6)
            have Ax6 : Aside (w6.heap[xb]? = W2.heap[xb]?) := (hb6.block xb Axl5.out).trans Ax5.out
            have Abs6 := aside (Abs5.out.below hb6)
            have Axl6 : Aside (xb < w6.heap.size) := Nat.lt_of_lt_of_le Axl5.out hb6.size
            clear hb6 AG hcx5
            rcases h1 with ⟨hyes, rfl⟩ | ⟨hno, cc, hcc, rfl⟩
            · have Ayes := aside hyes
              obtain ⟨zz, hzz⟩ : ∃ zz, zz = rb (d.p ++ [x]) := ⟨_, rfl⟩
              rw [← hzz]
              clear hyes hzz
              go_wp2_with fail
              go_ret3
              refine ⟨191, i, T, ?_, AD6.out.bel, .inl ⟨by decide, rfl⟩⟩
              rw [AMk.out, ADr.out, List.map_cons]
              exact mkT_err (AS.out.there rfl Aex.out (by rw [← Adp.out]; exact Ayes.out)) (by decide)
            · have hcb : (cc == 0) = false := beq_eq_false_iff_ne.2 hcc
              have Ano : Aside (¬ ∃ e ∈ T, e.p = q ++ [x]) := by show ¬ ∃ e ∈ T, e.p = q ++ [x]; rw [← Adp.out]; exact hno
              have Ano2 := aside hno
              clear hno
              by_cases hf : 4096 ≤ i
              · have hf2 : (4096 : Int) ≤ (i : Int) := by omega
                go_wp2_with fail
                go_ret3
                refine ⟨4, i, T, ?_, AD6.out.bel, .inl ⟨by decide, rfl⟩⟩
                rw [AMk.out, ADr.out, List.map_cons]
                exact mkT_err (AS.out.full rfl Aex.out Ano.out (by have := AD6.out.few; have := ATl.out; omega)) (by decide)
              · have hf2 : ¬ (4096 : Int) ≤ (i : Int) := by omega
                obtain ⟨f1, f2, f3, f4⟩ := AS.out.fine rfl
                have Anm := aside f2
                have Afd := aside f3
                obtain ⟨c0, c1, c2, -⟩ := AX.out w6 Ax6.out
                have ANd := aside (rnode_any mp mk m.a m.x m.c w6 (by rw [Amk.out]; exact f1) Abs6.out (by have := Ab1.out.2; omega))
                rw [← Aml.out] at ANd
                have Ar := aside (AS.out.rest rfl Aex.out Ano.out (by have := ATl.out; omega))
                obtain ⟨nc2, hnc2⟩ : ∃ nc2, nc2 = nnc mk m.x := ⟨_, rfl⟩
                rw [← Amk.out, ← hnc2] at Ar
                have Anc := aside hnc2
                clear f1 f2 f3 f4 hnc2
                go_wp2_with fail
                refine ANd.out.mono ?_
                rintro e w7 ⟨hb7, h7⟩
                rw [← Anc.out] at h7
                have AD7 := aside (AD6.out.below hb7)
                have Ax7 : Aside (w7.heap[xb]? = W2.heap[xb]?) := (hb7.block xb Axl6.out).trans Ax6.out
                have Axl7 : Aside (xb < w7.heap.size) := Nat.lt_of_lt_of_le Axl6.out hb7.size
                clear hb7 ANd c0 c1 c2
                rcases h7 with ⟨hn0, rfl⟩ | ⟨hn0, eb, rfl, heb, hE⟩
                · have hnb : (nc2 == 0) = false := beq_eq_false_iff_ne.2 hn0
                  have An0 := aside hn0
                  clear hn0
                  go_wp2_with fail
                  go_ret3
                  refine ⟨nc2, i, T, ?_, AD7.out.bel, .inl ⟨An0.out, rfl⟩⟩
                  rw [AMk.out, ADr.out, List.map_cons]
                  exact mkT_err Ar.out An0.out
                · subst hn0
                  have hmk0 : m.it.2.1 = mk := Amk.out.symm
                  have hpe : (peE m.it).p = d.p ++ [x] := by
                    show spl m.p.data.toList = d.p ++ [x]
                    rw [← Asl.out.2, Asn.out, Adp.out]
                  have hnew : RNew R4 w7 eb (peE m.it) := by
                    have hkk : (peE m.it).k = mk.toNat := by show m.k.toNat = mk.toNat; rw [Amk.out]
                    rcases hE with ⟨rfl, fb, h1, h2⟩ | ⟨rfl, h1⟩ | ⟨rfl, h1⟩
                    · exact .inl ⟨hkk, fb, h1, h2⟩
                    · exact .inr (.inl ⟨hkk, h1⟩)
                    · exact .inr (.inr (.inl ⟨hkk, h1⟩))
                  have hnx : xb < eb := by have := Axl6.out; omega
                  have hrac : rac T d x = 0 := rac_zero AD7.out.tr Anm.out Ano2.out (by have := ATl.out; omega) (by rw [Adp.out]; exact Afd.out)
                  have AAd := aside (rt_add r4_st AD7.out.tr AD7.out.bel.size (d := d) (e := peE m.it) AdT.out (by have := Akd.out; omega) (by have h1 := Afd.out; rw [← Adp.out] at h1; omega) (x := x) (by have := (nok Anm.out).2.1; omega) hpe (fun c hc => by have := Aol.out c hc; omega) (by have h1 := AD6.out.bel.size; omega) hnew (by have := AD7.out.few; omega))
                  rw [hrac, ← Adb.out, ← AX2.out] at AAd
                  have Anx := aside hnx
                  have Ape := aside hpe
                  clear hpe hnew hnx hrac hE hmk0 heb
                  go_wp2_with fail
                  refine AAd.out.mono ?_
                  rintro e w8 ⟨rfl, -, hRt, hlo8, hu8⟩
                  have hx8 : w8.heap[xb]? = W2.heap[xb]? := (hu8.block xb Axl7.out (by
                    rintro (e1 | e1)
                    · have := Aol.out d AdT.out
                      rw [← Adb.out] at this
                      omega
                    · have := Anx.out
                      omega)).trans Ax7.out
                  have hD8 : Dw w w8 (T ++ [peE m.it]) (rbu rb (spl m.p.data.toList) eb) rt := AD7.out.more hlo8 Ar.out (spl_ne _) (by
                    have h1 := hRt trivial
                    rw [← Ape.out] at h1
                    exact h1)
                  obtain ⟨-, c1, c2, -⟩ := AX.out w8 hx8
                  have AD8 := aside hD8
                  clear hRt hlo8 hu8 hx8 hD8 AAd
                  by_cases k0 : mk = 0
                  · obtain ⟨z, hz⟩ : ∃ z, z = u + ml := ⟨_, rfl⟩
                    have hw2 : IntKind.i64.wrap ((u : Int) + (ml : Int)) = (z : Int) := by rw [wrap_small _ (by omega) (by omega), hz]; simp
                    have Az := aside hz
                    have Ak0 : Aside (m.k = 0) := by show m.k = 0; rw [← Amk.out]; exact k0
                    clear hz
                    subst k0
                    go_wp2_with fail
                    go_roundg gk
                    case measure => omega
                    case rel =>
                      refine ⟨i + 1, T ++ [peE m.it], _, z, by omega, by first | rfl | simp, rfl, ?_, by rw [List.length_append, ATl.out]; rfl, AD8.out, ?_⟩
                      · rw [Az.out, Au.out, byt_app, Aml.out]
                        show _ = byt T + (if m.k.toNat = 0 then m.x.length else 0)
                        rw [Ak0.out]
                        rfl
                      · rw [AMk.out, ADr.out, List.map_cons]
                        exact mkT_go Ar.out
                  · have k1 : (mk == 0) = false := beq_eq_false_iff_ne.2 k0
                    have Ak0 : Aside (¬ m.k = 0 ∧ (m.k = 0 ∨ m.k = 1 ∨ m.k = 2)) := ⟨by rw [← Amk.out]; exact k0, (AS.out.fine rfl).1⟩
                    go_wp2_with fail
                    go_roundg gk
                    case measure => omega
                    case rel =>
                      refine ⟨i + 1, T ++ [peE m.it], _, u, by omega, by first | rfl | simp, rfl, ?_, by rw [List.length_append, ATl.out]; rfl, AD8.out, ?_⟩
                      · rw [Au.out, byt_app]
                        show _ = byt T + (if m.k.toNat = 0 then m.x.length else 0)
                        rw [if_neg (by have := Ak0.out; omega), Nat.add_zero]
                      · rw [AMk.out, ADr.out, List.map_cons]
                        exact mkT_go Ar.out
          · have hkb : (kd == 1) = false := beq_eq_false_iff_ne.2 hk
            have Ahk : Aside (¬ ∃ e ∈ T, e.p = q ∧ e.k = 1) := by
              rintro ⟨e, he, hep, hek⟩
              have := rone_p AD5.out.tr.one he AdT.out (hep.trans Adp.out.symm)
              rw [this] at hek
              exact hk (by rw [Akd.out, hek]; rfl)
            have Aex : Aside (∃ e ∈ T, e.p = q) := ⟨d, AdT.out, Adp.out⟩
            clear hk hcx5
            go_wp2_with fail
            refine AKd.out.mono ?_
            rintro e w6 ⟨rfl, rfl⟩
            clear AKd
            go_wp2_with fail
            go_ret3
            refine ⟨193, i, T, ?_, AD5.out.bel, .inl ⟨by decide, rfl⟩⟩
            rw [AMk.out, ADr.out, List.map_cons]
            exact mkT_err (AS.out.leaf rfl Aex.out Ahk.out) (by decide)
        · have Ard : Aside (rfd T rb q = .pointer none) := by
            show rfd T rb q = .pointer none
            unfold rfd
            rw [if_neg hd]
          rw [Ard.out]
          have Ahd := aside hd
          clear hd hcx5
          go_wp2_with fail
          go_ret3
          refine ⟨192, i, T, ?_, AD5.out.bel, .inl ⟨by decide, rfl⟩⟩
          rw [AMk.out, ADr.out, List.map_cons]
          exact mkT_err (AS.out.none rfl Ahd.out) (by decide)
      · have hRb : (R == 0) = false := beq_eq_false_iff_ne.2 hR0
        have AR0 := aside hR0
        clear hR0
        go_wp2_with fail
        go_ret3
        refine ⟨R, i, T, ?_, AD3.out.bel, .inl ⟨AR0.out, rfl⟩⟩
        rw [AMk.out, ADr.out, List.map_cons]
        exact mkT_err (AS.out.err AR0.out) AR0.out
end Go.Proofs.YtbnaegoahdcejaaGreatDoor
