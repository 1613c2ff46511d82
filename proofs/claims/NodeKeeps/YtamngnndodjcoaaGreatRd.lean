/- A read of the whole of the statements' own file. -/
import Derived.Test.YtamngnndodjcoaaGreatHnd
import Derived.Laws.CopyOwn
import Derived.Deep.RegionHeld2
namespace Go.Proofs.YtamngnndodjcoaaGreat
open Go.RowKit

theorem make_bytes (w : World) (m : Nat) (hm : m ≤ 4194305) : (Instr.makeSlice 52 (.int .i64 m) (.int .i64 m)).run Tryz.prog w = .ok (.slice (some ⟨w.heap.size, 0, none⟩) m m) (w.alloc (.cells (bcells (List.replicate m 0)).toArray 5)) := by
  obtain ⟨i, hi, hz, hs, hb⟩ := info_parts info5
  have h := run_make (P := Tryz.prog) w 52 5 i (.int .u8 0) Tryz.underlying52 hi hz .i64 .i64 m m (by omega) (Int.le_refl _) (by rw [hb]; omega) (by omega)
  rw [h, hs]
  simp only [Int.toNat_natCast, Nat.mul_one]
  have e : (madeCells (Value.int .u8 0).cells m) = (bcells (List.replicate m 0)).toArray := by
    apply Array.toList_inj.1
    rw [show (Value.int IntKind.u8 0).cells = #[.int .u8 0] from rfl, toList_madeCells_one]
    simp [bcells]
  rw [e]

set_option maxRecDepth 20000 in
theorem get1_none (b : Nat) (w : World) (h : w.cell? ⟨b, 1, none⟩ = some (.int .i64 0)) : Calls Tryz.prog 87 #[Pt b, .int .i64 0, .int .i64 2000] w fun e w' => e = .returned (.slice none 0 0) ∧ w' = w := by
  go_enter Tryz.func87, Tryz.ntmps87
  go_wp2
  go_ret
  exact ⟨rfl, rfl⟩

theorem end_any (x n : Nat) (a : Option Addr) (c : Nat) (w : World) (h : x + n ≤ 4611686018427387904) :
    Calls Tryz.prog 96 #[.agg #[.int .i64 x, .slice a n c]] w fun e w' => e = .returned (.int .i64 ((x + n : Nat) : Int)) ∧ Below w.heap.size w w' := by
  have hw : IntKind.i64.wrap ((x : Int) + (n : Int)) = ((x + n : Nat) : Int) := by rw [wrap_small _ (by omega) (by omega)]; simp
  go_enter Tryz.func96, Tryz.ntmps96
  go_wp2
  go_ret
  exact ⟨by simp, below_al w _⟩

theorem step_copy_to {P : Program} {ops : Array Oper} {o : Oper} {a : Act} {w : World} {K : Act → World → Prop} {Q : Exit → Act → World → Prop} {E : Prop}
    (hg : o.guard = none) (d x : Operand) (dT sT : TypeId) (hop : o.op = Op.call { callee := Callee.builtin Builtin.copy, args := #[d, x], argTypes := #[dT, sT] })
    (v u : Value) (hd : a.eval d = v) (hx : a.eval x = u) {v' : Value} {w' : World} (hr : (Builtin.copy_ #[dT, sT] o.type #[v, u]).run P w = .ok v' w') (hK : K (a.put o.dst v') w') :
    if Region.wanted o (yielded ops a.tmps) = true then Oper.wp P o a w K Q else E := by
  have hw : Region.wanted o (yielded ops a.tmps) = true := by simp [Region.wanted, hg]
  rw [if_pos hw]
  unfold Oper.wp
  simp [execOp, hop, resolve, invoke, builtin, hd, hx, hr, Result.andThen]
  exact hK
theorem run_copy_whole (W : World) (ty : TypeId) (g q n c1 c2 : Nat) (l : List UInt8) (hn : n = l.length) (hg : W.heap[g]? = some (.cells (bcells (List.replicate n 0)).toArray 5 (0, 0))) (hq : ∀ j v, (bcells l)[j]? = some v → W.cell? ((⟨q, 0, none⟩ : Addr).add j) = some v) :
    (Builtin.copy_ #[52, 52] ty #[.slice (some ⟨g, 0, none⟩) n c1, .slice (some ⟨q, 0, none⟩) n c2]).run Tryz.prog W = .ok (goInt (n : Int)) (W.setRow g (bcells l).toArray) := by
  subst hn
  have hsz : (Tryz.prog.info? 5).map (·.size) = some 1 := by kernel_rfl
  have h3 := run_copy_row (P := Tryz.prog) W 52 52 ty 5 g 0 l.length c1 ⟨q, 0, none⟩ l.length c2 (bcells (List.replicate l.length 0)).toArray 5 (bcells l) Tryz.underlying52 hsz hg (by rw [bcells_length]; simp) hq (by simp [bcells_length]) (bcells_one _)
  have e2 : ((bcells (List.replicate l.length 0)).toArray.toList.take 0 ++ bcells l ++ (bcells (List.replicate l.length 0)).toArray.toList.drop (0 + (bcells l).length)) = bcells l := by
    rw [bcells_length]
    simp [bcells]
  rw [e2, bcells_length] at h3
  exact h3
theorem wpList_min2 {P : Program} (w : World) {ops : Array Oper} {rest : List Oper} {o : Oper} {a : Act} {Q : Exit → Act → World → Prop} (hgd : o.guard = none) (x y : Operand) (ts : Array TypeId)
    (ho : o.op = .call { callee := .builtin .min, args := #[x, y], argTypes := ts }) (p q m : Int) (hx : a.eval x = .int .i64 p) (hy : a.eval y = .int .i64 q)
    (hm : min p q = m) (h : wpList P ops Q rest (a.put o.dst (.int .i64 m)) w) : wpList P ops Q (o :: rest) a w := by
  refine wpList_plain hgd fun K hK => ?_
  have hr := run_min_int2 (P := P) (w := w) ts o.type .i64 .i64 p q
  rw [show (if q < p then q else p) = m by rw [← hm]; simp only [Int.min_def]; split <;> split <;> omega] at hr
  unfold Oper.wp execOp
  simp only [ho, resolve, invoke, builtin, Sem.run_bind, Sem.run_pure, Result.andThen_ok, List.map_toArray, List.map_cons, List.map_nil, hx, hy, hr]
  exact hK _ _ h

set_option maxRecDepth 20000 in
set_option maxHeartbeats 4000000 in
theorem get1_all (b g cap q cap2 n : Nat) (l : List UInt8) (w : World) (hn : n = l.length) (h0 : 0 < n) (hl : n ≤ 1000) (hcp : n ≤ cap2) (hb : w.heap[b]? = some (.cells #[.slice (some ⟨g, 0, none⟩) 1 cap, .int .i64 (n : Int)] 183 (0, 0))) (hg0 : w.cell? ⟨g, 0, none⟩ = some (.int .i64 0)) (hg1 : w.cell? ⟨g, 1, none⟩ = some (.slice (some ⟨q, 0, none⟩) n cap2)) (hq : ∀ j v, (bcells l)[j]? = some v → w.cell? ((⟨q, 0, none⟩ : Addr).add j) = some v) :
    Calls Tryz.prog 87 #[Pt b, .int .i64 0, .int .i64 2000] w fun e w' => e = .returned (.slice (some ⟨w.heap.size, 0, none⟩) n n) ∧ w'.heap[w.heap.size]? = some (.cells (bcells l).toArray 5 (0, 0)) ∧ Below w.heap.size w w' := by
  have c0 : w.cell? ⟨b, 0, none⟩ = some (.slice (some ⟨g, 0, none⟩) 1 cap) := by rw [cell_of_row w b 0 _ _ _ hb]; rfl
  have c1 : w.cell? ⟨b, 1, none⟩ = some (.int .i64 (n : Int)) := by rw [cell_of_row w b 1 _ _ _ hb]; rfl
  have g3 : ¬ ((n : Int) ≤ 0) := by omega
  have g3b : ¬ (n = 0) := by omega
  have g4 : (n : Int) < 2000 := by omega
  have hmk := fun w => make_bytes w n (by omega)
  have AQ := aside hq
  have AN := aside hn
  have hlb := (Array.getElem?_eq_some_iff.1 hb).1
  have hlg := World.block_lt_of_cell? w _ hg0
  clear hq hb hn
  go_enter Tryz.func87, Tryz.ntmps87
  go_wp2_with fail
  obtain ⟨W, hW⟩ : ∃ W, W = w.alloc (.cells (bcells (List.replicate n 0)).toArray 5) := ⟨_, rfl⟩
  have hB : Below w.heap.size w W := by rw [hW]; exact below_al w _
  have hout : W.heap[w.heap.size]? = some (.cells (bcells (List.replicate n 0)).toArray 5 (0, 0)) := by rw [hW]; exact heap_alloc_new w _
  rw [← hW]
  clear hW
  have AB := aside hB
  have AO := aside hout
  clear hB hout
  go_loopg [8, 9, 10, 11] 1 (fun k s8 _ _ _ wx => (k = 1 ∧ s8 = .int .i64 0 ∧ wx = W) ∨ (k = 0 ∧ s8 = .int .i64 1 ∧ wx.heap[w.heap.size]? = some (.cells (bcells l).toArray 5 (0, 0)) ∧ Below w.heap.size w wx))
  case atStart => exact .inl ⟨rfl, rfl, rfl⟩
  case round =>
    rcases hrel with ⟨rfl, rfl, rfl⟩ | ⟨rfl, rfl, hout, hbl⟩
    · have hBW := AB.out
      have d0 : wr.cell? ⟨b, 0, none⟩ = some (.slice (some ⟨g, 0, none⟩) 1 cap) := (hBW.cell hlb).trans c0
      have e0 : wr.cell? ⟨g, 0, none⟩ = some (.int .i64 0) := (hBW.cell hlg).trans hg0
      have e1 : wr.cell? ⟨g, 1, none⟩ = some (.slice (some ⟨q, 0, none⟩) n cap2) := (hBW.cell hlg).trans hg1
      have hmx : max (0 : Int) 0 = 0 := rfl
      clear c0 c1 hg0 hg1 hBW
      go_wp2_with fail
      have hE := end_any 0 n (some ⟨q, 0, none⟩) cap2 (wr.alloc (.cells #[.int .i64 0, .slice (some ⟨q, 0, none⟩) n cap2] 189)) (by omega)
      rw [Nat.zero_add] at hE
      refine Calls.mono hE ?_
      rintro e w1 ⟨rfl, hb1⟩
      have al := below_al wr (.cells #[.int .i64 0, .slice (some ⟨q, 0, none⟩) n cap2] 189)
      have hw1 := below_tr al hb1
      have bx : w1.heap[wr.heap.size]? = some (.cells #[.int .i64 0, .slice (some ⟨q, 0, none⟩) n cap2] 189 (0, 0)) := (hb1.block _ (by simp)).trans (heap_alloc_new wr _)
      have p0 : w1.cell? ⟨wr.heap.size, 0, none⟩ = some (.int .i64 0) := by rw [cell_of_row _ _ 0 _ _ _ bx]; rfl
      have p1 : w1.cell? ⟨wr.heap.size, 1, none⟩ = some (.slice (some ⟨q, 0, none⟩) n cap2) := by rw [cell_of_row _ _ 1 _ _ _ bx]; rfl
      have AW := aside (below_tr hw1 (below_dr w1))
      have t2 : (0 : Int) < (n : Int) := by omega
      have hmn : min (n : Int) (n : Int) = (n : Int) := by omega
      have ACP : Aside (∀ ty W c1 c2, Below wr.heap.size wr W → (Builtin.copy_ #[52, 52] ty #[.slice (some ⟨w.heap.size, 0, none⟩) n c1, .slice (some ⟨q, 0, none⟩) n c2]).run Tryz.prog W = .ok (goInt (n : Int)) (W.setRow w.heap.size (bcells l).toArray)) := fun ty W c1 c2 hW => run_copy_whole W ty w.heap.size q n c1 c2 l AN.out ((hW.block _ (Array.getElem?_eq_some_iff.1 AO.out).1).trans AO.out) (fun j v hj => by
          have h1 := AQ.out j v hj
          have h2 := (AB.out.cell (World.block_lt_of_cell? w _ h1)).trans h1
          exact (hW.cell (World.block_lt_of_cell? wr _ h2)).trans h2)
      have i4 : (n : Int) ≤ (cap2 : Int) := by omega
      clear al hb1 hw1 bx d0 e0 e1 hE
      go_wp2_with ((with_reducible refine wpList_min2 _ rfl _ _ _ rfl (n : Int) (n : Int) (n : Int) ?_ ?_ hmn ?_); rfl; rfl)
      have w0' : IntKind.i64.wrap ((n : Int) - 0) = (n : Int) := by rw [wrap_small _ (by omega) (by omega)]; omega
      have w1' : IntKind.i64.wrap (n : Int) = (n : Int) := wrap_small _ (by omega) (by omega)
      have w2' : IntKind.i64.wrap 0 = 0 := by decide
      have z1 : ¬ (n = 0) := by omega
      have i1 : (0 : Int) ≤ (n : Int) := by omega
      have z2 : ¬ (cap2 = 0) := by omega
      go_region_law (refine step_copy_to rfl _ _ 52 52 rfl _ _ (by simp [Act.eval, Act.put]; rfl) (by simp [Act.eval, Act.put]; rfl) (ACP.out _ _ _ _ AW.out) ?_)
      all_goals
        go_wp2_with fail
        go_roundg 0
        case measure => omega
        case rel => exact .inr ⟨rfl, by first | rfl | simp, setRow_heap _ _ _ _ _ _ ((AW.out.block _ (Array.getElem?_eq_some_iff.1 AO.out).1).trans AO.out), (AB.out.trans (AW.out.mono AB.out.size)).trans ((Upd.setRow (F := fun k => k = w.heap.size) _ _ _ rfl).below (by have := AB.out.size; have := AW.out.size; omega) (fun k hk => by omega))⟩
    · have hb1 : wr.cell? ⟨b, 0, none⟩ = some (.slice (some ⟨g, 0, none⟩) 1 cap) := (hbl.cell hlb).trans c0
      have AO2 := aside hout
      have AB2 := aside hbl
      clear hout hbl
      go_wp2_with fail
      go_ret
      exact ⟨rfl, AO2.out, AB2.out⟩
set_option maxHeartbeats 400000 in
theorem bclone_any (src : Addr) (l : List UInt8) (c : Nat) (w : World) (h0 : 0 < l.length) (hlen : l.length ≤ 4294967296) (hsrc : ∀ j v, (bcells l)[j]? = some v → w.cell? (src.add j) = some v) :
    Calls Tryz.prog 51 #[.slice (some src) l.length c] w fun e w' => ∃ g cap, e = .returned (.slice (some ⟨g, 0, none⟩) l.length cap) ∧ w.heap.size ≤ g ∧ w'.ownsRow 0 5 1 (.slice (some ⟨g, 0, none⟩) l.length cap) l.length (bcells l) ∧ Below w.heap.size w w' := by
  have hnil : ∀ w, (binOp .eql 52 (.slice (some src) l.length c) (.slice none 0 0)).run Tryz.prog w = .ok (.bool false) w := fun w => Lib.run_eql_slice_nil w 52 5 (some src) l.length c 0 0 Tryz.underlying52
  have hB : Below w.heap.size w (w.alloc (.cells #[] 5)) := below_al w _
  have hown : (w.alloc (.cells #[] 5)).ownsRow 0 5 1 (.slice (some ⟨w.heap.size, 0, none⟩) 0 0) 0 [] := World.ownsRow_made w #[] 0 (Nat.zero_le _) (by decide) (by simp)
  have hs2 : ∀ j v, (bcells l)[j]? = some v → (w.alloc (.cells #[] 5)).cell? (src.add j) = some v := fun j v h => (hB.cell (World.block_lt_of_cell? w _ (hsrc j v h))).trans (hsrc j v h)
  have h63 : 0 + l.length ≤ maxLen := by unfold maxLen; omega
  have hby : (0 + l.length) * 1 ≤ 140737488355328 := by omega
  have hll : (bcells l).length = l.length * 1 := by simp [bcells_length]
  have HO := aside hown
  have HS := aside hs2
  have HB := aside hB
  have H63 := aside h63
  have HLL := aside hll
  clear hs2 hsrc hown hB h63 hll
  go_enter Tryz.func51, Tryz.ntmps51
  go_wp2_with (at_builtin; refine wpList_append_where _ rfl _ _ 52 rfl 5 (.int .u8 0) 1 1 Tryz.underlying52 info5 rfl (by decide) (.slice (some ⟨w.heap.size, 0, none⟩) 0 0) 0 [] rfl HO.out _ l.length _ (bcells l) rfl HLL.out HS.out (bcells_one _) H63.out hby h0 ?_; intro v' w' ho hg hwh)
  go_ret
  simp only [Nat.zero_add, List.nil_append] at ho
  rcases ho.2 with ⟨-, hz⟩ | ⟨g, cap, cur, rfl, r⟩
  · omega
  · refine ⟨g, cap, rfl, ?_, ho, ?_⟩
    · rcases hwh with ⟨e1, -⟩ | ⟨e1, -⟩
      · simp only [Value.ownBlock, Option.some.injEq] at e1; omega
      · simp only [Value.ownBlock, Option.some.injEq, World.size_alloc] at e1; omega
    · exact (HB.out).grown hg (by simp) (fun k hk => by simp only [Value.ownBlock, Option.some.injEq] at hk; omega)


set_option maxRecDepth 20000 in
theorem bclone_nil (w : World) : Calls Tryz.prog 51 #[.slice none 0 0] w fun e w' => e = .returned (.slice none 0 0) ∧ w' = w := by
  have hnil : ∀ w, (binOp .eql 52 (.slice none 0 0) (.slice none 0 0)).run Tryz.prog w = .ok (.bool true) w := fun w => Lib.run_eql_slice_nil w 52 5 none 0 0 0 0 Tryz.underlying52
  go_enter Tryz.func51, Tryz.ntmps51
  go_wp2
  go_ret
  exact ⟨rfl, rfl⟩

theorem BsAt.keep {w w' : World} {a : Option Addr} {l : List UInt8} {F : Nat → Prop} (h : BsAt w a l) (u : Upd F w w') (hF : ∀ ad, a = some ad → ¬ F ad.block) : BsAt w' a l := fun hl => by
  obtain ⟨ad, rfl, hc⟩ := h hl
  refine ⟨ad, rfl, fun j v hj => ?_⟩
  have h1 := hc j v hj
  exact (World.cell?_of_block (u.block _ (World.block_lt_of_cell? w _ h1) (by rw [add_block]; exact hF ad rfl))).trans h1

theorem get1_any (hi b : Nat) (l : List UInt8) (w : World) (h : Byt w hi b l) (hl : l.length ≤ 1000) : Calls Tryz.prog 87 #[Pt b, .int .i64 0, .int .i64 2000] w fun e w' => ∃ v, e = .returned v ∧ ((l = [] ∧ v = .slice none 0 0) ∨ (0 < l.length ∧ v = .slice (some ⟨w.heap.size, 0, none⟩) l.length l.length ∧ w'.heap[w.heap.size]? = some (.cells (bcells l).toArray 5 (0, 0)))) ∧ Below w.heap.size w w' := by
  obtain ⟨lv, hb, h2⟩ := h.con
  rcases h2 with ⟨rfl, rfl⟩ | ⟨h0, g, cap, q, cap2, rfl, -, -, hcc, c0, c1, c2⟩
  · refine (get1_none b w (by rw [cell_of_row w b 1 _ _ _ hb]; rfl)).mono ?_
    rintro e w' ⟨rfl, rfl⟩
    exact ⟨_, rfl, .inl ⟨rfl, rfl⟩, Below.refl _ _⟩
  · refine (get1_all b g cap q cap2 l.length l w rfl h0 hl hcc hb c0 c1 c2).mono ?_
    rintro e w' ⟨rfl, h1, h2⟩
    exact ⟨_, rfl, .inr ⟨h0, rfl, h1⟩, h2⟩

set_option maxRecDepth 20000 in
theorem reads_ok (w : World) : Calls Tryz.prog 164 #[.int .i64 0, .int .i64 2000] w fun e w' => e = .returned (.int .i64 0) ∧ w' = w := by
  go_enter Tryz.func164, Tryz.ntmps164
  go_wp2
  go_ret
  exact ⟨rfl, rfl⟩
/-- What a read of the whole tells: nothing, or a new row of the bytes. -/
def Tel (w w' : World) (l : List UInt8) (v : Value) : Prop := (l = [] ∧ v = .slice none 0 0) ∨ (0 < l.length ∧ ∃ g c, v = .slice (some ⟨g, 0, none⟩) l.length c ∧ w.heap.size ≤ g ∧ ∀ j u, (bcells l)[j]? = some u → w'.cell? ((⟨g, 0, none⟩ : Addr).add j) = some u)
theorem Tel.form {w w' : World} {l : List UInt8} {v : Value} (h : Tel w w' l v) : ∃ a c, v = .slice a l.length c := by
  rcases h with ⟨rfl, rfl⟩ | ⟨-, g, c, rfl, -⟩
  · exact ⟨none, 0, rfl⟩
  · exact ⟨_, c, rfl⟩
theorem Tel.bs {w w' : World} {l : List UInt8} {a : Option Addr} {n c : Nat} (h : Tel w w' l (.slice a n c)) : BsAt w' a l := fun hl => by
  rcases h with ⟨rfl, -⟩ | ⟨-, g, c, e, -, h⟩
  · exact absurd rfl hl
  · injection e with e1
    exact ⟨_, e1, h⟩

set_option maxRecDepth 20000 in
theorem pread_any (hi pl b : Nat) (l : List UInt8) (w : World) (d2 : w.cell? ⟨pl, 0, none⟩ = some (Pt b)) (h : Byt w hi b l) (hl : l.length ≤ 1000) : Calls Tryz.prog 162 #[Pt pl, .int .i64 0, .int .i64 2000] w fun e w' => ∃ v, e = .returned (.tuple #[v, .int .i64 0]) ∧ Tel w w' l v ∧ Below w.heap.size w w' := by
  have AG := aside (get1_any hi b l w h hl)
  clear h
  go_enter Tryz.func162, Tryz.ntmps162
  go_wp2_with fail
  refine (reads_ok w).mono ?_
  rintro e w ⟨rfl, rfl⟩
  go_wp2_with fail
  refine AG.out.mono ?_
  rintro e w1 ⟨v, rfl, hv, hb⟩
  have hT : Tel w w1 l v := by
    rcases hv with ⟨h1, h2⟩ | ⟨h0, h1, h2⟩
    · exact .inl ⟨h1, h2⟩
    · refine .inr ⟨h0, _, _, h1, Nat.le_refl _, fun j u hj => ?_⟩
      rw [Addr.add_lit, Nat.zero_add, cell_of_row w1 _ j _ _ _ h2]
      simpa using hj
  obtain ⟨a, c, rfl⟩ := hT.form
  have AT := aside hT
  clear hT hv
  go_wp2_with fail
  go_ret2
  exact ⟨_, rfl, AT.out, hb⟩
set_option maxRecDepth 20000 in
theorem fread_any (hi fo pl b : Nat) (l : List UInt8) (w : World) (d1 : w.cell? ⟨fo, 0, none⟩ = some (Pt pl)) (d2 : w.cell? ⟨pl, 0, none⟩ = some (Pt b)) (h : Byt w hi b l) (hl : l.length ≤ 1000) : Calls Tryz.prog 156 #[Pt fo, .int .i64 0, .int .i64 2000] w fun e w' => ∃ v, e = .returned (.tuple #[v, .int .i64 0]) ∧ Tel w w' l v ∧ Below w.heap.size w w' := by
  have AG := aside (pread_any hi pl b l w d2 h hl)
  clear h d2
  go_enter Tryz.func156, Tryz.ntmps156
  go_wp2_with fail
  refine AG.out.mono ?_
  rintro e w1 ⟨v, rfl, hT, hb⟩
  obtain ⟨a, c, rfl⟩ := hT.form
  have AT := aside hT
  clear hT
  go_wp2_with fail
  go_ret2
  exact ⟨_, rfl, AT.out, hb⟩

set_option maxRecDepth 20000 in
set_option maxHeartbeats 1000000 in
theorem mread_any (mo : Nat) (l : List UInt8) (w : World) (h : My w mo l) (hl : l.length ≤ 1000) : Calls Tryz.prog 150 #[Pt mo, .int .i64 0, .int .i64 2000] w fun e w' => ∃ v, e = .returned (.tuple #[v, .int .i64 0]) ∧ Tel w w' l v ∧ My w' mo l ∧ Upd (fun k => k = mo) w w' := by
  have hlt := h.lt
  obtain ⟨fo, pl, b, asked, no, calls, h1, h2, h3, h4, h5, h6⟩ := h.parts
  have c1 : w.cell? ⟨mo, 1, none⟩ = some (.int .i64 asked) := by rw [cell_of_row w mo 1 _ _ _ h1]; rfl
  have f1 := frozen_of_row w mo 1 _ _ h1
  have c0 : w.cell? ⟨mo, 0, none⟩ = some (Pt fo) := by rw [cell_of_row w mo 0 _ _ _ h1]; rfl
  have hX : ∀ n, Aside (My (w.setCell ⟨mo, 1, none⟩ (.int .i64 n)) mo l ∧ Upd (fun k => k = mo) w (w.setCell ⟨mo, 1, none⟩ (.int .i64 n)) ∧ Calls Tryz.prog 156 #[Pt fo, .int .i64 0, .int .i64 2000] (w.setCell ⟨mo, 1, none⟩ (.int .i64 n)) fun e w' => ∃ v, e = .returned (.tuple #[v, .int .i64 0]) ∧ Tel (w.setCell ⟨mo, 1, none⟩ (.int .i64 n)) w' l v ∧ Below (w.setCell ⟨mo, 1, none⟩ (.int .i64 n)).heap.size (w.setCell ⟨mo, 1, none⟩ (.int .i64 n)) w') := fun n => by
    have u : Upd (fun k => k = mo) w (w.setCell ⟨mo, 1, none⟩ (.int .i64 n)) := Upd.setCell (F := fun k => k = mo) (p := ⟨mo, 1, none⟩) rfl _
    refine ⟨h.asked n, u, fread_any mo fo pl b l _ ?_ ?_ (h6.upd u (fun k hk e => by have e : k = mo := e; omega)) hl⟩
    · rw [cell_of_row _ fo 0 _ _ _ (set_far h2 (by omega))]; rfl
    · rw [cell_of_row _ pl 0 _ _ _ (set_far h3 (by omega))]; rfl
  clear h h1 h2 h3 h6
  go_enter Tryz.func150, Tryz.ntmps150
  go_wp2_with fail
  obtain ⟨X, hXe⟩ : ∃ X, X = w.setCell ⟨mo, 1, none⟩ (.int .i64 (wrap64 (asked + 1))) := ⟨_, rfl⟩
  have AX := hX (wrap64 (asked + 1))
  rw [← hXe] at AX
  rw [← hXe]
  refine AX.out.2.2.mono ?_
  rintro e w1 ⟨v, rfl, hT, hb⟩
  obtain ⟨a, c, rfl⟩ := hT.form
  have AT := aside hT
  clear hT
  have hsz : X.heap.size = w.heap.size := by rw [hXe]; simp
  go_wp2_with fail
  go_ret2
  refine ⟨_, rfl, ?_, AX.out.1.below hb, AX.out.2.1.trans (Upd.of_below hb) (fun _ _ h => h)⟩
  rcases AT.out with h | ⟨h0, g, c', e, hg, r⟩
  · exact .inl h
  · exact .inr ⟨h0, g, c', e, by rw [← hsz]; exact hg, r⟩
end Go.Proofs.YtamngnndodjcoaaGreat
