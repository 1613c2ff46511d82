/- List. -/
import Derived.Test.YtamngnndodjcoaaGreatLst
import Derived.Test.YtamngnndodjcoaaGreatAdd2
namespace Go.Proofs.YtamngnndodjcoaaGreat
open Go.RowKit Go.Maps Go.Shelf

/-- What List tells of a node: its kind, its size. -/
def Kid (w : World) (hb : Nat) (n0 : Nat) (v : Value) (k n : Int) : Prop :=
  (∃ m fb, v = Pt m ∧ k = 0 ∧ n = (n0 : Int) ∧ Fl w m fb hb) ∨ (∃ (m d b : Nat) (up : Value) (XL : List KV), v = Pt m ∧ k = 1 ∧ n = (XL.length : Int) ∧ Dr w m d b up XL ∧ XL.length ≤ 1000000)
theorem Kid.file {w : World} {hb n0 : Nat} (m fb : Nat) (h : Fl w m fb hb) : Kid w hb n0 (Pt m) 0 (n0 : Int) := .inl ⟨m, fb, rfl, rfl, rfl, h⟩
theorem Kid.dir {w : World} {hb n0 : Nat} (m d b : Nat) (up : Value) (XL : List KV) (h : Dr w m d b up XL) (hx : XL.length ≤ 1000000) : Kid w hb n0 (Pt m) 1 (XL.length : Int) := .inr ⟨m, d, b, up, XL, rfl, rfl, rfl, h, hx⟩
theorem My.far {w : World} {mo : Nat} {l : List UInt8} (h : My w mo l) {b : Nat} {cs : Array Value} {T : TypeId} {f : Nat × Nat} (k : w.heap[b]? = some (.cells cs T f)) (hT : T ≠ 113) : b ≠ mo := fun e => by
  obtain ⟨fo, pl, by_, asked, no, calls, h1, -⟩ := h.parts
  rw [e, h1] at k
  simp only [Option.some.injEq, Obj.cells.injEq] at k
  exact hT k.2.1.symm
theorem My.farM {w : World} {mo : Nat} {l : List UInt8} (h : My w mo l) {b : Nat} {es : Array MapEntry} {c : Nat} (k : w.heap[b]? = some (.map es c)) : b ≠ mo := fun e => by
  obtain ⟨fo, pl, by_, asked, no, calls, h1, -⟩ := h.parts
  rw [e, h1] at k
  simp at k
theorem Kid.upd {w w' : World} {hb n0 mo : Nat} {l : List UInt8} {v : Value} {k n : Int} (h : Kid w hb n0 v k n) (hM : My w mo l) (u : Upd (fun k => k = mo) w w') : Kid w' hb n0 v k n := by
  rcases h with ⟨m, fb, rfl, rfl, rfl, h1⟩ | ⟨m, d, b, up, XL, rfl, rfl, rfl, h1, hx⟩
  · exact .file m fb (h1.upd u (hM.far h1.nod (by decide)) (hM.far h1.fil (by decide)))
  · skip
    obtain ⟨es, c, hm, -⟩ := h1.map
    exact .dir m d b up XL (h1.upd u (hM.far h1.nod (by decide)) (hM.far h1.dir (by decide)) (hM.farM hm)) hx

theorem Kid.lt {w : World} {hb n0 : Nat} {v : Value} {k n : Int} (h : Kid w hb n0 v k n) : ∃ m, v = Pt m ∧ m < w.heap.size := by
  rcases h with ⟨m, fb, rfl, rfl, rfl, h1⟩ | ⟨m, d, b, up, XL, rfl, rfl, rfl, h1, hx⟩
  · exact ⟨m, rfl, h1.nod.lt⟩
  · exact ⟨m, rfl, h1.nod.lt⟩
theorem meth_sizeF (b : Nat) (w : World) : (method 391 101 (Pt b) "mantle/node.size").run Tryz.prog w = .ok (170, Pt b) w := by kernel_rfl
theorem meth_sizeD (b : Nat) (w : World) : (method 391 91 (Pt b) "mantle/node.size").run Tryz.prog w = .ok (168, Pt b) w := by kernel_rfl

set_option maxRecDepth 20000 in
theorem sizeF_any (m fb hb mo : Nat) (l : List UInt8) (w : World) (h : Fl w m fb hb) (hH : Hn w hb mo l) : Calls Tryz.prog 170 #[Pt fb] w fun e w' => e = .returned (.int .i64 (l.length : Int)) ∧ Hn w' hb mo l ∧ Upd (fun k => k = mo) w w' := by
  have hc := h.cell
  have AD := aside (do_size hb mo l w hH)
  have hfd : ∀ w, (Instr.field 58 (toldN (l.length : Int)) 1).run Tryz.prog w = .ok (.int .i64 (l.length : Int)) w := fun w => by kernel_rfl
  clear h hH
  go_enter Tryz.func170, Tryz.ntmps170
  go_wp2_with fail
  refine AD.out.mono ?_
  rintro e w' ⟨rfl, h1, h2⟩
  go_wp2_with fail
  go_ret
  exact ⟨rfl, h1, h2⟩
set_option maxRecDepth 20000 in
theorem sizeD_any (m d b : Nat) (up : Value) (XL : List KV) (w : World) (h : Dr w m d b up XL) (hx : XL.length ≤ 1000000) : Calls Tryz.prog 168 #[Pt d] w fun e w' => e = .returned (.int .i64 (XL.length : Int)) ∧ w' = w := by
  have c2 := h.c2
  obtain ⟨es, c, hm, hE⟩ := h.map
  have hlen := fun ty => len_map hm hE ty
  have hw : IntKind.i64.wrap (XL.length : Int) = (XL.length : Int) := wrap_small _ (by omega) (by omega)
  clear h hm hE
  go_enter Tryz.func168, Tryz.ntmps168
  go_wp2
  go_ret
  exact ⟨rfl, rfl⟩

theorem infoE : (Tryz.prog.info? 86).map (fun i => (i.zero, i.size, i.bytes)) = some (some (.agg #[.string ⟨#[]⟩, .int .i8 0, .int .i64 0]), 3, 32) := by kernel_rfl
theorem make_any (n : Nat) (w : World) (hn : n ≤ 1000) : ∃ W, (Instr.makeSlice 81 (.int .i64 0) (.int .i64 (n : Int))).run Tryz.prog w = .ok (.slice (some ⟨w.heap.size, 0, none⟩) 0 n) W ∧ W.ownsRow 0 86 3 (.slice (some ⟨w.heap.size, 0, none⟩) 0 n) 0 [] ∧ Below w.heap.size w W ∧ w.heap.size < W.heap.size := by
  obtain ⟨i, hi, hz, hs, hb⟩ := info_parts infoE
  have hr := run_make (P := Tryz.prog) w 81 86 i _ Tryz.underlying81 hi hz .i64 .i64 0 (n : Int) (by omega) (by omega) (by rw [hb]; omega) (by omega)
  refine ⟨_, hr, World.ownsRow_made w _ n (Nat.zero_le _) (by unfold maxLen; omega) (by rw [size_madeCells, hs]; simp), below_al w _, by simp⟩

theorem app_ent (W : World) (s7 : Value) (i : Nat) (xs : List Value) (hown : W.ownsRow 0 86 3 s7 i xs) (x : ByteArray) (y z : Int) (hi : i ≤ 100000) :
    ∃ a c w', (Builtin.append_ #[81, 81] 81 #[s7, .slice (some ⟨W.heap.size, 0, none⟩) 1 1]).run Tryz.prog (W.alloc (.cells #[.string x, .int .i8 y, .int .i64 z] 86)) = .ok (.slice a (i + 1) c) w' ∧ w'.ownsRow 0 86 3 (.slice a (i + 1) c) (i + 1) (xs ++ [.string x, .int .i8 y, .int .i64 z]) ∧
      Upd (fun k => s7.ownBlock = some k) W w' ∧ ∀ k, (Value.slice a (i + 1) c).ownBlock = some k → s7.ownBlock = some k ∨ W.heap.size ≤ k := by
  have hB := below_al W (.cells #[.string x, .int .i8 y, .int .i64 z] 86)
  obtain ⟨v', w', hr, ho, hg, hwh⟩ := run_append_where (P := Tryz.prog) (W.alloc (.cells #[.string x, .int .i8 y, .int .i64 z] 86)) 81 81 86 _ 3 32 Tryz.underlying81 infoE rfl (by decide) s7 i xs (row_below hown hB) ⟨W.heap.size, 0, none⟩ 1 1 [.string x, .int .i8 y, .int .i64 z] rfl (fun j u hj => by
      match j, hj with
      | 0, hj => simp at hj; subst hj; go_simp
      | 1, hj => simp at hj; subst hj; go_simp
      | 2, hj => simp at hj; subst hj; go_simp
      | (j + 3), hj => simp at hj) (fun u hu => by
      simp only [List.mem_cons, List.not_mem_nil, or_false] at hu
      rcases hu with rfl | rfl | rfl <;> rfl) (by unfold maxLen; omega) (by omega) (by omega)
  obtain ⟨a, c, rfl, -⟩ := own_slice ho
  refine ⟨a, c, w', hr, ho, (Upd.of_below hB).trans (Upd.of_grown hg (fun k hk => hk)) (fun _ _ h => h), fun k hk => ?_⟩
  rcases hwh with ⟨e, -⟩ | ⟨e, -⟩
  · exact .inl (by rw [← e]; exact hk)
  · rw [e] at hk
    simp only [World.size_alloc, Option.some.injEq] at hk
    exact .inr (by omega)
theorem wp_append_at {P : Program} {op : Oper} {a : Act} {w : World} {K : Act → World → Prop} {Q : Exit → Act → World → Prop} (s x : Operand) (t : TypeId) (ho : op.op = .call { callee := .builtin .append, args := #[s, x], argTypes := #[t, t] })
    (v xv v' : Value) (w' : World) (hs : a.eval s = v) (hx : a.eval x = xv) (hr : (Builtin.append_ #[t, t] op.type #[v, xv]).run P w = .ok v' w') (h : K (a.put op.dst v') w') : op.wp P a w K Q := by
  unfold Oper.wp execOp
  simp only [ho, resolve, invoke, builtin, Sem.run_bind, Sem.run_pure, Result.andThen_ok, List.map_toArray, List.map_cons, List.map_nil, hs, hx, hr]
  exact h
abbrev ent (kd sz : ByteArray → Int) (s : ByteArray) : List Value := [.string s, .int .i8 (kd s), .int .i64 (sz s)]
/-- Where List stands behind i names. -/
structure Lg (w w2 W : World) (hb mo cl : Nat) (l : List UInt8) (es : Array MapEntry) (clock : Nat) (sv : Value) (names : List ByteArray) (kd sz : ByteArray → Int) (s7 : Value) (i : Nat) : Prop where
  upd : Upd (fun k => k = mo) w W
  han : ∃ fb, fb < w.heap.size ∧ mo < fb ∧ AllT 53 W hb fb ⟨mo, 0, none⟩
  hbl : hb < w.heap.size
  hlt : mo < hb
  my : My W mo l
  map : W.heap[cl]? = some (.map es clock)
  str : W.ownsRow 0 9 1 sv names.length (names.map Value.string)
  row : W.ownsRow 0 86 3 s7 i ((names.take i).flatMap (ent kd sz))
  sb : ∀ k, sv.ownBlock = some k → cl < k
  rb : ∀ k, s7.ownBlock = some k → cl < k ∧ sv.ownBlock ≠ some k
  lc : w.heap.size ≤ cl

theorem Lg.hn {w w2 W : World} {hb mo cl : Nat} {l : List UInt8} {es : Array MapEntry} {clock : Nat} {sv : Value} {names : List ByteArray} {kd sz : ByteArray → Int} {s7 : Value} {i : Nat} (h : Lg w w2 W hb mo cl l es clock sv names kd sz s7 i) : Hn W hb mo l := by
  obtain ⟨fb, h1, h2, h3⟩ := h.han
  exact ⟨⟨fb, h2, h3⟩, h.hlt, h.my⟩
theorem Lg.step {w w2 W W' : World} {hb mo cl : Nat} {l : List UInt8} {es : Array MapEntry} {clock : Nat} {sv : Value} {names : List ByteArray} {kd sz : ByteArray → Int} {s7 : Value} {i : Nat} (h : Lg w w2 W hb mo cl l es clock sv names kd sz s7 i) (u : Upd (fun k => k = mo) W W') (hn : Hn W' hb mo l) (hlm : mo < w.heap.size) : Lg w w2 W' hb mo cl l es clock sv names kd sz s7 i := by
  have hlc := h.lc
  obtain ⟨fb, h1, h2, h3⟩ := h.han
  have h4 := h.hlt
  refine ⟨h.upd.trans u (fun _ _ h => h), ⟨fb, h1, h2, h3.upd u (fun e => by have e : hb = mo := e; omega) (fun e => by have e : fb = mo := e; omega)⟩, h.hbl, h4, hn.my, (u.block _ (Array.getElem?_eq_some_iff.1 h.map).1 (fun e => by have e : cl = mo := e; omega)).trans h.map, u.row h.str (fun k hk e => by have e : k = mo := e; have := h.sb k hk; omega), u.row h.row (fun k hk e => by have e : k = mo := e; have := (h.rb k hk).1; omega), h.sb, h.rb, h.lc⟩
theorem round_end {w w2 W : World} {hb mo cl : Nat} {l : List UInt8} {es : Array MapEntry} {clock : Nat} {sv : Value} {names : List ByteArray} {kd sz : ByteArray → Int} {s7 : Value} {i m : Nat} {c : Value} {nm : ByteArray} {K N : Int} (h : Lg w w2 W hb mo cl l es clock sv names kd sz s7 i) (hlm : mo < w.heap.size) (hmw : m < w.heap.size) (hc : W.cell? ⟨m, 0, none⟩ = some c) (ht : names.take (i + 1) = names.take i ++ [nm]) (hK : kd nm = K) (hN : sz nm = N) (hi : i ≤ 100000) :
    ∃ a7 c7 w7, W.cell? ⟨m, 0, none⟩ = some c ∧ (Builtin.append_ #[81, 81] 81 #[s7, .slice (some ⟨W.heap.size, 0, none⟩) 1 1]).run Tryz.prog (W.alloc (.cells #[.string nm, .int .i8 K, .int .i64 N] 86)) = .ok (.slice a7 (i + 1) c7) w7 ∧ w7.cell? ⟨m, 0, none⟩ = some c ∧ Aside (Lg w w2 w7 hb mo cl l es clock sv names kd sz (.slice a7 (i + 1) c7) (i + 1)) := by
  have hlc := h.lc
  have hws := h.upd.size
  obtain ⟨a7, c7, w7, hr7, ho7, hu7, hb7⟩ := app_ent W s7 i _ h.row nm K N hi
  have hclW := (Array.getElem?_eq_some_iff.1 h.map).1
  refine ⟨a7, c7, w7, hc, hr7, (World.cell?_of_block (hu7.block m (by omega) (fun e => by have := (h.rb m e).1; omega))).trans hc, ⟨?_, ?_, h.hbl, h.hlt, ?_, ?_, ?_, ?_, h.sb, ?_, hlc⟩⟩
  · exact h.upd.trans hu7 (fun j hj e => by have := (h.rb j e).1; omega)
  · obtain ⟨fb, k1, k2, k3⟩ := h.han
    have k4 := h.hbl
    exact ⟨fb, k1, k2, k3.upd hu7 (fun e => by have := (h.rb hb e).1; omega) (fun e => by have := (h.rb fb e).1; omega)⟩
  · exact h.my.upd hu7 (fun k hk e => by have := (h.rb k e).1; omega)
  · exact (hu7.block _ hclW (fun e => by have := (h.rb _ e).1; omega)).trans h.map
  · exact hu7.row h.str (fun k hk e => (h.rb k e).2 hk)
  · rw [ht, List.flatMap_append]
    simpa [ent, hK, hN] using ho7
  · intro k hk
    rcases hb7 k hk with e | e
    · exact h.rb k e
    · exact ⟨by omega, fun e2 => by have := (h.str.lt k e2).2; omega⟩

set_option maxRecDepth 20000 in
set_option maxHeartbeats 4000000 in
theorem list_any (nb db mb hb mo : Nat) (l : List UInt8) (up : Value) (L : List KV) (names : List ByteArray) (kd sz : ByteArray → Int) (w : World) (h : Dr w nb db mb up L) (hH : Hn w hb mo l) (hK : ∀ p ∈ L, Kid w hb l.length p.2 (kd p.1) (sz p.1)) (hl : L.length ≤ 1000) (hLk : ∀ nm ∈ names, ∃ v, lk L nm = some v)
    (hN : ∀ ss : List (List UInt8), ss.Perm (L.map fun p => p.1.data.toList) → (ss.mergeSort (fun x y => decide (x ≤ y))) = names.map (fun s => s.data.toList)) :
    Calls Tryz.prog 42 #[Pt nb] w fun e w' => ∃ v, e = .returned (.tuple #[v, .int .i64 0]) ∧ w'.ownsRow 0 86 3 v names.length (names.flatMap (ent kd sz)) ∧ Hn w' hb mo l ∧ Upd (fun k => k = mo) w w' := by
  obtain ⟨es, clock, hm, hE⟩ := h.map
  have hn := h.nod
  have c2 := h.c2
  have AH := aside hH
  have AK := aside hK
  have AN := aside hN
  have ALk := aside hLk
  have AE := aside hE
  have AM := aside hm
  have AD := aside h
  clear hH hK hN hE hm h hLk
  go_enter Tryz.func42, Tryz.ntmps42
  go_wp2_with fail
  refine (directory_dir nb db _ hn).mono ?_
  rintro e w' ⟨rfl, rfl⟩
  go_wp2_with fail
  refine (AnyW.maps_Clone (ρ := laysClone_ren) laysClone mb es clock w' AM.out).mono ?_
  rintro e w1 ⟨rfl, hw1⟩
  have hm1 : w1.heap[w'.heap.size]? = some (.map es clock) := by rw [hw1]; exact heap_alloc_new w' _
  have hB1 : Below w'.heap.size w' w1 := by rw [hw1]; exact below_al w' _
  have hlen := fun ty => len_map hm1 AE.out ty
  clear hw1
  obtain ⟨w2, hmk, hown2, hB2, hlt2⟩ := make_any L.length w1 hl
  have hm2 : w2.heap[w'.heap.size]? = some (.map es clock) := (hB2.block _ (Array.getElem?_eq_some_iff.1 hm1).1).trans hm1
  obtain ⟨D0, hD, hDs, hDk⟩ := owns_of hm2 AE.out (by unfold maxLen; omega)
  have AS := aside (sorted_of w'.heap.size L.length D0 R0 w2 hD (by rw [hDs]; unfold maxLen; omega) (by rw [hDs]; omega))
  have ADk := aside hDk
  have AB2 := aside hB2
  have AO2 := aside hown2
  have AM2 := aside hm2
  have AB1 := aside hB1
  have hmlt := (Array.getElem?_eq_some_iff.1 hm1).1
  clear hm1 hm2 hD hDk hB2 hown2 hB1
  go_wp2_with fail
  refine (keys_any _ _).mono ?_
  rintro e w3 ⟨rfl, rfl⟩
  go_wp2_with fail
  refine AS.out.mono ?_
  rintro e w4 ⟨v, ss, rfl, hperm, hrow, -, hb4⟩
  have hnm := AN.out ss (hperm.trans ADk.out)
  have hlen4 : ss.length = names.length := by
    have := congrArg List.length hnm
    rw [List.length_mergeSort, List.length_map] at this
    exact this
  have hnl : names.length ≤ 1000 := by rw [← hlen4, (hperm.trans ADk.out).length_eq, List.length_map]; exact hl
  rw [hnm, hlen4] at hrow
  have hrow0 : w4.ownsRow 0 9 1 v names.length ((names.map (fun s => s.data.toList)).map encStr) := by
    refine ⟨hrow.1, ?_⟩
    rcases hrow.2 with h | ⟨g, cap, cur, e, hg, r⟩
    · exact .inl h
    · exact .inr ⟨g, cap, cur, e, Nat.zero_le _, r⟩
  have henc : (names.map (fun s => s.data.toList)).map encStr = names.map Value.string := by
    rw [List.map_map]
    exact List.map_congr_left fun x _ => by simp [Function.comp, encStr]
  rw [henc] at hrow0
  obtain ⟨va, vc, rfl, hvc⟩ := own_slice hrow0
  have hvb : ∀ k, (Value.slice va names.length vc).ownBlock = some k → w2.heap.size ≤ k := fun k hk => by
    have := (hrow.lt k hk).1
    rw [World.size_alloc] at this
    omega
  have hB4 : Below w'.heap.size w' w4 := (AB1.out.trans (AB2.out.mono AB1.out.size)).trans (((below_al w2 _).mono (by have := AB1.out.size; have := AB2.out.size; omega)).trans (hb4.mono (by rw [World.size_alloc]; have := AB1.out.size; have := AB2.out.size; omega)))
  have hm4 : w4.heap[w'.heap.size]? = some (.map es clock) := by
    rw [hb4.block _ (by rw [World.size_alloc]; omega), (below_al w2 _).block _ (by omega)]
    exact AM2.out
  have hrow4 : w4.ownsRow 0 86 3 (.slice (some ⟨w1.heap.size, 0, none⟩) 0 L.length) 0 [] := row_below (row_below AO2.out (below_al w2 _)) hb4
  have hBW : Below w'.heap.size w' w4 := hB4
  obtain ⟨fbh, hfb1, hfb2⟩ := AH.out.han
  have AL : Aside (Lg w' w2 w4 hb mo w'.heap.size l es clock (.slice va names.length vc) names kd sz (.slice (some ⟨w1.heap.size, 0, none⟩) 0 L.length) 0) := ⟨Upd.mono (F := fun _ => False) ⟨hB4.os, hB4.tape, hB4.output, hB4.size, fun k hk _ => hB4.block k hk⟩ (fun _ _ h => h.elim), ⟨fbh, (Array.getElem?_eq_some_iff.1 hfb2.fil).1, hfb1, hfb2.below hBW⟩, (Array.getElem?_eq_some_iff.1 hfb2.han).1, AH.out.lt, AH.out.my.below hBW, hm4, hrow0, by simpa using hrow4, fun k hk => by have := hvb k hk; omega, fun k hk => by
      simp only [Value.ownBlock, Option.some.injEq] at hk
      subst hk
      exact ⟨hmlt, fun e => by have := hvb _ e; omega⟩, Nat.le_refl _⟩
  clear hB4 hm4 hrow4 hrow hrow0 hb4 AO2 AS
  go_wp2_with fail
  go_loopg [7, 9, 10, 31] names.length (fun g s7 _ _ s31 wx => ∃ i : Nat, i + g = names.length ∧ s31 = .int .i64 (i : Int) ∧ Lg w' w2 wx hb mo w'.heap.size l es clock (.slice va names.length vc) names kd sz s7 i)
  case atStart => exact ⟨0, by omega, rfl, AL.out⟩
  case round =>
    obtain ⟨i, hig, rfl, hL⟩ := hrel
    cases gk with
    | zero =>
      obtain rfl : i = names.length := by omega
      have hi : ¬ ((names.length : Nat) : Int) < (names.length : Int) := by omega
      obtain ⟨sa, sc, rfl, -⟩ := own_slice hL.row
      have AG := aside hL
      clear hL
      go_wp2_with fail
      go_ret2
      have := AG.out.row
      rw [List.take_length] at this
      exact ⟨_, rfl, this, AG.out.hn, AG.out.upd⟩
    | succ g =>
      have hi : (i : Int) < (names.length : Int) := by omega
      have hi2 : i < names.length := by omega
      obtain ⟨sa, sc, rfl, -⟩ := own_slice hL.row
      obtain ⟨nm, hnmi⟩ : ∃ nm, names[i]'hi2 = nm := ⟨_, rfl⟩
      have hstr : (names.map Value.string)[i]? = some (.string nm) := by rw [List.getElem?_map, List.getElem?_eq_getElem hi2, hnmi]; rfl
      obtain ⟨gs, rfl⟩ : ∃ gs, va = some ⟨gs, 0, none⟩ := by
        rcases hL.str.2 with ⟨-, h0⟩ | ⟨gs, cap, cur, e, -⟩
        · omega
        · injection e with e1; exact ⟨gs, e1⟩
      have hcs : wr.cell? ⟨gs, i, none⟩ = some (.string nm) := by
        have := hL.str.cells rfl i _ hstr
        simpa [Addr.add_lit] using this
      obtain ⟨v, hv⟩ := ALk.out nm (by rw [← hnmi]; exact List.getElem_mem hi2)
      have hlo := look_yes hL.map AE.out hv false
      simp only [Bool.false_eq_true, ↓reduceIte] at hlo
      have hkid := (AK.out _ (lk_mem hv)).upd AH.out.my hL.upd
      have htk : names.take (i + 1) = names.take i ++ [nm] := by rw [List.take_add_one, List.getElem?_eq_getElem hi2, hnmi]; rfl
      have AG := aside hL
      have ATk := aside htk
      obtain ⟨K, N, hKe, hNe, hkid2⟩ : ∃ K N, K = kd nm ∧ N = sz nm ∧ Kid wr hb l.length v K N := ⟨_, _, rfl, rfl, hkid⟩
      clear hL hstr htk hkid
      go_wp2_with fail
      obtain ⟨m', hvm, hML⟩ := (AK.out _ (lk_mem hv)).lt
      rcases hkid2 with ⟨m, fb, rfl, rfl, rfl, hF⟩ | ⟨m, d, b, xup, XL, rfl, rfl, rfl, hD, hx⟩
      · skip
        have hcm := hF.nod.cell
        have AK1 : Aside (∀ W, Below wr.heap.size wr W → Calls Tryz.prog 19 #[Pt m] W fun e w' => e = .returned (.int .i8 0) ∧ w' = W) := fun W hW => kind_file m fb W (hF.below hW).nod
        have hms := fun w => meth_sizeF fb w
        have hmm := AG.out.hn.my.far hF.nod (by decide)
        have hlmo := AH.out.my.lt
        have hmw : m < w'.heap.size := by injection hvm with e1; injection e1 with e2; injection e2 with e3; rw [e3]; exact hML
        have AK2 : Aside (∀ W, Below wr.heap.size wr W → Calls Tryz.prog 170 #[Pt fb] W fun e w6 => e = .returned (.int .i64 (l.length : Int)) ∧ ∃ a7 c7 w7, w6.cell? ⟨m, 0, none⟩ = some (.iface 101 (Pt fb)) ∧ (Builtin.append_ #[81, 81] 81 #[.slice sa i sc, .slice (some ⟨w6.heap.size, 0, none⟩) 1 1]).run Tryz.prog (w6.alloc (.cells #[.string nm, .int .i8 0, .int .i64 (l.length : Int)] 86)) = .ok (.slice a7 (i + 1) c7) w7 ∧
            w7.cell? ⟨m, 0, none⟩ = some (.iface 101 (Pt fb)) ∧ Aside (Lg w' w2 w7 hb mo w'.heap.size l es clock (.slice (some ⟨gs, 0, none⟩) names.length vc) names kd sz (.slice a7 (i + 1) c7) (i + 1))) := fun W hW => by
          refine (sizeF_any m fb hb mo l W (hF.below hW) (AG.out.hn.below hW)).mono ?_
          rintro e w6 ⟨rfl, hn6, hu6⟩
          have u6 : Upd (fun k => k = mo) wr w6 := (Upd.of_below hW).trans hu6 (fun _ _ h => h)
          have hG6 : Lg w' w2 w6 hb mo w'.heap.size l es clock (.slice (some ⟨gs, 0, none⟩) names.length vc) names kd sz (.slice sa i sc) i := AG.out.step u6 hn6 hlmo
          exact ⟨rfl, round_end hG6 hlmo hmw (World.cell?_of_block (u6.block m (World.block_lt_of_cell? wr _ hcm) hmm) |>.trans hcm) ATk.out hKe.symm hNe.symm (by omega)⟩
        clear hvm hKe hNe
        go_region_held3 (fun w' => w'.cell? ⟨m, 0, none⟩ = some (.iface 101 (Pt fb))) (go_keep) (first
          | (go_at_call 19; with_reducible refine (AK1.out _ (below_dr _)).mono ?_; rintro e w5 ⟨rfl, rfl⟩)
          | (go_at_call 170; with_reducible refine (AK2.out _ (below_dr _)).mono ?_; rintro e w6 ⟨rfl, a7, c7, w7, k6, hr7, k7, hL7⟩)
          | (rw [if_pos (by rfl)]; refine wp_append_at (Operand.tmp 38) (Operand.tmp 48) 81 rfl (.slice sa i sc) _ _ _ rfl rfl hr7 ?_))
        have hwi : IntKind.i64.wrap ((i : Int) + 1) = ((i + 1 : Nat) : Int) := by rw [wrap_small _ (by omega) (by omega)]; simp
        clear hr7 k6 k7 AK1 AK2
        go_wp2_with fail
        go_roundg g
        case measure => omega
        case rel => exact ⟨i + 1, by omega, by first | rfl | simp, hL7.out⟩
      · skip
        have hcm := hD.nod.cell
        have hmm := AG.out.hn.my.far hD.nod (by decide)
        have hlmo := AH.out.my.lt
        have hmw : m < w'.heap.size := by injection hvm with e1; injection e1 with e2; injection e2 with e3; rw [e3]; exact hML
        have hms := fun w => meth_sizeD d w
        have AK1 : Aside (∀ W, Below wr.heap.size wr W → Calls Tryz.prog 19 #[Pt m] W fun e w' => e = .returned (.int .i8 1) ∧ w' = W) := fun W hW => kind_dir m d W (hD.below hW).nod
        have AK2 : Aside (∀ W, Below wr.heap.size wr W → Calls Tryz.prog 168 #[Pt d] W fun e w6 => e = .returned (.int .i64 (XL.length : Int)) ∧ ∃ a7 c7 w7, w6.cell? ⟨m, 0, none⟩ = some (.iface 91 (Pt d)) ∧ (Builtin.append_ #[81, 81] 81 #[.slice sa i sc, .slice (some ⟨w6.heap.size, 0, none⟩) 1 1]).run Tryz.prog (w6.alloc (.cells #[.string nm, .int .i8 1, .int .i64 (XL.length : Int)] 86)) = .ok (.slice a7 (i + 1) c7) w7 ∧
            w7.cell? ⟨m, 0, none⟩ = some (.iface 91 (Pt d)) ∧ Aside (Lg w' w2 w7 hb mo w'.heap.size l es clock (.slice (some ⟨gs, 0, none⟩) names.length vc) names kd sz (.slice a7 (i + 1) c7) (i + 1))) := fun W hW => by
          refine (sizeD_any m d b xup XL W (hD.below hW) hx).mono ?_
          rintro e w6 ⟨rfl, hw6⟩
          subst hw6
          have u6 : Upd (fun k => k = mo) wr w6 := Upd.of_below hW
          have hG6 : Lg w' w2 w6 hb mo w'.heap.size l es clock (.slice (some ⟨gs, 0, none⟩) names.length vc) names kd sz (.slice sa i sc) i := AG.out.step u6 (AG.out.hn.below hW) hlmo
          exact ⟨rfl, round_end hG6 hlmo hmw (World.cell?_of_block (u6.block m (World.block_lt_of_cell? wr _ hcm) hmm) |>.trans hcm) ATk.out hKe.symm hNe.symm (by omega)⟩
        clear hvm hKe hNe
        go_region_held3 (fun w' => w'.cell? ⟨m, 0, none⟩ = some (.iface 91 (Pt d))) (go_keep) (first
          | (go_at_call 19; with_reducible refine (AK1.out _ (below_dr _)).mono ?_; rintro e w5 ⟨rfl, rfl⟩)
          | (go_at_call 168; with_reducible refine (AK2.out _ (below_dr _)).mono ?_; rintro e w6 ⟨rfl, a7, c7, w7, k6, hr7, k7, hL7⟩)
          | (rw [if_pos (by rfl)]; refine wp_append_at (Operand.tmp 38) (Operand.tmp 48) 81 rfl (.slice sa i sc) _ _ _ rfl rfl hr7 ?_))
        have hwi : IntKind.i64.wrap ((i : Int) + 1) = ((i + 1 : Nat) : Int) := by rw [wrap_small _ (by omega) (by omega)]; simp
        clear hr7 k6 k7 AK1 AK2
        go_wp2_with fail
        go_roundg g
        case measure => omega
        case rel => exact ⟨i + 1, by omega, by first | rfl | simp, hL7.out⟩
end Go.Proofs.YtamngnndodjcoaaGreat
