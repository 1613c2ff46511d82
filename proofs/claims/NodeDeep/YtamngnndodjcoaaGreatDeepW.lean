/- NodeDeep: the walk. -/
import Derived.Test.YtamngnndodjcoaaGreatDrs
namespace Go.Proofs.YtamngnndodjcoaaGreat
open Go.RowKit

theorem infoN : (Tryz.prog.info? 33).map (fun i => (i.zero, i.size, i.bytes)) = some (some (.pointer none), 1, 8) := by kernel_rfl

/-- A row of nodes, and directories beside it, none of which stands anywhere. -/
structure Rw (w0 w : World) (v : Value) (ds : List D5) (E : Nat → Bool) : Prop where
  row : w.ownsRow 0 33 1 v ds.length (ds.map fun x => Pt x.n)
  dirs : Dirs w ds E
  bel : Below w0.heap.size w0 w
  new : ∀ x ∈ ds, w0.heap.size ≤ x.lo
  top : ∀ x ∈ ds, x.hi ≤ w.heap.size
  own : ∀ k, v.ownBlock = some k → w0.heap.size ≤ k
theorem row_block {w : World} {e : TypeId} {s n k : Nat} {v : Value} {xs : List Value} (h : w.ownsRow 0 e s v n xs) (hk : v.ownBlock = some k) : ∃ cs, w.heap[k]? = some (.cells cs e (0, 0)) := by
  rcases h.2 with ⟨rfl, -⟩ | ⟨g, cap, cur, rfl, -, hg, -⟩
  · simp [Value.ownBlock] at hk
  · simp only [Value.ownBlock, Option.some.injEq] at hk
    subst hk
    exact ⟨_, hg⟩
theorem Dr.other {w : World} {nb db mb : Nat} {up : Value} {L : List KV} (h : Dr w nb db mb up L) {k : Nat} {cs : Array Value} (hk : w.heap[k]? = some (.cells cs 33 (0, 0))) : nb ≠ k ∧ db ≠ k ∧ mb ≠ k := by
  obtain ⟨es, c, hm, -⟩ := h.map
  refine ⟨fun e => ?_, fun e => ?_, fun e => ?_⟩
  · have := h.nod; unfold Nd at this; rw [e, hk] at this; simp at this
  · have := h.dir; rw [e, hk] at this; simp at this
  · rw [e, hk] at hm; simp at hm

theorem app_node (W : World) (v : Value) (k : Nat) (xs : List Value) (hown : W.ownsRow 0 33 1 v k xs) (x : Value) (hx : x.oneCell' = true) (hk : k ≤ 100000) :
    ∃ a c w', (Builtin.append_ #[24, 24] 24 #[v, .slice (some ⟨W.heap.size, 0, none⟩) 1 1]).run Tryz.prog (W.alloc (.cells #[x] 33)) = .ok (.slice a (k + 1) c) w' ∧ w'.ownsRow 0 33 1 (.slice a (k + 1) c) (k + 1) (xs ++ [x]) ∧
      Upd (fun j => v.ownBlock = some j) W w' ∧ ∀ j, (Value.slice a (k + 1) c).ownBlock = some j → v.ownBlock = some j ∨ W.heap.size ≤ j := by
  have hB := below_al W (.cells #[x] 33)
  obtain ⟨v', w', hr, ho, hg, hwh⟩ := run_append_where (P := Tryz.prog) (W.alloc (.cells #[x] 33)) 24 24 33 _ 1 8 Tryz.underlying24 infoN rfl (by decide) v k xs (row_below hown hB) ⟨W.heap.size, 0, none⟩ 1 1 [x] rfl (fun j u hj => by
      match j, hj with
      | 0, hj => simp at hj; subst hj; go_simp
      | (j + 1), hj => simp at hj) (fun u hu => by simp only [List.mem_singleton] at hu; subst hu; exact hx) (by unfold maxLen; omega) (by omega) (by omega)
  obtain ⟨a, c, rfl, -⟩ := own_slice ho
  refine ⟨a, c, w', hr, ho, (Upd.of_below hB).trans (Upd.of_grown hg (fun k hk => hk)) (fun _ _ h => h), fun j hj => ?_⟩
  rcases hwh with ⟨e, -⟩ | ⟨e, -⟩
  · exact .inl (by rw [← e]; exact hj)
  · rw [e] at hj
    simp only [World.size_alloc, Option.some.injEq] at hj
    exact .inr (by omega)

theorem Rw.more {w0 w w1 w' : World} {v v' : Value} {ds : List D5} {nb db mb : Nat} (h : Rw w0 w v ds (fun _ => false)) (b : Below w.heap.size w w1) (hD : Dr w1 nb db mb (.pointer none) []) (h1 : w.heap.size ≤ nb) (h2 : w.heap.size ≤ db) (h3 : w.heap.size ≤ mb)
    (ho : w'.ownsRow 0 33 1 v' (ds.length + 1) ((ds.map fun x => Pt x.n) ++ [Pt nb])) (u : Upd (fun j => v.ownBlock = some j) w1 w') (hw : ∀ j, v'.ownBlock = some j → v.ownBlock = some j ∨ w1.heap.size ≤ j) :
    Rw w0 w' v' (ds ++ [⟨nb, db, mb, w.heap.size, w1.heap.size⟩]) (fun _ => false) := by
  have hS := b.size
  have hS2 := u.size
  have hbs := h.bel.size
  have hrow1 := row_below h.row b
  have hfr : ∀ {nb db mb : Nat} {up : Value} {L : List KV}, Dr w1 nb db mb up L → Dr w' nb db mb up L := fun {nb db mb up L} hd => hd.upd u (fun e => by obtain ⟨cs, hk⟩ := row_block hrow1 e; exact (hd.other hk).1 rfl) (fun e => by obtain ⟨cs, hk⟩ := row_block hrow1 e; exact (hd.other hk).2.1 rfl) (fun e => by obtain ⟨cs, hk⟩ := row_block hrow1 e; exact (hd.other hk).2.2 rfl)
  have hU : ∀ ds' j, upv ds' (fun _ => false) j = .pointer none := fun ds' j => by unfold upv; split <;> simp
  have hL : ∀ ds' j, lv ds' (fun _ => false) j = [] := fun ds' j => by unfold lv; simp
  refine ⟨by simpa using ho, ⟨fun j x hx => ?_, ?_, ?_⟩, ?_, ?_, ?_, ?_⟩
  · rw [hU, hL]
    by_cases hj : j < ds.length
    · rw [List.getElem?_append_left hj] at hx
      have := h.dirs.dr j x hx
      rw [hU, hL] at this
      exact hfr (this.below b)
    · rw [List.getElem?_append_right (by omega)] at hx
      have hj2 : j - ds.length = 0 := by
        rcases Nat.eq_zero_or_pos (j - ds.length) with e | e
        · exact e
        · rw [List.getElem?_eq_none (by simp; omega)] at hx; simp at hx
      rw [hj2] at hx
      simp only [List.getElem?_cons_zero, Option.some.injEq] at hx
      subst hx
      exact hfr hD
  · refine List.pairwise_append.2 ⟨h.dirs.sep, by simp, fun a ha c hc => ?_⟩
    simp only [List.mem_singleton] at hc
    subst hc
    exact h.top a ha
  · intro x hx
    rcases List.mem_append.1 hx with hx | hx
    · exact h.dirs.box x hx
    · simp only [List.mem_singleton] at hx
      subst hx
      exact ⟨h1, h2, h3, hD.nod.lt, hD.ld, hD.lm⟩
  · exact (h.bel.trans (b.mono hbs)).trans (u.below (by omega) (fun k e => h.own k e))
  · intro x hx
    rcases List.mem_append.1 hx with hx | hx
    · exact h.new x hx
    · simp only [List.mem_singleton] at hx
      subst hx
      exact hbs
  · intro x hx
    rcases List.mem_append.1 hx with hx | hx
    · have := h.top x hx; omega
    · simp only [List.mem_singleton] at hx
      subst hx
      exact hS2
  · intro k hk
    rcases hw k hk with e | e
    · exact h.own k e
    · omega

theorem wpList_append_run {P : Program} (w : World) {ops : Array Oper} {rest : List Oper} {o : Oper} {a : Act} {Q : Exit → Act → World → Prop} (hgd : o.guard = none) (s x : Operand) (t : TypeId)
    (ho : o.op = .call { callee := .builtin .append, args := #[s, x], argTypes := #[t, t] }) (v1 v2 : Value) (hs : a.eval s = v1) (hx : a.eval x = v2) (v' : Value) (w' : World) (hr : (Builtin.append_ #[t, t] o.type #[v1, v2]).run P w = .ok v' w')
    (h : wpList P ops Q rest (a.put o.dst v') w') : wpList P ops Q (o :: rest) a w := by
  refine wpList_plain hgd fun K hK => ?_
  unfold Oper.wp execOp
  simp only [ho, resolve, invoke, builtin, Sem.run_bind, Sem.run_pure, Result.andThen_ok, List.map_toArray, List.map_cons, List.map_nil, hs, hx, hr]
  exact hK _ _ h

theorem add_edge (ds : List D5) (E : Nat → Bool) (a t hh : Nat) (x y : D5) (w : World) (h : Dirs w ds E) (hx : ds[a]? = some x) (hy : ds[a + 1]? = some y) (hN : ds.length ≤ 1000) (hEa : E a = false) (ht : t ≤ a) (hT : ∀ s, a - t ≤ s → s < a → E s = true) (hF : t < a → E (a - t - 1) = false)
    (hh1 : ∀ s, a + 1 ≤ s → s < a + 1 + hh → E s = true) (hh2 : E (a + 1 + hh) = false) (hh3 : a + 1 + hh < ds.length) :
    Calls Tryz.prog 13 #[Pt x.n, .string sD, Pt y.n] w fun e w' => e = .returned (.int .i64 (tcode t hh)) ∧ (tcode t hh = 0 → Dirs w' ds (setE E a) ∧ Upd (fun k => k = x.m ∨ k = y.d) w w') ∧ (tcode t hh ≠ 0 → Below w.heap.size w w') := by
  have hLa : lv ds E a = [] := by unfold lv; rw [if_neg (by rw [hEa]; decide)]
  have hDx := h.dr a x hx
  rw [hLa] at hDx
  have hUy : upv ds E (a + 1) = .pointer none := by unfold upv; rw [if_neg (by omega), if_neg (by simp [hEa])]
  have hDy := h.dr (a + 1) y hy
  rw [hUy] at hDy
  obtain ⟨l, hl, hU, hmem⟩ := chain_at h t a x hx ht hT hF
  have hH := height_at h hh (a + 1) y hy (by omega) hh1 hh2 hh3
  have hfar := h.far hy hx (by omega)
  have hnm : ¬ y.d ∈ x.d :: l := fun hm => by
    rcases List.mem_cons.1 hm with e | hm
    · omega
    · obtain ⟨i, p, hi, hp, e⟩ := hmem _ hm
      have := h.far hy hp (by omega)
      omega
  have hrc : rcode sD [] (some (y.d, false)) (x.d :: l) hh = tcode t hh := by
    unfold rcode
    rw [if_neg (by rw [okD]; decide), if_neg (by simp [lk]), if_neg (by simp)]
    unfold xcode
    simp only
    rw [if_neg hnm, if_neg Bool.false_ne_true, List.length_cons, hl]
    rfl
  by_cases h0 : tcode t hh = 0
  · refine (add_dir x.n x.d x.m _ [] l sD y.n y.d y.m _ hh w hDx hU (by omega) hDy hH (by omega) (by simp) (by omega) (hrc.trans h0)).mono ?_
    rintro e w' ⟨rfl, d1, d2, u⟩
    exact ⟨by rw [h0], fun _ => ⟨h.edge hx hy d1 d2 u, u⟩, fun k => (k h0).elim⟩
  · refine (add_no x.n x.d x.m _ [] l sD y.n (some (y.d, false)) hh (tcode t hh) w hDx hU (by omega) (.free y.d y.m _ hDy) hH (by omega) (by simp) hrc h0).mono ?_
    rintro e w' ⟨rfl, b⟩
    exact ⟨rfl, fun k => (h0 k).elim, fun _ => b⟩

theorem Rw.step {w0 w w' : World} {v : Value} {ds : List D5} {E : Nat → Bool} {a : Nat} {x y : D5} (h : Rw w0 w v ds E) (hx : ds[a]? = some x) (hy : ds[a + 1]? = some y) (hd : Dirs w' ds (setE E a)) (u : Upd (fun k => k = x.m ∨ k = y.d) w w') : Rw w0 w' v ds (setE E a) := by
  have hS := u.size
  have kx := h.dirs.ok hx
  have ky := h.dirs.ok hy
  have nx := h.new x (List.mem_of_getElem? hx)
  have ny := h.new y (List.mem_of_getElem? hy)
  unfold D5.ok at kx ky
  refine ⟨u.row h.row (fun k hk e => ?_), hd, h.bel.trans (u.below h.bel.size (fun k e => by rcases e with e | e <;> omega)), h.new, fun z hz => by have := h.top z hz; omega, h.own⟩
  obtain ⟨cs, hb⟩ := row_block h.row hk
  rcases e with rfl | rfl
  · exact ((h.dirs.dr _ _ hx).other hb).2.2 rfl
  · exact ((h.dirs.dr _ _ hy).other hb).2.1 rfl

theorem Rw.below {w0 w w' : World} {v : Value} {ds : List D5} {E : Nat → Bool} (h : Rw w0 w v ds E) (b : Below w.heap.size w w') : Rw w0 w' v ds E :=
  ⟨row_below h.row b, h.dirs.below b, h.bel.trans (b.mono h.bel.size), h.new, fun z hz => Nat.le_trans (h.top z hz) b.size, h.own⟩

def EU (up : Bool) (N i : Nat) : Nat → Bool := fun j => if up = true then decide (N - 1 - i ≤ j) && decide (j < N - 1) else decide (j < i)
def eU (up : Bool) (N i : Nat) : Nat := if up = true then N - 2 - i else i
theorem EU_next (up : Bool) (N i : Nat) (h : i + 1 < N) : setE (EU up N i) (eU up N i) = EU up N (i + 1) := by
  funext j
  cases up
  · simp only [setE, EU, eU, Bool.false_eq_true, ↓reduceIte]
    by_cases e : j = i
    · rw [if_pos e]; simp; omega
    · rw [if_neg e]; simp; omega
  · simp only [setE, EU, eU, ↓reduceIte]
    by_cases e : j = N - 2 - i
    · rw [if_pos e]; simp; omega
    · rw [if_neg e, Bool.eq_iff_iff]; simp; omega

theorem addr_add0 (g j : Nat) : (⟨g, 0, none⟩ : Addr).add j = ⟨g, j, none⟩ := by
  unfold Addr.add
  by_cases h : j = 0
  · rw [if_pos h, h]
  · rw [if_neg h, Nat.zero_add]
theorem EU_none (up : Bool) (N : Nat) : EU up N 0 = fun _ => false := by
  funext j
  cases up
  · simp [EU]
  · simp [EU]
theorem tc_swap (i : Nat) : tcode 0 i = tcode i 0 := by unfold tcode; rw [show 0 + i + 1 = i + 0 + 1 by omega]
theorem tc_lt {i : Nat} (h : i < 64) : tcode i 0 = 0 := by unfold tcode; rw [if_neg (by omega)]
theorem tc_ge {i : Nat} (h : 64 ≤ i) : tcode i 0 = 3 := by unfold tcode; rw [if_pos (by omega)]

theorem deep_round {w0 w : World} {v : Value} {ds : List D5} {up : Bool} {N i : Nat} {x y : D5} (h : Rw w0 w v ds (EU up N i)) (hN : ds.length = N) (hi : i + 1 < N) (hN2 : N ≤ 1000) (hx : ds[eU up N i]? = some x) (hy : ds[eU up N i + 1]? = some y) :
    Calls Tryz.prog 13 #[Pt x.n, .string sD, Pt y.n] w fun e w' => e = .returned (.int .i64 (tcode i 0)) ∧ ∃ E, Rw w0 w' v ds E ∧ (i < 64 → E = EU up N (i + 1)) := by
  have hC : Calls Tryz.prog 13 #[Pt x.n, .string sD, Pt y.n] w fun e w' => e = .returned (.int .i64 (tcode i 0)) ∧ (tcode i 0 = 0 → Dirs w' ds (setE (EU up N i) (eU up N i)) ∧ Upd (fun k => k = x.m ∨ k = y.d) w w') ∧ (tcode i 0 ≠ 0 → Below w.heap.size w w') := by
    cases up
    · have := add_edge ds (EU false N i) i i 0 x y w h.dirs hx hy (by omega) (by simp [EU]) (Nat.le_refl _) (fun s _ hs => by simp [EU, hs]) (fun hl => by omega) (fun s h1 h2 => by omega) (by simp [EU]) (by omega)
      exact this
    · have := add_edge ds (EU true N i) (N - 2 - i) 0 i x y w h.dirs hx hy (by omega) (by simp [EU]; omega) (Nat.zero_le _) (fun s h1 h2 => by omega) (fun hl => by simp [EU]; omega) (fun s h1 h2 => by simp [EU]; omega) (by simp [EU]; omega) (by omega)
      rw [tc_swap] at this
      exact this
  refine hC.mono ?_
  rintro e w' ⟨rfl, h1, h2⟩
  refine ⟨rfl, ?_⟩
  by_cases h0 : tcode i 0 = 0
  · obtain ⟨d, u⟩ := h1 h0
    exact ⟨_, h.step hx hy d u, fun _ => EU_next up N i hi⟩
  · exact ⟨_, h.below (h2 h0), fun hl => (h0 (tc_lt hl)).elim⟩

set_option maxRecDepth 20000 in
set_option maxHeartbeats 8000000 in
theorem nodeDeep_walk (up : Bool) (n : Int) (w : World) (h0 : 0 ≤ n) (h1 : n < 256) : Calls Tryz.prog 8 #[.bool up, .int .u8 n] w fun e w' => e = .returned (.bool true) ∧ Below w.heap.size w w' := by
  obtain ⟨r, hr⟩ : ∃ r : Nat, n % 70 = (r : Int) := ⟨(n % 70).toNat, by omega⟩
  have hr70 : r < 70 := by omega
  have hcv : IntKind.i64.wrap n = n := wrap_small _ h0 (by omega)
  have hrem : ∀ w, (binOp .rem 3 (.int .i64 n) (.int .i64 70)).run Tryz.prog w = .ok (.int .i64 (r : Int)) w := fun w => by
    have e1 : n.tmod 70 = (r : Int) := by rw [Int.tmod_eq_emod_of_nonneg h0]; exact hr
    simp [binOp, Op.intDiv, e1]
  have A0 : Aside (Rw w w (.slice none 0 0) [] (fun _ => false)) := ⟨⟨rfl, .inl ⟨rfl, rfl⟩⟩, ⟨fun j x hx => by simp at hx, by simp, by simp⟩, Below.refl _ _, by simp, by simp, fun k hk => by simp [Value.ownBlock] at hk⟩
  go_enter Tryz.func8, Tryz.ntmps8
  go_wp2_with fail
  go_loopg [5, 6] (r + 1) (fun g s5 s6 wx => ∃ ds : List D5, ds.length + g = r + 1 ∧ s6 = .int .i64 (ds.length : Int) ∧ Rw w wx s5 ds (fun _ => false))
  case atStart => exact ⟨[], by simp, rfl, A0.out⟩
  case round =>
    obtain ⟨ds, hg, rfl, hR⟩ := hrel
    obtain ⟨va, vc, rfl, -⟩ := own_slice hR.row
    obtain ⟨N, hN⟩ : ∃ N, N = ds.length := ⟨_, rfl⟩
    rw [← hN] at hg hR
    rw [← hN]
    have AR := aside hR
    have AN := aside hN
    clear hR hN
    cases gk with
    | zero =>
      have hi : ¬ ((N : Int) ≤ (r : Int)) := by omega
      obtain ⟨g, rfl⟩ : ∃ g, va = some ⟨g, 0, none⟩ := by
        rcases AR.out.row.2 with ⟨e, -⟩ | ⟨g, cap, cur, e, -⟩
        · injection e with e1 e2 e3; omega
        · injection e with e1 e2 e3; exact ⟨g, e1⟩
      have A1 : Aside (Rw w wr (.slice (some ⟨g, 0, none⟩) N vc) ds (EU up N 0)) := by
        rw [EU_none]; exact AR.out
      clear AR
      go_wp2_with fail
      clear hi
      go_loopg [7, 8, 9] (N - 1) (fun gg s7 s8 s9 wx => ∃ i : Nat, i + 1 + gg = N ∧ i ≤ 64 ∧ s7 = .int .i64 (i : Int) ∧ Rw w wx (.slice (some ⟨g, 0, none⟩) N vc) ds (EU up N i))
      case atStart => exact ⟨0, by omega, by omega, rfl, A1.out⟩
      case round =>
        obtain ⟨i, hgi, hi64, rfl, hRi⟩ := hrel
        have ARi := aside hRi
        clear hRi A1
        have hwi : IntKind.i64.wrap ((i : Int) + 1) = ((i + 1 : Nat) : Int) := by rw [wrap_small _ (by omega) (by omega)]; simp
        cases gk with
        | zero =>
          have hlt : ¬ (((i + 1 : Nat) : Int) < (N : Int)) := by omega
          go_wp2_with fail
          refine (wakes_any wr).mono ?_
          rintro e w7 ⟨rfl, b7⟩
          go_wp2_with fail
          go_ret
          exact ⟨rfl, ARi.out.bel.trans (b7.mono ARi.out.bel.size)⟩
        | succ gg =>
          have hlt : (((i + 1 : Nat) : Int) < (N : Int)) := by omega
          obtain ⟨M, hM⟩ : ∃ M, M = eU up N i := ⟨_, rfl⟩
          have hM1 : M + 1 < N := by rw [hM]; unfold eU; split <;> omega
          obtain ⟨x, hx⟩ : ∃ x, ds[M]? = some x := ⟨_, List.getElem?_eq_getElem (by have := AN.out; omega)⟩
          obtain ⟨y, hy⟩ : ∃ y, ds[M + 1]? = some y := ⟨_, List.getElem?_eq_getElem (by have := AN.out; omega)⟩
          have hcx : ∀ {W E}, Rw w W (.slice (some ⟨g, 0, none⟩) N vc) ds E → W.cell? ⟨g, M, none⟩ = some (Pt x.n) := fun {W E} h => by
            have := h.row.cells (g := g) rfl M (Pt x.n) (by rw [List.getElem?_map, hx]; rfl)
            rwa [addr_add0] at this
          have hcy : ∀ {W E}, Rw w W (.slice (some ⟨g, 0, none⟩) N vc) ds E → W.cell? ⟨g, M + 1, none⟩ = some (Pt y.n) := fun {W E} h => by
            have := h.row.cells (g := g) rfl (M + 1) (Pt y.n) (by rw [List.getElem?_map, hy]; rfl)
            rwa [addr_add0] at this
          have AAdd : Aside (∀ W, Below wr.heap.size wr W → Calls Tryz.prog 13 #[Pt x.n, .string sD, Pt y.n] W fun e w6 => e = .returned (.int .i64 (tcode i 0)) ∧ w6.cell? ⟨g, M, none⟩ = some (Pt x.n) ∧ w6.cell? ⟨g, M + 1, none⟩ = some (Pt y.n) ∧ Aside (∃ E, Rw w w6 (.slice (some ⟨g, 0, none⟩) N vc) ds E ∧ (i < 64 → E = EU up N (i + 1)))) := fun W hW => by
            refine (deep_round (ARi.out.below hW) AN.out.symm (by omega) (by omega) (by rw [← hM]; exact hx) (by rw [← hM]; exact hy)).mono ?_
            rintro e w6 ⟨rfl, E, hR6, hE⟩
            exact ⟨rfl, hcx hR6, hcy hR6, E, hR6, hE⟩
          have hx0 := hcx ARi.out
          have hy0 := hcy ARi.out
          clear hcx hcy hx hy
          have AM := aside hM
          clear hM
          have hb0 : (0 : Int) ≤ (M : Int) := by omega
          have hb1 : (M : Int) < (N : Int) := by omega
          have hb2 : (0 : Int) ≤ (M : Int) + 1 := by omega
          have hb3 : (M : Int) + 1 < (N : Int) := by omega
          cases up with
          | false =>
            obtain rfl : M = i := AM.out
            clear AM
            go_wp2_with fail
            go_region_held3 (fun w' => w'.cell? ⟨g, M, none⟩ = some (Pt x.n) ∧ w'.cell? ⟨g, M + 1, none⟩ = some (Pt y.n)) (go_keep) (first
              | (go_at_call 13; with_reducible refine (AAdd.out _ (below_dr _)).mono ?_; rintro e w6 ⟨rfl, k6, k7, hL7⟩))
            clear AAdd hx0 hy0 k6 k7
            by_cases h64 : M < 64
            · have hge : ¬ ((64 : Int) ≤ (M : Int)) := by omega
              rw [tc_lt h64]
              go_wp2_with fail
              go_roundg gg
              case measure => omega
              case rel =>
                obtain ⟨E, h6, hE⟩ := hL7.out
                exact ⟨M + 1, by omega, by omega, by first | rfl | simp, by rw [← hE h64]; exact h6⟩
            · have hge : (64 : Int) ≤ (M : Int) := by omega
              rw [tc_ge (by omega)]
              go_wp2_with fail
              refine (wakes_any _).mono ?_
              rintro e w7 ⟨rfl, b7⟩
              go_wp2_with fail
              go_ret
              obtain ⟨E, h6, -⟩ := hL7.out
              exact ⟨rfl, h6.bel.trans (b7.mono h6.bel.size)⟩
          | true =>
            have e1 : IntKind.i64.wrap ((N : Int) - 2) = (N : Int) - 2 := wrap_small _ (by omega) (by omega)
            have e2 : IntKind.i64.wrap ((N : Int) - 2 - (i : Int)) = (M : Int) := by
              have hM : M = N - 2 - i := AM.out
              rw [show (N : Int) - 2 - (i : Int) = (M : Int) by omega]
              exact wrap_small _ (by omega) (by omega)
            have e3 : IntKind.i64.wrap ((N : Int) - 1) = (N : Int) - 1 := wrap_small _ (by omega) (by omega)
            have e4 : IntKind.i64.wrap ((N : Int) - 1 - (i : Int)) = (M : Int) + 1 := by
              have hM : M = N - 2 - i := AM.out
              rw [show (N : Int) - 1 - (i : Int) = (M : Int) + 1 by omega]
              exact wrap_small _ (by omega) (by omega)
            clear AM
            go_wp2_with fail
            go_region_held3 (fun w' => w'.cell? ⟨g, M, none⟩ = some (Pt x.n) ∧ w'.cell? ⟨g, M + 1, none⟩ = some (Pt y.n)) (go_keep) (first
              | (go_at_call 13; with_reducible refine (AAdd.out _ (below_dr _)).mono ?_; rintro e w6 ⟨rfl, k6, k7, hL7⟩))
            clear e1 e2 e3 e4
            clear AAdd hx0 hy0 k6 k7
            by_cases h64 : i < 64
            · have hge : ¬ ((64 : Int) ≤ (i : Int)) := by omega
              rw [tc_lt h64]
              go_wp2_with fail
              go_roundg gg
              case measure => omega
              case rel =>
                obtain ⟨E, h6, hE⟩ := hL7.out
                exact ⟨i + 1, by omega, by omega, by first | rfl | simp, by rw [← hE h64]; exact h6⟩
            · have hge : (64 : Int) ≤ (i : Int) := by omega
              rw [tc_ge (by omega)]
              go_wp2_with fail
              refine (wakes_any _).mono ?_
              rintro e w7 ⟨rfl, b7⟩
              go_wp2_with fail
              go_ret
              obtain ⟨E, h6, -⟩ := hL7.out
              exact ⟨rfl, h6.bel.trans (b7.mono h6.bel.size)⟩
    | succ g =>
      have hi : (N : Int) ≤ (r : Int) := by omega
      have hwi : IntKind.i64.wrap ((N : Int) + 1) = ((N + 1 : Nat) : Int) := by rw [wrap_small _ (by omega) (by omega)]; simp
      go_wp2_with fail
      refine (dir_new wr).mono ?_
      rintro e w1 ⟨nb, db, mb, rfl, q1, q2, q3, hD1, b1⟩
      have hR2 := AR.out
      have hN := AN.out
      rw [hN] at hR2
      obtain ⟨a2, c2, w2, hr2, ho2, hu2, hw2⟩ := app_node w1 (.slice va ds.length vc) ds.length _ (row_below hR2.row b1) (Pt nb) rfl (by omega)
      have hM := hR2.more b1 hD1 q1 q2 q3 ho2 hu2 hw2
      rw [← hN] at hr2 hM
      have AM := aside hM
      have AH := aside hr2
      clear hD1 b1 ho2 hu2 hw2 hM hR2 hN hr2
      go_wp2_with (at_builtin; refine wpList_append_run _ rfl _ _ 24 rfl _ _ rfl rfl _ _ AH.out ?_)
      go_roundg g
      case measure => omega
      have hN := AN.out
      exact ⟨ds ++ [⟨nb, db, mb, wr.heap.size, w1.heap.size⟩], by simp; omega, by simp [hN], AM.out⟩
end Go.Proofs.YtamngnndodjcoaaGreat
