/- Copied: a list in memory of its own, with room behind it, and a byte behind each one's bytes. Copied, walked. -/
import Derived.Test.YtbnaegoahdcejaaGreatDoorGW
import Derived.Deep.RegionHeld3
import Derived.Deep.CutBlock
import Derived.Deep.CutRange
import Derived.Deep.DeepCutAuto
namespace Go.Proofs.YtbnaegoahdcejaaGreatDoor
open Go.RowKit Go.ChangeMaps

theorem kept_cell {w w' : World} {F : Nat → Prop} {p : Addr} {v : Value} (hu : Upd F w w') (h : w.cell? p = some v) (hn : ¬ F p.block) : w'.cell? p = some v := by
  rw [World.cell?_of_block (hu.block _ (World.block_lt_of_cell? w _ h) hn)]; exact h
theorem al2_first (w : World) (A B : Obj) : ((w.alloc A).alloc B).heap[w.heap.size]? = some A := by
  rw [(below_al (w.alloc A) B).block w.heap.size (by simp)]; exact heap_alloc_new w A
theorem own_built {w : World} {g : Nat} (h : w.heap[g]? = some (.cells #[] 5 (0, 0))) : w.ownsRow 0 5 1 (.slice (some ⟨g, 0, none⟩) 0 0) 0 [] :=
  ⟨by simp, .inr ⟨g, 0, #[], rfl, Nat.zero_le _, h, Nat.le_refl _, by unfold maxLen; omega, by simp, by simp⟩⟩
/-- append of bytes onto a row that was just built of nothing. -/
theorem step_app1 {ops : Array Oper} {o : Oper} {a : Act} {w : World} {K : Act → World → Prop} {Q : Exit → Act → World → Prop} {E : Prop} (hgd : o.guard = none) (s x : Operand)
    (ho : o.op = .call { callee := .builtin .append, args := #[s, x], argTypes := #[48, 48] }) (g : Nat) (hs : a.eval s = .slice (some ⟨g, 0, none⟩) 0 0) (hg : w.heap[g]? = some (.cells #[] 5 (0, 0)))
    (l : B) (ba : Option Addr) (n bc : Nat) (hn : n = l.length) (hx : a.eval x = .slice ba n bc) (hbs : BsAt w ba l) (hl : n ≤ 33554431)
    (h : ∀ g1 c1 w', w'.ownsRow 0 5 1 (.slice (some ⟨g1, 0, none⟩) n c1) n (bcells l) → Upd (fun k => k = g) w w' → (g1 = g ∨ g1 = w.heap.size) → K (a.put o.dst (.slice (some ⟨g1, 0, none⟩) n c1)) w') :
    if Region.wanted o (yielded ops a.tmps) = true then Oper.wp Tryz.prog o a w K Q else E := by
  subst hn
  have hw : Region.wanted o (yielded ops a.tmps) = true := by simp [Region.wanted, hgd]
  rw [if_pos hw]
  by_cases hn : l = []
  · subst hn
    obtain ⟨i, hi, -⟩ := info_parts infoU
    unfold Oper.wp execOp
    simp only [ho, resolve, invoke, builtin, Sem.run_bind, Sem.run_pure, Result.andThen_ok, List.map_toArray, List.map_cons, List.map_nil, hs, hx, List.length_nil, run_append_zero w 48 o.type 5 i Tryz.underlying48 hi (some ⟨g, 0, none⟩) 0 0 (Nat.le_refl _) ba bc]
    exact h g 0 w (own_built hg) (Upd.refl _ _) (.inl rfl)
  · obtain ⟨ad, rfl, hc⟩ := hbs hn
    have hpos : 0 < l.length := List.length_pos_iff.2 hn
    obtain ⟨v', w', hr, h2, h3, h4⟩ := run_append_where (P := Tryz.prog) w 48 o.type 5 _ 1 1 Tryz.underlying48 infoU rfl (by decide) _ 0 [] (own_built hg) ad l.length bc (bcells l) (by rw [bcells_length]; omega) hc (bcells_one _) (by unfold maxLen; omega) (by omega) hpos
    rw [Nat.zero_add, List.nil_append] at h2
    rcases h2.2 with ⟨-, hz⟩ | ⟨g1, c1, cur, rfl, -⟩
    · omega
    · unfold Oper.wp
      simp [execOp, ho, resolve, invoke, builtin, hs, hx, hr, Result.andThen]
      refine h g1 c1 w' h2 (Upd.of_grown h3 fun k hk => by simpa [Value.ownBlock] using hk.symm) ?_
      rcases h4 with ⟨e, -⟩ | ⟨e, -⟩
      · left; simpa [Value.ownBlock] using e
      · right; simpa [Value.ownBlock] using e
/-- append of one byte behind it. -/
theorem step_app2 {ops : Array Oper} {o : Oper} {a : Act} {w : World} {K : Act → World → Prop} {Q : Exit → Act → World → Prop} {E : Prop} (hgd : o.guard = none) (s x : Operand)
    (ho : o.op = .call { callee := .builtin .append, args := #[s, x], argTypes := #[48, 48] }) (g1 c1 : Nat) (l : B) (n : Nat) (hn : n = l.length) (hs : a.eval s = .slice (some ⟨g1, 0, none⟩) n c1) (hown : w.ownsRow 0 5 1 (.slice (some ⟨g1, 0, none⟩) n c1) n (bcells l))
    (gb : Nat) (hx : a.eval x = .slice (some ⟨gb, 0, none⟩) 1 1) (hgb : w.heap[gb]? = some (.cells #[.int .u8 165] 5 (0, 0))) (hl : n ≤ 33554430)
    (h : ∀ g2 c2 w', w'.ownsRow 0 5 1 (.slice (some ⟨g2, 0, none⟩) (n + 1) c2) (n + 1) (bcells (l ++ [165])) → Upd (fun k => k = g1) w w' → (g2 = g1 ∨ g2 = w.heap.size) → n + 1 ≤ c2 → K (a.put o.dst (.slice (some ⟨g2, 0, none⟩) (n + 1) c2)) w') :
    if Region.wanted o (yielded ops a.tmps) = true then Oper.wp Tryz.prog o a w K Q else E := by
  subst hn
  have hw : Region.wanted o (yielded ops a.tmps) = true := by simp [Region.wanted, hgd]
  rw [if_pos hw]
  obtain ⟨v', w', hr, h2, h3, h4⟩ := run_append_where (P := Tryz.prog) w 48 o.type 5 _ 1 1 Tryz.underlying48 infoU rfl (by decide) _ l.length (bcells l) hown ⟨gb, 0, none⟩ 1 1 (bcells [165]) rfl (fun j u hj => by
    rw [Addr.add_lit, Nat.zero_add, cell_of_row w gb j _ _ _ hgb]
    simpa [bcells] using hj) (bcells_one _) (by unfold maxLen; omega) (by omega) (by decide)
  rw [show bcells l ++ bcells [165] = bcells (l ++ [165]) by simp [bcells]] at h2
  rcases h2.2 with ⟨-, hz⟩ | ⟨g2, c2, cur, rfl, -, -, hnc, -⟩
  · omega
  · unfold Oper.wp
    simp [execOp, ho, resolve, invoke, builtin, hs, hx, hr, Result.andThen]
    refine h g2 c2 w' h2 (Upd.of_grown h3 fun k hk => by simpa [Value.ownBlock] using hk.symm) ?_ hnc
    rcases h4 with ⟨e, -⟩ | ⟨e, -⟩
    · left; simpa [Value.ownBlock] using e
    · right; simpa [Value.ownBlock] using e
/-- The bytes of the caller, one sign behind them, in memory of their own. -/
structure Mine (W w' : World) (l : B) (g cap : Nat) : Prop where
  row : w'.ownsRow 0 5 1 (.slice (some ⟨g, 0, none⟩) (l.length + 1) cap) (l.length + 1) (bcells (l ++ [165]))
  ge : W.heap.size ≤ g
  cap : l.length + 1 ≤ cap
  below : Below W.heap.size W w'
theorem mine_of {W V w1 w2 : World} {l : B} {g g1 g2 c2 : Nat} (hV : Below W.heap.size W V) (hg : W.heap.size ≤ g) (hu : Upd (fun k => k = g) V w1) (e1 : g1 = g ∨ g1 = V.heap.size) {w1' : World} (hb : Below w1.heap.size w1 w1') (hu2 : Upd (fun k => k = g1) w1' w2) (e2 : g2 = g1 ∨ g2 = w1'.heap.size) (hrow : w2.ownsRow 0 5 1 (.slice (some ⟨g2, 0, none⟩) (l.length + 1) c2) (l.length + 1) (bcells (l ++ [165]))) (hc : l.length + 1 ≤ c2) : Mine W w2 l g2 c2 := by
  have s1 := hV.size
  have s2 := hu.size
  have s3 := hb.size
  have hg1 : W.heap.size ≤ g1 := by omega
  exact ⟨hrow, by omega, hc, ((hV.trans (hu.below hV.size (fun k hk => by omega))).trans (hb.mono (by omega))).trans (hu2.below (by omega) (fun k hk => by omega))⟩
/-- One item's copy: its bytes, one sign behind them, in the block g. -/
structure Cpy (W : World) (m : Im) (g : Nat) : Prop where
  at_ : m.a = some ⟨g, 0, none⟩
  cap : m.x.length + 1 ≤ m.c
  top : m.c ≤ 9223372036854775807
  blk : ∃ cur, W.heap[g]? = some (.cells cur 5 (0, 0)) ∧ cur.toList.take (m.x.length + 1) = bcells (m.x ++ [165])
theorem Mine.cpy {W w' : World} {l : B} {g c : Nat} (h : Mine W w' l g c) (p : ByteArray) (k : Int) : Cpy w' ⟨p, k, l, some ⟨g, 0, none⟩, c⟩ g := by
  rcases h.row.2 with ⟨e, -⟩ | ⟨g', cap', cur, e, -, h2, h3, h4, h5, h6⟩
  · cases e
  · injection e with e1 e2 e3
    injection e1 with e1
    injection e1 with e1 _ _
    subst e1; subst e3
    exact ⟨rfl, h3, by unfold maxLen at h4; show c ≤ _; omega, cur, h2, by rw [Nat.mul_one] at h6; exact h6⟩
theorem Cpy.keep {W W' : World} {m : Im} {g : Nat} (h : Cpy W m g) (hk : W'.heap[g]? = W.heap[g]?) : Cpy W' m g := by
  obtain ⟨cur, h1, h2⟩ := h.blk
  exact ⟨h.at_, h.cap, h.top, cur, hk.trans h1, h2⟩
theorem Cpy.dat {W : World} {m : Im} {g lo : Nat} (h : Cpy W m g) (hl : lo ≤ g) : Dat lo W m.a m.c m.x := by
  obtain ⟨cur, h1, h2⟩ := h.blk
  have hc := h.cap
  refine ⟨by omega, h.top, fun _ => ⟨g, cur, (0, 0), h.at_, hl, h1, ?_, .inl rfl⟩⟩
  have := congrArg (List.take m.x.length) h2
  rw [List.take_take, Nat.min_eq_left (by omega)] at this
  rw [this]
  simp [bcells]
/-- The copies so far, each in a block of its own. -/
structure Cps (lo : Nat) (W : World) (cs : List Im) (gs : List Nat) : Prop where
  len : gs.length = cs.length
  cpy : ∀ (i : Nat) (m : Im) (g : Nat), cs[i]? = some m → gs[i]? = some g → Cpy W m g ∧ lo ≤ g
  dis : gs.Pairwise (· < ·)
  top : ∀ g ∈ gs, g < W.heap.size
theorem Cps.keep {lo : Nat} {W W' : World} {cs : List Im} {gs : List Nat} (h : Cps lo W cs gs) (hs : W.heap.size ≤ W'.heap.size) (hk : ∀ g ∈ gs, W'.heap[g]? = W.heap[g]?) : Cps lo W' cs gs :=
  ⟨h.len, fun i m g h1 h2 => ⟨(h.cpy i m g h1 h2).1.keep (hk g (List.mem_of_getElem? h2)), (h.cpy i m g h1 h2).2⟩, h.dis, fun g hg => Nat.lt_of_lt_of_le (h.top g hg) hs⟩
theorem Cps.below {lo : Nat} {W W' : World} {cs : List Im} {gs : List Nat} (h : Cps lo W cs gs) (b : Below W.heap.size W W') : Cps lo W' cs gs :=
  h.keep b.size fun g hg => b.block g (h.top g hg)
theorem Cps.more {lo : Nat} {W : World} {cs : List Im} {gs : List Nat} {m : Im} {g : Nat} (h : Cps lo W cs gs) (hc : Cpy W m g) (hl : lo ≤ g) (hlt : ∀ k ∈ gs, k < g) (hg : g < W.heap.size) : Cps lo W (cs ++ [m]) (gs ++ [g]) := by
  refine ⟨by rw [List.length_append, List.length_append, h.len]; rfl, fun i m' g' h1 h2 => ?_, ?_, fun k hk => ?_⟩
  · by_cases hi : i < cs.length
    · rw [List.getElem?_append_left hi] at h1
      rw [List.getElem?_append_left (by rw [h.len]; exact hi)] at h2
      exact h.cpy i m' g' h1 h2
    · rw [List.getElem?_append_right (by omega)] at h1
      rw [List.getElem?_append_right (by rw [h.len]; omega), h.len] at h2
      obtain ⟨j, hj⟩ : ∃ j, j = i - cs.length := ⟨_, rfl⟩
      rw [← hj] at h1 h2
      cases j with
      | zero =>
        simp only [List.getElem?_cons_zero, Option.some.injEq] at h1 h2
        subst h1; subst h2
        exact ⟨hc, hl⟩
      | succ j => simp at h1
  · rw [List.pairwise_append]
    exact ⟨h.dis, List.pairwise_singleton _ _, fun a ha b hb => by rw [List.mem_singleton.1 hb]; exact hlt a ha⟩
  · rcases List.mem_append.1 hk with hk | hk
    · exact h.top k hk
    · rw [List.mem_singleton.1 hk]; exact hg
theorem make_items (w : World) (m : Nat) (hm : m ≤ 4194305) : (Instr.makeSlice 22 (.int .i64 0) (.int .i64 (m : Int))).run Tryz.prog w = .ok (.slice (some ⟨w.heap.size, 0, none⟩) 0 m) (w.alloc (.cells (madeCells (Value.agg #[.string ⟨#[]⟩, .int .i8 0, .slice none 0 0]).cells (m * 3)) 51)) := by
  obtain ⟨i, hi, hz, hs, hb⟩ := info_parts infoI
  have h := run_make (P := Tryz.prog) w 22 51 i _ Tryz.underlying22 hi hz .i64 .i64 0 m (by omega) (by omega) (by rw [hb]; omega) (by omega)
  rw [h, hs]
  simp only [Int.toNat_natCast, Int.toNat_zero]
theorem made_items (w : World) (m : Nat) (hm : m ≤ 4194305) : (w.alloc (.cells (madeCells (Value.agg #[.string ⟨#[]⟩, .int .i8 0, .slice none 0 0]).cells (m * 3)) 51)).ownsRow 0 51 3 (.slice (some ⟨w.heap.size, 0, none⟩) 0 m) 0 [] :=
  ⟨rfl, .inr ⟨w.heap.size, m, _, rfl, Nat.zero_le _, heap_alloc_new w _, Nat.zero_le _, by unfold maxLen; omega, size_madeCells _ _, by simp⟩⟩
end Go.Proofs.YtbnaegoahdcejaaGreatDoor

namespace Go.Proofs.YtbnaegoahdcejaaGreatDoor
open Go.RowKit Go.ChangeMaps

def roomI : Im := ⟨⟨#[114, 111, 111, 109]⟩, 0, [], none, 0⟩
theorem own_some {W : World} {e : TypeId} {s n : Nat} {v : Value} {xs : List Value} (h : W.ownsRow 0 e s v (n + 1) xs) : ∃ g c, v = .slice (some ⟨g, 0, none⟩) (n + 1) c ∧ n + 1 ≤ c := by
  rcases h.2 with ⟨-, h0⟩ | ⟨g, c, cur, e, -, -, h3, -⟩
  · omega
  · exact ⟨g, c, e, h3⟩
/-- Where Copied stands. -/
structure Cow (w wx : World) (ms : List Im) (i gr cr : Nat) (cs : List Im) (gs : List Nat) : Prop where
  bel : Below w.heap.size w wx
  row : wx.ownsRow 0 51 3 (.slice (some ⟨gr, 0, none⟩) i cr) i (ims cs)
  ge : w.heap.size ≤ gr
  cps : Cps w.heap.size wx cs gs
  its : cs.map Im.it = (ms.take i).map Im.it
theorem Cow.len {w wx : World} {ms : List Im} {i gr cr : Nat} {cs : List Im} {gs : List Nat} (h : Cow w wx ms i gr cr cs gs) : cs.length = i := by
  have := h.row.1
  rw [ims_length] at this
  omega
/-- One more is laid down behind the others. -/
theorem Cow.push {w wr W wx Wa w7 : World} {ms : List Im} {i gr cr g2 g7 c7 : Nat} {cs : List Im} {gs : List Nat} {m m' : Im} (h : Cow w wr ms i gr cr cs gs) (hm : ms[i]? = some m) (b1 : Below wr.heap.size wr W) (b2 : Below wr.heap.size wr wx) (hc : Cpy wx m' g2) (hg2 : W.heap.size ≤ g2) (hit : m'.it = m.it) (b3 : Below wx.heap.size wx Wa)
    (ho : w7.ownsRow 0 51 3 (.slice (some ⟨g7, 0, none⟩) (i + 1) c7) (i + 1) (ims cs ++ m'.cs)) (hu : Upd (fun k => (Value.slice (some ⟨gr, 0, none⟩) i cr).ownBlock = some k) Wa w7) (hv : (Value.slice (some ⟨g7, 0, none⟩) (i + 1) c7).ownBlock = (Value.slice (some ⟨gr, 0, none⟩) i cr).ownBlock ∨ (Value.slice (some ⟨g7, 0, none⟩) (i + 1) c7).ownBlock = some Wa.heap.size) : Cow w w7 ms (i + 1) g7 c7 (cs ++ [m']) (gs ++ [g2]) := by
  obtain ⟨cur, hcr⟩ := row_tw h.row (g := gr) rfl
  have hgrl := (Array.getElem?_eq_some_iff.1 hcr).1
  have hcrA : Wa.heap[gr]? = some (.cells cur 51 (0, 0)) := ((b3.block gr (Nat.lt_of_lt_of_le hgrl b2.size)).trans (b2.block gr hgrl)).trans hcr
  have hkeep : ∀ (g : Nat) (cs : Array Value), Wa.heap[g]? = some (.cells cs 5 (0, 0)) → w7.heap[g]? = Wa.heap[g]? := fun g cs hg => hu.block g (Array.getElem?_eq_some_iff.1 hg).1 (fun e => by
    simp only [Value.ownBlock, Option.some.injEq] at e
    rw [← e, hcrA] at hg
    injection hg with hg
    injection hg with _ hg _
    exact absurd hg (by decide))
  have hbA : Below w.heap.size w Wa := (h.bel.trans (b2.mono h.bel.size)).trans (b3.mono (by have := h.bel.size; have := b2.size; omega))
  have hcA : Cps w.heap.size Wa cs gs := (h.cps.below b2).below b3
  have hc7 : Cpy Wa m' g2 := by
    obtain ⟨cur2, h1, -⟩ := hc.blk
    exact hc.keep (b3.block g2 (Array.getElem?_eq_some_iff.1 h1).1)
  have hg2l : g2 < Wa.heap.size := by obtain ⟨cur2, h1, -⟩ := hc7.blk; exact (Array.getElem?_eq_some_iff.1 h1).1
  refine ⟨hbA.trans (hu.below hbA.size (fun k hk => by simp only [Value.ownBlock, Option.some.injEq] at hk; rw [← hk]; exact h.ge)), ?_, ?_, ?_, ?_⟩
  · have : ims (cs ++ [m']) = ims cs ++ m'.cs := by simp [ims, List.flatMap_append]
    rw [this]
    exact ho
  · rcases hv with e | e
    · simp only [Value.ownBlock, Option.some.injEq] at e; rw [e]; exact h.ge
    · simp only [Value.ownBlock, Option.some.injEq] at e; have := hbA.size; omega
  · refine (hcA.more hc7 (by have := h.bel.size; have := b1.size; omega) (fun k hk => ?_) hg2l).keep hu.size (fun k hk => ?_)
    · have := h.cps.top k hk
      have := b1.size
      omega
    · rcases List.mem_append.1 hk with hk | hk
      · obtain ⟨j, hj⟩ := List.getElem?_of_mem hk
        have hjl : j < cs.length := by rw [← hcA.len]; exact (List.getElem?_eq_some_iff.1 hj).1
        obtain ⟨cur2, h1, -⟩ := (hcA.cpy j _ k (List.getElem?_eq_getElem hjl) hj).1.blk
        exact hkeep k _ h1
      · rw [List.mem_singleton.1 hk]
        obtain ⟨cur2, h1, -⟩ := hc7.blk
        exact hkeep g2 _ h1
  · rw [List.map_append, h.its, List.take_add_one, hm, List.map_append]
    simp [hit]
/-- What Copied leaves. -/
structure CopP (w w' : World) (ms : List Im) (g c2 : Nat) (cs : List Im) (gs : List Nat) : Prop where
  bel : Below w.heap.size w w'
  row : w'.ownsRow 0 51 3 (.slice (some ⟨g, 0, none⟩) (ms.length + 1) c2) (ms.length + 1) (ims cs ++ roomI.cs)
  ge : w.heap.size ≤ g
  cap : ms.length + 1 ≤ c2
  cps : Cps w.heap.size w' cs gs
  its : cs.map Im.it = ms.map Im.it
theorem copP_end {w wr Wa w7 : World} {ms : List Im} {i gr cr g7 c7 : Nat} {cs : List Im} {gs : List Nat} (h : Cow w wr ms i gr cr cs gs) (hi : i = ms.length) (b3 : Below wr.heap.size wr Wa)
    (ho : w7.ownsRow 0 51 3 (.slice (some ⟨g7, 0, none⟩) (i + 1) c7) (i + 1) (ims cs ++ roomI.cs)) (hu : Upd (fun k => (Value.slice (some ⟨gr, 0, none⟩) i cr).ownBlock = some k) Wa w7) (hv : (Value.slice (some ⟨g7, 0, none⟩) (i + 1) c7).ownBlock = (Value.slice (some ⟨gr, 0, none⟩) i cr).ownBlock ∨ (Value.slice (some ⟨g7, 0, none⟩) (i + 1) c7).ownBlock = some Wa.heap.size) : CopP w w7 ms g7 c7 cs gs := by
  subst hi
  have hbA : Below w.heap.size w Wa := h.bel.trans (b3.mono h.bel.size)
  obtain ⟨cur, hcr⟩ := row_tw (row_below h.row b3) (g := gr) rfl
  have hcA := h.cps.below b3
  refine ⟨hbA.trans (hu.below hbA.size (fun k hk => by simp only [Value.ownBlock, Option.some.injEq] at hk; rw [← hk]; exact h.ge)), ho, ?_, ?_, hcA.keep hu.size (fun k hk => ?_), by rw [h.its, List.take_length]⟩
  · rcases hv with e | e
    · simp only [Value.ownBlock, Option.some.injEq] at e; rw [e]; exact h.ge
    · simp only [Value.ownBlock, Option.some.injEq] at e; have := hbA.size; omega
  · rcases ho.2 with ⟨e, -⟩ | ⟨g', c', cur', e, -, -, h3, -⟩
    · cases e
    · injection e with _ _ e3
      rw [e3]; exact h3
  · obtain ⟨j, hj⟩ := List.getElem?_of_mem hk
    have hjl : j < cs.length := by rw [← hcA.len]; exact (List.getElem?_eq_some_iff.1 hj).1
    obtain ⟨cur2, h1, -⟩ := (hcA.cpy j _ k (List.getElem?_eq_getElem hjl) hj).1.blk
    refine hu.block k (Array.getElem?_eq_some_iff.1 h1).1 (fun e => ?_)
    simp only [Value.ownBlock, Option.some.injEq] at e
    rw [← e, hcr] at h1
    injection h1 with h1
    injection h1 with _ h1 _
    exact absurd h1 (by decide)
set_option maxRecDepth 20000 in
set_option maxHeartbeats 8000000 in
theorem copied_any (a : Option Addr) (ms : List Im) (n c : Nat) (w : World) (hn : n = ms.length) (hnl : n ≤ 100000) (hI : Inp w a ms) (hB : ∀ m ∈ ms, m.x.length ≤ 1000000) :
    Calls Tryz.prog 11 #[.slice a n c] w fun e w' => ∃ g c2 cs gs, e = .returned (.slice (some ⟨g, 0, none⟩) n c2) ∧ CopP w w' ms g c2 cs gs := by
  have AI := aside hI
  have AN := aside hn
  have AB := aside hB
  have hmk : ∀ w, (Instr.makeSlice 22 (.int .i64 0) (.int .i64 ((n : Int) + 1))).run Tryz.prog w = _ := fun w => make_items w (n + 1) (by omega)
  have hw1 : IntKind.i64.wrap ((n : Int) + 1) = ((n + 1 : Nat) : Int) := by rw [wrap_small _ (by omega) (by omega)]; simp
  have A0 : Aside (Cow w (w.alloc (.cells (madeCells (Value.agg #[.string ⟨#[]⟩, .int .i8 0, .slice none 0 0]).cells ((n + 1) * 3)) 51)) ms 0 w.heap.size (n + 1) [] []) :=
    ⟨below_al w _, made_items w (n + 1) (by omega), Nat.le_refl _, ⟨rfl, fun i m g h => by simp at h, List.Pairwise.nil, fun g hg => by simp at hg⟩, by simp⟩
  clear hI hn hB
  go_enter Tryz.func11, Tryz.ntmps11
  go_wp2_with fail
  go_loopg [3, 4, 5] n (fun q s3 s4 _ wx => ∃ i gr cr cs gs, i + q = n ∧ s4 = .int .i64 (i : Int) ∧ s3 = .slice (some ⟨gr, 0, none⟩) i cr ∧ Cow w wx ms i gr cr cs gs)
  case atStart => exact ⟨0, _, _, [], [], by omega, rfl, rfl, A0.out⟩
  case round =>
    obtain ⟨i, gr, cr, cs, gs, hiq, rfl, rfl, hC⟩ := hrel
    have AC := aside hC
    clear hC
    cases gk with
    | zero =>
      obtain rfl : i = n := by omega
      have hi : ¬ ((i : Nat) : Int) < (i : Int) := by omega
      have Al7 := aside (below_al wr (.cells #[.string ⟨#[114, 111, 111, 109]⟩, .int .i8 0, .slice none 0 0] 51))
      have AR7 := aside (row_below AC.out.row Al7.out)
      have AS7 : Aside (SrcAt (wr.alloc (.cells #[.string ⟨#[114, 111, 111, 109]⟩, .int .i8 0, .slice none 0 0] 51)) (.slice (some ⟨wr.heap.size, 0, none⟩) 1 1) 1 roomI.cs) := ⟨_, _, rfl, fun _ => ⟨_, rfl, fun j u hj => by
        rw [Addr.add_lit, Nat.zero_add, cell_of_row _ _ j _ _ _ (heap_alloc_new wr _)]
        simpa [Im.cs, roomI] using hj⟩⟩
      clear hmk
      go_wp2_with (at_builtin; refine wpList_append_any (wr.alloc (.cells #[.string ⟨#[114, 111, 111, 109]⟩, .int .i8 0, .slice none 0 0] 51)) rfl _ _ 22 rfl 51 (.agg #[.string ⟨#[]⟩, .int .i8 0, .slice none 0 0]) 3 48 Tryz.underlying22 infoI rfl (by omega) (.slice (some ⟨gr, 0, none⟩) i cr) i (ims cs) rfl AR7.out (.slice (some ⟨wr.heap.size, 0, none⟩) 1 1) 1 roomI.cs rfl rfl AS7.out (fun u hu => ims_one [_] u (by simpa [ims] using hu)) (by unfold maxLen; omega) (by omega) ?_; intro v7 w7 ho hu hv; obtain ⟨g7, c7, hv7, hc7⟩ := own_some ho; subst hv7; have sh := slice_h (some ⟨g7, 0, none⟩) (i + 1) c7 i (by omega) hc7; have AO := aside ho; have AU := aside hu; have AV := aside hv; clear ho hu hv)
      go_ret
      have hfin := copP_end AC.out AN.out Al7.out AO.out AU.out AV.out
      first
        | exact ⟨_, _, cs, gs, rfl, hfin⟩
        | exact ⟨_, _, rfl, cs, gs, hfin⟩
    | succ gk =>
      have hi : (i : Int) < (n : Int) := by omega
      have hi0 : (0 : Int) ≤ (i : Int) := by omega
      have hi2 : i < ms.length := by rw [← AN.out]; omega
      have hwi : IntKind.i64.wrap ((i : Int) + 1) = ((i + 1 : Nat) : Int) := by rw [wrap_small _ (by omega) (by omega)]; simp
      obtain ⟨m, hmi⟩ : ∃ m, ms[i]? = some m := ⟨_, List.getElem?_eq_getElem hi2⟩
      have hIw := AI.out.below (show Below w.heap.size w wr from AC.out.bel)
      obtain ⟨g, o, rfl, e0, e1, e2⟩ := hIw.at hmi
      obtain ⟨d1, d2, d3⟩ := hIw.dat m (List.mem_of_getElem? hmi)
      have hb1 := AB.out m (List.mem_of_getElem? hmi)
      obtain ⟨xb, hxb⟩ : ∃ xb, xb = wr.heap.size := ⟨_, rfl⟩
      obtain ⟨W, hW⟩ : ∃ W, W = wr.alloc (.cells #[.string m.p, .int .i8 m.k, .slice m.a m.x.length m.c] 51) := ⟨_, rfl⟩
      have hB2 : Below wr.heap.size wr W := by rw [hW]; exact below_al wr _
      have hxr : W.heap[xb]? = some (.cells #[.string m.p, .int .i8 m.k, .slice m.a m.x.length m.c] 51 (0, 0)) := by rw [hW, hxb]; exact heap_alloc_new wr _
      have hlt : xb < W.heap.size := (Array.getElem?_eq_some_iff.1 hxr).1
      have m2 : W.cell? ⟨xb, 2, none⟩ = some (.slice m.a m.x.length m.c) := by rw [cell_of_row W xb 2 _ _ _ hxr]; rfl
      have hgl : g < wr.heap.size := World.block_lt_of_cell? wr _ e2
      have hgW : g < W.heap.size := Nat.lt_of_lt_of_le hgl hB2.size
      have l2 : W.cell? ⟨g, o + i * 3 + 2, none⟩ = some (.slice m.a m.x.length m.c) := (hB2.cell (p := ⟨g, o + i * 3 + 2, none⟩) hgl).trans e2
      have ABs := aside (d1.below hB2)
      have ABW := aside hB2
      have Axr := aside hxr
      have Axb : Aside (xb = wr.heap.size) := hxb
      have Ami := aside hmi
      obtain ⟨mp, hmp⟩ : ∃ mp, mp = m.p := ⟨_, rfl⟩
      obtain ⟨mk, hmk2⟩ : ∃ mk, mk = m.k := ⟨_, rfl⟩
      obtain ⟨xl, hxl⟩ : ∃ xl, xl = m.x.length := ⟨_, rfl⟩
      rw [← hmp] at e0 hW Axr
      rw [← hmk2] at e1 hW Axr
      rw [← hxl] at e2 hW m2 l2 hb1 Axr
      have Amp := aside hmp
      have Amk := aside hmk2
      have Axl := aside hxl
      clear hIw d1 d2 d3 hmi hB2 hxr hmp hmk2 hxl hmk hw1
      go_wp2_with fail
      rw [← hW, ← hxb]
      clear hW hxb
      go_cut [] from 20 to 33 (fun wx => ∃ g2 c2, Aside (Below wr.heap.size wr wx) ∧ Aside (W.heap.size ≤ g2) ∧ Aside (wx.heap[xb]? = some (.cells #[.string mp, .int .i8 mk, .slice (some ⟨g2, 0, none⟩) xl c2] 51 (0, 0))) ∧ Aside (Cpy wx ⟨mp, mk, m.x, some ⟨g2, 0, none⟩, c2⟩ g2))
      case first =>
        have hl1 : xl ≤ 33554431 := by omega
        have hl2 : xl ≤ 33554430 := by omega
        have HA := aside (below_tr (below_dr W) (below_al W.drew (.cells #[] 5)))
        have HAB := aside (below_tr (below_tr (below_dr W) (below_al W.drew (.cells #[] 5))) (below_al _ (.cells #[.int .u8 165] 5)))
        have HBA := aside (below_tr (below_tr (below_dr W) (below_al W.drew (.cells #[.int .u8 165] 5))) (below_al _ (.cells #[] 5)))
        have AK : Aside (∀ V, Below W.heap.size W V → V.cell? ⟨xb, 2, none⟩ = some (.slice m.a xl m.c) ∧ V.cell? ⟨g, o + i * 3 + 2, none⟩ = some (.slice m.a xl m.c)) := fun V hV => ⟨(hV.cell (p := ⟨xb, 2, none⟩) hlt).trans m2, (hV.cell (p := ⟨g, o + i * 3 + 2, none⟩) hgW).trans l2⟩
        have AFin : Aside (∀ (w2 : World) (g2 c2 : Nat), Mine W w2 m.x g2 c2 → w2.frozen? ⟨xb, 2, none⟩ = false ∧ Aside (Below wr.heap.size wr (w2.setCell ⟨xb, 2, none⟩ (.slice (some ⟨g2, 0, none⟩) xl c2)) ∧ (w2.setCell ⟨xb, 2, none⟩ (.slice (some ⟨g2, 0, none⟩) xl c2)).heap[xb]? = some (.cells #[.string mp, .int .i8 mk, .slice (some ⟨g2, 0, none⟩) xl c2] 51 (0, 0)) ∧ Cpy (w2.setCell ⟨xb, 2, none⟩ (.slice (some ⟨g2, 0, none⟩) xl c2)) ⟨mp, mk, m.x, some ⟨g2, 0, none⟩, c2⟩ g2)) := fun w2 g2 c2 hM => by
          have hx2 := (hM.below.block xb hlt).trans Axr.out
          have hset := set_same (i := 2) (v := .slice (some ⟨g2, 0, none⟩) xl c2) hx2
          have hb2 : Below wr.heap.size wr w2 := ABW.out.trans (hM.below.mono ABW.out.size)
          refine ⟨frozen_of_row w2 xb 2 _ _ hx2, hb2.trans ((Upd.setCell (F := fun k => k = xb) (p := ⟨xb, 2, none⟩) rfl _).below hb2.size (fun k hk => by rw [hk, Axb.out]; exact Nat.le_refl _)), hset, ?_⟩
          have hC := hM.cpy mp mk
          obtain ⟨cur, h1, -⟩ := hC.blk
          have hne : g2 ≠ xb := by have := hM.ge; omega
          exact hC.keep ((set_far h1 hne).trans h1.symm)
        obtain ⟨m3, l3⟩ := AK.out _ (below_al W (.cells #[] 5))
        obtain ⟨m4, l4⟩ := AK.out _ (below_al W (.cells #[.int .u8 165] 5))
        obtain ⟨m5, l5⟩ := AK.out _ (below_tr (below_al W (.cells #[] 5)) (below_al _ (.cells #[.int .u8 165] 5)))
        obtain ⟨m6, l6⟩ := AK.out _ (below_tr (below_al W (.cells #[.int .u8 165] 5)) (below_al _ (.cells #[] 5)))
        go_region_law (first
          | (refine step_app1 (w := W.drew.alloc (.cells #[] 5)) rfl _ _ rfl W.heap.size rfl (heap_alloc_new W.drew _) m.x m.a xl m.c Axl.out rfl (ABs.out.below HA.out) hl1 ?_; intro g1 c1 w1 h1 h2 h3; have P1W : Below W.heap.size W w1 := HA.out.trans (h2.below HA.out.size (fun k hk => by omega)); obtain ⟨k3, k4⟩ := AK.out w1 P1W; have WH := aside (And.intro HA.out (Nat.le_refl W.heap.size)); have P1 := aside (And.intro h1 (And.intro h2 h3)); obtain ⟨k8, k9⟩ := AK.out _ ((P1W).trans ((below_al w1 (.cells #[.int .u8 165] 5)).mono (P1W).size)); clear h1 h2 h3)
          | (refine step_app1 (w := (W.drew.alloc (.cells #[] 5)).alloc (.cells #[.int .u8 165] 5)) rfl _ _ rfl W.heap.size rfl (al2_first W.drew _ _) m.x m.a xl m.c Axl.out rfl (ABs.out.below HAB.out) hl1 ?_; intro g1 c1 w1 h1 h2 h3; have P1W : Below W.heap.size W w1 := HAB.out.trans (h2.below HAB.out.size (fun k hk => by omega)); obtain ⟨k3, k4⟩ := AK.out w1 P1W; have WH := aside (And.intro HAB.out (Nat.le_refl W.heap.size)); have GB := aside ((h2.block (W.heap.size + 1) (by simp) (by omega)).trans (heap_alloc2_new W.drew (.cells #[] 5) (.cells #[.int .u8 165] 5))); have P1 := aside (And.intro h1 (And.intro h2 h3)); obtain ⟨k8, k9⟩ := AK.out _ ((P1W).trans ((below_al w1 (.cells #[.int .u8 165] 5)).mono (P1W).size)); clear h1 h2 h3)
          | (refine step_app1 (w := (W.drew.alloc (.cells #[.int .u8 165] 5)).alloc (.cells #[] 5)) rfl _ _ rfl (W.heap.size + 1) rfl (heap_alloc2_new W.drew _ _) m.x m.a xl m.c Axl.out rfl (ABs.out.below HBA.out) hl1 ?_; intro g1 c1 w1 h1 h2 h3; have P1W : Below W.heap.size W w1 := HBA.out.trans (h2.below HBA.out.size (fun k hk => by omega)); obtain ⟨k3, k4⟩ := AK.out w1 P1W; have WH := aside (And.intro HBA.out (Nat.le_succ W.heap.size)); have GB := aside ((h2.block W.heap.size (by simp; omega) (by omega)).trans (al2_first W.drew (.cells #[.int .u8 165] 5) (.cells #[] 5))); have P1 := aside (And.intro h1 (And.intro h2 h3)); obtain ⟨k8, k9⟩ := AK.out _ ((P1W).trans ((below_al w1 (.cells #[.int .u8 165] 5)).mono (P1W).size)); clear h1 h2 h3)
          | (refine step_app2 (w := w1.alloc (.cells #[.int .u8 165] 5)) rfl _ _ rfl g1 c1 m.x xl Axl.out rfl (row_below P1.out.1 (below_al w1 _)) w1.heap.size rfl (heap_alloc_new w1 _) hl2 ?_; intro g2 c2 w2 q1 q2 q3 q4; have i1 : (xl : Int) ≤ (c2 : Int) := (by omega); have i2 : xl ≤ c2 := (by omega); have i3 : (0 : Int) ≤ (xl : Int) := (by omega); have MI := aside (mine_of WH.out.1 WH.out.2 P1.out.2.1 P1.out.2.2 (below_al w1 _) q2 q3 (by rw [← Axl.out]; exact q1) (by rw [← Axl.out]; exact q4)); obtain ⟨k5, k6⟩ := AK.out w2 MI.out.below; obtain ⟨k7, F7⟩ := AFin.out w2 g2 c2 MI.out; clear q1 q2 q3)
          | (refine step_app2 (w := w1) rfl _ _ rfl g1 c1 m.x xl Axl.out rfl P1.out.1 (W.heap.size + 1) rfl GB.out hl2 ?_; intro g2 c2 w2 q1 q2 q3 q4; have i1 : (xl : Int) ≤ (c2 : Int) := (by omega); have i2 : xl ≤ c2 := (by omega); have i3 : (0 : Int) ≤ (xl : Int) := (by omega); have MI := aside (mine_of WH.out.1 WH.out.2 P1.out.2.1 P1.out.2.2 (Below.refl _ _) q2 q3 (by rw [← Axl.out]; exact q1) (by rw [← Axl.out]; exact q4)); obtain ⟨k5, k6⟩ := AK.out w2 MI.out.below; obtain ⟨k7, F7⟩ := AFin.out w2 g2 c2 MI.out; clear q1 q2 q3)
          | (refine step_app2 (w := w1) rfl _ _ rfl g1 c1 m.x xl Axl.out rfl P1.out.1 W.heap.size rfl GB.out hl2 ?_; intro g2 c2 w2 q1 q2 q3 q4; have i1 : (xl : Int) ≤ (c2 : Int) := (by omega); have i2 : xl ≤ c2 := (by omega); have i3 : (0 : Int) ≤ (xl : Int) := (by omega); have MI := aside (mine_of WH.out.1 WH.out.2 P1.out.2.1 P1.out.2.2 (Below.refl _ _) q2 q3 (by rw [← Axl.out]; exact q1) (by rw [← Axl.out]; exact q4)); obtain ⟨k5, k6⟩ := AK.out w2 MI.out.below; obtain ⟨k7, F7⟩ := AFin.out w2 g2 c2 MI.out; clear q1 q2 q3))
        all_goals
          go_wp2_with fail
          go_meet
          exact ⟨_, _, F7.out.1, MI.out.ge, F7.out.2.1, F7.out.2.2⟩
      case rest =>
        rename World => W5
        obtain ⟨g2, c2, hb5, hg2, hx5, hc5⟩ := hcut
        have y0 : W5.cell? ⟨xb, 0, none⟩ = some (.string mp) := by rw [cell_of_row W5 xb 0 _ _ _ hx5.out]; rfl
        have y1 : W5.cell? ⟨xb, 1, none⟩ = some (.int .i8 mk) := by rw [cell_of_row W5 xb 1 _ _ _ hx5.out]; rfl
        have y2 : W5.cell? ⟨xb, 2, none⟩ = some (.slice (some ⟨g2, 0, none⟩) xl c2) := by rw [cell_of_row W5 xb 2 _ _ _ hx5.out]; rfl
        have Al7 := aside (below_al W5 (.cells #[.string mp, .int .i8 mk, .slice (some ⟨g2, 0, none⟩) xl c2] 51))
        have AR7 := aside (row_below (row_below AC.out.row hb5.out) Al7.out)
        have AS7 : Aside (SrcAt (W5.alloc (.cells #[.string mp, .int .i8 mk, .slice (some ⟨g2, 0, none⟩) xl c2] 51)) (.slice (some ⟨W5.heap.size, 0, none⟩) 1 1) 1 (⟨mp, mk, m.x, some ⟨g2, 0, none⟩, c2⟩ : Im).cs) := ⟨_, _, rfl, fun _ => ⟨_, rfl, fun j u hj => by
          rw [Addr.add_lit, Nat.zero_add, cell_of_row _ _ j _ _ _ (heap_alloc_new W5 _), Axl.out]
          simpa [Im.cs] using hj⟩⟩
        clear e0 e1 e2 m2 l2
        go_wp2_with (at_builtin; refine wpList_append_any (W5.alloc (.cells #[.string mp, .int .i8 mk, .slice (some ⟨g2, 0, none⟩) xl c2] 51)) rfl _ _ 22 rfl 51 (.agg #[.string ⟨#[]⟩, .int .i8 0, .slice none 0 0]) 3 48 Tryz.underlying22 infoI rfl (by omega) (.slice (some ⟨gr, 0, none⟩) i cr) i (ims cs) rfl AR7.out (.slice (some ⟨W5.heap.size, 0, none⟩) 1 1) 1 (⟨mp, mk, m.x, some ⟨g2, 0, none⟩, c2⟩ : Im).cs rfl rfl AS7.out (fun u hu => ims_one [_] u (by simpa [ims] using hu)) (by unfold maxLen; omega) (by omega) ?_; intro v7 w7 ho hu hv; obtain ⟨g7, c7, hv7, -⟩ := own_some ho; subst hv7; have AO := aside ho; have AU := aside hu; have AV := aside hv; clear ho hu hv)
        go_roundg gk
        case measure => omega
        case rel => exact ⟨i + 1, g7, c7, cs ++ [_], gs ++ [g2], by omega, by first | rfl | simp, rfl, AC.out.push Ami.out ABW.out hb5.out hc5.out hg2.out (by unfold Im.it; simp only; rw [Amp.out, Amk.out]) Al7.out AO.out AU.out AV.out⟩
end Go.Proofs.YtbnaegoahdcejaaGreatDoor
