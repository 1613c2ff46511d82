/- The document's walk through a tree: where it stands. The document's walk through a tree, walked. -/
import Derived.Test.YtbnaegoahdcejaaGreatDoorGU
import Derived.Test.YtbnaegoahdcejaaGreatDoorGF
import Derived.Lib.AppendStr
import Derived.Deep.RegionHeld2
import Derived.Deep.CutBlock
import Derived.Deep.CutRange
import Derived.Deep.DeepCutAuto
namespace Go.Proofs.YtbnaegoahdcejaaGreatDoor
open Go.RowKit Go.ChangeMaps

/-- A cell of an owned row is written. -/
theorem own_set {W : World} {e : TypeId} {s g n cap i : Nat} {xs : List Value} {u : Value} (h : W.ownsRow 0 e s (.slice (some ⟨g, 0, none⟩) n cap) n xs) : (W.setCell ⟨g, i, none⟩ u).ownsRow 0 e s (.slice (some ⟨g, 0, none⟩) n cap) n (xs.set i u) := by
  refine ⟨by rw [List.length_set]; exact h.1, ?_⟩
  rcases h.2 with ⟨e1, -⟩ | ⟨g', cap', cur, e1, h1, h2, h3, h4, h5, h6⟩
  · cases e1
  · injection e1 with e1 e2 e3
    injection e1 with e1
    injection e1 with e1 _ _
    subst e1; subst e3
    refine .inr ⟨g, cap, _, rfl, h1, set_same h2, h3, h4, by rw [Array.size_setIfInBounds]; exact h5, ?_⟩
    rw [Array.toList_setIfInBounds, List.take_set, h6]
abbrev WP : Obj → Prop := Ty [140, 51]
theorem WP_u8 (cs : Array Value) (f : Nat × Nat) : ¬ WP (.cells cs 5 f) := Ty.no (by decide) cs f
/-- Where the walk stands: what it has told, what its files have used. -/
structure Wgo (w0 W : World) (wb : Nat) (v : Value) (ms : List Im) (u : Nat) : Prop where
  bel : Below w0.heap.size w0 W
  wlo : w0.heap.size ≤ wb
  cel : W.heap[wb]? = some (.cells #[v, .int .i64 (u : Int), .int .i64 0] 140 (0, 0))
  row : W.ownsRow 0 51 3 v ms.length (ims ms)
  rb : ∀ b, v.ownBlock = some b → w0.heap.size ≤ b
  dat : ∀ m ∈ ms, Dat w0.heap.size W m.a m.c m.x
theorem Wgo.below {w0 W W' : World} {wb : Nat} {v : Value} {ms : List Im} {u : Nat} (h : Wgo w0 W wb v ms u) (b : Below W.heap.size W W') : Wgo w0 W' wb v ms u :=
  ⟨h.bel.trans (b.mono h.bel.size), h.wlo, (b.block _ (Array.getElem?_eq_some_iff.1 h.cel).1).trans h.cel, row_below h.row b, h.rb, fun m hm => (h.dat m hm).below b⟩
theorem row_tw {W : World} {e : TypeId} {s n g : Nat} {v : Value} {xs : List Value} (h : W.ownsRow 0 e s v n xs) (hg : v.ownBlock = some g) : ∃ cur, W.heap[g]? = some (.cells cur e (0, 0)) := by
  rcases h.2 with ⟨rfl, -⟩ | ⟨g', cap, cur, rfl, -, h2, -⟩
  · cases hg
  · simp only [Value.ownBlock, Option.some.injEq] at hg
    subst hg
    exact ⟨cur, h2⟩
theorem Wgo.ne {w0 W : World} {wb : Nat} {v : Value} {ms : List Im} {u : Nat} (h : Wgo w0 W wb v ms u) {g : Nat} (hg : v.ownBlock = some g) : g ≠ wb := fun e => by
  obtain ⟨cur, h2⟩ := row_tw h.row hg
  rw [e, h.cel] at h2
  injection h2 with h2
  injection h2 with _ h2 _
  exact absurd h2 (by decide)
/-- An item more is told. -/
theorem Wgo.push {w0 W Wa w' : World} {wb : Nat} {v v' : Value} {ms : List Im} {u : Nat} (h : Wgo w0 W wb v ms u) (b : Below W.heap.size W Wa) {m : Im} (ho : w'.ownsRow 0 51 3 v' (ms.length + 1) (ims ms ++ m.cs)) (hu : Upd (fun k => v.ownBlock = some k) Wa w') (hv : v'.ownBlock = v.ownBlock ∨ v'.ownBlock = some Wa.heap.size) (hd : m.x = [] ∧ m.a = none ∧ m.c = 0) :
    Wgo w0 (w'.setCell ⟨wb, 0, none⟩ v') wb v' (ms ++ [m]) u ∧ w'.cell? ⟨wb, 0, none⟩ = some v ∧ w'.frozen? ⟨wb, 0, none⟩ = false := by
  have ha := h.below b
  have hwl := (Array.getElem?_eq_some_iff.1 ha.cel).1
  have hc : w'.heap[wb]? = some (.cells #[v, .int .i64 (u : Int), .int .i64 0] 140 (0, 0)) := (hu.block wb hwl (fun e => ha.ne e rfl)).trans ha.cel
  have hb1 : Below w0.heap.size w0 w' := ha.bel.trans (hu.below ha.bel.size (fun k hk => ha.rb k hk))
  have hset : Upd (fun k => k = wb) w' (w'.setCell ⟨wb, 0, none⟩ v') := Upd.setCell (F := fun k => k = wb) (p := ⟨wb, 0, none⟩) rfl _
  have hrow : w'.ownsRow 0 51 3 v' (ms ++ [m]).length (ims (ms ++ [m])) := by
    have : ims (ms ++ [m]) = ims ms ++ m.cs := by simp [ims, List.flatMap_append]
    rw [this, List.length_append]
    exact ho
  have hnb : ∀ k, v'.ownBlock = some k → k ≠ wb := fun k hk e => by
    obtain ⟨cur, h2⟩ := row_tw ho hk
    rw [e, hc] at h2
    injection h2 with h2
    injection h2 with _ h2 _
    exact absurd h2 (by decide)
  refine ⟨⟨hb1.trans ((hset.below (B := w0.heap.size) (by have := hb1.size; omega) (fun k hk => by rw [hk]; exact h.wlo))), h.wlo, set_same hc, hset.row hrow (fun k hk e => hnb k hk e), fun k hk => ?_, fun x hx => ?_⟩, by rw [cell_of_row w' wb 0 _ _ _ hc]; rfl, frozen_of_row w' wb 0 _ _ hc⟩
  · rcases hv with e | e
    · exact h.rb k (e ▸ hk)
    · rw [e] at hk
      simp only [Option.some.injEq] at hk
      have := ha.bel.size
      omega
  · rcases List.mem_append.1 hx with hx | hx
    · have hd0 := ha.dat x hx
      refine ⟨hd0.cap, hd0.top, fun hn => ?_⟩
      obtain ⟨g, cur, fz, e1, e2, e3, e4⟩ := hd0.mem hn
      have hgl := (Array.getElem?_eq_some_iff.1 e3).1
      have h1 : w'.heap[g]? = some (.cells cur 5 fz) := (hu.block g hgl (fun e => by
        obtain ⟨cur2, h2⟩ := row_tw ha.row e
        rw [h2] at e3
        injection e3 with e3
        injection e3 with _ e3 _
        exact absurd e3 (by decide))).trans e3
      refine ⟨g, cur, fz, e1, e2, set_far h1 (fun e => ?_), e4⟩
      rw [e, hc] at h1
      injection h1 with h1
      injection h1 with _ h1 _
      exact absurd h1 (by decide)
    · rw [List.mem_singleton.1 hx, hd.1, hd.2.1, hd.2.2]
      exact Dat.nil _ _
theorem ims_snoc_set {ms : List Im} {P : ByteArray} {K : Int} {x : B} {a : Option Addr} {c : Nat} : (ims (ms ++ [⟨P, K, [], none, 0⟩])).set (ms.length * 3 + 2) (.slice a x.length c) = ims (ms ++ [⟨P, K, x, a, c⟩]) := by
  have e1 : ∀ m : Im, ims (ms ++ [m]) = ims ms ++ m.cs := fun m => by simp [ims, List.flatMap_append]
  rw [e1, e1, List.set_append_right _ _ (by rw [ims_length]; omega), ims_length]
  rw [show ms.length * 3 + 2 - ms.length * 3 = 2 by omega]
  rfl
/-- The last item's bytes are laid down. -/
theorem Wgo.data {w0 W Wx : World} {wb g n cap : Nat} {ms : List Im} {u : Nat} {P : ByteArray} {K : Int} (h : Wgo w0 W wb (.slice (some ⟨g, 0, none⟩) n cap) (ms ++ [⟨P, K, [], none, 0⟩]) u) (b : Below W.heap.size W Wx) {x : B} {a : Option Addr} {c : Nat} (hd : Dat w0.heap.size Wx a c x) :
    Wgo w0 (Wx.setCell ⟨g, ms.length * 3 + 2, none⟩ (.slice a x.length c)) wb (.slice (some ⟨g, 0, none⟩) n cap) (ms ++ [⟨P, K, x, a, c⟩]) u := by
  have hx := h.below b
  have hg0 : (Value.slice (some ⟨g, 0, none⟩) n cap).ownBlock = some g := rfl
  obtain ⟨cur0, hgc⟩ := row_tw hx.row hg0
  have hset : Upd (fun k => k = g) Wx (Wx.setCell ⟨g, ms.length * 3 + 2, none⟩ (.slice a x.length c)) := Upd.setCell (F := fun k => k = g) (p := ⟨g, ms.length * 3 + 2, none⟩) rfl _
  have hn : n = ms.length + 1 := by
    have h1 := hx.row.1
    rw [ims_length, List.length_append] at h1
    have h2 := hx.row.2
    rcases h2 with ⟨e, -⟩ | ⟨g', cap', cur, e, -⟩
    · cases e
    · injection e with e1 e2 e3
      simpa using e2
  subst hn
  have hdat : ∀ {y : B} {a' : Option Addr} {c' : Nat}, Dat w0.heap.size Wx a' c' y → Dat w0.heap.size (Wx.setCell ⟨g, ms.length * 3 + 2, none⟩ (.slice a x.length c)) a' c' y := fun {y} {a'} {c'} hd0 => by
    refine ⟨hd0.cap, hd0.top, fun hne => ?_⟩
    obtain ⟨g', cur, fz, e1, e2, e3, e4⟩ := hd0.mem hne
    refine ⟨g', cur, fz, e1, e2, set_far e3 (fun e => ?_), e4⟩
    rw [e, hgc] at e3
    injection e3 with e3
    injection e3 with _ e3 _
    exact absurd e3 (by decide)
  have hrow := hx.row
  rw [List.length_append] at hrow
  refine ⟨hx.bel.trans (hset.below hx.bel.size (fun k hk => by rw [hk]; exact h.rb g hg0)), h.wlo, set_far hx.cel (fun e => hx.ne hg0 e.symm), ?_, h.rb, fun m hm => ?_⟩
  · have := own_set (i := ms.length * 3 + 2) (u := .slice a x.length c) hrow
    rw [ims_snoc_set] at this
    rw [List.length_append]
    exact this
  · rcases List.mem_append.1 hm with hm | hm
    · exact hdat (hx.dat m (List.mem_append_left _ hm))
    · rw [List.mem_singleton.1 hm]
      exact hdat hd
/-- What the files have used is more. -/
theorem Wgo.used {w0 W : World} {wb : Nat} {v : Value} {ms : List Im} {u : Nat} (h : Wgo w0 W wb v ms u) (u2 : Nat) : Wgo w0 (W.setCell ⟨wb, 1, none⟩ (.int .i64 (u2 : Int))) wb v ms u2 := by
  have hset : Upd (fun k => k = wb) W (W.setCell ⟨wb, 1, none⟩ (.int .i64 (u2 : Int))) := Upd.setCell (F := fun k => k = wb) (p := ⟨wb, 1, none⟩) rfl _
  refine ⟨h.bel.trans (hset.below h.bel.size (fun k hk => by rw [hk]; exact h.wlo)), h.wlo, set_same h.cel, hset.row h.row (fun k hk e => h.ne hk e), h.rb, fun m hm => ?_⟩
  have hd0 := h.dat m hm
  refine ⟨hd0.cap, hd0.top, fun hne => ?_⟩
  obtain ⟨g', cur, fz, e1, e2, e3, e4⟩ := hd0.mem hne
  refine ⟨g', cur, fz, e1, e2, set_far e3 (fun e => ?_), e4⟩
  rw [e, h.cel] at e3
  injection e3 with e3
  injection e3 with _ e3 _
  exact absurd e3 (by decide)
/-- Its error is laid down: none. -/
theorem Wgo.fine {w0 W : World} {wb : Nat} {v : Value} {ms : List Im} {u : Nat} (h : Wgo w0 W wb v ms u) : Wgo w0 (W.setCell ⟨wb, 2, none⟩ (.int .i64 0)) wb v ms u := by
  have hset : Upd (fun k => k = wb) W (W.setCell ⟨wb, 2, none⟩ (.int .i64 0)) := Upd.setCell (F := fun k => k = wb) (p := ⟨wb, 2, none⟩) rfl _
  refine ⟨h.bel.trans (hset.below h.bel.size (fun k hk => by rw [hk]; exact h.wlo)), h.wlo, set_same h.cel, hset.row h.row (fun k hk e => h.ne hk e), h.rb, fun m hm => ?_⟩
  have hd0 := h.dat m hm
  refine ⟨hd0.cap, hd0.top, fun hne => ?_⟩
  obtain ⟨g', cur, fz, e1, e2, e3, e4⟩ := hd0.mem hne
  refine ⟨g', cur, fz, e1, e2, set_far e3 (fun e => ?_), e4⟩
  rw [e, h.cel] at e3
  injection e3 with e3
  injection e3 with _ e3 _
  exact absurd e3 (by decide)
/-- The walk has gone on to the k-th of D. -/
def Wgi (D : List En) (w0 : World) (wb k : Nat) (W : World) : Prop := ∃ v ms u, Wgo w0 W wb v ms u ∧ ms.map Im.it = (D.take k).map (itOf 0) ∧ icode 0 D 0 4194304 = icode 0 (D.drop k) k (4194304 - u) ∧ u ≤ 4194304 ∧ k ≤ 4096 ∧ k ≤ D.length
/-- The walk has ended with an error. -/
def Wge (D : List En) (w0 : World) (wb : Nat) (W : World) : Prop := Below w0.heap.size w0 W ∧ icode 0 D 0 4194304 ≠ 0 ∧ ∃ v u, W.heap[wb]? = some (.cells #[v, .int .i64 u, .int .i64 (icode 0 D 0 4194304)] 140 (0, 0))
theorem Wgo.bad {D : List En} {w0 W : World} {wb : Nat} {v : Value} {ms : List Im} {u : Nat} (h : Wgo w0 W wb v ms u) {c : Int} (hc : icode 0 D 0 4194304 = c) (h0 : c ≠ 0) : Wge D w0 wb (W.setCell ⟨wb, 2, none⟩ (.int .i64 c)) := by
  have hset : Upd (fun k => k = wb) W (W.setCell ⟨wb, 2, none⟩ (.int .i64 c)) := Upd.setCell (F := fun k => k = wb) (p := ⟨wb, 2, none⟩) rfl _
  exact ⟨h.bel.trans (hset.below h.bel.size (fun k hk => by rw [hk]; exact h.wlo)), by rw [hc]; exact h0, v, _, by rw [hc]; exact set_same h.cel⟩
/-- append of one item. -/
theorem step_push {ops : Array Oper} {o : Oper} {a : Act} {w : World} {K : Act → World → Prop} {Q : Exit → Act → World → Prop} {E : Prop} (hgd : o.guard = none) (s x : Operand)
    (ho : o.op = .call { callee := .builtin .append, args := #[s, x], argTypes := #[22, 22] }) (v : Value) (n : Nat) (ms : List Im) (hs : a.eval s = v) (hown : w.ownsRow 0 51 3 v n (ims ms)) (g : Nat) (m : Im)
    (hx : a.eval x = .slice (some ⟨g, 0, none⟩) 1 1) (hg : w.heap[g]? = some (.cells m.cs.toArray 51 (0, 0))) (hn : n ≤ 1000000)
    (h : ∀ g' c' w', w'.ownsRow 0 51 3 (.slice (some ⟨g', 0, none⟩) (n + 1) c') (n + 1) (ims ms ++ m.cs) → Upd (fun k => v.ownBlock = some k) w w' → (v.ownBlock = some g' ∨ g' = w.heap.size) → K (a.put o.dst (.slice (some ⟨g', 0, none⟩) (n + 1) c')) w') :
    if Region.wanted o (yielded ops a.tmps) = true then Oper.wp Tryz.prog o a w K Q else E := by
  have hw : Region.wanted o (yielded ops a.tmps) = true := by simp [Region.wanted, hgd]
  rw [if_pos hw]
  obtain ⟨v', w', hr, h2, h3, h4⟩ := run_append_where (P := Tryz.prog) w 22 o.type 51 _ 3 48 Tryz.underlying22 infoI rfl (by decide) v n (ims ms) hown ⟨g, 0, none⟩ 1 1 m.cs rfl (fun j u hj => by
    rw [Addr.add_lit, Nat.zero_add, cell_of_row w g j _ _ _ hg]
    simpa using hj) (fun u hu => ims_one [m] u (by simpa [ims] using hu)) (by unfold maxLen; omega) (by omega) (by decide)
  rcases h2.2 with ⟨-, h0⟩ | ⟨g', c', cur, rfl, r⟩
  · omega
  · unfold Oper.wp
    simp [execOp, ho, resolve, invoke, builtin, hs, hx, hr, Result.andThen]
    refine h g' c' w' h2 (Upd.of_grown h3 fun k hk => hk) ?_
    rcases h4 with ⟨e, -⟩ | ⟨e, -⟩
    · exact .inl (by rw [← e]; rfl)
    · simp only [Value.ownBlock, Option.some.injEq] at e
      exact .inr e
theorem strCells_ba (l : B) : Lib.strCells (ba l) = bcells l := by simp [Lib.strCells, bcells, ba]
/-- append of a text's bytes onto nothing. -/
theorem step_str {ops : Array Oper} {o : Oper} {a : Act} {w : World} {K : Act → World → Prop} {Q : Exit → Act → World → Prop} {E : Prop} (hgd : o.guard = none) (s x : Operand)
    (ho : o.op = .call { callee := .builtin .append, args := #[s, x], argTypes := #[48, 9] }) (hs : a.eval s = .slice none 0 0) (X : ByteArray) (l : B) (hX : X = ba l) (n : Nat) (hn : n = l.length) (hx : a.eval x = .string X) (hl : l.length ≤ 4194304) (w0 : World) (hw0 : w0.heap.size ≤ w.heap.size)
    (h : ∀ a' c' w', Dat w0.heap.size w' a' c' l → Below w.heap.size w w' → K (a.put o.dst (.slice a' n c')) w') :
    if Region.wanted o (yielded ops a.tmps) = true then Oper.wp Tryz.prog o a w K Q else E := by
  subst hX
  subst hn
  have hw : Region.wanted o (yielded ops a.tmps) = true := by simp [Region.wanted, hgd]
  rw [if_pos hw]
  obtain ⟨i, hi, hz, h1, h2⟩ := info_parts infoU
  obtain ⟨v', w', hr, h3, h4, -⟩ := Lib.run_append_own_string (P := Tryz.prog) w w.heap.size 48 9 o.type 5 i Tryz.underlying48 Tryz.underlying9 hi hz h1 h2 (.slice none 0 0) 0 [] (World.ownsRow_nil _ _ _ _) (ba l) (by rw [ba_size]; unfold maxLen; omega) (by rw [ba_size]; omega) (Nat.le_refl _)
  have hb : Below w.heap.size w w' := (Upd.of_grown (F := fun _ => False) h4 (fun k hk => by cases hk)).below (Nat.le_refl _) (fun k hk => hk.elim)
  rw [Nat.zero_add, List.nil_append, strCells_ba, ba_size] at h3
  obtain ⟨a', c', rfl, -⟩ := own_slice h3
  have h30 : w'.ownsRow 0 5 1 (.slice a' l.length c') l.length (bcells l) := by
    refine ⟨h3.1, ?_⟩
    rcases h3.2 with e | ⟨g, cap, cur, e, -, r⟩
    · exact .inl e
    · exact .inr ⟨g, cap, cur, e, Nat.zero_le _, r⟩
  have hd : Dat w0.heap.size w' a' c' l := Dat.of_row h30 (fun k hk => by
    rcases h3.2 with ⟨e, -⟩ | ⟨g, cap, cur, e, hg, -⟩
    · rw [e] at hk; cases hk
    · rw [e] at hk
      simp only [Value.ownBlock, Option.some.injEq] at hk
      omega)
  unfold Oper.wp
  simp [execOp, ho, resolve, invoke, builtin, hs, hx, hr, Result.andThen]
  exact h a' c' w' hd hb
end Go.Proofs.YtbnaegoahdcejaaGreatDoor

namespace Go.Proofs.YtbnaegoahdcejaaGreatDoor
open Go.RowKit Go.ChangeMaps

theorem Rt.leaf {F : World → Nat → B → Prop} {lo : Nat} {w : World} {S : List En} {rb : List B → Nat} (h : Rt F lo w S rb) {x : En} (hx : x ∈ S) (hk : x.k ≠ 1) : ∀ f, dsc S f x.p = []
  | 0 => rfl
  | f + 1 => by
    have h0 : kidU S x.p = [] := by
      unfold kidU
      rw [List.filter_eq_nil_iff]
      intro e he hd
      obtain ⟨h1, h2⟩ := of_decide_eq_true hd
      obtain ⟨d, hd, hdp, hdk⟩ := h.par e he h1
      have := rone_p h.one hd hx (hdp.trans h2)
      rw [this] at hdk
      exact hk hdk
    unfold dsc kidE
    rw [h0]
    simp [srt]
theorem pth_kid {d x : En} (h : x.p = d.p ++ [x.nm]) : pth x.p = ahd d.p ++ x.nm := by rw [h, pth_snoc, En.nm_of h]
theorem dsc_drop {S D : List En} {f : Nat} {ks : List En} {d : List B} {k0 i : Nat} {x : En} (hd : dsc S (f + 1) d = ks.flatMap fun x => x :: dsc S f x.p) (hD : ∃ pre post, D = pre ++ (dsc S (f + 1) d ++ post) ∧ pre.length = k0) (hi : ks[i]? = some x) :
    D[k0 + ((ks.take i).flatMap fun x => x :: dsc S f x.p).length]? = some x ∧ ∃ pre post, D = pre ++ (dsc S f x.p ++ post) ∧ pre.length = k0 + ((ks.take i).flatMap fun x => x :: dsc S f x.p).length + 1 := by
  obtain ⟨pre, post, h1, h2⟩ := hD
  rw [hd] at h1
  have hi2 := (List.getElem?_eq_some_iff.1 hi).1
  have h3 : ks = ks.take i ++ x :: ks.drop (i + 1) := by
    have := (List.take_append_drop i ks).symm
    rw [List.drop_eq_getElem_cons hi2] at this
    have hx2 : ks[i] = x := by rw [List.getElem?_eq_getElem hi2] at hi; injection hi
    rw [hx2] at this
    exact this
  have h4 : D = (pre ++ (ks.take i).flatMap fun x => x :: dsc S f x.p) ++ x :: (dsc S f x.p ++ ((ks.drop (i + 1)).flatMap (fun x => x :: dsc S f x.p) ++ post)) := by
    rw [h1]
    conv => lhs; rw [h3]
    simp
  have h5 : (pre ++ (ks.take i).flatMap fun x => x :: dsc S f x.p).length = k0 + ((ks.take i).flatMap fun x => x :: dsc S f x.p).length := by rw [List.length_append, h2]
  refine ⟨by rw [h4, List.getElem?_append_right (by omega), h5, Nat.sub_self]; rfl, (pre ++ (ks.take i).flatMap fun x => x :: dsc S f x.p) ++ [x], (ks.drop (i + 1)).flatMap (fun x => x :: dsc S f x.p) ++ post, by rw [h4]; simp, by rw [List.length_append, h5]; rfl⟩
theorem flat_next {S : List En} {f : Nat} {ks : List En} {i : Nat} {x : En} (hi : ks[i]? = some x) : ((ks.take (i + 1)).flatMap fun x => x :: dsc S f x.p).length = ((ks.take i).flatMap fun x => x :: dsc S f x.p).length + 1 + (dsc S f x.p).length := by
  rw [List.take_add_one, hi]
  simp
  omega
/-- What is so of the names. -/
def NamD (S : List En) : Prop := ∀ e ∈ S, e.p.length ≤ 64 ∧ (e.x.length ≤ 4194304 ∧ (e.k = 1 → e.x = [])) ∧ ∀ n ∈ e.p, nameOk (ba n) = true
set_option maxRecDepth 20000 in
set_option maxHeartbeats 8000000 in
theorem rin_any {lo : Nat} {S D : List En} {rb : List B → Nat} {w0 : World} (hT : Rt R4 lo w0 S rb) (hN : NamD S) (wb : Nat) :
    ∀ (f : Nat) (d : En) (k0 : Nat) (W : World), d ∈ S → d.k = 1 → 65 ≤ d.p.length + f → (∃ pre post, D = pre ++ (dsc S f d.p ++ post) ∧ pre.length = k0) → Wgi D w0 wb k0 W →
      Calls Tryz.prog 79 #[Pt wb, Pt (rb d.p), .string (ba (ahd d.p))] W fun r W' => r = .returned (.tuple #[]) ∧ (Wgi D w0 wb (k0 + (dsc S f d.p).length) W' ∨ Wge D w0 wb W') := by
  intro f
  induction f with
  | zero =>
    intro d k0 W hd hk hf hD hI
    have := (hN d hd).1
    omega
  | succ f ih =>
    intro d k0 W hd hk hf hD hI
    have AT := aside hT
    have ANm := aside hN
    have Aih := aside ih
    have AD := aside hD
    have AI := aside hI
    have Ad := aside hd
    have Ak := aside hk
    obtain ⟨A, hA⟩ : ∃ A, A = ba (ahd d.p) := ⟨_, rfl⟩
    have hAs : A.size ≤ 100000 := by
      rw [hA, ba_size]
      have h1 := ahd_len (p := d.p) (fun n hn => (nok ((hN d hd).2.2 n hn)).2.1)
      have h2 := (hN d hd).1
      omega
    obtain ⟨ks, hks⟩ : ∃ ks, ks = kidE S d.p := ⟨_, rfl⟩
    obtain ⟨nb, hnb⟩ : ∃ nb, nb = rb d.p := ⟨_, rfl⟩
    have hdd : dsc S (f + 1) d.p = ks.flatMap fun x => x :: dsc S f x.p := by rw [hks]; rfl
    obtain ⟨n, hn⟩ : ∃ n, n = ks.length := ⟨_, rfl⟩
    have hnle : n ≤ 100000 := by
      have h1 := rkd_len hT d.p
      unfold rkd at h1
      rw [List.length_map, ← hks] at h1
      omega
    have hw0l : ∀ V, Below w0.heap.size w0 V → ∃ a c, V.cell? ⟨nb, 4, none⟩ = some (.slice a n c) ∧ (0 < n → ∃ g o, a = some ⟨g, o, none⟩ ∧ ∀ (j : Nat) (x : En), ks[j]? = some x → V.cell? ⟨g, o + j * 2, none⟩ = some (.string (ba x.nm)) ∧ V.cell? ⟨g, o + j * 2 + 1, none⟩ = some (Pt (rb x.p))) := fun V hV => by
      obtain ⟨a, c, h1, -, h3⟩ := ((hT.below r4_st hV).dir d hd hk).cells
      have hl : (rkd S rb d.p).length = n := by unfold rkd; rw [List.length_map, ← hks, hn]
      rw [hl, ← hnb] at h1
      refine ⟨a, c, by rw [cell_of_row V nb 4 _ _ _ h1]; rfl, fun hn0 => ?_⟩
      obtain ⟨g, o, e, hc⟩ := h3 (fun e => by rw [e] at hl; simp at hl; omega)
      refine ⟨g, o, e, fun j x hj => ?_⟩
      have hj2 : (rkd S rb d.p)[j]? = some (x.nm, rb x.p) := by unfold rkd; rw [List.getElem?_map, ← hks, hj]; rfl
      have := kcs_at hj2
      exact ⟨hc _ _ this.1, by have h4 := hc _ _ this.2; rwa [← Nat.add_assoc] at h4⟩
    have Aw0 := aside hw0l
    rw [← hA, ← hnb]
    have AA := aside hA
    have Aks := aside hks
    have Adsc := aside hdd
    have An := aside hn
    clear hT hN ih hD hI hd hk hA hks hnb hdd hn hw0l
    go_enter Tryz.func79, Tryz.ntmps79
    go_wp2_with fail
    go_loopg [6, 7, 8, 9, 80, 89, 104] n (fun gk s6 _ _ _ _ _ _ wx => ∃ i : Nat, i ≤ n ∧ s6 = .int .i64 (i : Int) ∧ ((i + gk = n ∧ Wgi D w0 wb (k0 + ((ks.take i).flatMap fun x => x :: dsc S f x.p).length) wx) ∨ Wge D w0 wb wx))
    case atStart => exact ⟨0, Nat.zero_le _, rfl, .inl ⟨by omega, by simpa using AI.out⟩⟩
    case round =>
      obtain ⟨i, hin, rfl, hst⟩ := hrel
      rcases hst with ⟨hig, hI⟩ | hE
      · cases gk with
        | zero =>
          obtain rfl : i = n := by omega
          have hi : ¬ ((i : Nat) : Int) < (i : Int) := by omega
          have AI2 := aside hI
          obtain ⟨v, ms, u, hV, -⟩ := hI
          obtain ⟨a, c, c4, -⟩ := Aw0.out wr hV.bel
          clear hV
          go_wp2_with fail
          go_end0
          refine ⟨rfl, .inl ?_⟩
          have := AI2.out
          rw [An.out, List.take_length] at this
          rw [Adsc.out]
          exact this
        | succ gk =>
          have hi : (i : Int) < (n : Int) := by omega
          have hi0 : (0 : Int) ≤ (i : Int) := by omega
          have hi2 : i < ks.length := by rw [← An.out]; omega
          obtain ⟨x, hxi⟩ : ∃ x, ks[i]? = some x := ⟨_, List.getElem?_eq_getElem hi2⟩
          obtain ⟨v, ms, u, hV, hms, hic, hul, hkl, hkD⟩ := hI
          obtain ⟨va, vc, rfl, -⟩ := own_slice hV.row
          obtain ⟨a, c, c4, hrow⟩ := Aw0.out wr hV.bel
          obtain ⟨g, o, rfl, hcs⟩ := hrow (by omega)
          obtain ⟨x0, x1⟩ := hcs i x hxi
          have e2 : wr.cell? ⟨wb, 2, none⟩ = some (.int .i64 0) := by rw [cell_of_row wr wb 2 _ _ _ hV.cel]; rfl
          obtain ⟨kx, hkx⟩ : ∃ kx, kx = k0 + ((ks.take i).flatMap fun x => x :: dsc S f x.p).length := ⟨_, rfl⟩
          rw [← hkx] at hms hic hkl hkD
          have hml : ms.length = kx := by
            have := congrArg List.length hms
            rw [List.length_map, List.length_map, List.length_take] at this
            omega
          rw [hml] at hV
          have Aml := aside hml
          have AkD := aside hkD
          have hxS : x ∈ S ∧ x.p = d.p ++ [x.nm] := by
            refine mem_kidE.1 ?_
            rw [← Aks.out]
            exact List.mem_of_getElem? hxi
          have hDk := dsc_drop Adsc.out AD.out hxi
          rw [← hkx] at hDk
          have AV := aside hV
          have Ams := aside hms
          have Aic := aside hic
          have AxS := aside hxS
          have ADk := aside hDk
          have Akx : Aside (kx = k0 + ((ks.take i).flatMap fun x => x :: dsc S f x.p).length) := hkx
          have Axi := aside hxi
          have AKd := aside (fun V (hV : Below w0.heap.size w0 V) => (AT.out.below r4_st hV).kind AxS.out.1)
          obtain ⟨xb, hxb⟩ : ∃ xb, xb = rb x.p := ⟨_, rfl⟩
          obtain ⟨xk, hxk⟩ : ∃ xk : Int, xk = (x.k : Int) := ⟨_, rfl⟩
          obtain ⟨N, hNn⟩ : ∃ N, N = ba x.nm := ⟨_, rfl⟩
          have hns : N.size ≤ 64 := by rw [hNn, ba_size]; exact (nok ((ANm.out x hxS.1).2.2 x.nm (by rw [hxS.2]; simp))).2.1
          obtain ⟨P, hP⟩ : ∃ P, P = A ++ N := ⟨_, rfl⟩
          have hPs : P.size ≤ 200000 := by rw [hP, ByteArray.size_append]; omega
          have hPp : P = ba (pth x.p) := by rw [hP, AA.out, hNn, pth_kid hxS.2, ba_append]
          rw [← hxb, ← hxk] at AKd
          rw [← hxb] at x1
          rw [← hNn] at x0
          have Axb := aside hxb
          have Axk := aside hxk
          have ANn := aside hNn
          have AP := aside hP
          have APp := aside hPp
          have hcat : A ++ N = P := hP.symm
          have hsum : ¬ (9223372036854775807 < A.size + N.size) := by omega
          have Aob : Aside (∀ b, (Value.slice va kx vc).ownBlock = some b → b < wr.heap.size) := fun b hb => by
            obtain ⟨cur, h1⟩ := row_tw AV.out.row hb
            exact (Array.getElem?_eq_some_iff.1 h1).1
          have Awb : Aside (wb < wr.heap.size) := (Array.getElem?_eq_some_iff.1 AV.out.cel).1
          clear hV hms hic hkD hcs hrow hxS hDk hxb hxk hNn hP hPp hkx hxi hml
          obtain ⟨W1, hW1⟩ : ∃ W1, W1 = wr.alloc (.cells #[.string N, Pt xb] 132) := ⟨_, rfl⟩
          have bW1 : Below wr.heap.size wr W1 := by rw [hW1]; exact below_al wr _
          obtain ⟨kb, hkb⟩ : ∃ kb, kb = wr.heap.size := ⟨_, rfl⟩
          have kr : W1.heap[kb]? = some (.cells #[.string N, Pt xb] 132 (0, 0)) := by rw [hW1, hkb]; exact heap_alloc_new wr _
          have y0 : W1.cell? ⟨kb, 0, none⟩ = some (.string N) := by rw [cell_of_row W1 kb 0 _ _ _ kr]; rfl
          have y1 : W1.cell? ⟨kb, 1, none⟩ = some (Pt xb) := by rw [cell_of_row W1 kb 1 _ _ _ kr]; rfl
          have AB1 := aside bW1
          have AV1 := aside (AV.out.below bW1)
          have ABd := aside (AV1.out.bel.trans ((below_dr W1).mono AV1.out.bel.size))
          have ABe := aside (ABd.out.trans ((below_al W1.drew (.cells #[.string ⟨#[]⟩, .int .i8 0, .slice none 0 0] 51)).mono ABd.out.size))
          have ABf := aside (AV1.out.bel.trans ((below_tr (below_al W1 (.cells #[.string ⟨#[]⟩, .int .i8 0, .slice none 0 0] 51)) (below_dr _)).mono AV1.out.bel.size))
          have y0a : (W1.alloc (.cells #[.string ⟨#[]⟩, .int .i8 0, .slice none 0 0] 51)).cell? ⟨kb, 0, none⟩ = some (.string N) := ((below_al W1 _).cell (World.block_lt_of_cell? W1 _ y0)).trans y0
          have y1a : (W1.alloc (.cells #[.string ⟨#[]⟩, .int .i8 0, .slice none 0 0] 51)).cell? ⟨kb, 1, none⟩ = some (Pt xb) := ((below_al W1 _).cell (World.block_lt_of_cell? W1 _ y1)).trans y1
          have Akr := aside kr
          have Akb : Aside (kb = wr.heap.size ∧ wr.heap.size ≤ kb) := ⟨hkb, by omega⟩
          clear bW1 kr
          go_wp2_with fail
          rw [← hW1, ← hkb]
          clear hW1 hkb
          go_cut [8] from 33 to 40 (fun s8 wc => ∃ xi, s8 = Pt xi ∧ wr.heap.size ≤ xi ∧ Aside (Below W1.heap.size W1 wc) ∧ Aside (wc.heap[xi]? = some (.cells #[.string P, .int .i8 xk, .slice none 0 0] 51 (0, 0))))
          case first =>
            go_region_law (go_simp; refine (AKd.out _ (by first | exact ABd.out | exact ABe.out | exact ABf.out)).mono ?_; rintro e w1 ⟨rfl, rfl⟩)
            all_goals
              go_wp2_with fail
              go_meet
              exact ⟨_, rfl, AB1.out.size, below_tr (below_al _ _) (below_dr _), heap_alloc_new W1 _⟩
          case rest =>
            obtain ⟨xi, rfl, hxi, hb2, hxr⟩ := hcut
            have xr := hxr.out
            have AV2 := aside (AV1.out.below hb2.out)
            have Akr2 := aside ((hb2.out.block kb (Array.getElem?_eq_some_iff.1 Akr.out).1).trans Akr.out)
            have z0 : wc.cell? ⟨xi, 0, none⟩ = some (.string P) := by rw [cell_of_row wc xi 0 _ _ _ xr]; rfl
            have v0 : wc.cell? ⟨wb, 0, none⟩ = some (.slice va kx vc) := by rw [cell_of_row wc wb 0 _ _ _ AV2.out.cel]; rfl
            have v2 : wc.cell? ⟨wb, 2, none⟩ = some (.int .i64 0) := by rw [cell_of_row wc wb 2 _ _ _ AV2.out.cel]; rfl
            have v2f := frozen_of_row wc wb 2 _ _ AV2.out.cel
            clear xr y0 y1 y0a y1a x0 x1
            have AdS : Aside (D.drop kx = x :: D.drop (kx + 1)) := by
              have h1 := ADk.out.1
              have h2 := (List.getElem?_eq_some_iff.1 h1).1
              show D.drop kx = _
              rw [List.drop_eq_getElem_cons h2]
              rw [List.getElem?_eq_getElem h2] at h1
              injection h1 with h1
              rw [h1]
            have Avc : Aside (∀ c, vcode 0 kx x (4194304 - u) = c → c ≠ 0 → icode 0 D 0 4194304 = c) := fun c h1 h2 => by
              rw [Aic.out, AdS.out]
              conv => lhs; unfold icode
              rw [h1, if_neg h2]
            have Avz : Aside (vcode 0 kx x (4194304 - u) = 0 → icode 0 D 0 4194304 = icode 0 (D.drop (kx + 1)) (kx + 1) (4194304 - u - used x)) := fun h1 => by
              rw [Aic.out, AdS.out]
              conv => lhs; unfold icode
              rw [h1, if_pos rfl]
            have hPl : P.size = (pth x.p).length := by rw [APp.out, ba_size]
            by_cases hfull : kx = 4096
            · have hf4 : (4096 : Int) ≤ (kx : Int) := by omega
              have Acode := aside (Avc.out 4 (by unfold vcode; rw [if_pos hfull]) (by decide))
              go_wp2_with fail
              refine bodyPost_ret (results_none rfl _ _ _) rfl ?_
              exact ⟨rfl, .inr (AV2.out.bad Acode.out (by decide))⟩
            · have hf4 : ¬ (4096 : Int) ≤ (kx : Int) := by omega
              by_cases hlong : 4096 < P.size
              · have hl4 : (4096 : Int) < (P.size : Int) := by omega
                have Acode := aside (Avc.out 3 (by unfold vcode; rw [if_neg hfull, if_pos (by rw [List.drop_zero, ← hPl]; exact hlong)]) (by decide))
                go_wp2_with fail
                refine bodyPost_ret (results_none rfl _ _ _) rfl ?_
                exact ⟨rfl, .inr (AV2.out.bad Acode.out (by decide))⟩
              · have hl4 : ¬ (4096 : Int) < (P.size : Int) := by omega
                have Avd : Aside (vcode 0 kx x (4194304 - u) = if x.k = 0 ∧ 4194304 - u < x.x.length then 3 else 0) := by
                  show vcode 0 kx x (4194304 - u) = _
                  unfold vcode
                  rw [if_neg hfull, if_neg (by rw [List.drop_zero, ← hPl]; exact hlong)]
                have hkn : kx ≤ 4095 := by omega
                clear hfull hlong hPl v2 v2f
                have x2 : wc.cell? ⟨xi, 1, none⟩ = some (.int .i8 xk) := by rw [cell_of_row wc xi 1 _ _ _ hxr.out]; rfl
                have x3 : wc.cell? ⟨xi, 2, none⟩ = some (.slice none 0 0) := by rw [cell_of_row wc xi 2 _ _ _ hxr.out]; rfl
                go_wp2_with fail
                have Akk : Aside (kb = wr.heap.size ∧ wr.heap.size ≤ kb) := Akb.out
                have ARow : Aside (∀ V, Below wc.heap.size wc V → V.ownsRow 0 51 3 (.slice va kx vc) kx (ims ms)) := fun V hV => by
                  have := row_below AV2.out.row hV
                  rwa [Aml.out] at this
                have APush : Aside (∀ (Wa w3 : World) (g3 c3 : Nat), Below wc.heap.size wc Wa → w3.ownsRow 0 51 3 (.slice (some ⟨g3, 0, none⟩) (kx + 1) c3) (kx + 1) (ims ms ++ (⟨P, xk, [], none, 0⟩ : Im).cs) → Upd (fun k => (Value.slice va kx vc).ownBlock = some k) Wa w3 → ((Value.slice va kx vc).ownBlock = some g3 ∨ g3 = Wa.heap.size) →
                    w3.cell? ⟨wb, 0, none⟩ = some (.slice va kx vc) ∧ w3.frozen? ⟨wb, 0, none⟩ = false ∧ Aside (Wgo w0 (w3.setCell ⟨wb, 0, none⟩ (.slice (some ⟨g3, 0, none⟩) (kx + 1) c3)) wb (.slice (some ⟨g3, 0, none⟩) (kx + 1) c3) (ms ++ [⟨P, xk, [], none, 0⟩]) u) ∧
                    Aside ((w3.setCell ⟨wb, 0, none⟩ (.slice (some ⟨g3, 0, none⟩) (kx + 1) c3)).heap[xi]? = some (.cells #[.string P, .int .i8 xk, .slice none 0 0] 51 (0, 0)) ∧ (w3.setCell ⟨wb, 0, none⟩ (.slice (some ⟨g3, 0, none⟩) (kx + 1) c3)).heap[kb]? = some (.cells #[.string N, Pt xb] 132 (0, 0)))) := fun Wa w3 g3 c3 hB ho hu hv => by
                  obtain ⟨h1, h2, h3⟩ := AV2.out.push hB (v' := .slice (some ⟨g3, 0, none⟩) (kx + 1) c3) (m := ⟨P, xk, [], none, 0⟩) (by rw [Aml.out]; exact ho) hu (by
                    rcases hv with e | e
                    · exact .inl e.symm
                    · exact .inr (by rw [e]; rfl)) ⟨rfl, rfl, rfl⟩
                  have hk : ∀ (k : Nat) (o : Obj), wc.heap[k]? = some o → wr.heap.size ≤ k → (w3.setCell ⟨wb, 0, none⟩ (.slice (some ⟨g3, 0, none⟩) (kx + 1) c3)).heap[k]? = some o := fun k o hko hle => by
                    have hl := (Array.getElem?_eq_some_iff.1 hko).1
                    refine set_far (((hu.block k (Nat.lt_of_lt_of_le hl hB.size) (fun e => ?_)).trans (hB.block k hl)).trans hko) (fun e => ?_)
                    · have := Aob.out k e; omega
                    · have := Awb.out; omega
                  exact ⟨h2, h3, h1, hk xi _ hxr.out hxi, hk kb _ Akr2.out Akk.out.2⟩
                go_cut [] from 57 to 66 (fun wx => ∃ g3 c3, Aside (Wgo w0 wx wb (.slice (some ⟨g3, 0, none⟩) (kx + 1) c3) (ms ++ [⟨P, xk, [], none, 0⟩]) u) ∧ Aside (wx.heap[xi]? = some (.cells #[.string P, .int .i8 xk, .slice none 0 0] 51 (0, 0)) ∧ wx.heap[kb]? = some (.cells #[.string N, Pt xb] 132 (0, 0))))
                case first =>
                  have AB3 := aside (below_tr (below_al wc (.cells #[.string P, .int .i8 xk, .slice none 0 0] 51)) (below_dr _))
                  have AB4 := aside (below_tr (below_dr wc) (below_al wc.drew (.cells #[.string P, .int .i8 xk, .slice none 0 0] 51)))
                  have v0a : (wc.alloc (.cells #[.string P, .int .i8 xk, .slice none 0 0] 51)).cell? ⟨wb, 0, none⟩ = some (.slice va kx vc) := ((below_al wc _).cell (World.block_lt_of_cell? wc _ v0)).trans v0
                  go_region_law (first
                    | (refine step_push (w := (wc.alloc (.cells #[.string P, .int .i8 xk, .slice none 0 0] 51)).drew) rfl _ _ rfl (.slice va kx vc) kx ms rfl (ARow.out _ AB3.out) wc.heap.size ⟨P, xk, [], none, 0⟩ rfl (heap_alloc_new wc _) (by omega) ?_; intro g3 c3 w3 ho hu hv; obtain ⟨q0, q1, q2, q3⟩ := APush.out _ w3 g3 c3 AB3.out ho hu hv; clear ho hu hv)
                    | (refine step_push (w := wc.drew.alloc (.cells #[.string P, .int .i8 xk, .slice none 0 0] 51)) rfl _ _ rfl (.slice va kx vc) kx ms rfl (ARow.out _ AB4.out) wc.heap.size ⟨P, xk, [], none, 0⟩ rfl (heap_alloc_new wc.drew _) (by omega) ?_; intro g3 c3 w3 ho hu hv; obtain ⟨q0, q1, q2, q3⟩ := APush.out _ w3 g3 c3 AB4.out ho hu hv; clear ho hu hv))
                  all_goals
                    go_wp2_with fail
                    go_meet
                    exact ⟨_, _, q2, q3⟩
                case rest =>
                  rename World => W3
                  obtain ⟨g3, c3, hW3, hk3⟩ := hcut
                  clear z0 v0 x2 x3 APush ARow
                  have Aw3 : Aside (W3.heap[wb]? = some (.cells #[.slice (some ⟨g3, 0, none⟩) (kx + 1) c3, .int .i64 (u : Int), .int .i64 0] 140 (0, 0))) := hW3.out.cel
                  have a0 : W3.cell? ⟨wb, 0, none⟩ = some (.slice (some ⟨g3, 0, none⟩) (kx + 1) c3) := by rw [cell_of_row W3 wb 0 _ _ _ Aw3.out]; rfl
                  have hwk : IntKind.i64.wrap (((kx + 1 : Nat) : Int) - 1) = (kx : Int) := by rw [wrap_in _ (by omega) (by omega)]; omega
                  have hk0 : (0 : Int) ≤ (kx : Int) := by omega
                  have hk1 : (kx : Int) < ((kx + 1 : Nat) : Int) := by omega
                  have hk2 : kx < kx + 1 := by omega
                  go_upto_region 10 with fail
                  go_cut [9] from 67 to 77 (fun s9 wx => s9 = .pointer (some ⟨g3, kx * 3, none⟩) ∧ Aside (Below W3.heap.size W3 wx))
                  case first =>
                    go_quiet (fail)
                    all_goals
                      go_wp2_with fail
                      go_meet
                      exact ⟨by first | rfl | simp, below_drn W3 _⟩
                  case rest =>
                    rename World => W4
                    obtain ⟨rfl, hb4⟩ := hcut
                    have AV4 := aside (hW3.out.below hb4.out)
                    have Ax4 : Aside (W4.heap[xi]? = some (.cells #[.string P, .int .i8 xk, .slice none 0 0] 51 (0, 0))) := (hb4.out.block xi (Array.getElem?_eq_some_iff.1 hk3.out.1).1).trans hk3.out.1
                    have Ak4 : Aside (W4.heap[kb]? = some (.cells #[.string N, Pt xb] 132 (0, 0))) := (hb4.out.block kb (Array.getElem?_eq_some_iff.1 hk3.out.2).1).trans hk3.out.2
                    have p0 : W4.cell? ⟨xi, 0, none⟩ = some (.string P) := by rw [cell_of_row W4 xi 0 _ _ _ Ax4.out]; rfl
                    have p1 : W4.cell? ⟨xi, 1, none⟩ = some (.int .i8 xk) := by rw [cell_of_row W4 xi 1 _ _ _ Ax4.out]; rfl
                    have k1 : W4.cell? ⟨kb, 1, none⟩ = some (Pt xb) := by rw [cell_of_row W4 kb 1 _ _ _ Ak4.out]; rfl
                    have hown := AV4.out.row
                    obtain ⟨curI, hcurI⟩ := row_tw AV4.out.row rfl
                    have hdat : (ims (ms ++ [⟨P, xk, [], none, 0⟩]))[kx * 3 + 2]? = some (.slice none 0 0) := by
                      have h1 : (ms ++ [(⟨P, xk, [], none, 0⟩ : Im)])[kx]? = some ⟨P, xk, [], none, 0⟩ := by rw [List.getElem?_append_right (by rw [Aml.out]; exact Nat.le_refl _), Aml.out, Nat.sub_self]; rfl
                      exact (ims_at h1).2.2
                    have d2 : W4.cell? ⟨g3, kx * 3 + 2, none⟩ = some (.slice none 0 0) := by
                      have := AV4.out.row.cells (g := g3) rfl _ _ hdat
                      rwa [Addr.add_lit, Nat.zero_add] at this
                    have d2f : W4.frozen? ⟨g3, kx * 3 + 2, none⟩ = false := frozen_of_row W4 g3 (kx * 3 + 2) _ _ hcurI
                    have Ad2 := aside d2
                    have AcurI := aside hcurI
                    have hxk012 := (AT.out.knd x AxS.out.1)
                    clear hown hdat hcurI a0 hb4 hb2 hxr
                    by_cases kd : xk = 1
                    · have hxd : x.k = 1 := by have := Axk.out; omega
                      have hsl : P ++ ⟨#[47]⟩ = ba (ahd x.p) := by
                        have h2 : pth x.p ++ [47] = ahd x.p := by
                          rw [pth_kid AxS.out.2]
                          conv => rhs; rw [AxS.out.2]
                          rw [ahd_snoc]
                        rw [APp.out, ← h2]
                        exact ba_append _ [47]
                      have hnx : (x.x = []) := (ANm.out x AxS.out.1).2.1.2 hxd
                      have hI6 : Wgi D w0 wb (kx + 1) W4 := by
                        refine ⟨_, _, u, AV4.out, ?_, ?_, hul, by omega, (List.getElem?_eq_some_iff.1 ADk.out.1).1⟩
                        · rw [List.map_append, Ams.out, List.take_add_one, List.map_append, ADk.out.1]
                          show _ ++ [((P, xk, []) : It)] = _ ++ [itOf 0 x]
                          unfold itOf
                          rw [List.drop_zero, ← APp.out, ← Axk.out, hnx]
                        · rw [Avz.out (by rw [Avd.out, if_neg (by omega)]), show used x = 0 by unfold used; rw [if_neg (by omega)], Nat.sub_zero]
                      have AR := aside (Aih.out x (kx + 1) W4 AxS.out.1 hxd (by rw [AxS.out.2, List.length_append, List.length_singleton]; omega) ADk.out.2 hI6)
                      obtain ⟨Q, hQ⟩ : ∃ Q, Q = ba (ahd x.p) := ⟨_, rfl⟩
                      rw [← Axb.out, ← hQ] at AR
                      rw [← hQ] at hsl
                      have hs47 : ¬ (9223372036854775807 < P.size + 1) := by omega
                      subst kd
                      clear hI6 hnx hxd hQ hxk012
                      go_wp2_with fail
                      refine AR.out.mono ?_
                      rintro e w6 ⟨rfl, hres⟩
                      have Ares := aside hres
                      clear hres AR
                      go_wp2_with fail
                      go_roundg gk
                      case measure => omega
                      case rel =>
                        refine ⟨i + 1, by omega, by first | rfl | simp, ?_⟩
                        rcases Ares.out with h1 | h1
                        · refine .inl ⟨by omega, ?_⟩
                          rw [flat_next Axi.out, ← Nat.add_assoc, ← Nat.add_assoc, ← Akx.out]
                          exact h1
                        · exact .inr h1
                    · have kdb : (xk == 1) = false := beq_eq_false_iff_ne.2 kd
                      by_cases kl : xk = 2
                      · have hxl : x.k = 2 := by have := Axk.out; omega
                        have hxlen := (ANm.out x AxS.out.1).2.1.1
                        obtain ⟨na, nc, hnc, -, -⟩ := ((AT.out.below r4_st AV4.out.bel).lnk x AxS.out.1 hxl).cells
                        obtain ⟨X, hX⟩ : ∃ X, X = ba x.x := ⟨_, rfl⟩
                        obtain ⟨xl, hxln⟩ : ∃ xl, xl = x.x.length := ⟨_, rfl⟩
                        rw [← hX, ← Axb.out] at hnc
                        have n2 : W4.cell? ⟨xb, 2, none⟩ = some (.string X) := by rw [cell_of_row W4 xb 2 _ _ _ hnc]; rfl
                        have AX := aside hX
                        have Axln := aside hxln
                        subst kl
                        clear hnc hX hxln hxk012
                        have AB6 := aside (below_dr W4)
                        have Alf : Aside (∀ f, dsc S f x.p = []) := AT.out.leaf AxS.out.1 (by have := Axk.out; omega)
                        have Aend : Aside (∀ (w5 : World) (a5 : Option Addr) (c5 : Nat), Dat w0.heap.size w5 a5 c5 x.x → Below W4.heap.size W4 w5 → w5.cell? ⟨g3, kx * 3 + 2, none⟩ = some (.slice none 0 0) ∧ w5.frozen? ⟨g3, kx * 3 + 2, none⟩ = false ∧ Aside (Wgi D w0 wb (kx + 1) (w5.setCell ⟨g3, kx * 3 + 2, none⟩ (.slice a5 xl c5)))) := fun w5 a5 c5 hd5 hb5 => by
                          have hc5 := (hb5.block g3 (Array.getElem?_eq_some_iff.1 AcurI.out).1).trans AcurI.out
                          have hV6 := AV4.out.data hb5 hd5
                          rw [Aml.out, ← Axln.out] at hV6
                          refine ⟨(hb5.cell (World.block_lt_of_cell? W4 _ Ad2.out)).trans Ad2.out, frozen_of_row w5 g3 _ _ _ hc5, _, _, u, hV6, ?_, ?_, hul, by omega, (List.getElem?_eq_some_iff.1 ADk.out.1).1⟩
                          · rw [List.map_append, Ams.out, List.take_add_one, List.map_append, ADk.out.1]
                            show _ ++ [((P, 2, x.x) : It)] = _ ++ [itOf 0 x]
                            unfold itOf
                            rw [List.drop_zero, ← APp.out, ← Axk.out]
                          · rw [Avz.out (by rw [Avd.out, if_neg (by omega)]), show used x = 0 by unfold used; rw [if_neg (by omega)], Nat.sub_zero]
                        go_wp2_with fail
                        go_region_law (refine step_str (w := W4.drew) rfl _ _ rfl rfl X x.x AX.out xl Axln.out rfl hxlen w0 AV4.out.bel.size ?_; intro a5 c5 w5 hd5 hb5; obtain ⟨q0, q1, q2⟩ := Aend.out w5 a5 c5 hd5 (below_tr AB6.out hb5); clear hd5 hb5)
                        all_goals (
                          go_wp2_with fail
                          go_roundg gk
                          case measure => omega
                          case rel =>
                            refine ⟨i + 1, by omega, by first | rfl | simp, .inl ⟨by omega, ?_⟩⟩
                            rw [flat_next Axi.out, Alf.out f, List.length_nil, Nat.add_zero, ← Nat.add_assoc, ← Akx.out]
                            exact q2.out)
                      · have klb : (xk == 2) = false := beq_eq_false_iff_ne.2 kl
                        by_cases kf : xk = 0
                        · skip
                          have hxf : x.k = 0 := by have := Axk.out; omega
                          obtain ⟨fb, hRc, hR4⟩ := AT.out.fil x AxS.out.1 hxf
                          have ARf : Aside (∀ V, Below w0.heap.size w0 V → R4 V fb x.x) := fun V hV => r4_st w0 V fb x.x hV.size (fun g hg _ => hV.block g hg) hR4
                          have AS := aside (fun V (hV : Below w0.heap.size w0 V) => r4Size_any (ARf.out V hV))
                          have AAl := aside (fun V (hV : Below w0.heap.size w0 V) => r4All_any (ARf.out V hV))
                          have An1 : Aside (∀ V, Below w0.heap.size w0 V → V.cell? ⟨xb, 1, none⟩ = some (Pt fb)) := fun V hV => by
                            obtain ⟨na, nc, hnc, -, -⟩ := (hRc.below hV).cells
                            rw [← Axb.out] at hnc
                            rw [cell_of_row V xb 1 _ _ _ hnc]; rfl
                          obtain ⟨xl, hxln⟩ : ∃ xl, xl = x.x.length := ⟨_, rfl⟩
                          rw [← hxln] at AS AAl
                          have hxlen : xl ≤ 4194304 := by rw [hxln]; exact (ANm.out x AxS.out.1).2.1.1
                          have Axln := aside hxln
                          have n1 := An1.out W4 AV4.out.bel
                          have u1 : W4.cell? ⟨wb, 1, none⟩ = some (.int .i64 (u : Int)) := by rw [cell_of_row W4 wb 1 _ _ _ AV4.out.cel]; rfl
                          have hws : IntKind.i64.wrap (4194304 - (u : Int)) = 4194304 - (u : Int) := by rw [IntKind.wrap_i64]; omega
                          have Alf : Aside (∀ f, dsc S f x.p = []) := AT.out.leaf AxS.out.1 (by omega)
                          have AB5 := aside (AV4.out.bel.trans ((below_dr W4).mono AV4.out.bel.size))
                          subst kf
                          clear hRc hR4 hxln hxk012 kl
                          go_upto_region 17 with fail
                          by_cases hroom : 4194304 - u < xl
                          · have r1 : (4194304 : Int) - (u : Int) < (xl : Int) := by omega
                            have Acode := aside (Avc.out 3 (by rw [Avd.out, if_pos ⟨hxf, by rw [← Axln.out]; exact hroom⟩]) (by decide))
                            go_cut [117] from 106 to 117 (fun s117 wx => s117 = .bool true ∧ Aside (Below W4.heap.size W4 wx))
                            case first =>
                              go_region_law (go_simp; refine (AS.out _ AB5.out).mono ?_; rintro e w1 ⟨rfl, rfl⟩)
                              all_goals
                                go_wp2_with fail
                                go_meet
                                exact ⟨by first | rfl | simp, below_dr W4⟩
                            case rest =>
                              rename World => W5
                              obtain ⟨rfl, hb5⟩ := hcut
                              have AV5 := aside (AV4.out.below hb5.out)
                              have v2 : W5.cell? ⟨wb, 2, none⟩ = some (.int .i64 0) := by rw [cell_of_row W5 wb 2 _ _ _ AV5.out.cel]; rfl
                              have v2f := frozen_of_row W5 wb 2 _ _ AV5.out.cel
                              clear hb5
                              go_wp2_with fail
                              refine bodyPost_ret (results_none rfl _ _ _) rfl ?_
                              exact ⟨rfl, .inr (AV5.out.bad Acode.out (by decide))⟩
                          · have r1 : ¬ (4194304 : Int) - (u : Int) < (xl : Int) := by omega
                            have hroom2 := hroom
                            have Aic2 := aside (Avz.out (by rw [Avd.out, if_neg (fun h => hroom (by rw [Axln.out]; exact h.2))]))
                            go_cut [117] from 106 to 117 (fun s117 wx => s117 = .bool false ∧ Aside (Below W4.heap.size W4 wx))
                            case first =>
                              go_region_law (go_simp; refine (AS.out _ AB5.out).mono ?_; rintro e w1 ⟨rfl, rfl⟩)
                              all_goals
                                go_wp2_with fail
                                go_meet
                                exact ⟨by first | rfl | simp; omega, below_dr W4⟩
                            case rest =>
                              rename World => W5
                              obtain ⟨rfl, hb5⟩ := hcut
                              have AV5 := aside (AV4.out.below hb5.out)
                              have Ak5 := aside ((hb5.out.block kb (Array.getElem?_eq_some_iff.1 Ak4.out).1).trans Ak4.out)
                              have k5 : W5.cell? ⟨kb, 1, none⟩ = some (Pt xb) := by rw [cell_of_row W5 kb 1 _ _ _ Ak5.out]; rfl
                              have n5 := An1.out W5 AV5.out.bel
                              have u5 : W5.cell? ⟨wb, 1, none⟩ = some (.int .i64 (u : Int)) := by rw [cell_of_row W5 wb 1 _ _ _ AV5.out.cel]; rfl
                              have u5f := frozen_of_row W5 wb 1 _ _ AV5.out.cel
                              have AB7 := aside (AV5.out.bel.trans ((below_dr W5).mono AV5.out.bel.size))
                              have hwu : IntKind.i64.wrap ((u : Int) + (xl : Int)) = ((u + xl : Nat) : Int) := by rw [wrap_small _ (by omega) (by omega)]; simp
                              obtain ⟨u2, hu2⟩ : ∃ u2, u2 = u + xl := ⟨_, rfl⟩
                              rw [← hu2] at hwu
                              have Au2 := aside hu2
                              have Aset : Aside (Wgo w0 (W5.drew.setCell ⟨wb, 1, none⟩ (.int .i64 (u2 : Int))) wb (.slice (some ⟨g3, 0, none⟩) (kx + 1) c3) (ms ++ [⟨P, 0, [], none, 0⟩]) u2 ∧ (W5.drew.setCell ⟨wb, 1, none⟩ (.int .i64 (u2 : Int))).heap[kb]? = some (.cells #[.string N, Pt xb] 132 (0, 0))) := by
                                refine ⟨(AV5.out.below (below_dr W5)).used u2, set_far (show W5.drew.heap[kb]? = _ from Ak5.out) (fun e => ?_)⟩
                                have := AV5.out.cel
                                rw [← e, Ak5.out] at this
                                injection this with this
                                injection this with _ this _
                                exact absurd this (by decide)
                              clear hb5 n1 u1 k1 p0 p1 d2 d2f hu2
                              go_upto_region 19 with fail
                              go_cut [] from 121 to 134 (fun wx => Aside (Wgo w0 wx wb (.slice (some ⟨g3, 0, none⟩) (kx + 1) c3) (ms ++ [⟨P, 0, [], none, 0⟩]) u2 ∧ wx.heap[kb]? = some (.cells #[.string N, Pt xb] 132 (0, 0))))
                              case first =>
                                go_region_law (go_simp; refine (AS.out _ AB7.out).mono ?_; rintro e w1 ⟨rfl, rfl⟩)
                                all_goals
                                  go_wp2_with fail
                                  go_meet
                                  exact Aset.out
                              case rest =>
                                rename World => W6
                                have A6 := aside hcut.out
                                have k6 : W6.cell? ⟨kb, 1, none⟩ = some (Pt xb) := by rw [cell_of_row W6 kb 1 _ _ _ A6.out.2]; rfl
                                have n6 := An1.out W6 A6.out.1.bel
                                have AAl6 := aside (AAl.out W6 A6.out.1.bel)
                                have Adata : Aside (∀ (w7 : World) (a7 : Option Addr) (c7 : Nat), w7.ownsRow 0 5 1 (.slice a7 xl c7) xl (bcells x.x) → (∀ k, (Value.slice a7 xl c7).ownBlock = some k → W6.heap.size ≤ k) → Below W6.heap.size W6 w7 →
                                    w7.cell? ⟨g3, kx * 3 + 2, none⟩ = some (.slice none 0 0) ∧ w7.frozen? ⟨g3, kx * 3 + 2, none⟩ = false ∧ (w7.setCell ⟨g3, kx * 3 + 2, none⟩ (.slice a7 xl c7)).cell? ⟨wb, 2, none⟩ = some (.int .i64 0) ∧ (w7.setCell ⟨g3, kx * 3 + 2, none⟩ (.slice a7 xl c7)).frozen? ⟨wb, 2, none⟩ = false ∧ Aside (Wgi D w0 wb (kx + 1) ((w7.setCell ⟨g3, kx * 3 + 2, none⟩ (.slice a7 xl c7)).setCell ⟨wb, 2, none⟩ (.int .i64 0)))) := fun w7 a7 c7 hr hb hbl => by
                                  have hV7 := A6.out.1.below hbl
                                  obtain ⟨cur7, hc7⟩ := row_tw hV7.row rfl
                                  have hrow := hV7.row
                                  have h1 : (ms ++ [(⟨P, 0, [], none, 0⟩ : Im)])[kx]? = some ⟨P, 0, [], none, 0⟩ := by rw [List.getElem?_append_right (by rw [Aml.out]; exact Nat.le_refl _), Aml.out, Nat.sub_self]; rfl
                                  have hd7 : w7.cell? ⟨g3, kx * 3 + 2, none⟩ = some (.slice none 0 0) := by
                                    have := hrow.cells (g := g3) rfl _ _ (ims_at h1).2.2
                                    rwa [Addr.add_lit, Nat.zero_add] at this
                                  have hD := A6.out.1.data hbl (Dat.of_row (lo := w0.heap.size) (by rw [Axln.out] at hr; exact hr) (fun k hk => by
                                    rw [← Axln.out] at hk
                                    have h2 := hb k hk
                                    have h3 := A6.out.1.bel.size
                                    omega))
                                  rw [Aml.out, ← Axln.out] at hD
                                  have hF := hD.fine
                                  refine ⟨hd7, frozen_of_row w7 g3 _ _ _ hc7, by rw [cell_of_row _ wb 2 _ _ _ hD.cel]; rfl, frozen_of_row _ wb 2 _ _ hD.cel, _, _, u2, hF, ?_, ?_, by rw [Au2.out]; omega, by omega, (List.getElem?_eq_some_iff.1 ADk.out.1).1⟩
                                  · rw [List.map_append, Ams.out, List.take_add_one, List.map_append, ADk.out.1]
                                    show _ ++ [((P, 0, x.x) : It)] = _ ++ [itOf 0 x]
                                    unfold itOf
                                    rw [List.drop_zero, ← APp.out, ← Axk.out]
                                  · rw [Aic2.out, show used x = xl by unfold used; rw [if_pos hxf, Axln.out], Au2.out, Nat.sub_sub]
                                clear hcut k5 n5 u5 u5f Aset
                                go_wp2_with fail
                                refine AAl6.out.mono ?_
                                rintro e w7 ⟨a7, c7, rfl, hr7, hb7, hbl7⟩
                                obtain ⟨q0, q1, q2, q3, q4⟩ := Adata.out w7 a7 c7 hr7 hb7 hbl7
                                clear hr7 hb7 hbl7 AAl6 Adata
                                go_wp2_with fail
                                go_roundg gk
                                case measure => omega
                                case rel =>
                                  refine ⟨i + 1, by omega, by first | rfl | simp, .inl ⟨by omega, ?_⟩⟩
                                  rw [flat_next Axi.out, Alf.out f, List.length_nil, Nat.add_zero, ← Nat.add_assoc, ← Akx.out]
                                  exact q4.out
                        · have kfb : (xk == 0) = false := beq_eq_false_iff_ne.2 kf
                          have hxm : x.k = 3 ∨ x.k = 4 := by have := Axk.out; omega
                          have hnx : (x.x = []) := (AT.out.mnt x AxS.out.1 hxm).1
                          have hI6 : Aside (Wgi D w0 wb (kx + 1) W4) := by
                            refine ⟨_, _, u, AV4.out, ?_, ?_, hul, by omega, (List.getElem?_eq_some_iff.1 ADk.out.1).1⟩
                            · rw [List.map_append, Ams.out, List.take_add_one, List.map_append, ADk.out.1]
                              show _ ++ [((P, xk, []) : It)] = _ ++ [itOf 0 x]
                              unfold itOf
                              rw [List.drop_zero, ← APp.out, ← Axk.out, hnx]
                            · rw [Avz.out (by rw [Avd.out, if_neg (by omega)]), show used x = 0 by unfold used; rw [if_neg (by omega)], Nat.sub_zero]
                          have Alf : Aside (∀ f, dsc S f x.p = []) := AT.out.leaf AxS.out.1 (by omega)
                          clear hxk012 hnx hxm
                          go_wp2_with fail
                          go_roundg gk
                          case measure => omega
                          case rel =>
                            refine ⟨i + 1, by omega, by first | rfl | simp, .inl ⟨by omega, ?_⟩⟩
                            rw [flat_next Axi.out, Alf.out f, List.length_nil, Nat.add_zero, ← Nat.add_assoc, ← Akx.out]
                            exact hI6.out
      · have AE := aside hE
        obtain ⟨hEb, hE0, v, u, hEc⟩ := hE
        obtain ⟨ic, hic⟩ : ∃ ic, ic = icode 0 D 0 4194304 := ⟨_, rfl⟩
        rw [← hic] at hE0 hEc
        have e2 : wr.cell? ⟨wb, 2, none⟩ = some (.int .i64 ic) := by rw [cell_of_row wr wb 2 _ _ _ hEc]; rfl
        have hib : (ic == 0) = false := beq_eq_false_iff_ne.2 hE0
        obtain ⟨a, c, c4, -⟩ := Aw0.out wr hEb
        clear hEb hE0 hEc hic
        by_cases hc : i < n
        · have hi : (i : Int) < (n : Int) := by omega
          go_wp2_with fail
          go_end0
          exact ⟨rfl, .inr AE.out⟩
        · have hi : ¬ (i : Int) < (n : Int) := by omega
          go_wp2_with fail
          go_end0
          exact ⟨rfl, .inr AE.out⟩
end Go.Proofs.YtbnaegoahdcejaaGreatDoor
