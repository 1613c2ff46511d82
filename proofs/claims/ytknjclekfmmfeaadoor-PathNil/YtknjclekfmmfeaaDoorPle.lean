/- A walk in memory: lead. -/
import Derived.Test.YtknjclekfmmfeaaDoorPld
namespace Go.Proofs.YtknjclekfmmfeaaDoor
open Go.RowKit Go.ChangeMaps Go.Shelf

/-- A cell of the walk's own is set: all else stays. -/
theorem wk_far {w : World} {wb : Nat} {cs : Array Value} (h1 : w.heap[wb]? = some (.cells cs 83 (0, 0))) (i : Nat) (v : Value) (g : Nat) (ds : Array Value) (T : TypeId) (hT : T ≠ 83) (hg : w.heap[g]? = some (Obj.cells ds T (0, 0))) : (w.setCell ⟨wb, i, none⟩ v).heap[g]? = w.heap[g]? := (set_far hg (other_block hg h1 hT)).trans hg.symm
theorem wk_below {w : World} {lo wb : Nat} {cs : Array Value} (h1 : w.heap[wb]? = some (.cells cs 83 (0, 0))) (hlo : lo ≤ wb) (i : Nat) (v : Value) : Below lo w (w.setCell ⟨wb, i, none⟩ v) :=
  (Upd.setCell (F := fun j => j = wb) (p := ⟨wb, i, none⟩) rfl _).below (by have := (Array.getElem?_eq_some_iff.1 h1).1; omega) (fun j hj => by omega)
theorem StAt.src {w : World} {lv : Value} {l : List B} (h : StAt w lv l) : SrcAt w lv l.length (l.map enS) := by
  obtain ⟨a, c, rfl, -, h⟩ := h
  refine ⟨a, c, rfl, fun h0 => ?_⟩
  obtain ⟨g, o, cs, rfl, h1, h2⟩ := h (fun e => by rw [e] at h0; simp at h0)
  refine ⟨_, rfl, fun j u hj => ?_⟩
  rw [List.getElem?_map, Option.map_eq_some_iff] at hj
  obtain ⟨x, hx, rfl⟩ := hj
  rw [Addr.add_lit, cell_of_row w g _ _ _ _ h1]
  exact h2 j x hx
theorem enS_one (l : List B) : ∀ u ∈ l.map enS, u.oneCell' = true := fun u hu => by
  obtain ⟨x, -, rfl⟩ := List.mem_map.1 hu
  rfl
theorem run_append_any {P : Program} (w : World) (t ty e : TypeId) (z : Value) (size bytes : Nat) (ht : P.underlying t = some (.slice e)) (hinfo : (P.info? e).map (fun i => (i.zero, i.size, i.bytes)) = some (some z, size, bytes))
    (hzs : z.cells.size = size) (hsz : 0 < size) (v : Value) (n : Nat) (xs : List Value) (hown : w.ownsRow 0 e size v n xs)
    (xv : Value) (m : Nat) (news : List Value) (hl : news.length = m * size) (hnews : SrcAt w xv m news) (h1 : ∀ u ∈ news, u.oneCell' = true)
    (h63 : n + m ≤ maxLen) (hbytes : (n + m) * bytes ≤ 140737488355328) :
    ∃ v' w', (Builtin.append_ #[t, t] ty #[v, xv]).run P w = .ok v' w' ∧ w'.ownsRow 0 e size v' (n + m) (xs ++ news) ∧ Upd (fun k => v.ownBlock = some k) w w' := by
  obtain ⟨xa, c, rfl, hsrc⟩ := hnews
  rcases Nat.eq_zero_or_pos m with rfl | hm
  · obtain rfl : news = [] := List.eq_nil_of_length_eq_zero (by rw [hl]; omega)
    obtain ⟨i, hi, -⟩ := info_parts hinfo
    obtain ⟨ba, cap, rfl, hnc⟩ := own_slice hown
    exact ⟨_, w, run_append_zero w t ty e i ht hi ba n cap hnc xa c, by simpa using hown, Upd.refl _ _⟩
  · obtain ⟨ad, rfl, hc⟩ := hsrc hm
    obtain ⟨v', w', hr, h2, h3, -⟩ := run_append_where (P := P) w t ty e z size bytes ht hinfo hzs hsz v n xs hown ad m c news hl hc h1 h63 hbytes hm
    exact ⟨v', w', hr, h2, Upd.of_grown h3 fun k hk => hk⟩
theorem step_append_any {ops : Array Oper} {o : Oper} {a : Act} {w : World} {K : Act → World → Prop} {Q : Exit → Act → World → Prop} {E : Prop} (hgd : o.guard = none) (s x : Operand) (t : TypeId)
    (ho : o.op = .call { callee := .builtin .append, args := #[s, x], argTypes := #[t, t] }) (e : TypeId) (z : Value) (size bytes : Nat) (ht : Tryd.prog.underlying t = some (.slice e)) (hinfo : (Tryd.prog.info? e).map (fun i => (i.zero, i.size, i.bytes)) = some (some z, size, bytes))
    (hzs : z.cells.size = size) (hsz : 0 < size) (v : Value) (n : Nat) (xs : List Value) (hs : a.eval s = v) (hown : w.ownsRow 0 e size v n xs)
    (xv : Value) (m : Nat) (news : List Value) (hx : a.eval x = xv) (hl : news.length = m * size) (hnews : SrcAt w xv m news) (h1 : ∀ u ∈ news, u.oneCell' = true)
    (h63 : n + m ≤ maxLen) (hbytes : (n + m) * bytes ≤ 140737488355328)
    (h : ∀ a' c' w', w'.ownsRow 0 e size (.slice a' (n + m) c') (n + m) (xs ++ news) → Upd (fun k => v.ownBlock = some k) w w' → K (a.put o.dst (.slice a' (n + m) c')) w') :
    if Region.wanted o (yielded ops a.tmps) = true then Oper.wp Tryd.prog o a w K Q else E := by
  have hw : Region.wanted o (yielded ops a.tmps) = true := by simp [Region.wanted, hgd]
  rw [if_pos hw]
  obtain ⟨v', w', hr, h2, h3⟩ := run_append_any (P := Tryd.prog) w t o.type e z size bytes ht hinfo hzs hsz v n xs hown xv m news hl hnews h1 h63 hbytes
  obtain ⟨a', c', rfl, -⟩ := own_slice h2
  unfold Oper.wp
  simp [execOp, ho, resolve, invoke, builtin, hs, hx, hr, Result.andThen]
  exact h a' c' w' h2 h3
/-- The parts of a link ahead of what is left. -/
theorem lead_end {w W w4 : World} {lo wb : Nat} {ad : Nat → Nat} {row : Row} {l p : List B} {n : Nat} {rv lv : Value} {ms : List Nat} (hlo : lo ≤ wb) (h1 : w.heap[wb]? = some (.cells #[rv, lv, .int .i64 (n : Int)] 83 (0, 0))) (h2 : RwAt w lo 78 rv (ms.map Pt)) (h3 : MsAt w ad ms row) {c3 : Nat} (hb : Below w.heap.size w W)
    {a' : Option Addr} {k' c' : Nat} (ho4 : w4.ownsRow 0 9 1 (.slice a' k' c') (p.length + l.length) (p.map enS ++ l.map enS)) (hu : Upd (fun k => (Value.slice (some ⟨w.heap.size, 0, none⟩) p.length c3).ownBlock = some k) W w4) :
    WkAt (w4.setCell ⟨wb, 1, none⟩ (.slice a' k' c')) lo wb ad row (p ++ l) n ∧ Below lo w (w4.setCell ⟨wb, 1, none⟩ (.slice a' k' c')) ∧ w4.cell? ⟨wb, 1, none⟩ = some lv ∧ w4.frozen? ⟨wb, 1, none⟩ = false := by
  have hwl := (Array.getElem?_eq_some_iff.1 h1).1
  have hf : ∀ (g : Nat) (cs : Array Value) (T : TypeId), w.heap[g]? = some (Obj.cells cs T (0, 0)) → w4.heap[g]? = w.heap[g]? := fun g cs T hg => by
    have hgl := (Array.getElem?_eq_some_iff.1 hg).1
    refine (hu.block g (by have := hb.size; omega) (fun e => ?_)).trans (hb.block g hgl)
    simp only [Value.ownBlock, Option.some.injEq] at e
    omega
  have j1 := (hf wb _ _ h1).trans h1
  refine ⟨⟨hlo, rv, _, ms, set_row j1 1 _, ?_, ?_, ?_⟩, ?_, ?_, frozen_of_row w4 wb 1 _ _ j1⟩
  · exact (h2.keep (fun g cs => hf g cs _)).keep (fun g cs => wk_far j1 1 _ g cs _ (by decide))
  · exact (h3.keep (fun g cs => hf g cs _)).keep (fun g cs => wk_far j1 1 _ g cs _ (by decide))
  · have : StAt w4 (.slice a' k' c') (p ++ l) := StAt.of_own (b := 0) (n := p.length + l.length) (by rw [List.map_append]; exact ho4)
    exact this.keep (fun g cs => wk_far j1 1 _ g cs _ (by decide))
  · refine ((hb.mono (by omega)).trans (hu.below (B := lo) (by have := hb.size; omega) (fun k hk => ?_))).trans (wk_below j1 hlo 1 _)
    simp only [Value.ownBlock, Option.some.injEq] at hk
    omega
  · rw [cell_of_row w4 wb 1 _ _ _ j1]; rfl
set_option maxRecDepth 20000 in
set_option maxHeartbeats 4000000 in
theorem lead_any {w : World} {lo wb : Nat} {ad : Nat → Nat} {row : Row} {l : List B} {n : Nat} {G : Gr} (h : WkAt w lo wb ad row l n) (hG : ∀ W, Below lo w W → GAt W G ad) (hM : ∀ W, Below lo w W → Mxl W) {i : Nat} (hi : i < G.length) (hk : (nk G i).k = 2) (hn : n ≤ 16) (hl : l.length ≤ 1000000) (hr : row ≠ []) :
    Calls Tryd.prog 42 #[Pt wb, Pt (ad i)] w fun e w' => e = .returned (.tuple #[]) ∧ WkAt w' lo wb ad (if abso (nk G i).to = true then row.take 1 else row) (prt (nk G i).to ++ l) (n + 1) ∧ Below lo w w' := by
  obtain ⟨hlo, rv, lv, ms, h1, h2, h3, h4⟩ := h
  have hwl := (Array.getElem?_eq_some_iff.1 h1).1
  obtain ⟨hto0, hto⟩ := to_at (hG w (Below.refl _ _)) hi hk
  have c2 : w.cell? ⟨wb, 2, none⟩ = some (.int .i64 (n : Int)) := by rw [cell_of_row w wb 2 _ _ _ h1]; rfl
  have f2 := frozen_of_row w wb 2 _ _ h1
  have hw1 : IntKind.i64.wrap ((n : Int) + 1) = (n : Int) + 1 := wrap_small _ (by omega) (by omega)
  obtain ⟨U, hU⟩ : ∃ U, U = w.setCell ⟨wb, 2, none⟩ (.int .i64 ((n : Int) + 1)) := ⟨_, rfl⟩
  have AW1 : Aside (WkAt U lo wb ad row l (n + 1)) := by
    rw [hU]
    exact ⟨hlo, rv, lv, ms, set_row h1 2 _, h2.keep (fun g cs => wk_far h1 2 _ g cs _ (by decide)), h3.keep (fun g cs => wk_far h1 2 _ g cs _ (by decide)), h4.keep (fun g cs => wk_far h1 2 _ g cs _ (by decide))⟩
  have AB1 : Aside (Below lo w U) := by rw [hU]; exact wk_below h1 hlo 2 _
  have AG := aside hG
  have AM := aside hM
  have hrl : 1 ≤ row.length := List.length_pos_iff.2 hr
  have hT : ∀ W, Below lo w W → Calls Tryd.prog 56 #[Pt (ad i)] W fun e w' => e = .returned (.tuple #[.string (ba (nk G i).to), .int .i64 0]) ∧ w' = W := fun W hW => leads_at (hG W hW) hi hk
  obtain ⟨to, hte⟩ : ∃ to, to = (nk G i).to := ⟨_, rfl⟩
  rw [← hte] at hT hto ⊢
  have AT := aside hT
  obtain ⟨r2, hr2⟩ : ∃ r2, r2 = if abso to = true then row.take 1 else row := ⟨_, rfl⟩
  have AR := aside hr2
  rw [← hr2]
  have hlw : lo ≤ w.heap.size := by omega
  obtain ⟨D, hD⟩ : ∃ D, D = ad i := ⟨_, rfl⟩
  rw [← hD] at AT ⊢
  clear h1 h2 h3 h4 hG hM hT hte hD hr2
  go_enter Tryd.func42, Tryd.ntmps42
  go_wp2_with fail
  rw [← hU]
  clear hU c2 f2 hw1 hwl
  refine (AT.out _ AB1.out).mono ?_
  rintro e w1 ⟨rfl, rfl⟩
  go_wp2_with fail
  refine (hasPrefix_any to _).mono ?_
  rintro e w1 ⟨rfl, rfl⟩
  clear AT
  cases ha : abso to with
  | true =>
    go_wp2_with fail
    refine (keep_any AW1.out 1 hrl).mono ?_
    rintro e w2 ⟨rfl, hk2, hb2⟩
    have AB2 := aside (AB1.out.trans hb2)
    have hsz := hb2.size
    obtain ⟨-, rv2, lv2, ms2, g1, g2, g3, g4⟩ := hk2
    have c1 : w2.cell? ⟨wb, 1, none⟩ = some lv2 := by rw [cell_of_row w2 wb 1 _ _ _ g1]; rfl
    have hwb2 := (Array.getElem?_eq_some_iff.1 g1).1
    have A1 := aside g1
    have A2 := aside g2
    have A3 := aside g3
    have A4 := aside g4
    have hM2 : Mxl w2.drew := AM.out _ (AB2.out.trans ((below_dr w2).mono (by omega)))
    have AMX := aside hM2
    have hpl := prt_len to
    have APL := aside hpl
    clear g1 g2 g3 g4 hM2 hpl
    go_wp2_with fail
    obtain ⟨kp, hkp⟩ : ∃ kp, kp = (prt to).length := ⟨_, rfl⟩
    have AP : Aside (∀ W, Mxl W → Calls Tryd.prog 16 #[.string (ba to)] W fun e w' => ∃ c, e = .returned (.slice (some ⟨W.heap.size, 0, none⟩) kp c) ∧ Below W.heap.size W w' ∧ w'.ownsRow 0 9 1 (.slice (some ⟨W.heap.size, 0, none⟩) kp c) kp ((prt to).map enS)) := fun W hW => by rw [hkp]; exact parts_any to W hW hto
    have AKP := aside hkp
    clear hkp
    go_region_law (first
      | (refine step_append_any (w := w3) rfl _ _ 38 rfl 9 (.string ByteArray.empty) 1 16 Tryd.underlying38 infoS rfl (by omega) (.slice (some ⟨w2.heap.size, 0, none⟩) kp c3) kp ((prt to).map enS) rfl AO3.out lv2 l.length (l.map enS) rfl (by simp) (StAt.src (A4.out.keep (fun g _ hg => AB3.out.block g (Array.getElem?_eq_some_iff.1 hg).1))) (enS_one l) (by have h1 := APL.out; have h2 := AKP.out; unfold maxLen; omega) (by have h1 := APL.out; have h2 := AKP.out; omega) ?_; intro a4 c4 w4 ho4 hu4; obtain ⟨hW4, hB4, k4, hf4⟩ := lead_end hlo A1.out A2.out A3.out (below_tr (below_dr w2) AB3.out) (p := prt to) (l := l) (c3 := c3) (by rw [← AKP.out]; exact ho4) (by rw [← AKP.out]; exact hu4); have AW4 := aside hW4; have AB4 := aside hB4; clear ho4 hu4 hW4 hB4)
      | (go_simp; refine (AP.out _ AMX.out).mono ?_; rintro e w3 ⟨c3, rfl, hb3, ho3⟩; have k1 : w3.cell? ⟨wb, 1, none⟩ = some lv2 := (hb3.cell (p := ⟨wb, 1, none⟩) hwb2).trans c1; have AB3 := aside hb3; have AO3 := aside ho3; clear hb3 ho3))
    all_goals (go_wp2_with fail)
    all_goals go_end0
    all_goals exact ⟨rfl, by rw [AR.out, ha]; exact AW4.out, AB2.out.trans AB4.out⟩
  | false =>
    obtain ⟨w2, hw2⟩ : ∃ w2, w2 = w1 := ⟨_, rfl⟩
    rw [← hw2] at AW1 AB1 ⊢
    clear hw2
    have AB2 := aside AB1.out
    have hsz := AB1.out.size
    obtain ⟨-, rv2, lv2, ms2, g1, g2, g3, g4⟩ := AW1.out
    have c1 : w2.cell? ⟨wb, 1, none⟩ = some lv2 := by rw [cell_of_row w2 wb 1 _ _ _ g1]; rfl
    have hwb2 := (Array.getElem?_eq_some_iff.1 g1).1
    have A1 := aside g1
    have A2 := aside g2
    have A3 := aside g3
    have A4 := aside g4
    have hM2 : Mxl w2.drew := AM.out _ (AB2.out.trans ((below_dr w2).mono (by omega)))
    have AMX := aside hM2
    have hpl := prt_len to
    have APL := aside hpl
    clear g1 g2 g3 g4 hM2 hpl
    go_wp2_with fail
    obtain ⟨kp, hkp⟩ : ∃ kp, kp = (prt to).length := ⟨_, rfl⟩
    have AP : Aside (∀ W, Mxl W → Calls Tryd.prog 16 #[.string (ba to)] W fun e w' => ∃ c, e = .returned (.slice (some ⟨W.heap.size, 0, none⟩) kp c) ∧ Below W.heap.size W w' ∧ w'.ownsRow 0 9 1 (.slice (some ⟨W.heap.size, 0, none⟩) kp c) kp ((prt to).map enS)) := fun W hW => by rw [hkp]; exact parts_any to W hW hto
    have AKP := aside hkp
    clear hkp
    go_region_law (first
      | (refine step_append_any (w := w3) rfl _ _ 38 rfl 9 (.string ByteArray.empty) 1 16 Tryd.underlying38 infoS rfl (by omega) (.slice (some ⟨w2.heap.size, 0, none⟩) kp c3) kp ((prt to).map enS) rfl AO3.out lv2 l.length (l.map enS) rfl (by simp) (StAt.src (A4.out.keep (fun g _ hg => AB3.out.block g (Array.getElem?_eq_some_iff.1 hg).1))) (enS_one l) (by have h1 := APL.out; have h2 := AKP.out; unfold maxLen; omega) (by have h1 := APL.out; have h2 := AKP.out; omega) ?_; intro a4 c4 w4 ho4 hu4; obtain ⟨hW4, hB4, k4, hf4⟩ := lead_end hlo A1.out A2.out A3.out (below_tr (below_dr w2) AB3.out) (p := prt to) (l := l) (c3 := c3) (by rw [← AKP.out]; exact ho4) (by rw [← AKP.out]; exact hu4); have AW4 := aside hW4; have AB4 := aside hB4; clear ho4 hu4 hW4 hB4)
      | (go_simp; refine (AP.out _ AMX.out).mono ?_; rintro e w3 ⟨c3, rfl, hb3, ho3⟩; have k1 : w3.cell? ⟨wb, 1, none⟩ = some lv2 := (hb3.cell (p := ⟨wb, 1, none⟩) hwb2).trans c1; have AB3 := aside hb3; have AO3 := aside ho3; clear hb3 ho3))
    all_goals (go_wp2_with fail)
    all_goals go_end0
    all_goals exact ⟨rfl, by rw [AR.out, ha]; exact AW4.out, AB2.out.trans AB4.out⟩
end Go.Proofs.YtknjclekfmmfeaaDoor
