/- The document's walk: one part. The document's walk: a part that is a name. The document's walk: over all parts. -/
import Derived.Test.YtknjclekfmmfeaaGreatDoorQWa
import Derived.BigRegion
namespace Go.Proofs.YtknjclekfmmfeaaGreatDoor
open Go.RowKit Go.ChangeMaps Go.Shelf

theorem elemR : Tryz.prog.underlying 30 = some (.slice (Tryz.prog.elem 30)) := by kernel_rfl
theorem sizeR (w : World) : (sizeOf (Tryz.prog.elem 30)).run Tryz.prog w = .ok 1 w := by kernel_rfl
theorem slice_hR (a : Option Addr) (n c j : Nat) (hj : j ≤ c) :
    ∀ W, (Instr.slice 30 (.slice a n c) none (some (.int .i64 (j : Int))) none).run Tryz.prog W = .ok (.slice a j c) W := by
  intro W
  rw [run_slice_h W 30 a n c elemR .i64 _ (by omega) (by omega), sizeR]
  simp only [Result.andThen, sliced, Int.toNat_natCast, Nat.sub_zero, Nat.zero_mul]
  have e : (if c = 0 then a else a.map fun x => x.add 0) = a := by
    split
    · rfl
    · cases a with
      | none => rfl
      | some x => simp [Addr.add]
  rw [e]
theorem PrAt.cell {w : World} {v : Value} {l : List Nat} (h : PrAt w v l) (hl : l ≠ []) : ∃ g o c, v = .slice (some ⟨g, o, none⟩) l.length c ∧ l.length ≤ c ∧ g < w.heap.size ∧ ∀ (j x : Nat), l[j]? = some x → w.cell? ⟨g, o + j, none⟩ = some (Pt x) := by
  obtain ⟨a, c, e, hc, h⟩ := h
  obtain ⟨g, o, cs, rfl, h1, h2⟩ := h hl
  exact ⟨g, o, c, e, hc, (Array.getElem?_eq_some_iff.1 h1).1, fun j x hj => by rw [cell_of_row w g _ _ _ _ h1]; exact h2 j x hj⟩
/-- A way that goes back, its row told anew. -/
theorem wy_back {S : List Ne} {w : World} {lo wb : Nat} {row : Row} {n : Nat} {la : B} (hne : row ≠ []) (hin : ∀ p ∈ row, p.2 < S.length) (hd : ∀ p ∈ row, (nk (gr S) p.2).k = 1) (h1 : 2 ≤ row.length) (h : WyAt w lo wb (rbs S row) (row.tail.map (·.1)) (rbr S (lst row)) la n) :
    ∃ g o c a' c', w.cell? ⟨wb, 0, none⟩ = some (.slice (some ⟨g, o, none⟩) row.length c) ∧ row.length ≤ c ∧ w.frozen? ⟨wb, 0, none⟩ = false ∧ w.cell? ⟨wb, 1, none⟩ = some (.slice a' (row.length - 1) c') ∧ wb ≠ g ∧ w.cell? ⟨g, o + (row.length - 1 - 1), none⟩ = some (Pt (rbr S (lst (row.take (row.length - 1))))) ∧ (∀ j, w.frozen? ⟨wb, j, none⟩ = false) ∧
      ∃ U, U = (w.setCell ⟨wb, 0, none⟩ (.slice (some ⟨g, o, none⟩) (row.length - 1) c)).drew ∧ U.cell? ⟨wb, 1, none⟩ = some (.slice a' (row.length - 1) c') ∧ row.length - 1 ≤ c' ∧ U.frozen? ⟨wb, 1, none⟩ = false ∧
      ∃ V, V = (U.setCell ⟨wb, 1, none⟩ (.slice a' (row.length - 1 - 1) c')).drew ∧ V.cell? ⟨wb, 0, none⟩ = some (.slice (some ⟨g, o, none⟩) (row.length - 1) c) ∧ V.cell? ⟨g, o + (row.length - 1 - 1), none⟩ = some (Pt (rbr S (lst (row.take (row.length - 1))))) ∧ (∃ u, V.cell? ⟨wb, 2, none⟩ = some u) ∧ V.frozen? ⟨wb, 2, none⟩ = false ∧
      Wyr S (V.setCell ⟨wb, 2, none⟩ (Pt (rbr S (lst (row.take (row.length - 1)))))) lo wb (row.take (row.length - 1)) n ∧ Below lo w (V.setCell ⟨wb, 2, none⟩ (Pt (rbr S (lst (row.take (row.length - 1)))))) ∧ Kst w (V.setCell ⟨wb, 2, none⟩ (Pt (rbr S (lst (row.take (row.length - 1)))))) := by
  have hrl : (rbs S row).length = row.length := by unfold rbs; rw [List.length_map]
  have hnl : (row.tail.map (·.1)).length = row.length - 1 := by rw [List.length_map, List.length_tail]
  have hne2 : rbs S row ≠ [] := fun e => by rw [e] at hrl; simp at hrl; omega
  obtain ⟨hlo, rv, nv, h0, hp, hs⟩ := id h
  obtain ⟨g, o, c, rfl, hc, -, hgc⟩ := hp.cell hne2
  have hgw : wb ≠ g := by
    obtain ⟨a9, c9, e9, -, h9⟩ := id hp
    obtain ⟨g9, o9, cs9, ea, h91, -⟩ := h9 hne2
    rw [ea] at e9
    injection e9 with e1
    simp only [Option.some.injEq, Addr.mk.injEq, and_true] at e1
    rw [e1.1]
    exact other_block h0 h91 (by decide)
  obtain ⟨a', c', rfl, hc', -⟩ := id hs
  rw [hrl] at h0 hp hc
  rw [hnl] at h0 hs hc'
  obtain ⟨a1, c1, e9, -, p1⟩ := hp.cut (row.length - 1) (by omega)
  rw [hrl] at e9
  injection e9 with e1 e2 e3
  subst e1 e3
  obtain ⟨a2, c2, e9, -, p2⟩ := hs.cutk (row.length - 1 - 1) (by omega)
  rw [hnl] at e9
  injection e9 with e1 e2 e3
  subst e1 e3
  obtain ⟨q1, q2⟩ := h.set0 p1
  have hlt := (Array.getElem?_eq_some_iff.1 h0).1
  obtain ⟨U, hU⟩ : ∃ U, U = (w.setCell ⟨wb, 0, none⟩ (.slice (some ⟨g, o, none⟩) (row.length - 1) c)).drew := ⟨_, rfl⟩
  have hUh : U.heap = (w.setCell ⟨wb, 0, none⟩ (.slice (some ⟨g, o, none⟩) (row.length - 1) c)).heap := by rw [hU]; rfl
  have q1d : WyAt U lo wb ((rbs S row).take (row.length - 1)) (row.tail.map (·.1)) (rbr S (lst row)) la n := by rw [hU]; exact q1.below (below_dr _)
  have q2d : Below lo w U := by rw [hU]; exact q2.trans ((below_dr _).mono (by simp; omega))
  have u0 := set_row h0 0 (.slice (some ⟨g, o, none⟩) (row.length - 1) c)
  rw [← hUh] at u0
  have p2' : StAt U _ _ := p2.keep (fun g' cs hg => by rw [hUh]; exact wy_far h0 0 (.slice (some ⟨g, o, none⟩) (row.length - 1) c) g' cs _ (by decide) hg)
  have p1d : PrAt U _ _ := p1.keep (fun g' cs hg => by rw [hUh]; exact wy_far h0 0 (.slice (some ⟨g, o, none⟩) (row.length - 1) c) g' cs _ (by decide) hg)
  obtain ⟨q3, q4⟩ := q1d.set1 p2'
  obtain ⟨V, hV⟩ : ∃ V, V = (U.setCell ⟨wb, 1, none⟩ (.slice a' (row.length - 1 - 1) c')).drew := ⟨_, rfl⟩
  have hVh : V.heap = (U.setCell ⟨wb, 1, none⟩ (.slice a' (row.length - 1 - 1) c')).heap := by rw [hV]; rfl
  have hltU := (Array.getElem?_eq_some_iff.1 u0).1
  have q3d : WyAt V lo wb ((rbs S row).take (row.length - 1)) ((row.tail.map (·.1)).take (row.length - 1 - 1)) (rbr S (lst row)) la n := by rw [hV]; exact q3.below (below_dr _)
  have q4d : Below lo U V := by rw [hV]; exact q4.trans ((below_dr _).mono (by simp; omega))
  have v0 := set_row u0 1 (.slice a' (row.length - 1 - 1) c')
  rw [← hVh] at v0
  have p1' : PrAt V _ _ := p1d.keep (fun g' cs hg => by rw [hVh]; exact wy_far u0 1 (.slice a' (row.length - 1 - 1) c') g' cs _ (by decide) hg)
  have hm1 : max (row.length - 1) 1 = row.length - 1 := by omega
  have htl : (row.take (row.length - 1)).length = row.length - 1 := by rw [List.length_take]; omega
  have htn : row.take (row.length - 1) ≠ [] := fun e => by rw [e] at htl; simp at htl; omega
  have hlast := rbs_last (S := S) htn
  rw [htl, show rbs S (row.take (row.length - 1)) = (rbs S row).take (row.length - 1) by unfold rbs; rw [List.map_take]] at hlast
  obtain ⟨g2, o2, c2, e9, -, -, hcell⟩ := p1'.cell (fun e => by rw [e] at hlast; simp at hlast)
  injection e9 with e1 e2 e3
  simp only [Option.some.injEq, Addr.mk.injEq, and_true] at e1
  obtain ⟨rfl, rfl⟩ := e1
  have hl0 : (rbs S row)[row.length - 1 - 1]? = some (rbr S (lst (row.take (row.length - 1)))) := by
    rw [List.getElem?_take] at hlast
    split at hlast
    · exact hlast
    · cases hlast
  obtain ⟨q5, q6⟩ := q3d.set2 (rbr S (lst (row.take (row.length - 1))))
  refine ⟨g, o, c, a', c', by rw [cell_of_row w wb 0 _ _ _ h0]; rfl, hc, frozen_of_row w wb 0 _ _ h0, by rw [cell_of_row w wb 1 _ _ _ h0]; rfl, hgw, hgc _ _ hl0, fun j => frozen_of_row w wb j _ _ h0, U, hU, by rw [cell_of_row _ wb 1 _ _ _ u0]; rfl, hc', frozen_of_row _ wb 1 _ _ u0, V, hV, by rw [cell_of_row _ wb 0 _ _ _ v0]; rfl, hcell _ _ hlast, ⟨_, by rw [cell_of_row _ wb 2 _ _ _ v0]; rfl⟩, frozen_of_row _ wb 2 _ _ v0, wyr_cut (la := la) hne hin hd (by omega) q5, (q2d.trans q4d).trans q6, ?_⟩
  refine Kst.trans (w2 := U) ?_ (Kst.trans (w2 := V) ?_ (q3d.kst 2 _))
  · rw [hU]; exact (h.kst 0 _).trans (kst_below (below_dr _))
  · rw [hV]; exact (q1d.kst 1 _).trans (kst_below (below_dr _))
theorem partP_no {S : List Ne} {w w' : World} {lo wb : Nat} {r : Row} {m : List B} {k : Nat} {v : Value} {c : Int} (hc : c ≠ 0) (b : Below lo w w') (hK : Kst w w') : PartP S w lo wb (c, r, m, k) (.returned (.tuple #[v, .int .i64 c])) w' := ⟨v, rfl, fun h => absurd h hc, b, hK⟩
theorem partP_yes {S : List Ne} {w w' : World} {lo wb : Nat} {r : Row} {m : List B} {k n : Nat} {v : Value} (hst : StAt w' v m) (hn : 16 - k = n) (h : Wyr S w' lo wb r n) (b : Below lo w w') (hK : Kst w w') : PartP S w lo wb (0, r, m, k) (.returned (.tuple #[v, .int .i64 0])) w' := ⟨v, rfl, fun _ => ⟨hst, by show Wyr S w' lo wb r (16 - k); rw [hn]; exact h⟩, b, hK⟩
theorem wyr_drew {S : List Ne} {w w' : World} {lo wb : Nat} {row : Row} {n : Nat} (h : Wyr S w' lo wb row n) (b : Below lo w w') (hK : Kst w w') : Wyr S w'.drew lo wb row n ∧ Below lo w w'.drew ∧ Kst w w'.drew := by
  refine ⟨h.below (below_dr _), b.trans ((below_dr _).mono ?_), hK.trans (kst_below (below_dr _))⟩
  obtain ⟨ds, ns, la, hW, -, -⟩ := h.loc
  obtain ⟨a, c, a', c', -, -, -, -, -, -, hlt, -⟩ := hW.cel
  have := hW.1
  omega
theorem nk_of {S : List Ne} {i : Nat} {e : Ne} (h : S[i]? = some e) : (nk (gr S) i).k = e.k ∧ (nk (gr S) i).L = e.L ∧ (nk (gr S) i).to = e.to ∧ (nk (gr S) i).u = e.u := by rw [gr_of h]; exact ⟨rfl, rfl, rfl, rfl⟩
set_option maxRecDepth 20000 in
set_option maxHeartbeats 8000000 in
/-- The part that stands at no directory. -/
theorem rpart_notdir {w : World} {lo lo0 wb : Nat} {S : List Ne} {row : Row} {n : Nat} (h : Wyr S w lo wb row n) (hR : RX lo0 w S) (x : B) (f : Bool) (hk : (nk (gr S) (lst row)).k ≠ 1) :
    Calls Tryz.prog 65 #[Pt wb, .string (ba x), .bool f] w fun e w' => PartP S w lo wb (stp (gr S) f (16 - n) x row) e w' := by
  rw [stp_notdir f _ x hk]
  obtain ⟨e0, he0⟩ : ∃ e, S[lst row]? = some e := ⟨_, List.getElem?_eq_getElem (lst_lt h)⟩
  obtain ⟨ds, ns, la, hW, -, -⟩ := h.loc
  obtain ⟨a, c, a', c', -, -, k2, -, -, -, -, -, -, -, -⟩ := hW.cel
  obtain ⟨t0, -, -, -⟩ := hR.cel he0
  rw [rbr_of he0] at k2
  rw [(nk_of he0).1] at hk
  obtain ⟨X, hX⟩ : ∃ X, X = ba x := ⟨_, rfl⟩
  rw [← hX]
  obtain ⟨kd, hkd⟩ : ∃ kd, kd = e0.k := ⟨_, rfl⟩
  obtain ⟨ab, hab⟩ : ∃ ab, ab = e0.rb := ⟨_, rfl⟩
  rw [← hkd] at t0 hk
  rw [← hab] at t0 k2
  have hkb : (kd == 1) = false := beq_eq_false_iff_ne.2 hk
  clear hX hkd hab he0 hW h hR
  go_enter Tryz.func65, Tryz.ntmps65
  go_wp2_with fail
  go_ret2
  exact partP_no (by decide) (Below.refl _ _) (Kst.refl _)
set_option maxRecDepth 20000 in
set_option maxHeartbeats 8000000 in
/-- The part that goes back. -/
theorem rpart_dd {w : World} {lo lo0 wb : Nat} {S : List Ne} {row : Row} {n : Nat} (h : Wyr S w lo wb row n) (hR : RX lo0 w S) (hn : n ≤ 16) (hrl : row.length ≤ 200000) (f : Bool) (hk : (nk (gr S) (lst row)).k = 1) :
    Calls Tryz.prog 65 #[Pt wb, .string (ba dd), .bool f] w fun e w' => PartP S w lo wb (stp (gr S) f (16 - n) dd row) e w' := by
  rw [stp_dd f _ hk]
  obtain ⟨e0, he0⟩ : ∃ e, S[lst row]? = some e := ⟨_, List.getElem?_eq_getElem (lst_lt h)⟩
  obtain ⟨⟨la, hW⟩, hdr⟩ := h.dirs hk
  obtain ⟨a, c, a', c', k0, k1, k2, -, -, hfz, -, hp, -, hc, -⟩ := hW.cel
  obtain ⟨t0, -, -, -⟩ := hR.cel he0
  rw [(nk_of he0).1] at hk
  rw [hk] at t0
  have hrb := rbr_of he0
  rw [hrb] at k2
  have hrl2 : (rbs S row).length = row.length := by unfold rbs; rw [List.length_map]
  have hnl : (row.tail.map (·.1)).length = row.length - 1 := by rw [List.length_map, List.length_tail]
  rw [hrl2] at k0 hp hc
  rw [hnl] at k1
  have hpos : 0 < row.length := List.length_pos_iff.2 h.ne
  obtain ⟨X, hX⟩ : ∃ X, X = ba dd := ⟨_, rfl⟩
  have hq1 : (X.toList == [46, 46]) = true := by rw [hX, Lib.toList_data, ba_list]; rfl
  rw [← hX]
  obtain ⟨ab, hab⟩ : ∃ ab, ab = e0.rb := ⟨_, rfl⟩
  rw [← hab] at t0 k2
  by_cases h1 : row.length = 1
  · have hm : max (row.length - 1) 1 = 1 := by omega
    rw [hm]
    have htk : row.take 1 = row := List.take_of_length_le (by omega)
    rw [htk]
    rw [h1] at k0 k1 hp hc
    obtain ⟨g, o, c9, e9, -, -, hcell⟩ := hp.cell (fun e => by rw [e] at hrl2; simp at hrl2; omega)
    rw [hrl2, h1] at e9
    injection e9 with e1 e2 e3
    subst e1 e3
    have hl := rbs_last (S := S) h.ne
    rw [h1, hrb, ← hab] at hl
    have hc0 := hcell _ _ hl
    simp only [Nat.sub_self, Nat.add_zero] at hc0 k1
    have f2 := hfz 2
    obtain ⟨q1, q2⟩ := hW.set2 ab
    have AW : Aside (Wyr S (w.setCell ⟨wb, 2, none⟩ (Pt ab)) lo wb row n) := wyr_dir h.ne h.inn hdr (by rw [hrb, ← hab]; exact q1)
    have AB := aside q2
    have AK := aside (hW.kst 2 (Pt ab))
    have hw0 : IntKind.i64.wrap ((1 : Int) - 1) = 0 := rfl
    clear hX hab he0 hW h hR hp hcell hl q1 q2 hdr hfz hrb
    go_enter Tryz.func65, Tryz.ntmps65
    go_wp2_with fail
    go_region
    all_goals go_wp2_with fail
    obtain ⟨r1, r2, r3⟩ := wyr_drew AW.out AB.out AK.out
    go_ret2
    exact partP_yes (st_nil _) (by omega) r1 r2 r3
  · have hm : max (row.length - 1) 1 = row.length - 1 := by omega
    rw [hm]
    obtain ⟨g, o, c, a', c', m0, hc, f0, m1w, hgw, wc0, hfa, U, hU, m1, hc', f1, V, hV, n0, n1, ⟨u2, n2⟩, f2, r1, r2, r3⟩ := wy_back h.ne h.inn hdr (by omega) hW
    have AR1 := aside r1
    have AR2 := aside r2
    have AR3 := aside r3
    obtain ⟨R, hRo⟩ : ∃ R, R = row.take (row.length - 1) := ⟨_, rfl⟩
    rw [← hRo] at n1 wc0 AR1 AR2 AR3 ⊢
    obtain ⟨ac, hac⟩ : ∃ ac, ac = rbr S (lst R) := ⟨_, rfl⟩
    rw [← hac] at n1 wc0 AR1 AR2 AR3
    obtain ⟨q, hq⟩ : ∃ q, q = row.length - 2 := ⟨_, rfl⟩
    rw [show row.length - 1 - 1 = q by omega] at hV n1 wc0
    rw [show row.length - 1 = q + 1 by omega] at hU m1 hc' n0 m1w
    rw [show row.length = q + 2 by omega] at m0 hc
    have fa1 := hfa 1
    have fa2 := hfa 2
    rw [hV, hU] at AR1 AR2 AR3
    clear hU hV m1 f1 n0 n1 n2 f2 hfa
    have hqr : q + 2 ≤ 200000 := by omega
    clear hq h1 hpos hrl
    have hq0 : (0 : Int) < ((q + 1 : Nat) : Int) := by omega
    have hw1 : IntKind.i64.wrap (((q + 2 : Nat) : Int) - 1) = ((q + 1 : Nat) : Int) := by rw [wrap_small _ (by omega) (by omega)]; omega
    have hw2 : IntKind.i64.wrap (((q + 1 : Nat) : Int) - 1) = (q : Int) := by rw [wrap_small _ (by omega) (by omega)]; omega
    have hwq : IntKind.i64.wrap (q : Int) = (q : Int) := wrap_small _ (by omega) (by omega)
    have hwq1 : IntKind.i64.wrap ((q : Int) + 1) = (q : Int) + 1 := wrap_small _ (by omega) (by omega)
    have hsl1 := slice_hR (some ⟨g, o, none⟩) (q + 2) c (q + 1) (by omega)
    have hsl2 := slice_hS a' (q + 1) c' q (by omega)
    have hi0 : (0 : Int) ≤ (q : Int) := by omega
    have hi1 : (q : Int) < ((q + 1 : Nat) : Int) := by omega
    clear hX hab he0 hW h hR hp hdr hfz hrb r1 r2 r3 hRo hac k0 k1 hnl hrl2 hm
    go_enter Tryz.func65, Tryz.ntmps65
    go_wp2_with fail
    go_region
    go_wp2_with fail
    go_region
    go_wp2_with fail
    go_region
    go_wp2_with fail
    obtain ⟨r1, r2, r3⟩ := wyr_drew AR1.out AR2.out AR3.out
    go_ret2
    exact partP_yes (st_nil _) (by omega) r1 r2 r3
end Go.Proofs.YtknjclekfmmfeaaGreatDoor

namespace Go.Proofs.YtknjclekfmmfeaaGreatDoor
open Go.RowKit Go.ChangeMaps Go.Shelf

theorem Wyr.bnd {S : List Ne} {w : World} {lo wb : Nat} {row : Row} {n : Nat} (h : Wyr S w lo wb row n) : lo ≤ w.heap.size := by
  obtain ⟨ds, ns, la, hW, -, -⟩ := h.loc
  obtain ⟨a, c, a', c', -, -, -, -, -, -, hlt, -⟩ := hW.cel
  have := hW.1
  omega
/-- A way that begins at its root again, one link more behind it. -/
theorem wy_top {S : List Ne} {w : World} {lo wb : Nat} {row : Row} {n : Nat} {la : B} (hne : row ≠ []) (hin : ∀ p ∈ row, p.2 < S.length) (hd : ∀ p ∈ row, (nk (gr S) p.2).k = 1) (h : WyAt w lo wb (rbs S row) (row.tail.map (·.1)) (rbr S (lst row)) la n) :
    ∃ g o c r0, w.cell? ⟨wb, 0, none⟩ = some (.slice (some ⟨g, o, none⟩) row.length c) ∧ 1 ≤ c ∧ wb ≠ g ∧ w.cell? ⟨g, o, none⟩ = some (Pt r0) ∧
      Wyr S ((((w.setCell ⟨wb, 4, none⟩ (.int .i64 ((n + 1 : Nat) : Int))).setCell ⟨wb, 0, none⟩ (.slice (some ⟨g, o, none⟩) 1 c)).setCell ⟨wb, 1, none⟩ (.slice none 0 0)).setCell ⟨wb, 2, none⟩ (Pt r0)) lo wb (row.take 1) (n + 1) ∧
      Below lo w ((((w.setCell ⟨wb, 4, none⟩ (.int .i64 ((n + 1 : Nat) : Int))).setCell ⟨wb, 0, none⟩ (.slice (some ⟨g, o, none⟩) 1 c)).setCell ⟨wb, 1, none⟩ (.slice none 0 0)).setCell ⟨wb, 2, none⟩ (Pt r0)) ∧ Kst w ((((w.setCell ⟨wb, 4, none⟩ (.int .i64 ((n + 1 : Nat) : Int))).setCell ⟨wb, 0, none⟩ (.slice (some ⟨g, o, none⟩) 1 c)).setCell ⟨wb, 1, none⟩ (.slice none 0 0)).setCell ⟨wb, 2, none⟩ (Pt r0)) := by
  have hrl : (rbs S row).length = row.length := by unfold rbs; rw [List.length_map]
  have hpos : 0 < row.length := List.length_pos_iff.2 hne
  have hne2 : rbs S row ≠ [] := fun e => by rw [e] at hrl; simp at hrl; omega
  obtain ⟨hlo, rv, nv, h0, hp, hs⟩ := id h
  obtain ⟨g, o, c, rfl, hc, -, hgc⟩ := hp.cell hne2
  have hgw : wb ≠ g := by
    obtain ⟨a9, c9, e9, -, h9⟩ := id hp
    obtain ⟨g9, o9, cs9, ea, h91, -⟩ := h9 hne2
    rw [ea] at e9
    injection e9 with e1
    simp only [Option.some.injEq, Addr.mk.injEq, and_true] at e1
    rw [e1.1]
    exact other_block h0 h91 (by decide)
  rw [hrl] at h0 hp hc
  obtain ⟨p0, hp0⟩ : ∃ p, row[0]? = some p := ⟨_, List.getElem?_eq_getElem hpos⟩
  have hr0 : (rbs S row)[0]? = some (rbr S p0.2) := by unfold rbs; rw [List.getElem?_map, hp0]; rfl
  have ht1 : row.take 1 = [p0] := by
    cases row with
    | nil => exact absurd rfl hne
    | cons p r => simp at hp0; rw [hp0]; rfl
  obtain ⟨a1, c1, e9, -, p1⟩ := hp.cut 1 (by omega)
  rw [hrl] at e9
  injection e9 with e1 e2 e3
  subst e1 e3
  obtain ⟨s1, b1⟩ := h.set4 (n + 1)
  have p1' := p1.keep (fun g' cs hg => wy_far h0 4 (.int .i64 ((n + 1 : Nat) : Int)) g' cs _ (by decide) hg)
  obtain ⟨s2, b2⟩ := s1.set0 p1'
  obtain ⟨s3, b3⟩ := s2.set1 (st_nil _)
  obtain ⟨s4, b4⟩ := s3.set2 (rbr S p0.2)
  refine ⟨g, o, c, rbr S p0.2, by rw [cell_of_row w wb 0 _ _ _ h0]; rfl, by omega, hgw, by have := hgc 0 _ hr0; simpa using this, wyr_cut (la := la) hne hin hd (by decide) ?_, ((b1.trans b2).trans b3).trans b4, (((h.kst 4 _).trans (s1.kst 0 _)).trans (s2.kst 1 _)).trans (s3.kst 2 _)⟩
  rw [ht1]
  simp only [Nat.sub_self, List.take_zero]
  exact s4
theorem wyr_more {S : List Ne} {w : World} {lo wb : Nat} {row : Row} {n : Nat} (h : Wyr S w lo wb row n) (m : Nat) : Wyr S (w.setCell ⟨wb, 4, none⟩ (.int .i64 (m : Int))) lo wb row m ∧ Below lo w (w.setCell ⟨wb, 4, none⟩ (.int .i64 (m : Int))) ∧ Kst w (w.setCell ⟨wb, 4, none⟩ (.int .i64 (m : Int))) := by
  obtain ⟨ds, ns, la, hW, h2, h3⟩ := h.loc
  obtain ⟨q1, q2⟩ := hW.set4 m
  exact ⟨⟨h.ne, h.inn, h.dir, ds, ns, la, q1, h2, h3⟩, q2, hW.kst 4 _⟩
set_option maxRecDepth 20000 in
set_option maxHeartbeats 8000000 in
theorem rpart_name {w : World} {lo lo0 wb : Nat} {S : List Ne} {row : Row} {n : Nat} (h : Wyr S w lo wb row n) (hR : ∀ W, Below lo w W → RX lo0 W S) (hS : Sok S) (hn : n ≤ 16) (hrl : row.length ≤ 200000) (x : B) (hx : x.length ≤ 1000000000) (f : Bool) (hk : (nk (gr S) (lst row)).k = 1) (hd : x ≠ dd) :
    Calls Tryz.prog 65 #[Pt wb, .string (ba x), .bool f] w fun e w' => PartP S w lo wb (stp (gr S) f (16 - n) x row) e w' := by
  obtain ⟨e0, he0⟩ : ∃ e, S[lst row]? = some e := ⟨_, List.getElem?_eq_getElem (lst_lt h)⟩
  obtain ⟨⟨la, hW⟩, hdr⟩ := h.dirs hk
  have hlo := h.bnd
  obtain ⟨a, c, a', c', -, -, k2, -, k4, hfz, hwb, -, -, -, -⟩ := hW.cel
  obtain ⟨t0, -, -, -⟩ := (hR w (Below.refl _ _)).cel he0
  obtain ⟨nk1, nkL, -, -⟩ := nk_of he0
  have hk0 : e0.k = 1 := by rw [← nk1]; exact hk
  rw [hk0] at t0
  have hrb := rbr_of he0
  rw [hrb] at k2
  have ACk := aside (rCheck_any x w hx)
  have AGt := aside (rget_at (hR w (Below.refl _ _)) he0 hk0 (hS.few _ _ he0) x)
  obtain ⟨X, hX⟩ : ∃ X, X = ba x := ⟨_, rfl⟩
  have AX := aside hX
  have hq1 : (X.toList == [46, 46]) = false := by rw [hX, Lib.toList_data, ba_list]; exact beq_eq_false_iff_ne.2 hd
  rw [← hX] at ACk AGt ⊢
  obtain ⟨ab, hab⟩ : ∃ ab, ab = e0.rb := ⟨_, rfl⟩
  rw [← hab] at t0 k2 AGt
  have AH := aside h
  have AR := aside hR
  have AW := aside hW
  have ADr := aside hdr
  have AS := aside hS
  clear hX hab hR hW h hdr hrb hS
  cases hnm : nameOk X with
  | false =>
    rw [hnm, if_neg (by decide)] at ACk
    rw [stp_noname f _ hk hd (by rw [← AX.out]; exact hnm)]
    go_enter Tryz.func65, Tryz.ntmps65
    go_wp2_with fail
    refine ACk.out.mono ?_
    rintro e w1 ⟨rfl, rfl⟩
    go_wp2_with fail
    go_ret2
    exact partP_no (by decide) (Below.refl _ _) (Kst.refl _)
  | true =>
    rw [hnm, if_pos rfl] at ACk
    have hnm2 : nameOk (ba x) = true := by rw [← AX.out]; exact hnm
    unfold rgA at AGt
    cases hl : lkp e0.L x with
    | none =>
      rw [hl] at AGt
      rw [stp_none f _ hk hd hnm2 (by rw [nkL]; exact hl)]
      go_enter Tryz.func65, Tryz.ntmps65
      go_wp2_with fail
      refine ACk.out.mono ?_
      rintro e w1 ⟨rfl, rfl⟩
      go_wp2_with fail
      refine AGt.out.mono ?_
      rintro e w2 ⟨rfl, b2⟩
      have A2 := aside (b2.mono hlo)
      have K2 := aside (kst_below b2)
      clear b2
      go_wp2_with fail
      go_ret2
      exact partP_no (by decide) A2.out K2.out
    | some j =>
      rw [hl] at AGt
      simp only at AGt
      obtain ⟨s, hs⟩ : ∃ s, s = stp (gr S) f (16 - n) x row := ⟨_, rfl⟩
      rw [← hs]
      rw [stp_some f _ hk hd hnm2 (by rw [nkL]; exact hl)] at hs
      obtain ⟨e1, he1⟩ := AS.out.kid _ _ x j he0 (lkp_mem hl)
      obtain ⟨j1, -, j3, j4⟩ := nk_of he1
      have hjl := (List.getElem?_eq_some_iff.1 he1).1
      have Ae1 := aside he1
      have hrj := rbr_of he1
      rw [hrj] at AGt
      have Arj := aside hrj
      rw [j1, j3, j4] at hs
      obtain ⟨k, hkk⟩ : ∃ k, k = e1.k := ⟨_, rfl⟩
      have Akk := aside hkk
      rw [← hkk] at hs j1
      have As := aside hs
      clear hs
      obtain ⟨jb, hjb⟩ : ∃ jb, jb = e1.rb := ⟨_, rfl⟩
      rw [← hjb] at AGt
      have Ajb := aside hjb
      have hcl : ∀ W, Below lo w W → W.cell? ⟨jb, 0, none⟩ = some (.int .i8 e1.k) ∧ W.cell? ⟨jb, 2, none⟩ = some (.string (ba e1.to)) ∧ (e1.k = 3 → W.cell? ⟨jb, 3, none⟩ = some (Pt (rbr S e1.u))) := fun W b => by
        obtain ⟨r1, r2, r3, -⟩ := (AR.out W b).cel Ae1.out
        rw [Ajb.out]
        exact ⟨r1, r2, r3⟩
      have Acl := aside hcl
      clear hcl hjb he1 hrj hl
      go_enter Tryz.func65, Tryz.ntmps65
      go_wp2_with fail
      refine ACk.out.mono ?_
      rintro e w1 ⟨rfl, rfl⟩
      go_wp2_with fail
      refine AGt.out.mono ?_
      rintro e w2 ⟨rfl, b2⟩
      have A2 := aside (b2.mono hlo)
      have K2 := aside (kst_below b2)
      have W2 := aside (AW.out.below b2)
      obtain ⟨d0, d2, d3⟩ := Acl.out w2 A2.out
      have m4 := (b2.cell (p := ⟨wb, 4, none⟩) hwb).trans k4
      have hfz2 : ∀ j, w2.frozen? ⟨wb, j, none⟩ = false := fun j => (b2.frozen (p := ⟨wb, j, none⟩) hwb).trans (hfz j)
      have hl2 : lo ≤ w2.heap.size := Nat.le_trans hlo b2.size
      clear b2 ACk AGt k4
      rw [← hkk] at d0 d3
      clear hkk
      by_cases c4 : k = 4
      · subst c4
        rw [if_pos rfl] at As
        go_wp2_with fail
        go_ret2
        rw [As.out]
        exact partP_no (by decide) A2.out K2.out
      · rw [if_neg c4] at As
        have c4b : (k == 4) = false := beq_eq_false_iff_ne.2 c4
        by_cases c3 : k = 3
        · subst c3
          rw [if_pos rfl] at As
          have d3' := d3 rfl
          obtain ⟨g1, hg1, hg1k⟩ := AS.out.mnt _ _ Ae1.out Akk.out.symm
          have hul := (List.getElem?_eq_some_iff.1 hg1).1
          have hink := aside (rinto_any W2.out (by unfold rbs; rw [List.length_map]; omega) (by rw [List.length_map, List.length_tail]; omega) (rbr S e1.u) x)
          rw [← AX.out] at hink
          obtain ⟨ub, hub⟩ : ∃ ub, ub = rbr S e1.u := ⟨_, rfl⟩
          rw [← hub] at d3' hink
          have Aub := aside hub
          clear hub d3
          go_wp2_with fail
          refine hink.out.mono ?_
          rintro e w3 ⟨rfl, h3, b3, k3⟩
          have A3 : Aside (Wyr S w3 lo wb (row ++ [(x, e1.u)]) n) := wyr_push (la := la) AH.out.ne AH.out.inn ADr.out hul (by rw [(nk_of hg1).1]; exact hg1k) (by rw [← Aub.out]; exact h3)
          have B3 := aside (A2.out.trans b3); have K3 := aside (K2.out.trans k3)
          clear h3 b3 hg1
          go_wp2_with fail
          go_ret2
          rw [As.out]
          exact partP_yes (st_nil _) (by omega) A3.out B3.out K3.out
        · rw [if_neg c3] at As
          have c3b : (k == 3) = false := beq_eq_false_iff_ne.2 c3
          by_cases c1 : k = 1
          · subst c1
            rw [if_neg (by decide)] at As
            have hink := aside (rinto_any W2.out (by unfold rbs; rw [List.length_map]; omega) (by rw [List.length_map, List.length_tail]; omega) jb x)
            rw [← AX.out] at hink
            clear d3
            go_wp2_with fail
            refine hink.out.mono ?_
            rintro e w3 ⟨rfl, h3, b3, k3⟩
            have A3 : Aside (Wyr S w3 lo wb (row ++ [(x, j)]) n) := wyr_push (la := la) AH.out.ne AH.out.inn ADr.out hjl j1 (by rw [Arj.out, ← Ajb.out]; exact h3)
            have B3 := aside (A2.out.trans b3); have K3 := aside (K2.out.trans k3)
            clear h3 b3
            go_wp2_with fail
            go_ret2
            rw [As.out]
            exact partP_yes (st_nil _) (by omega) A3.out B3.out K3.out
          · have c1b : (k == 1) = false := beq_eq_false_iff_ne.2 c1
            obtain ⟨⟨z0, z1, z2, z3, z4, z5, x2, x3, z6, z7, z8, z9, zz, zy, zx⟩, h0⟩ : (∃ z0 z1 z2 z3, _ ∧ _ ∧ w2.cell? ⟨wb, 2, none⟩ = some _ ∧ w2.cell? ⟨wb, 3, none⟩ = some _ ∧ _ ∧ _ ∧ _ ∧ _ ∧ _ ∧ _ ∧ _) ∧ True := ⟨W2.out.cel, trivial⟩
            obtain ⟨q1, q2⟩ := W2.out.set2 jb
            obtain ⟨q3, q4⟩ := q1.set3 x
            have AL : Aside (Wyr S ((w2.setCell ⟨wb, 2, none⟩ (Pt jb)).setCell ⟨wb, 3, none⟩ (.string X)) lo wb (row ++ [(x, j)]) n) := wyr_leaf AH.out.ne AH.out.inn ADr.out hjl (by rw [j1]; exact c1) (by rw [Arj.out, ← Ajb.out, AX.out]; exact q3)
            have BL : Aside (Below lo w1 ((w2.setCell ⟨wb, 2, none⟩ (Pt jb)).setCell ⟨wb, 3, none⟩ (.string X))) := by rw [AX.out]; exact (A2.out.trans q2).trans q4
            have KL : Aside (Kst w1 ((w2.setCell ⟨wb, 2, none⟩ (Pt jb)).setCell ⟨wb, 3, none⟩ (.string X))) := K2.out.trans ((W2.out.kst 2 _).trans (q1.kst 3 _))
            have f2 := hfz2 2
            have f3 := hfz2 3
            clear q1 q2 q3 q4 z4 z6 z7 z8 z9 zz zy zx d3
            by_cases c2 : k = 2
            · subst c2
              rw [if_pos rfl] at As
              cases f with
              | false =>
                rw [if_pos rfl] at As
                go_wp2_with fail
                go_ret2
                rw [As.out]
                exact partP_yes (st_nil _) (by omega) AL.out BL.out KL.out
              | true =>
                rw [if_neg (by decide)] at As
                clear AL BL KL f2 f3
                have f4 := hfz2 4
                by_cases hn16 : n = 16
                · subst hn16
                  have hg : (16 : Int) ≤ ((16 : Nat) : Int) := by omega
                  go_wp2_with fail
                  go_ret2
                  rw [As.out]
                  exact partP_no (by decide) A2.out K2.out
                · obtain ⟨k', hk'⟩ : ∃ k', 16 - n = k' + 1 := ⟨15 - n, by omega⟩
                  rw [hk'] at As
                  simp only at As
                  have hg : ¬ (16 : Int) ≤ (n : Int) := by omega
                  have hwn : IntKind.i64.wrap ((n : Int) + 1) = ((n + 1 : Nat) : Int) := by rw [wrap_small _ (by omega) (by omega)]; simp
                  obtain ⟨ht1, ht2⟩ := AS.out.lnk _ _ Ae1.out Akk.out.symm
                  have hwj : wb ≠ jb := by
                    obtain ⟨-, rv, nv, y1, -, -⟩ := W2.out
                    obtain ⟨-, y2, y3, y4, y5, -⟩ := (AR.out w2 A2.out).nod _ _ Ae1.out
                    obtain ⟨y6, y7, y8, -⟩ := y5.cel
                    rw [Ajb.out]
                    exact other_block y1 y8 (by decide)
                  obtain ⟨t, ht⟩ : ∃ t, t = e1.to := ⟨_, rfl⟩
                  rw [← ht] at ht1 ht2 d2 As
                  obtain ⟨T, hT⟩ : ∃ T, T = ba t := ⟨_, rfl⟩
                  rw [← hT] at d2
                  have hsz : T.size = t.length := by rw [hT, ba_size]
                  have hi1 : 0 < T.size := by rw [hsz]; exact List.length_pos_iff.2 ht1
                  have hi2 : (0 : Int) < (T.size : Int) := by omega
                  obtain ⟨t0, tl, rfl⟩ : ∃ t0 tl, t = t0 :: tl := by
                    cases t with
                    | nil => exact absurd rfl ht1
                    | cons a b => exact ⟨a, b, rfl⟩
                  have hT0 : T[0]'hi1 = t0 := by subst hT; rfl
                  have AT := aside hT
                  have ATl := aside ht2
                  by_cases hab : t0 = 47
                  · have hc : (((T[0]'hi1).toNat : Int) == 47) = true := by rw [hT0, hab]; rfl
                    rw [if_pos (by unfold abso; rw [hab]; rfl)] at As
                    obtain ⟨g, o, c, r0, v1, v2, v3, v4, v5, v6, v7⟩ := wy_top AH.out.ne AH.out.inn ADr.out W2.out
                    have AV5 := aside v5
                    have AV6 := aside (A2.out.trans v6)
                    have hsl := slice_hR (some ⟨g, o, none⟩) row.length c 1 v2
                    have f0 := hfz2 0
                    have f1 := hfz2 1
                    have f2 := hfz2 2
                    obtain ⟨V, hV⟩ : ∃ V, V = (((w2.setCell ⟨wb, 4, none⟩ (.int .i64 ((n : Int) + 1))).setCell ⟨wb, 0, none⟩ (.slice (some ⟨g, o, none⟩) 1 c)).setCell ⟨wb, 1, none⟩ (.slice none 0 0)).setCell ⟨wb, 2, none⟩ (Pt r0) := ⟨_, rfl⟩
                    have AV5 : Aside (Wyr S V lo wb (row.take 1) (n + 1)) := by rw [hV]; exact v5
                    have AV6 : Aside (Below lo w1 V) := by rw [hV]; exact A2.out.trans v6
                    have AV7 : Aside (Kst w1 V) := by rw [hV]; exact K2.out.trans v7
                    have APa := aside (rParts_any (t0 :: tl) V (by omega))
                    rw [← AT.out] at APa
                    clear hT v5 v6 v7 hab hT0 ht hfz2 hfz
                    go_wp2_with fail
                    rw [← hV]
                    refine APa.out.mono ?_
                    rintro e w3 ⟨v, rfl, hgw, b3⟩
                    have A3 := aside (AV5.out.below b3)
                    have B3 := aside (AV6.out.trans (b3.mono AV5.out.bnd))
                    have G3 := aside hgw.st
                    have K3 := aside (AV7.out.trans (kst_below b3))
                    clear hgw b3
                    go_wp2_with fail
                    go_ret2
                    rw [As.out]
                    exact partP_yes G3.out (by omega) A3.out B3.out K3.out
                  · have hc : (((T[0]'hi1).toNat : Int) == 47) = false := by
                      rw [hT0]
                      refine beq_eq_false_iff_ne.2 fun e => hab ?_
                      have : t0.toNat = 47 := by omega
                      exact UInt8.toNat_inj.1 this
                    rw [if_neg (by unfold abso; simp; exact hab)] at As
                    obtain ⟨V, hV⟩ : ∃ V, V = w2.setCell ⟨wb, 4, none⟩ (.int .i64 ((n : Int) + 1)) := ⟨_, rfl⟩
                    obtain ⟨v5, v6, v7⟩ := wyr_more (wyr_dir (la := la) AH.out.ne AH.out.inn ADr.out W2.out) (n + 1)
                    have AV5 : Aside (Wyr S V lo wb row (n + 1)) := by rw [hV]; exact v5
                    have AV6 : Aside (Below lo w1 V) := by rw [hV]; exact A2.out.trans v6
                    have AV7 : Aside (Kst w1 V) := by rw [hV]; exact K2.out.trans v7
                    have APa := aside (rParts_any (t0 :: tl) V (by omega))
                    rw [← AT.out] at APa
                    clear hT v5 v6 v7 hab hT0 ht hfz2 hfz
                    go_wp2_with fail
                    rw [← hV]
                    refine APa.out.mono ?_
                    rintro e w3 ⟨v, rfl, hgw, b3⟩
                    have A3 := aside (AV5.out.below b3)
                    have B3 := aside (AV6.out.trans (b3.mono AV5.out.bnd))
                    have G3 := aside hgw.st
                    have K3 := aside (AV7.out.trans (kst_below b3))
                    clear hgw b3
                    go_wp2_with fail
                    go_ret2
                    rw [As.out]
                    exact partP_yes G3.out (by omega) A3.out B3.out K3.out
            · rw [if_neg c2] at As
              have c2b : (k == 2) = false := beq_eq_false_iff_ne.2 c2
              go_wp2_with fail
              go_ret2
              rw [As.out]
              exact partP_yes (st_nil _) (by omega) AL.out BL.out KL.out
end Go.Proofs.YtknjclekfmmfeaaGreatDoor

namespace Go.Proofs.YtknjclekfmmfeaaGreatDoor
open Go.RowKit Go.ChangeMaps Go.Shelf

theorem rpart_any {w : World} {lo lo0 wb : Nat} {S : List Ne} {row : Row} {n : Nat} (h : Wyr S w lo wb row n) (hR : ∀ W, Below lo w W → RX lo0 W S) (hS : Sok S) (hn : n ≤ 16) (hrl : row.length ≤ 200000) (x : B) (hx : x.length ≤ 1000000000) (f : Bool) :
    Calls Tryz.prog 65 #[Pt wb, .string (ba x), .bool f] w fun e w' => PartP S w lo wb (stp (gr S) f (16 - n) x row) e w' := by
  by_cases hk : (nk (gr S) (lst row)).k = 1
  · by_cases hd : x = dd
    · subst hd
      exact rpart_dd h (hR w (Below.refl _ _)) hn hrl f hk
    · exact rpart_name h hR hS hn hrl x hx f hk hd
  · exact rpart_notdir h (hR w (Below.refl _ _)) x f hk
theorem stp_mea {G : Gr} {f : Bool} {k : Nat} {x : B} {row : Row} (h : (stp G f k x row).1 = 0) : ((stp G f k x row).2.2.2 = k ∧ (stp G f k x row).2.2.1 = [] ∨ ∃ i, (stp G f k x row).2.2.2 + 1 = k ∧ (stp G f k x row).2.2.1 = prt (nk G i).to ∧ (nk G i).k = 2) ∧ (stp G f k x row).2.1.length ≤ row.length + 1 := by
  by_cases hk : (nk G (lst row)).k = 1
  · by_cases hd : x = dd
    · subst hd
      rw [stp_dd f k hk]
      exact ⟨.inl ⟨rfl, rfl⟩, by simp only [List.length_take]; omega⟩
    · cases hn : nameOk (ba x) with
      | false => rw [stp_noname f k hk hd hn] at h; cases h
      | true =>
        cases hl : lkp (nk G (lst row)).L x with
        | none => rw [stp_none f k hk hd hn hl] at h; cases h
        | some i =>
          rw [stp_some f k hk hd hn hl] at h ⊢
          by_cases c4 : (nk G i).k = 4
          · rw [if_pos c4] at h; cases h
          · rw [if_neg c4] at h ⊢
            by_cases c3 : (nk G i).k = 3
            · rw [if_pos c3]
              exact ⟨.inl ⟨rfl, rfl⟩, by simp⟩
            · rw [if_neg c3] at h ⊢
              by_cases c2 : (nk G i).k = 2
              · rw [if_pos c2] at h ⊢
                cases f with
                | false => rw [if_pos rfl]; exact ⟨.inl ⟨rfl, rfl⟩, by simp⟩
                | true =>
                  rw [if_neg (by decide)] at h ⊢
                  cases k with
                  | zero => cases h
                  | succ k =>
                    refine ⟨.inr ⟨i, rfl, rfl, c2⟩, ?_⟩
                    simp only
                    split
                    · rw [List.length_take]; omega
                    · omega
              · rw [if_neg c2]
                exact ⟨.inl ⟨rfl, rfl⟩, by simp⟩
  · rw [stp_notdir f k x hk] at h; cases h
theorem wid_mem {l : List B} {x : B} (h : x ∈ l) : x.length + 1 ≤ wid l := by
  induction l with
  | nil => simp at h
  | cons y l ih =>
    rw [wid_cons]
    rcases List.mem_cons.1 h with rfl | h
    · omega
    · have := ih h; omega
theorem prt_mem {s x : B} (h : x ∈ prt s) : x.length ≤ s.length := by
  have h1 := wid_mem h
  have h2 := wid_prt s
  omega
/-- What a walk over parts leaves. -/
def OverP (S : List Ne) (w : World) (lo wb : Nat) (R : Int × Row) (e : Ending) (w' : World) : Prop :=
  e = .returned (.int .i64 R.1) ∧ (R.1 = 0 → R.2.length ≤ 100000 ∧ ∃ n, n ≤ 16 ∧ Wyr S w' lo wb R.2 n) ∧ Below lo w w'
structure OvI (S : List Ne) (f : Bool) (w : World) (lo wb : Nat) (R : Int × Row) (gk : Nat) (wx : World) (row : Row) (lv : Value) (l : List B) (n : Nat) : Prop where
  way : Wyr S wx lo wb row n
  st : StAt wx lv l
  bel : Below lo w wx
  n16 : n ≤ 16
  bnd : row.length + gk ≤ 100000
  mea : gk = (16 - n) * 5000 + l.length
  ans : wlk (gr S) f (16 - n) l row = R
  few : ∀ x ∈ l, x.length ≤ 1000000
/-- One round more. -/
theorem OvI.next {S : List Ne} {f : Bool} {w wx w' : World} {lo wb : Nat} {R : Int × Row} {gk : Nat} {row : Row} {lv lv' : Value} {x : B} {l : List B} {n : Nat} (hS : Sok S) (h : OvI S f w lo wb R gk wx row lv (x :: l) n)
    {s : Int × Row × List B × Nat} (hs : s = stp (gr S) (f || !l.isEmpty) (16 - n) x row) (h0 : s.1 = 0) (hw : Wyr S w' lo wb s.2.1 (16 - s.2.2.2)) (hb : Below lo wx w') (hst : StAt w' lv' (s.2.2.1 ++ l)) :
    ∃ gk', gk' < gk ∧ OvI S f w lo wb R gk' w' s.2.1 lv' (s.2.2.1 ++ l) (16 - s.2.2.2) := by
  have h1 := stp_mea (by rw [← hs]; exact h0)
  rw [← hs] at h1
  obtain ⟨h2, h3⟩ := h1
  have hm := h.mea
  have hb2 := h.bnd
  have hn := h.n16
  simp only [List.length_cons] at hm
  have ha := h.ans
  rw [wlk_stp, ← hs, if_neg (by simp [h0])] at ha
  have hfew : ∀ y ∈ s.2.2.1 ++ l, y.length ≤ 1000000 := fun y hy => by
    rcases List.mem_append.1 hy with hy | hy
    · rcases h2 with ⟨-, e⟩ | ⟨i, -, e, hk⟩
      · rw [e] at hy; simp at hy
      · rw [e] at hy
        have h5 := prt_mem hy
        cases he : S[i]? with
        | none =>
          unfold nk gr at hk
          rw [List.getElem?_map, he] at hk
          cases hk
        | some e1 =>
          rw [(nk_of he).1] at hk
          have := (hS.lnk i e1 he hk).2
          rw [(nk_of he).2.2.1] at h5
          omega
    · exact h.few y (by simp [hy])
  rcases h2 with ⟨e1, e2⟩ | ⟨i, e1, e2, hk⟩
  · refine ⟨(16 - n) * 5000 + l.length, by omega, hw, hst, h.bel.trans hb, by omega, by omega, ?_, ?_, hfew⟩
    · rw [e1, e2, List.nil_append]
      rw [show 16 - (16 - (16 - n)) = 16 - n by omega]
    · rw [show 16 - (16 - s.2.2.2) = s.2.2.2 by omega]; exact ha
  · have hpl : (prt (nk (gr S) i).to).length ≤ 4097 := by
      cases he : S[i]? with
      | none =>
        unfold nk gr at hk
        rw [List.getElem?_map, he] at hk
        cases hk
      | some d =>
        rw [(nk_of he).1] at hk
        have h5 := (hS.lnk i d he hk).2
        have h6 := prt_len (nk (gr S) i).to
        rw [(nk_of he).2.2.1] at h6 ⊢
        omega
    have hk' : s.2.2.2 = 16 - n - 1 := by omega
    have hsub : 16 - (16 - s.2.2.2) = s.2.2.2 := by omega
    refine ⟨s.2.2.2 * 5000 + (s.2.2.1 ++ l).length, ?_, hw, hst, h.bel.trans hb, by omega, ?_, by rw [hsub], by rw [hsub]; exact ha, hfew⟩
    · rw [List.length_append, e2]; omega
    · rw [List.length_append, e2]; omega
theorem partP_of {S : List Ne} {w w' : World} {lo wb : Nat} {s : Int × Row × List B × Nat} {v : Value} (h : PartP S w lo wb s (.returned (.tuple #[v, .int .i64 s.1])) w') : (s.1 = 0 → StAt w' v s.2.2.1 ∧ Wyr S w' lo wb s.2.1 (16 - s.2.2.2)) ∧ Below lo w w' ∧ Kst w w' := by
  obtain ⟨v', e, h⟩ := h
  injection e with e
  injection e with e
  simp only [Array.mk.injEq, List.cons.injEq, and_true] at e
  rw [e]
  exact h
theorem over_src {w' : World} {v : Value} {m : List B} {P : Prop} {c : Int} (h : c = 0 → StAt w' v m ∧ P) (h0 : c = 0) : ∃ va k vc, v = .slice va k vc ∧ k = m.length ∧ SrcAt w' (.slice va k vc) k (m.map enS) ∧ P := by
  obtain ⟨h1, h2⟩ := h h0
  obtain ⟨a, c, rfl, -, -⟩ := id h1
  exact ⟨a, _, c, rfl, rfl, h1.src, h2⟩
theorem stp_few {S : List Ne} {f : Bool} {k : Nat} {x : B} {row : Row} {s : Int × Row × List B × Nat} (hS : Sok S) (hs : s = stp (gr S) f k x row) (h : s.1 = 0) : s.2.2.1.length ≤ 4097 := by
  have h1 := (stp_mea (by rw [← hs]; exact h)).1
  rw [← hs] at h1
  rcases h1 with ⟨-, e⟩ | ⟨i, -, e, hk⟩
  · rw [e]; simp
  · rw [e]
    cases he : S[i]? with
    | none =>
      unfold nk gr at hk
      rw [List.getElem?_map, he] at hk
      cases hk
    | some d =>
      rw [(nk_of he).1] at hk
      have h5 := (hS.lnk i d he hk).2
      have h6 := prt_len (nk (gr S) i).to
      rw [(nk_of he).2.2.1] at h6 ⊢
      omega
set_option maxRecDepth 20000 in
set_option maxHeartbeats 8000000 in
theorem rover_any {w : World} {lo lo0 wb : Nat} {S : List Ne} {row : Row} {n : Nat} {l : List B} {lv : Value} (h : Wyr S w lo wb row n) (hR : ∀ W, Below lo w W → RX lo0 W S) (hS : Sok S) (hl : StAt w lv l) (hn : n ≤ 16) (hb : row.length + ((16 - n) * 5000 + l.length) ≤ 100000) (hx : ∀ x ∈ l, x.length ≤ 1000000) (f : Bool) :
    Calls Tryz.prog 35 #[Pt wb, lv, .bool f] w fun e w' => OverP S w lo wb (wlk (gr S) f (16 - n) l row) e w' := by
  obtain ⟨R, hRe⟩ : ∃ R, R = wlk (gr S) f (16 - n) l row := ⟨_, rfl⟩
  have AI : Aside (OvI S f w lo wb R ((16 - n) * 5000 + l.length) w row lv l n) := ⟨h, hl, Below.refl _ _, hn, hb, rfl, hRe.symm, hx⟩
  rw [← hRe]
  have AR := aside hR
  have AS := aside hS
  clear h hR hS hl hx hRe
  go_enter Tryz.func35, Tryz.ntmps35
  go_wp2_with fail
  go_loopg [1, 6, 7, 8, 9] ((16 - n) * 5000 + l.length) (fun g s1 s6 _ _ _ wx => s6 = .int .i64 0 ∧ ∃ row l n, OvI S f w lo wb R g wx row s1 l n)
  case atStart => exact ⟨rfl, _, _, _, AI.out⟩
  case round =>
    clear AI hn hb
    obtain ⟨rfl, row, l, n, I⟩ := hrel
    cases l with
    | nil =>
      have hRR := I.ans
      rw [wlk_nil] at hRR
      have AX : Aside (OverP S w lo wb R (.returned (.int .i64 0)) wr) := by rw [← hRR]; exact ⟨rfl, fun _ => ⟨by have := I.bnd; simp only; omega, n, I.n16, I.way⟩, I.bel⟩
      obtain ⟨a, c, rfl, -⟩ := I.st
      clear I hRR
      go_wp2_with fail
      go_ret
      exact AX.out
    | cons x l =>
      obtain ⟨g, o, c, rfl, hcx, a', hsl, htl⟩ := I.st.tail
      have hbd := I.bnd
      have hme := I.mea
      have hn := I.n16
      have hlen : l.length ≤ 100000 := by simp only [List.length_cons] at hme; omega
      have AII := aside I
      obtain ⟨s, hs⟩ : ∃ s, s = stp (gr S) (f || !l.isEmpty) (16 - n) x row := ⟨_, rfl⟩
      have As := aside hs
      have APt := aside (rpart_any I.way (fun W b => AR.out W (I.bel.trans b)) AS.out hn (by omega) x (by have := I.few x (by simp); omega) (f || !l.isEmpty))
      rw [← hs] at APt
      have ATl := aside htl
      obtain ⟨X, hX⟩ : ∃ X, X = ba x := ⟨_, rfl⟩
      rw [show enS x = .string X by rw [hX]] at hcx
      rw [← hX] at APt
      obtain ⟨m, hm⟩ : ∃ m, m = l.length := ⟨_, rfl⟩
      have Am := aside hm
      rw [← hm] at hsl ATl hlen
      have hk1 : (0 : Int) < ((m + 1 : Nat) : Int) := by omega
      have hdec : decide ((1 : Int) < ((m + 1 : Nat) : Int)) = !l.isEmpty := by
        cases l with
        | nil => rw [hm]; rfl
        | cons y l => rw [hm]; simp; omega
      rw [← hm]
      clear I hs htl hX hm hme
      have APt2 : Aside (∀ Q : Ending → World → Prop, (∀ v w1, PartP S wr lo wb s (.returned (.tuple #[v, .int .i64 s.1])) w1 → Q (.returned (.tuple #[v, .int .i64 s.1])) w1) → Calls Tryz.prog 65 #[Pt wb, .string X, .bool (f || !l.isEmpty)] wr Q) := fun Q hQ => APt.out.mono (fun e w1 h => by
        obtain ⟨v, rfl, h2⟩ := h
        exact hQ v w1 ⟨v, rfl, h2⟩)
      clear APt hdec hbd
      cases f with
      | true =>
        simp only [Bool.true_or] at APt2
        go_wp2_with fail
        refine APt2.out _ ?_
        rintro v w1 hPP
        obtain ⟨hy0, hBk, hKs⟩ := partP_of hPP
        have ABk := aside hBk
        have AKs := aside hKs
        have Ay0 := aside hy0
        clear hPP hBk hKs hy0
        by_cases h0 : s.1 = 0
        · obtain ⟨va, k1, vc, rfl, hk1e, hsrc, hWy⟩ := over_src Ay0.out h0
          have ASr := aside hsrc
          have AWy := aside hWy
          have Ak1 := aside hk1e
          have hmea := (stp_mea (by rw [← As.out]; exact h0)).1
          rw [← As.out] at hmea
          have hk1b : k1 ≤ 4097 := by rw [hk1e]; exact stp_few AS.out As.out h0
          rw [h0]
          have Ah0 := aside h0
          have AT1 : Aside (StAt w1 (.slice a' m (c - 1)) l) := ATl.out.keep AKs.out
          clear hsrc hWy hk1e h0 hmea
          go_wp2_with (at_builtin; first
            | (refine wpList_append_any w2 rfl _ _ 62 rfl 9 (.string ByteArray.empty) 1 16 Tryz.underlying62 infoS rfl (by omega) v2 k1 (s.2.2.1.map enS) rfl O2.out (.slice a' m (c - 1)) m (l.map enS) rfl (by have := Am.out; rw [List.length_map]; omega) S2.out (enS_one l) (by unfold maxLen; omega) (by omega) ?_; intro v3 w3 ho3 hu3 hv3; obtain ⟨q1, q2⟩ := grown_below hu3 L2.out B2l.out hv3; have P3 : Aside (StAt w3 v3 (s.2.2.1 ++ l)) := StAt.of_own (n := k1 + m) (by rw [List.map_append]; exact ho3); have B3 := aside (B2.out.trans q1); clear ho3 hu3 hv3 q1 q2)
            | (refine wpList_append_any w1 rfl _ _ 62 rfl 9 (.string ByteArray.empty) 1 16 Tryz.underlying62 infoS rfl (by omega) (.slice none 0 0) 0 [] rfl (GwS.nil w1 0).1 (.slice va k1 vc) k1 (s.2.2.1.map enS) rfl (by rw [List.length_map, ← Ak1.out]; simp) ASr.out (enS_one _) (by unfold maxLen; omega) (by omega) ?_; intro v2 w2 ho2 hu2 hv2; obtain ⟨q1, q2⟩ := grown_below (lo := w1.heap.size) hu2 (Nat.le_refl _) (by intro k hk; simp [Value.ownBlock] at hk) hv2; have B2 := aside q1; have L2 : Aside (w1.heap.size ≤ w2.heap.size) := q1.size; have B2l := aside q2; have O2 : Aside (w2.ownsRow 0 9 1 v2 k1 (s.2.2.1.map enS)) := (by rw [Nat.zero_add, List.nil_append] at ho2; exact ho2); have S2 : Aside (SrcAt w2 (.slice a' m (c - 1)) m (l.map enS)) := (by have := (AT1.out.keep (kst_below q1)).src; rw [show l.length = m from Am.out.symm] at this; exact this); clear ho2 hu2 hv2 q1 q2))
          obtain ⟨gk', hlt, hnext⟩ := AII.out.next AS.out As.out Ah0.out (AWy.out.below B3.out) (ABk.out.trans (B3.out.mono AWy.out.bnd)) P3.out
          go_roundg gk'
          case measure => exact hlt
          case rel => exact ⟨rfl, _, _, _, hnext⟩
        · have hne : (s.1 == 0) = false := beq_eq_false_iff_ne.2 h0
          have AX : Aside (OverP S w lo wb R (.returned (.int .i64 s.1)) w1) := by
            have ha := AII.out.ans
            rw [wlk_stp, ← As.out, if_pos h0] at ha
            rw [← ha]
            exact ⟨rfl, fun h => absurd h h0, AII.out.bel.trans ABk.out⟩
          obtain ⟨er, her⟩ : ∃ er, er = s.1 := ⟨_, rfl⟩
          rw [← her] at hne AX h0 ⊢
          clear her
          go_wp2_with fail
          go_ret
          exact AX.out
      | false =>
        cases hle : l.isEmpty with
        | true =>
          rw [hle] at APt2
          simp only [Bool.not_true, Bool.or_false] at APt2
          have hm0 : m = 0 := by rw [Am.out, List.isEmpty_iff.1 hle]; rfl
          subst hm0
          simp only [Nat.zero_add] at hsl ⊢
          clear hle hk1
          go_wp2_with fail
          refine APt2.out _ ?_
          rintro v w1 hPP
          obtain ⟨hy0, hBk, hKs⟩ := partP_of hPP
          have ABk := aside hBk
          have AKs := aside hKs
          have Ay0 := aside hy0
          clear hPP hBk hKs hy0
          by_cases h0 : s.1 = 0
          · obtain ⟨va, k1, vc, rfl, hk1e, hsrc, hWy⟩ := over_src Ay0.out h0
            have ASr := aside hsrc
            have AWy := aside hWy
            have Ak1 := aside hk1e
            have hmea := (stp_mea (by rw [← As.out]; exact h0)).1
            rw [← As.out] at hmea
            have hk1b : k1 ≤ 4097 := by rw [hk1e]; exact stp_few AS.out As.out h0
            rw [h0]
            have Ah0 := aside h0
            have AT1 : Aside (StAt w1 (.slice a' 0 (c - 1)) l) := ATl.out.keep AKs.out
            clear hsrc hWy hk1e h0 hmea
            go_wp2_with (at_builtin; first
              | (refine wpList_append_any w2 rfl _ _ 62 rfl 9 (.string ByteArray.empty) 1 16 Tryz.underlying62 infoS rfl (by omega) v2 k1 (s.2.2.1.map enS) rfl O2.out (.slice a' 0 (c - 1)) 0 (l.map enS) rfl (by have := Am.out; rw [List.length_map]; omega) S2.out (enS_one l) (by unfold maxLen; omega) (by omega) ?_; intro v3 w3 ho3 hu3 hv3; obtain ⟨q1, q2⟩ := grown_below hu3 L2.out B2l.out hv3; have P3 : Aside (StAt w3 v3 (s.2.2.1 ++ l)) := StAt.of_own (n := k1 + 0) (by rw [List.map_append]; exact ho3); have B3 := aside (B2.out.trans q1); clear ho3 hu3 hv3 q1 q2)
              | (refine wpList_append_any w1 rfl _ _ 62 rfl 9 (.string ByteArray.empty) 1 16 Tryz.underlying62 infoS rfl (by omega) (.slice none 0 0) 0 [] rfl (GwS.nil w1 0).1 (.slice va k1 vc) k1 (s.2.2.1.map enS) rfl (by rw [List.length_map, ← Ak1.out]; simp) ASr.out (enS_one _) (by unfold maxLen; omega) (by omega) ?_; intro v2 w2 ho2 hu2 hv2; obtain ⟨q1, q2⟩ := grown_below (lo := w1.heap.size) hu2 (Nat.le_refl _) (by intro k hk; simp [Value.ownBlock] at hk) hv2; have B2 := aside q1; have L2 : Aside (w1.heap.size ≤ w2.heap.size) := q1.size; have B2l := aside q2; have O2 : Aside (w2.ownsRow 0 9 1 v2 k1 (s.2.2.1.map enS)) := (by rw [Nat.zero_add, List.nil_append] at ho2; exact ho2); have S2 : Aside (SrcAt w2 (.slice a' 0 (c - 1)) 0 (l.map enS)) := (by have := (AT1.out.keep (kst_below q1)).src; rw [show l.length = 0 from Am.out.symm] at this; exact this); clear ho2 hu2 hv2 q1 q2))
            obtain ⟨gk', hlt, hnext⟩ := AII.out.next AS.out As.out Ah0.out (AWy.out.below B3.out) (ABk.out.trans (B3.out.mono AWy.out.bnd)) P3.out
            go_roundg gk'
            case measure => exact hlt
            case rel => exact ⟨rfl, _, _, _, hnext⟩
          · have hne : (s.1 == 0) = false := beq_eq_false_iff_ne.2 h0
            have AX : Aside (OverP S w lo wb R (.returned (.int .i64 s.1)) w1) := by
              have ha := AII.out.ans
              rw [wlk_stp, ← As.out, if_pos h0] at ha
              rw [← ha]
              exact ⟨rfl, fun h => absurd h h0, AII.out.bel.trans ABk.out⟩
            obtain ⟨er, her⟩ : ∃ er, er = s.1 := ⟨_, rfl⟩
            rw [← her] at hne AX h0 ⊢
            clear her
            go_wp2_with fail
            go_ret
            exact AX.out
        | false =>
          rw [hle] at APt2
          simp only [Bool.not_false, Bool.or_true] at APt2
          have hm0 : 0 < m := by
            rw [Am.out]
            exact List.length_pos_iff.2 (fun e => by rw [e] at hle; cases hle)
          have hd1 : ((1 : Int) < ((m + 1 : Nat) : Int)) := by omega
          have hd2 : ((1 : Int) < (m : Int) + 1) := by omega
          clear hle
          go_wp2_with fail
          refine APt2.out _ ?_
          rintro v w1 hPP
          obtain ⟨hy0, hBk, hKs⟩ := partP_of hPP
          have ABk := aside hBk
          have AKs := aside hKs
          have Ay0 := aside hy0
          clear hPP hBk hKs hy0
          by_cases h0 : s.1 = 0
          · obtain ⟨va, k1, vc, rfl, hk1e, hsrc, hWy⟩ := over_src Ay0.out h0
            have ASr := aside hsrc
            have AWy := aside hWy
            have Ak1 := aside hk1e
            have hmea := (stp_mea (by rw [← As.out]; exact h0)).1
            rw [← As.out] at hmea
            have hk1b : k1 ≤ 4097 := by rw [hk1e]; exact stp_few AS.out As.out h0
            rw [h0]
            have Ah0 := aside h0
            have AT1 : Aside (StAt w1 (.slice a' m (c - 1)) l) := ATl.out.keep AKs.out
            clear hsrc hWy hk1e h0 hmea
            go_wp2_with (at_builtin; first
              | (refine wpList_append_any w2 rfl _ _ 62 rfl 9 (.string ByteArray.empty) 1 16 Tryz.underlying62 infoS rfl (by omega) v2 k1 (s.2.2.1.map enS) rfl O2.out (.slice a' m (c - 1)) m (l.map enS) rfl (by have := Am.out; rw [List.length_map]; omega) S2.out (enS_one l) (by unfold maxLen; omega) (by omega) ?_; intro v3 w3 ho3 hu3 hv3; obtain ⟨q1, q2⟩ := grown_below hu3 L2.out B2l.out hv3; have P3 : Aside (StAt w3 v3 (s.2.2.1 ++ l)) := StAt.of_own (n := k1 + m) (by rw [List.map_append]; exact ho3); have B3 := aside (B2.out.trans q1); clear ho3 hu3 hv3 q1 q2)
              | (refine wpList_append_any w1 rfl _ _ 62 rfl 9 (.string ByteArray.empty) 1 16 Tryz.underlying62 infoS rfl (by omega) (.slice none 0 0) 0 [] rfl (GwS.nil w1 0).1 (.slice va k1 vc) k1 (s.2.2.1.map enS) rfl (by rw [List.length_map, ← Ak1.out]; simp) ASr.out (enS_one _) (by unfold maxLen; omega) (by omega) ?_; intro v2 w2 ho2 hu2 hv2; obtain ⟨q1, q2⟩ := grown_below (lo := w1.heap.size) hu2 (Nat.le_refl _) (by intro k hk; simp [Value.ownBlock] at hk) hv2; have B2 := aside q1; have L2 : Aside (w1.heap.size ≤ w2.heap.size) := q1.size; have B2l := aside q2; have O2 : Aside (w2.ownsRow 0 9 1 v2 k1 (s.2.2.1.map enS)) := (by rw [Nat.zero_add, List.nil_append] at ho2; exact ho2); have S2 : Aside (SrcAt w2 (.slice a' m (c - 1)) m (l.map enS)) := (by have := (AT1.out.keep (kst_below q1)).src; rw [show l.length = m from Am.out.symm] at this; exact this); clear ho2 hu2 hv2 q1 q2))
            obtain ⟨gk', hlt, hnext⟩ := AII.out.next AS.out As.out Ah0.out (AWy.out.below B3.out) (ABk.out.trans (B3.out.mono AWy.out.bnd)) P3.out
            go_roundg gk'
            case measure => exact hlt
            case rel => exact ⟨rfl, _, _, _, hnext⟩
          · have hne : (s.1 == 0) = false := beq_eq_false_iff_ne.2 h0
            have AX : Aside (OverP S w lo wb R (.returned (.int .i64 s.1)) w1) := by
              have ha := AII.out.ans
              rw [wlk_stp, ← As.out, if_pos h0] at ha
              rw [← ha]
              exact ⟨rfl, fun h => absurd h h0, AII.out.bel.trans ABk.out⟩
            obtain ⟨er, her⟩ : ∃ er, er = s.1 := ⟨_, rfl⟩
            rw [← her] at hne AX h0 ⊢
            clear her
            go_wp2_with fail
            go_ret
            exact AX.out
end Go.Proofs.YtknjclekfmmfeaaGreatDoor
